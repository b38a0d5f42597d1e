/-
  The sort of ranges: of none; join, whole.
-/
import Derived.Test.YtccbofaefpbhlaaDoorSortS
namespace Go.Proofs.YtccbofaefpbhlaaDoor
set_option linter.unusedVariables false
set_option maxRecDepth 100000
open Go.RowKit

theorem insertion0 (ao : Option Addr) (c : Nat) (w : World) : Calls Tryd.prog 137 #[.slice ao 0 c, .int .i64 0, .int .i64 0, .func (.func 96) #[] #[]] w (RetV (.tuple #[]) w) := by
  go_enter Tryd.func137, Tryd.ntmps137
  go_wp2
  go_loopw [8] (fun t wr => t = .int .i64 1 ∧ w = wr) (fun _ _ => 0)
  case atStart => exact ⟨rfl, rfl⟩
  case round =>
    obtain ⟨rfl, rfl⟩ := hrel
    go_wp2
    go_end0
    exact ⟨rfl, Below.refl _ _⟩
theorem pdq0 (ao : Option Addr) (c : Nat) (lim : Int) (w : World) : Calls Tryd.prog 119 #[.slice ao 0 c, .int .i64 0, .int .i64 0, .int .i64 lim, .func (.func 96) #[] #[]] w (RetV (.tuple #[]) w) := by
  go_enter Tryd.func119, Tryd.ntmps119
  go_wp2
  go_loopw [1, 2] (fun a b wr => a = .int .i64 0 ∧ b = .int .i64 0 ∧ w = wr) (fun _ _ _ => 0)
  case atStart => exact ⟨rfl, rfl, rfl⟩
  case round =>
    obtain ⟨rfl, rfl, rfl⟩ := hrel
    go_wp2_with fail
    refine (insertion0 ao c _).mono ?_
    rintro e w1 ⟨rfl, y1⟩
    go_wp2
    go_end0
    exact ⟨rfl, y1⟩
theorem sort0 (ao : Option Addr) (c : Nat) (w : World) : Calls Tryd.prog 95 #[.slice ao 0 c, .func (.func 96) #[] #[]] w (RetV (.tuple #[]) w) := by
  have I := Lib.hid (fun lim W => pdq0 ao c lim W)
  go_enter Tryd.func95, Tryd.ntmps95
  go_wp2_with fail
  refine (Tryd.bits_Len _ _ (by omega) (by omega)).mono ?_
  rintro e w1 ⟨rfl, rfl⟩
  go_wp2_with fail
  refine (I.out _ _).mono ?_
  rintro e w1 ⟨rfl, y1⟩
  go_wp2
  go_end0
  exact ⟨rfl, y1⟩

/-- slices.SortFunc of ranges. -/
theorem sortR_all (L : List (Nat × Nat)) (u : Value) (B : Nat) (w : World) (hown : w.ownsRow B 59 2 u L.length (rgCells (intR L))) (hn : L.length ≤ 1000000) :
    Calls Tryd.prog 95 #[u, .func (.func 96) #[] #[]] w (RetSorted L B u w) := by
  rcases Nat.eq_zero_or_pos L.length with h0 | h0
  · obtain rfl : L = [] := List.length_eq_zero_iff.1 h0
    obtain ⟨ao, c, rfl⟩ := own_form2 hown
    refine (sort0 ao c w).mono ?_
    rintro e w' ⟨rfl, y⟩
    exact ⟨[], rfl, List.Perm.refl _, List.Pairwise.nil, own_kept hown y, ⟨y.os, y.tape, y.output, y.size, fun k hk _ => y.block k hk⟩⟩
  · exact sortR_any L u B w hown hn h0
/-- 'join': the set of the characters of these ranges. -/
theorem join_all (L : List (Nat × Nat)) (u : Value) (B : Nat) (w : World) (hown : w.ownsRow B 59 2 u L.length (rgCells (intR L))) (hB : B ≤ w.heap.size) (hn : L.length ≤ 1000000) (hp : ∀ r ∈ L, Part r) :
    Calls Tryd.prog 66 #[u] w (RetSet (memS L) B w) :=
  join_any L u B L.length w hown rfl hB hn hp (fun W hW _ => sortR_all L u B W hW hn)
end Go.Proofs.YtccbofaefpbhlaaDoor
