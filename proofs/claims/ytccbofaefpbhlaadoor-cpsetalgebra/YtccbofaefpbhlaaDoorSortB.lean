/-
  slices.Sort at runes, of at most twelve: its contract.
-/
import Derived.Test.YtccbofaefpbhlaaDoorSortA
import Derived.Test.YtccbofaefpbhlaaDoorShelf
namespace Go.Proofs.YtccbofaefpbhlaaDoor
set_option linter.unusedVariables false
set_option maxRecDepth 20000
open Go.RowKit Go.Lib

set_option maxRecDepth 100000 in
theorem pdq_small (g n c : Nat) (lim : Int) (l : List Nat) (tl : List Value) (w : World) (hB : Blk w g 21 (runeBlk l tl)) (hl : l.length = n) (hb : ∀ x ∈ l, x < 2147483648) (hn : n ≤ 12) (hn1 : 1 ≤ n) :
    Calls Tryd.prog 123 #[.slice (some ⟨g, 0, none⟩) n c, .int .i64 0, .int .i64 n, .int .i64 lim] w (RetSort g n l tl w) := by
  have I := Lib.hid (insertion_any g n c l tl w hB hl hb (by omega) hn1)
  clear hl hb hB
  go_enter Tryd.func123, Tryd.ntmps123
  go_wp2
  go_loopw [1, 2] (fun a b wr => a = .int .i64 0 ∧ b = .int .i64 n ∧ w = wr) (fun _ _ _ => 0)
  case atStart => exact ⟨rfl, rfl, rfl⟩
  case round =>
    obtain ⟨rfl, rfl, rfl⟩ := hrel
    go_wp2_with fail
    refine I.out.mono ?_
    rintro e w1 ⟨m, rfl, h1, h2, h3, h4⟩
    go_wp2
    go_end0
    exact ⟨m, rfl, h1, h2, h3, h4⟩

theorem sort_small (g n c : Nat) (l : List Nat) (tl : List Value) (w : World) (hB : Blk w g 21 (runeBlk l tl)) (hl : l.length = n) (hb : ∀ x ∈ l, x < 2147483648) (hn : n ≤ 12) (hn1 : 1 ≤ n) :
    Calls Tryd.prog 100 #[.slice (some ⟨g, 0, none⟩) n c] w (RetSort g n l tl w) := by
  have I := Lib.hid (fun lim => pdq_small g n c lim l tl w hB hl hb hn hn1)
  clear hl hb hB
  go_enter Tryd.func100, Tryd.ntmps100
  go_wp2_with fail
  refine (Tryd.bits_Len _ _ (by omega) (by omega)).mono ?_
  rintro e w1 ⟨rfl, rfl⟩
  go_wp2_with fail
  refine (I.out _).mono ?_
  rintro e w1 ⟨m, rfl, h1, h2, h3, h4⟩
  go_wp2
  go_end0
  exact ⟨m, rfl, h1, h2, h3, h4⟩
end Go.Proofs.YtccbofaefpbhlaaDoor
