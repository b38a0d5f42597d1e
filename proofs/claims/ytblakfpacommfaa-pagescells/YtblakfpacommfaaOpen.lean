/-
  Slices of cells that came in, in the walks' words.
-/
import Derived.Test.YtblakfpacommfaaPQ
import Derived.Deep.SlicePairs
import Derived.ChangeSame
import Derived.OpenShut
namespace Go.Proofs.Ytblakfpacommfaa
set_option linter.unusedVariables false
set_option maxRecDepth 20000
open Go.ChangeShapes Go.WideShapes Go.RowKit

theorem cells31 : Try.prog.cellsOf 31 = 2 := by kernel_rfl
theorem cells3 : Try.prog.cellsOf 3 = 1 := by kernel_rfl
theorem int_of {H : Type} {enc : TypeId × Value → H} {W : World} {base : Nat} {spare : Nat → Bool} {held : Bool} {fuel : Nat} {v : Value} {x : DataW H × List MemPlace}
    (h : DataW.trod enc Try.prog W base spare held fuel 3 [v] = some x) : ∃ z : Int, v = .int .i64 z := by
  obtain ⟨z, hz, _⟩ := DataW.trod_int Try.underlying3 h
  exact ⟨z, by simpa using hz⟩

def CamePairs (W : World) (a : Option Addr) (n c : Nat) : Prop := ∃ L : List (Int × Int), L.length = n ∧ PairIn W a L ∧ n ≤ c ∧ (a = none → c = 0) ∧ n ≤ 9223372036854775807
theorem came_pairs {H : Type} {enc : TypeId × Value → H} {W : World} {base : Nat} {spare : Nat → Bool} {held : Bool} {fuel : Nat} {a : Option Addr} {n c : Nat} {x : DataW H × List MemPlace}
    (h : DataW.trod enc Try.prog W base spare held fuel 22 [.slice a n c] = some x) : CamePairs W a n c := by
  rcases Go.Deep.open_slice_pairs Try.underlying22 Try.underlying31 cells31 rfl rfl cells3 cells3 h with ⟨hcs, _⟩ | ⟨ad, len, cap, m, k, V0, V1, D0, D1, P0, P1, hcs, hb, hl, hm, hmm, hx, hi⟩
  · simp at hcs
    obtain ⟨rfl, rfl, rfl⟩ := hcs
    exact ⟨[], rfl, fun hn => absurd rfl hn, Nat.le_refl _, fun _ => rfl, by omega⟩
  · simp at hcs
    obtain ⟨rfl, rfl, rfl⟩ := hcs
    have hlm : n ≤ m := by rw [hmm]; split <;> omega
    unfold maxLen at hm
    have hv : ∀ i, ∃ r : Int × Int, i < n → V0 i = .int .i64 r.1 ∧ V1 i = .int .i64 r.2 := fun i => by
      by_cases hin : i < n
      · obtain ⟨h0, h1, t0, t1⟩ := hi i (by omega)
        obtain ⟨x0, e0⟩ := int_of t0
        obtain ⟨x1, e1⟩ := int_of t1
        exact ⟨(x0, x1), fun _ => ⟨e0, e1⟩⟩
      · exact ⟨(0, 0), fun h => absurd h hin⟩
    obtain ⟨R, hR⟩ := Classical.axiomOfChoice hv
    refine ⟨(List.range n).map R, by simp, fun hne => ⟨ad, rfl, ?_, fun i hin => ?_⟩, hl, (fun e => by cases e), by omega⟩
    · have hn0 : 0 < n := by
        rcases Nat.eq_zero_or_pos n with h0 | h0
        · subst h0; simp at hne
        · exact h0
      obtain ⟨h0, _⟩ := hi 0 (by omega)
      have hbl := World.block_lt_of_cell? W _ h0
      rw [add_block] at hbl
      exact hbl
    · have hin' : i < n := by simpa using hin
      obtain ⟨h0, h1, _⟩ := hi i (by omega)
      obtain ⟨e0, e1⟩ := hR i hin'
      rw [h0, h1, e0, e1]
      simp [List.getD, hin']
end Go.Proofs.Ytblakfpacommfaa
