/-
  A slice of texts that came in, in the walks' words.
-/
import Derived.Test.YtanpncjnojjmkabSA
import Derived.Deep.Slices
import Derived.Deep.Strs
import Derived.ChangeSame
namespace Go.Proofs.Ytanpncjnojjmkab
set_option linter.unusedVariables false
set_option maxRecDepth 20000
open Go.ChangeShapes Go.WideShapes Go.RowKit

theorem cells9 : Try.prog.cellsOf 9 = 1 := by kernel_rfl
theorem came_strs {H : Type} {enc : TypeId × Value → H} {W : World} {base : Nat} {spare : Nat → Bool} {held : Bool} {fuel : Nat} {a : Option Addr} {n c : Nat} {x : DataW H × List MemPlace}
    (h : DataW.trod enc Try.prog W base spare held fuel 22 [.slice a n c] = some x) : ∃ l : List Tx, l.length = n ∧ Came W a l ∧ n ≤ 9223372036854775807 ∧ ∀ x ∈ l, x.length ≤ 9223372036854775807 := by
  rcases Go.Deep.open_strs Try.underlying22 Try.underlying9 cells9 h with ⟨hcs, _⟩ | ⟨ad, len, cap, m, Sx, hcs, hb, hl, hm, hmm, hx, hi⟩
  · simp at hcs
    obtain ⟨rfl, rfl, rfl⟩ := hcs
    exact ⟨[], rfl, fun i hi => absurd hi (Nat.not_lt_zero _), by omega, fun x hx => by cases hx⟩
  · simp at hcs
    obtain ⟨rfl, rfl, rfl⟩ := hcs
    have hlm : n ≤ m := by rw [hmm]; split <;> omega
    unfold maxLen at hm hi
    refine ⟨(List.range n).map fun i => (Sx i).data.toList, by simp, fun i hin => ?_, by omega, fun x hx => ?_⟩
    · have hin' : i < n := by simpa using hin
      have c0 := (hi i (by omega)).1
      refine ⟨ad, rfl, ?_, ?_⟩
      · rcases Nat.lt_or_ge ad.block W.heap.size with h1 | h1
        · exact h1
        · have : (ad.add i).block = ad.block := add_block ad i
          simp [World.cell?, this, Array.getElem?_eq_none h1] at c0
      · rw [c0]
        simp [List.getD, hin']
    · simp only [List.mem_map, List.mem_range] at hx
      obtain ⟨i, hin, rfl⟩ := hx
      have := (hi i (by omega)).2
      have e : (Sx i).data.toList.length = (Sx i).size := Array.length_toList
      omega
end Go.Proofs.Ytanpncjnojjmkab
