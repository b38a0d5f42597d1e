/-
  An argument that came in: a slice of slices of limbs, in the walk's words.
-/
import Derived.Test.YtobfhidajcnfdaaDoorNumsA
import Derived.Deep.Slices
import Derived.ChangeSame
import Derived.OpenShut
namespace Go.Proofs.YtobfhidajcnfdaaDoor
set_option linter.unusedVariables false
set_option maxRecDepth 20000
open Go.ChangeShapes Go.WideShapes Go.RowKit

theorem cells22 : Tryd.prog.cellsOf 22 = 1 := by kernel_rfl

theorem came_one {H : Type} {enc : TypeId × Value → H} {W : World} {fuel : Nat} {v : Value} {x : DataW H × List MemPlace}
    (h : DataW.trod enc Tryd.prog W 0 (fun _ => true) true fuel 22 [v] = some x) : ∃ A len c l, v = .slice A len c ∧ Came W A len c l := by
  rcases open_ints Tryd.underlying22 Tryd.underlying43 (by kernel_rfl) h with ⟨hcs, _⟩ | ⟨x, l, c, zs, hcs, _, hl, hm, hz, _, hcell, hwz⟩
  · simp at hcs
    subst hcs
    exact ⟨none, 0, 0, [], rfl, rfl, Row.empty, by simp, Nat.le_refl _⟩
  · simp at hcs
    subst hcs
    obtain ⟨l', e, r, b, c'⟩ := row_of_ints (.inr ⟨_, rfl, hl, hm, by simpa using hz, hcell, hwz⟩)
    exact ⟨_, _, _, l', rfl, e, r, b, c'⟩

theorem came_rows {H : Type} {enc : TypeId × Value → H} {W : World} {fuel : Nat} {a : Option Addr} {n c : Nat} {x : DataW H × List MemPlace}
    (h : DataW.trod enc Tryd.prog W 0 (fun _ => true) true fuel 54 [.slice a n c] = some x) : CameR W a n ∧ n ≤ maxLen := by
  rcases Go.Deep.open_slice1 Tryd.underlying54 cells22 h with ⟨hcs, _⟩ | ⟨ad, len, cap, m, f, V, D, Pl, hcs, hb, hl, hm, hmm, hx, hi⟩
  · simp at hcs
    obtain ⟨rfl, rfl, rfl⟩ := hcs
    exact ⟨fun i hi => by omega, by simp⟩
  · simp at hcs
    obtain ⟨rfl, rfl, rfl⟩ := hcs
    refine ⟨fun i hin => ?_, by omega⟩
    have hlm : n ≤ m := by rw [hmm]; split <;> omega
    obtain ⟨h1, h2⟩ := hi i (by omega)
    obtain ⟨A, len, c', l, e, hc⟩ := came_one h2
    rw [e] at h1
    have hbl := World.block_lt_of_cell? W _ h1
    rw [add_block] at hbl
    exact ⟨ad, A, len, c', l, rfl, hbl, h1, hc⟩
end Go.Proofs.YtobfhidajcnfdaaDoor
