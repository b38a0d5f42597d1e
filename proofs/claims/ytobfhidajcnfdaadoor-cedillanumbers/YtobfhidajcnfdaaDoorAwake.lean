/-
  The fixed fact of the number package's laws.
-/
import Derived.Test.YtobfhidajcnfdaaDoorNatC
namespace Go.Proofs.YtobfhidajcnfdaaDoor
set_option linter.unusedVariables false
set_option maxRecDepth 20000
open Go.RowKit

theorem IsN.limbs {w : World} {v : Value} {k N : Nat} (h : IsN w v k N) : ∃ A c l, v = .agg #[.slice A l.length c] ∧ Arr 43 .u32 w A l ∧ Norm 4294967296 l ∧ val 4294967296 l = N ∧ l.length ≤ k ∧ l.length ≤ c := h

/-- '(Nat).Limbs', of a number. -/
theorem limbsN_any (v : Value) (k N : Nat) (w : World) (h : IsN w v k N) (hk : k ≤ 1000000) (l : List Nat) (hl : Norm 4294967296 l) (hv : val 4294967296 l = N) :
    Calls Tryd.prog 42 #[v] w (RetL 43 .u32 l w) := by
  obtain ⟨A, c, l', rfl, hr, hn, hv', hlk, _⟩ := h
  have : l' = l := Norm.inj (by decide) hn hl (hv'.trans hv.symm)
  subst this
  exact limbsOf_any A c l' w hr (by omega)

theorem norm_top : Norm 4294967296 [0, 0, 1] := ⟨by decide, fun _ => by simp⟩

end Go.Proofs.YtobfhidajcnfdaaDoor
