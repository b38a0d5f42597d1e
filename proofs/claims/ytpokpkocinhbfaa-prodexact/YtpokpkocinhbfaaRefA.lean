/-
  Contracts of the document's own arithmetic in decimal digits: Trim, at, Compare.
-/
import Derived.Test.YtpokpkocinhbfaaNatC
namespace Go.Proofs.Ytpokpkocinhbfaa
set_option linter.unusedVariables false
set_option maxRecDepth 20000
open Go.RowKit

/-- A number of the document: its decimal digits lie in memory, normal, at most 'k' of them. -/
def IsD (w : World) (v : Value) (k N : Nat) : Prop := ∃ l, IsL 3 .i64 w v l ∧ Norm 10 l ∧ val 10 l = N ∧ l.length ≤ k
theorem IsD.below {w w' : World} {v : Value} {k N : Nat} (h : IsD w v k N) (hb : Below w.heap.size w w') : IsD w' v k N := by
  obtain ⟨l, h1, h2⟩ := h
  exact ⟨l, h1.below hb, h2⟩
theorem IsD.more {w : World} {v : Value} {k k' N : Nat} (h : IsD w v k N) (hk : k ≤ k') : IsD w v k' N := by
  obtain ⟨l, h1, h2, h3, h4⟩ := h
  exact ⟨l, h1, h2, h3, by omega⟩
def RetD (k N : Nat) (w : World) (e : Ending) (w' : World) : Prop := ∃ v, e = .returned v ∧ IsD w' v k N ∧ Below w.heap.size w w'

end Go.Proofs.Ytpokpkocinhbfaa
