/-
  The laws' own question, whether a number is the document's; what stays in a region.
-/
import Derived.Test.YtpokpkocinhbfaaRefC
import Derived.Test.YtpokpkocinhbfaaLawA
namespace Go.Proofs.Ytpokpkocinhbfaa
set_option linter.unusedVariables false
set_option maxRecDepth 20000
open Go.RowKit

theorem IsD.shape {w : World} {v : Value} {k N : Nat} (h : IsD w v k N) : ∃ A n c, v = .slice A n c := by
  obtain ⟨l, ⟨A, c, e, _⟩, _⟩ := h
  exact ⟨A, _, c, e⟩

theorem keep1 {W w' : World} {gx : Nat} {a : Value} (hX : Blk W gx 25 #[a]) (hb : Below W.heap.size W w') : w'.cell? ⟨gx, 0, none⟩ = some a := (hX.on hb).cell0
theorem keep2 {W w' : World} {gx gy : Nat} {a b : Value} (hX : Blk W gx 25 #[a]) (hY : Blk W gy 25 #[b]) (hb : Below W.heap.size W w') : w'.cell? ⟨gx, 0, none⟩ = some a ∧ w'.cell? ⟨gy, 0, none⟩ = some b := ⟨(hX.on hb).cell0, (hY.on hb).cell0⟩
theorem keep3 {W w' : World} {gx gy gz : Nat} {a b c : Value} (hX : Blk W gx 25 #[a]) (hY : Blk W gy 25 #[b]) (hZ : Blk W gz 25 #[c]) (hb : Below W.heap.size W w') : w'.cell? ⟨gx, 0, none⟩ = some a ∧ w'.cell? ⟨gy, 0, none⟩ = some b ∧ w'.cell? ⟨gz, 0, none⟩ = some c := ⟨(hX.on hb).cell0, (hY.on hb).cell0, (hZ.on hb).cell0⟩

end Go.Proofs.Ytpokpkocinhbfaa
