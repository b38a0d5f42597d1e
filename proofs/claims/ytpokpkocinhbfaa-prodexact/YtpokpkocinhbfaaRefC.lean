/-
  Contracts of the document's own arithmetic in decimal digits: Of, Add, Sub.
-/
import Derived.Test.YtpokpkocinhbfaaRefB
namespace Go.Proofs.Ytpokpkocinhbfaa
set_option linter.unusedVariables false
set_option maxRecDepth 20000
open Go.RowKit

/-- One more digit of a sum. -/
theorem addD_step (b i x y cy ov lv lv' T : Nat) (h : ov + b ^ i * (cy + (x + b * lv) + (y + b * lv')) = T) :
    ov + b ^ i * ((x + y + cy) % b) + b ^ (i + 1) * ((x + y + cy) / b + lv + lv') = T := by
  rw [← h, Nat.pow_succ, Nat.mul_assoc, Nat.add_assoc, ← Nat.mul_add]
  congr 2
  have := Nat.mod_add_div (x + y + cy) b
  rw [Nat.mul_add, Nat.mul_add]
  omega

end Go.Proofs.Ytpokpkocinhbfaa
