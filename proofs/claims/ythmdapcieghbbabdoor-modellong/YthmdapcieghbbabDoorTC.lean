/-
  The chain of characters, plainly.
-/
import Derived.Test.YthmdapcieghbbabDoorTL
namespace Go.Proofs.YthmdapcieghbbabDoor
set_option linter.unusedVariables false
set_option maxRecDepth 100000
open Go.RowKit

/-- A chain of n characters, each mapped to the next one and one more. -/
def chain (n : Nat) : List Rw := (List.range n).map fun (i : Nat) => ⟨16384 + (i : Int), 0, none, 0, [16384 + (i : Int) + 1, 12288]⟩
theorem chain_rows : ∀ n, n < 61 → wrongRowC (chain n) (-1) = 0 := by decide +kernel
theorem chain_pairs : ∀ n, n < 32 → pairTwiceC (chain n) (fun _ => false) [] (chain n) = false := by decide +kernel
end Go.Proofs.YthmdapcieghbbabDoor
