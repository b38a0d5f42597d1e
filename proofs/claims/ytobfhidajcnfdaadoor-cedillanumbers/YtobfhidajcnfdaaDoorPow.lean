/-
  The contract of Pow.
-/
import Derived.Test.YtobfhidajcnfdaaDoorDivE
namespace Go.Proofs.YtobfhidajcnfdaaDoor
set_option linter.unusedVariables false
set_option maxRecDepth 20000
open Go.RowKit

/-- A number takes no more limbs than its size asks. -/
theorem IsN.fit {w : World} {v : Value} {k N j : Nat} (h : IsN w v k N) (hN : N < 4294967296 ^ j) : IsN w v j N := by
  obtain ⟨A, c, l, e, h1, h2, h3, h4, h5⟩ := h
  refine ⟨A, c, l, e, h1, h2, h3, ?_, h5⟩
  rcases Nat.lt_or_ge j l.length with hj | hj
  · exfalso
    have hne : l ≠ [] := by intro e; simp [e] at hj
    have hl : l = l.dropLast ++ [l.getLast hne] := (List.dropLast_concat_getLast hne).symm
    have hv : val 4294967296 l = val 4294967296 l.dropLast + 4294967296 ^ (l.length - 1) * l.getLast hne := by
      conv => lhs; rw [hl, val_append]
      rw [List.length_dropLast]; simp [val]
    have hlast : 1 ≤ l.getLast hne := Nat.pos_of_ne_zero (h2.2 hne)
    have hp : 4294967296 ^ j ≤ 4294967296 ^ (l.length - 1) := Nat.pow_le_pow_right (by decide) (by omega)
    have hq : 4294967296 ^ (l.length - 1) * 1 ≤ 4294967296 ^ (l.length - 1) * l.getLast hne := Nat.mul_le_mul_left _ hlast
    rw [Nat.mul_one] at hq
    have hle : 4294967296 ^ (l.length - 1) * l.getLast hne ≤ N := by rw [← h3, hv]; exact Nat.le_add_left _ _
    exact absurd (Nat.lt_of_le_of_lt (Nat.le_trans hp (Nat.le_trans hq hle)) hN) (Nat.lt_irrefl _)
  · exact hj

/-- A power that is let by fits K limbs. -/
theorem pow_fits {N n e L K : Nat} (h : bl N * n ≤ L) (hK : L < 32 * K) (he : e ≤ n) : N ^ e < 4294967296 ^ K := by
  have h1 : N < 2 ^ bl N := (bl_spec N (bl N)).1 (Nat.le_refl _)
  have h2 : N ^ e ≤ (2 ^ bl N) ^ e := Nat.pow_le_pow_left (Nat.le_of_lt h1) e
  rw [← Nat.pow_mul] at h2
  have h3 : bl N * e ≤ L := Nat.le_trans (Nat.mul_le_mul_left _ he) h
  have h4 : 2 ^ (bl N * e) < 2 ^ (32 * K) := Nat.pow_lt_pow_right (by decide) (Nat.lt_of_le_of_lt h3 hK)
  have h5 : (4294967296 : Nat) ^ K = 2 ^ (32 * K) := by rw [show (4294967296 : Nat) = 2 ^ 32 from rfl, ← Nat.pow_mul]
  rw [h5]
  exact Nat.lt_of_le_of_lt h2 h4

/-- The lowest bit. -/
theorem low_bit (i : Nat) (hi : i < 9223372036854775808) : bits BinOp.and IntKind.i64 (i : Int) 1 = ((i % 2 : Nat) : Int) := by
  have t63 : (2 : Int) ^ 63 = 9223372036854775808 := by decide
  have h := bits_mask .i64 63 (by decide) (fun n h0 h1 => by rw [t63] at h1; rw [IntKind.wrap_i64]; omega) 1 (by decide) (i : Int) (by omega) (by rw [t63]; omega)
  rw [show ((2 : Int) ^ 1 - 1) = 1 from by decide] at h
  rw [h]
  omega

/-- It answers a number, and no error. -/
def RetNE (k N : Nat) (w : World) (e : Ending) (w' : World) : Prop := ∃ v, e = .returned (.tuple #[v, .int .i64 0]) ∧ IsN w' v k N ∧ Below w.heap.size w w'

end Go.Proofs.YtobfhidajcnfdaaDoor
