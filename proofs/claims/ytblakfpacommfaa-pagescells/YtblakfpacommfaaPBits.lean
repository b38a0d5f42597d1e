/-
  Bits of words: the lowest eight, and sixteen.
-/
import Derived.Laws.BitsAllLaws
import Derived.WalkKit
namespace Go.Proofs.Ytblakfpacommfaa
set_option linter.unusedVariables false
set_option maxRecDepth 20000
open Go.RowKit

theorem or255 (u : Nat) : u ||| 255 = u / 256 * 256 + 255 := by
  have h1 : u = 2 ^ 8 * (u / 256) + u % 256 := by omega
  have h2 : u % 256 < 2 ^ 8 := by omega
  have h3 : ∀ r, r < 256 → r ||| 255 = 255 := by decide +kernel
  have h4 := Nat.two_pow_add_eq_or_of_lt h2 (u / 256)
  have h5 := Nat.two_pow_add_eq_or_of_lt (i := 8) (b := 255) (by omega) (u / 256)
  rw [h1, h4, Nat.or_assoc, h3 _ h2, ← h5]
  omega
theorem and256 (u : Nat) (h : u < 18446744073709551616) : u &&& 18446744073709551360 = u / 256 * 256 := by
  have h1 : u = 2 ^ 8 * (u / 256) + u % 256 := by omega
  have h2 : u % 256 < 2 ^ 8 := by omega
  have h3 : ∀ r, r < 256 → r &&& 18446744073709551360 = 0 := by decide +kernel
  have h4 := Nat.two_pow_add_eq_or_of_lt h2 (u / 256)
  have h5 : (2 ^ 8 * (u / 256)) &&& 18446744073709551360 = u / 256 * 256 := by
    have e1 : 2 ^ 8 * (u / 256) = (u / 256) <<< 8 := by rw [Nat.shiftLeft_eq]; omega
    have e2 : (18446744073709551360 : Nat) = 72057594037927935 <<< 8 := by decide +kernel
    rw [e1, e2, ← Nat.shiftLeft_and_distrib, Nat.shiftLeft_eq]
    have e3 : u / 256 &&& 72057594037927935 = u / 256 % 2 ^ 56 := Nat.and_two_pow_sub_one_eq_mod (u / 256) 56
    rw [e3]
    omega
  conv => lhs; rw [h1, h4, Nat.and_or_distrib_right, h5, h3 _ h2, Nat.or_zero]
theorem ofInt64 (a : Int) : (BitVec.ofInt 64 a).toNat = (a % 18446744073709551616).toNat := by
  rw [BitVec.toNat_ofInt]
  rfl
theorem low_or (a : Int) (h1 : -9223372036854775808 ≤ a) (h2 : a ≤ 9223372036854775807) : bits BinOp.or IntKind.i64 a 255 = a - a % 256 + 255 := by
  show IntKind.i64.wrap ((BitVec.ofInt 64 a ||| BitVec.ofInt 64 255).toNat : Int) = _
  rw [BitVec.toNat_or, ofInt64, ofInt64, show (((255 : Int) % 18446744073709551616).toNat) = 255 from rfl, or255, IntKind.wrap_i64]
  omega
theorem low_clear (a : Int) (h1 : -9223372036854775808 ≤ a) (h2 : a ≤ 9223372036854775807) : bits BinOp.andNot IntKind.i64 a 255 = a - a % 256 := by
  show IntKind.i64.wrap ((BitVec.ofInt 64 a &&& ~~~ BitVec.ofInt 64 255).toNat : Int) = _
  have e : (~~~ BitVec.ofInt 64 255).toNat = 18446744073709551360 := by decide +kernel
  rw [BitVec.toNat_and, ofInt64, e, and256 _ (by omega), IntKind.wrap_i64]
  omega
theorem low_word (a : Int) : ∃ n : Nat, n < 65536 ∧ bits BinOp.and IntKind.i64 a 65535 = (n : Int) := by
  refine ⟨(a % 18446744073709551616).toNat % 65536, by omega, ?_⟩
  show IntKind.i64.wrap ((BitVec.ofInt 64 a &&& BitVec.ofInt 64 65535).toNat : Int) = _
  rw [BitVec.toNat_and, ofInt64, ofInt64, show (((65535 : Int) % 18446744073709551616).toNat) = 65535 from rfl, Nat.and_two_pow_sub_one_eq_mod _ 16, IntKind.wrap_i64]
  omega
theorem wrap32_in (a : Int) : -2147483648 ≤ IntKind.i32.wrap a ∧ IntKind.i32.wrap a ≤ 2147483647 := by rw [IntKind.wrap_i32]; omega
end Go.Proofs.Ytblakfpacommfaa
