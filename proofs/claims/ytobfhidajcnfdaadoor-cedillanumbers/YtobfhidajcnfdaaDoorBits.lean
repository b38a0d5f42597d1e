/-
  What the borrow of a 32 bit difference is, of its bits; it speaks of no program.
-/
import Derived.Laws.BitsAllLaws
import Derived.WalkKit
namespace Go.Proofs.YtobfhidajcnfdaaDoor
set_option linter.unusedVariables false
set_option maxRecDepth 20000

theorem top_bit {n : Nat} (h : n < 4294967296) : n / 2147483648 = (n.testBit 31).toNat := by
  rw [Nat.testBit_eq_decide_div_mod_eq]
  have h1 : (2 : Nat) ^ 31 = 2147483648 := by decide
  rw [h1]
  by_cases h2 : n / 2147483648 % 2 = 1
  · simp [h2]; omega
  · simp [h2]; omega

theorem borrow_nat (x y z : Nat) (hx : x < 4294967296) (hy : y < 4294967296) (hz : z ≤ 1) :
    (((4294967295 ^^^ x) &&& y) ||| ((4294967295 ^^^ (x ^^^ y)) &&& ((4294967296 + x - y - z) % 4294967296))) / 2147483648 = if x < y + z then 1 else 0 := by
  have h32 : (2 : Nat) ^ 32 = 4294967296 := by decide
  have hxy : x ^^^ y < 4294967296 := by rw [← h32] at *; exact Nat.xor_lt_two_pow hx hy
  have hm : (4294967295 : Nat) < 4294967296 := by decide
  have ha : (4294967295 ^^^ x) &&& y < 4294967296 := Nat.lt_of_le_of_lt Nat.and_le_right hy
  have hd : (4294967296 + x - y - z) % 4294967296 < 4294967296 := Nat.mod_lt _ (by decide)
  have hb : (4294967295 ^^^ (x ^^^ y)) &&& ((4294967296 + x - y - z) % 4294967296) < 4294967296 := Nat.lt_of_le_of_lt Nat.and_le_right hd
  have ho : ((4294967295 ^^^ x) &&& y) ||| ((4294967295 ^^^ (x ^^^ y)) &&& ((4294967296 + x - y - z) % 4294967296)) < 4294967296 := by
    rw [← h32] at *; exact Nat.or_lt_two_pow ha hb
  rw [top_bit ho, Nat.testBit_or, Nat.testBit_and, Nat.testBit_and, Nat.testBit_xor, Nat.testBit_xor, Nat.testBit_xor]
  have hM : Nat.testBit 4294967295 31 = true := by decide
  have tx := top_bit hx
  have ty := top_bit hy
  have td := top_bit hd
  rw [hM]
  have hde : (4294967296 + x - y - z) % 4294967296 = if x < y + z then 4294967296 + x - y - z else x - y - z := by
    split <;> omega
  generalize (4294967296 + x - y - z) % 4294967296 = d at *
  clear ho ha hb hM hm hxy
  cases hx1 : x.testBit 31 <;> cases hy1 : y.testBit 31 <;> cases hd1 : d.testBit 31 <;> rw [hx1] at tx <;> rw [hy1] at ty <;> rw [hd1] at td <;> simp at tx ty td ⊢ <;> split at hde <;> omega

/-- The borrow of a 32 bit difference, as the walk writes it. -/
theorem borrow_bits (x y z : Nat) (hx : x < 4294967296) (hy : y < 4294967296) (hz : z ≤ 1) :
    bits .or .u32 (bits .and .u32 (bits .xor .u32 IntKind.u32.max (x : Int)) (y : Int)) (bits .and .u32 (bits .xor .u32 IntKind.u32.max (bits .xor .u32 (x : Int) (y : Int))) (((x : Int) - (y : Int) - (z : Int)) % 4294967296)) / 2147483648 = ((if x < y + z then 1 else 0 : Nat) : Int) := by
  have h32 : (2 : Nat) ^ 32 = 4294967296 := by decide
  have hm : (4294967295 : Nat) < 4294967296 := by decide
  have e0 : IntKind.u32.max = ((4294967295 : Nat) : Int) := by decide
  have e1 : ((x : Int) - (y : Int) - (z : Int)) % 4294967296 = (((4294967296 + x - y - z) % 4294967296 : Nat) : Int) := by omega
  have hd : (4294967296 + x - y - z) % 4294967296 < 4294967296 := Nat.mod_lt _ (by decide)
  have hxy : x ^^^ y < 4294967296 := by rw [← h32] at *; exact Nat.xor_lt_two_pow hx hy
  have hmx : 4294967295 ^^^ x < 4294967296 := by rw [← h32] at *; exact Nat.xor_lt_two_pow hm hx
  have hmy : 4294967295 ^^^ (x ^^^ y) < 4294967296 := by rw [← h32] at *; exact Nat.xor_lt_two_pow hm hxy
  rw [e0, e1, u32_xor_nat _ _ hm hx, u32_xor_nat _ _ hx hy, u32_xor_nat _ _ hm hxy, u32_and_nat _ _ hmx hy, u32_and_nat _ _ hmy hd,
    u32_or_nat _ _ (Nat.lt_of_le_of_lt Nat.and_le_right hy) (Nat.lt_of_le_of_lt Nat.and_le_right hd), ← borrow_nat x y z hx hy hz]
  omega
/-- Two halves joined. -/
theorem join_u64 (x0 x1 : Nat) (h0 : x0 < 4294967296) (h1 : x1 < 4294967296) :
    bits .or .u64 (IntKind.u64.wrap (IntKind.u64.wrap (x1 : Int) * 4294967296)) (IntKind.u64.wrap (x0 : Int)) = ((x0 + 4294967296 * x1 : Nat) : Int) := by
  have e : ∀ n : Int, IntKind.u64.wrap n = n % 18446744073709551616 := fun n => by simp [IntKind.wrap, IntKind.bits, IntKind.signed]
  have e1 : IntKind.u64.wrap (IntKind.u64.wrap (x1 : Int) * 4294967296) = ((4294967296 * x1 : Nat) : Int) := by rw [e, e]; omega
  have e0 : IntKind.u64.wrap (x0 : Int) = ((x0 : Nat) : Int) := by rw [e]; omega
  rw [e1, e0, u64_or_nat _ _ (by omega) (by omega), nat_join 32 (4294967296 * x1) x0 (by omega) (by omega)]
  omega
end Go.Proofs.YtobfhidajcnfdaaDoor
