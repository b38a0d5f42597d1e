/-
  Contracts of the library's bit lengths: Len32, Len64, Len, LeadingZeros32.
-/
import Derived.Test.YtobfhidajcnfdaaDoorProg
import Derived.Test.YtobfhidajcnfdaaDoorMath
import Derived.Lib.Strings
import Derived.Lib.Slices
import Derived.Lib.Small
import Derived.Lib.Walk
import Derived.Lib.BitFns
namespace Go.Proofs.YtobfhidajcnfdaaDoor
set_option linter.unusedVariables false
set_option maxRecDepth 20000

theorem bl_half {x : Nat} (h : x ≠ 0) : bl x = 1 + bl (x / 2) := by
  have h1 : bl x ≤ 1 + bl (x / 2) := by
    rw [bl_spec]
    have := (bl_spec (x / 2) _).1 (Nat.le_refl _)
    rw [Nat.add_comm, Nat.pow_succ]; omega
  have h2 : bl (x / 2) ≤ bl x - 1 := by
    rw [bl_spec]
    have := (bl_spec x _).1 (Nat.le_refl _)
    have h3 : bl x = (bl x - 1) + 1 := by rw [bl_pos h]; omega
    rw [h3, Nat.pow_succ] at this; omega
  have h3 : 0 < bl x := by rw [bl_pos h]; omega
  omega
theorem bitLenAux_bl : ∀ (f x : Nat), x < 2 ^ f → Lib.bitLenAux f x = bl x
  | 0, x, h => by
    have : x = 0 := by simpa using h
    subst this; rfl
  | f + 1, x, h => by
    simp only [Lib.bitLenAux]
    by_cases h0 : x = 0
    · subst h0; rfl
    · rw [if_neg h0, bitLenAux_bl f (x / 2) (by rw [Nat.pow_succ] at h; omega), ← bl_half h0]
theorem bitLen_bl {x : Nat} (h : x < 18446744073709551616) : Lib.bitLen x = bl x := bitLenAux_bl 64 x h

theorem len8_nat {b : Int} {n : Nat} (h : b = n) (hn : n < 256) : Lib.len8 b = (Lib.bitLen n : Int) ∧ Lib.bitLen n ≤ 8 := by
  subst h
  exact ⟨by simpa using Lib.len8_of (n : Int) (by omega) (by omega), by simpa using Lib.bitLen_le8' (n : Int) (by omega) (by omega)⟩

set_option maxHeartbeats 4000000 in
set_option maxRecDepth 100000 in
theorem len32_core (x : Int) (w : World) (h0 : 0 ≤ x) (h1 : x ≤ 4294967295) :
    Calls Tryd.prog 41 #[.int .u32 x] w fun e w' => e = .returned (.int .i64 (Lib.bitLen x.toNat)) ∧ w = w' := by
  go_enter Tryd.func41, Tryd.ntmps41
  go_wp2
  all_goals (go_ret; refine ⟨congrArg Ending.returned (congrArg (Value.int IntKind.i64) ?_), rfl⟩)
  all_goals first
    | (obtain ⟨e, l⟩ := len8_nat (b := x / 65536 / 256 % 256) (n := x.toNat / 16777216) (by omega) (by omega)
       have s := Lib.bitLen_shift24 x.toNat (by omega) (by omega)
       rw [e]; omega)
    | (obtain ⟨e, l⟩ := len8_nat (b := x / 65536 % 256) (n := x.toNat / 65536) (by omega) (by omega)
       have s := Lib.bitLen_shift16 x.toNat (by omega) (by omega)
       rw [e]; omega)
    | (obtain ⟨e, l⟩ := len8_nat (b := x / 256 % 256) (n := x.toNat / 256) (by omega) (by omega)
       have s := Lib.bitLen_shift8 x.toNat (by omega) (by omega)
       rw [e]; omega)
    | (obtain ⟨e, l⟩ := len8_nat (b := x % 256) (n := x.toNat) (by omega) (by omega)
       rw [e]; omega)

/-- 'bits.Len32'. -/
theorem len32_any (x : Nat) (w : World) (hx : x < 4294967296) :
    Calls Tryd.prog 41 #[.int .u32 x] w fun e w' => e = .returned (.int .i64 (bl x : Nat)) ∧ w = w' := by
  have h := len32_core (x : Int) w (by omega) (by omega)
  rw [Int.toNat_natCast, bitLen_bl (x := x) (by omega)] at h
  exact h

set_option maxHeartbeats 8000000 in
set_option maxRecDepth 100000 in
theorem len64_core (x : Int) (w : World) (h0 : 0 ≤ x) (h1 : x ≤ 18446744073709551615) :
    Calls Tryd.prog 74 #[.int .u64 x] w fun e w' => e = .returned (.int .i64 (Lib.bitLen x.toNat)) ∧ w = w' := by
  go_enter Tryd.func74, Tryd.ntmps74
  go_wp2
  all_goals (go_ret; refine ⟨congrArg Ending.returned (congrArg (Value.int IntKind.i64) ?_), rfl⟩)
  all_goals first
    | (obtain ⟨e, l⟩ := len8_nat (b := x / 4294967296 / 65536 / 256 % 256) (n := x.toNat / 72057594037927936) (by omega) (by omega)
       have s := Lib.bitLen_shift56 x.toNat (by omega) (by omega)
       rw [e]; omega)
    | (obtain ⟨e, l⟩ := len8_nat (b := x / 4294967296 / 65536 % 256) (n := x.toNat / 281474976710656) (by omega) (by omega)
       have s := Lib.bitLen_shift48 x.toNat (by omega) (by omega)
       rw [e]; omega)
    | (obtain ⟨e, l⟩ := len8_nat (b := x / 4294967296 / 256 % 256) (n := x.toNat / 1099511627776) (by omega) (by omega)
       have s := Lib.bitLen_shift40 x.toNat (by omega) (by omega)
       rw [e]; omega)
    | (obtain ⟨e, l⟩ := len8_nat (b := x / 4294967296 % 256) (n := x.toNat / 4294967296) (by omega) (by omega)
       have s := Lib.bitLen_shift32 x.toNat (by omega) (by omega)
       rw [e]; omega)
    | (obtain ⟨e, l⟩ := len8_nat (b := x / 65536 / 256 % 256) (n := x.toNat / 16777216) (by omega) (by omega)
       have s := Lib.bitLen_shift24 x.toNat (by omega) (by omega)
       rw [e]; omega)
    | (obtain ⟨e, l⟩ := len8_nat (b := x / 65536 % 256) (n := x.toNat / 65536) (by omega) (by omega)
       have s := Lib.bitLen_shift16 x.toNat (by omega) (by omega)
       rw [e]; omega)
    | (obtain ⟨e, l⟩ := len8_nat (b := x / 256 % 256) (n := x.toNat / 256) (by omega) (by omega)
       have s := Lib.bitLen_shift8 x.toNat (by omega) (by omega)
       rw [e]; omega)
    | (obtain ⟨e, l⟩ := len8_nat (b := x % 256) (n := x.toNat) (by omega) (by omega)
       rw [e]; omega)

/-- 'bits.Len64'. -/
theorem len64_any (x : Nat) (w : World) (hx : x < 18446744073709551616) :
    Calls Tryd.prog 74 #[.int .u64 x] w fun e w' => e = .returned (.int .i64 (bl x : Nat)) ∧ w = w' := by
  have h := len64_core (x : Int) w (by omega) (by omega)
  rw [Int.toNat_natCast, bitLen_bl (x := x) hx] at h
  exact h
end Go.Proofs.YtobfhidajcnfdaaDoor
