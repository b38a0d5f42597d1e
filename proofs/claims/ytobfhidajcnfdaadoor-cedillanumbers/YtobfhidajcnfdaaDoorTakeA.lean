/-
  digits.limbsOf: the limbs of bytes, the highest first.
-/
import Derived.Test.YtobfhidajcnfdaaDoorPutA
namespace Go.Proofs.YtobfhidajcnfdaaDoor
set_option linter.unusedVariables false
set_option maxRecDepth 20000
open Go.RowKit

/-- The number that bytes write, the highest first. -/
def beVal (bs : List UInt8) : Nat := bs.foldl (fun v b => v * 256 + b.toNat) 0
theorem beVal_snoc (bs : List UInt8) (b : UInt8) : beVal (bs ++ [b]) = beVal bs * 256 + b.toNat := by simp [beVal]
theorem beVal_take {bs : List UInt8} {i : Nat} {b : UInt8} (h : bs[i]? = some b) : beVal (bs.take (i + 1)) = beVal (bs.take i) * 256 + b.toNat := by
  rw [List.take_add_one, h]
  exact beVal_snoc _ b

theorem val_set_add (b : Nat) : ∀ (l : List Nat) (i d : Nat), i < l.length → val b (l.set i (l.getD i 0 + d)) = val b l + b ^ i * d
  | [], i, d, h => by simp at h
  | x :: r, 0, d, _ => by simp [val]; omega
  | x :: r, i + 1, d, h => by
    have ih := val_set_add b r i d (by simpa using h)
    simp only [List.set_cons_succ, List.getD_cons_succ, val, ih, Nat.pow_succ, Nat.mul_add]
    rw [Nat.mul_comm (b ^ i) b, Nat.mul_assoc, Nat.add_assoc]

/-- One byte more of a number whose lower bytes are noughts: the limb that it goes into. -/
theorem byte_into {l : List Nat} (h : ∀ x ∈ l, x < 4294967296) {V p b : Nat} (hv : val 4294967296 l = V * 256 ^ (p + 1)) (hb : b < 256) :
    l.getD (p / 4) 0 ||| b * 2 ^ (8 * (p % 4)) = l.getD (p / 4) 0 + b * 2 ^ (8 * (p % 4)) ∧ l.getD (p / 4) 0 + b * 2 ^ (8 * (p % 4)) < 4294967296 ∧ 4294967296 ^ (p / 4) * (b * 2 ^ (8 * (p % 4))) = b * 256 ^ p := by
  have hr : p % 4 < 4 := Nat.mod_lt _ (by decide)
  have e0 : (4294967296 : Nat) ^ (p / 4) = 256 ^ (4 * (p / 4)) := by rw [show (4294967296 : Nat) = 256 ^ 4 by decide, ← Nat.pow_mul]
  have e8 : (2 : Nat) ^ (8 * (p % 4)) = 256 ^ (p % 4) := by rw [show (256 : Nat) = 2 ^ 8 by decide, ← Nat.pow_mul]
  have ep : 256 ^ (4 * (p / 4)) * 256 ^ (p % 4) = 256 ^ p := by rw [← Nat.pow_add, Nat.div_add_mod]
  have e1 : l.getD (p / 4) 0 = V * 256 ^ (p % 4 + 1) % 4294967296 := by
    rw [← val_limb h (p / 4), hv, e0, Nat.pow_succ, ← ep, Nat.pow_succ]
    congr 1
    rw [show V * (256 ^ (4 * (p / 4)) * 256 ^ (p % 4) * 256) = 256 ^ (4 * (p / 4)) * (V * (256 ^ (p % 4) * 256)) by
      rw [Nat.mul_left_comm, Nat.mul_assoc, Nat.mul_left_comm V]]
    exact Nat.mul_div_cancel_left _ (Nat.pow_pos (by decide))
  have hx := getD_lt (b := 4294967296) (by decide) h (p / 4)
  obtain ⟨y, hy⟩ : ∃ y, l.getD (p / 4) 0 = y * 2 ^ (8 * (p % 4) + 8) := by
    rw [e1]
    rcases (show p % 4 = 0 ∨ p % 4 = 1 ∨ p % 4 = 2 ∨ p % 4 = 3 by omega) with h4 | h4 | h4 | h4 <;> rw [h4] <;> simp only [Nat.reducePow, Nat.reduceAdd, Nat.reduceMul]
    · exact ⟨V % 16777216, by omega⟩
    · exact ⟨V % 65536, by omega⟩
    · exact ⟨V % 256, by omega⟩
    · exact ⟨0, by omega⟩
  have hlt : b * 2 ^ (8 * (p % 4)) < 2 ^ (8 * (p % 4) + 8) := by
    rw [Nat.pow_add]
    have : 0 < 2 ^ (8 * (p % 4)) := Nat.pow_pos (by decide)
    rw [Nat.mul_comm b]
    exact Nat.mul_lt_mul_of_pos_left (by omega) this
  refine ⟨?_, ?_, ?_⟩
  · rw [hy, Nat.or_comm, or_low _ _ _ hlt, Nat.add_comm]
  · rw [hy] at hx ⊢
    have e32 : (4294967296 : Nat) = 2 ^ (32 - (8 * (p % 4) + 8)) * 2 ^ (8 * (p % 4) + 8) := by
      rw [← Nat.pow_add, show 32 - (8 * (p % 4) + 8) + (8 * (p % 4) + 8) = 32 by omega]
    rw [e32] at hx ⊢
    have h1 : y + 1 ≤ 2 ^ (32 - (8 * (p % 4) + 8)) := Nat.lt_of_mul_lt_mul_right hx
    have h2 := Nat.mul_le_mul_right (2 ^ (8 * (p % 4) + 8)) h1
    rw [Nat.add_mul, Nat.one_mul] at h2
    exact Nat.lt_of_lt_of_le (Nat.add_lt_add_left hlt _) h2
  · rw [e8, e0, Nat.mul_left_comm, ep]

set_option maxHeartbeats 4000000 in
theorem limbsOf_str (s : ByteArray) (w : World) (hs : s.size ≤ 1000000) :
    Calls Tryd.prog 45 #[.string s] w (RetNew ((s.size + 3) / 4) (beVal s.data.toList) w) := by
  obtain ⟨n, hn⟩ : ∃ n, s.size = n := ⟨_, rfl⟩
  obtain ⟨L, hL⟩ : ∃ L, (n + 3) / 4 = L := ⟨_, rfl⟩
  have hdiv : ((n : Int) + 4 - 1) / 4 = (L : Int) := by omega
  have hmk : ∀ w, (Instr.makeSlice 22 (.int .i64 (L : Int)) (.int .i64 (L : Int))).run Tryd.prog w = .ok (.slice (some ⟨w.heap.size, 0, none⟩) L L) (w.alloc (.cells (blkOf .u32 (List.replicate L 0)) 43)) := fun w => make_u32 w L (by omega)
  rw [hn, hL]
  go_enter Tryd.func45, Tryd.ntmps45
  go_wp2
  clear hmk
  go_loopw [14] (fun t wr => ∃ (i : Nat) (l : List Nat), t = .int .i64 i ∧ i ≤ n ∧ l.length = L ∧ (∀ x ∈ l, x < 4294967296) ∧ val 4294967296 l = beVal (s.data.toList.take i) * 256 ^ (n - i) ∧ Blk wr w.heap.size 43 (blkOf .u32 l) ∧ Below w.heap.size w wr ∧ wr.heap.size = w.heap.size + 1) (fun t _ => n - (intOf t).toNat)
  case atStart => exact ⟨0, List.replicate L 0, rfl, by omega, by simp, by simp, by simp [val_replicate, beVal], Blk.new w 43 _, below_new _ _, by simp⟩
  case round =>
    obtain ⟨i, l, rfl, hi, hll, hlb, hval, hB, hbw, hws⟩ := hrel
    have HS := Lib.hid hll
    have HV := Lib.hid hval
    have HW := Lib.hid hws
    clear hll hval hws
    by_cases hil : i < n
    · obtain ⟨p, hp⟩ : ∃ p, n = p + i + 1 := ⟨n - 1 - i, by omega⟩
      have hpq : p / 4 < L := by omega
      have hsub : (n : Int) - 1 - (i : Int) = (p : Int) := by omega
      have hcl := (hB.cell (p / 4)).trans (blkOf_get .u32 l (by rw [HS.out]; exact hpq))
      have hfr := hB.free (p / 4)
      have hib : i < s.data.toList.length := by show i < s.data.toList.length; rw [Array.length_toList]; show i < s.size; omega
      have HB := Lib.hid (beVal_take (List.getElem?_eq_getElem hib))
      have hbyte : s.data.toList[i].toNat < 256 := UInt8.toNat_lt _
      obtain ⟨x1, x2, x3⟩ := byte_into hlb (V := beVal (s.data.toList.take i)) (p := p) (b := s.data.toList[i].toNat) (by rw [HV.out]; congr 2; omega) hbyte
      clear hp
      generalize hxe : l.getD (p / 4) 0 = x at *
      generalize hbe : s.data.toList[i].toNat = b at *
      have his : i < s.size := by omega
      have hbe' : s[i].toNat = b := hbe
      have HJ : bits .or .u32 (x : Int) ((b : Int) * 2 ^ (8 * (p % 4)) % 4294967296) = ((x + b * 2 ^ (8 * (p % 4)) : Nat) : Int) := by
        rw [show (b : Int) * 2 ^ (8 * (p % 4)) = ((b * 2 ^ (8 * (p % 4)) : Nat) : Int) by simp, show ((b * 2 ^ (8 * (p % 4)) : Nat) : Int) % 4294967296 = ((b * 2 ^ (8 * (p % 4)) : Nat) : Int) by omega, u32_or_nat _ _ (by omega) (by omega), x1]
      have HJJ := Lib.hid HJ
      clear HJ
      go_wp2_with fail
      go_region
      rw [HJJ.out]
      have hB2 := hB.set_ (p / 4) (.int .u32 ((x + b * 2 ^ (8 * (p % 4)) : Nat) : Int))
      rw [blkOf_set] at hB2
      have hb2 := hbw.setCell (p := ⟨w.heap.size, p / 4, none⟩) (Nat.le_refl _) (.int .u32 ((x + b * 2 ^ (8 * (p % 4)) : Nat) : Int))
      have hstep : val 4294967296 (l.set (p / 4) (x + b * 2 ^ (8 * (p % 4)))) = beVal (s.data.toList.take (i + 1)) * 256 ^ (n - (i + 1)) := by
        have h1 := val_set_add 4294967296 l (p / 4) (b * 2 ^ (8 * (p % 4))) (by rw [HS.out]; exact hpq)
        rw [hxe] at h1
        rw [h1, HV.out, x3, HB.out, show n - i = p + 1 by omega, show n - (i + 1) = p by omega, Nat.pow_succ, Nat.add_mul, Nat.mul_assoc, Nat.mul_comm 256]
      have HST := Lib.hid hstep
      have hlen2 := HS.out
      have hx2 := x2
      generalize x + b * 2 ^ (8 * (p % 4)) = y at *
      clear hstep x1 x3 hcl hfr
      go_wp2
      go_roundw
      case rel => exact ⟨i + 1, l.set (p / 4) y, by go_num, by omega, by rw [List.length_set]; exact HS.out, set_lt hlb _ hx2, HST.out, hB2, hb2.drew, by show (wr.setCell _ _).heap.size = _; rw [World.size_setCell]; exact HW.out⟩
      case measure => simp [intOf]; omega
    · obtain rfl : i = n := by omega
      have HF : Hid (val 4294967296 l = beVal s.data.toList) := by
        rw [Hid, HV.out, Nat.sub_self, Nat.pow_zero, Nat.mul_one, List.take_of_length_le (by rw [Array.length_toList]; show s.size ≤ i; omega)]
      go_wp2
      go_ret
      exact ⟨l, rfl, HS.out, hlb, HF.out, hB, hbw, HW.out⟩
end Go.Proofs.YtobfhidajcnfdaaDoor
