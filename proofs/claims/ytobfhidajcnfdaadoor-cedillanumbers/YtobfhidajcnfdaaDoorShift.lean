/-
  The contracts of LeadingZeros32, shiftUp and shiftDown.
-/
import Derived.Test.YtobfhidajcnfdaaDoorDivD
namespace Go.Proofs.YtobfhidajcnfdaaDoor
set_option linter.unusedVariables false
set_option maxRecDepth 20000
open Go.RowKit

/-- 'bits.LeadingZeros32'. -/
theorem lz_any (x : Nat) (w : World) (hx : x < 4294967296) :
    Calls Tryd.prog 61 #[.int .u32 x] w fun e w' => e = .returned (.int .i64 (32 - (bl x : Int))) ∧ w = w' := by
  have hb : bl x ≤ 32 := (bl_spec x 32).2 (by omega)
  have T := Lib.hid (len32_any x w hx)
  go_enter Tryd.func61, Tryd.ntmps61
  go_wp2_with fail
  refine T.out.mono ?_
  rintro e w1 ⟨rfl, rfl⟩
  go_wp2
  go_ret
  exact ⟨rfl, rfl⟩

/-- It answers a new slice of the numbers s, which lie in a block of their own. -/
def RetNew (m V : Nat) (w : World) (e : Ending) (w' : World) : Prop :=
  ∃ s : List Nat, e = .returned (.slice (some ⟨w.heap.size, 0, none⟩) m m) ∧ s.length = m ∧ (∀ x ∈ s, x < 4294967296) ∧ val 4294967296 s = V ∧ Blk w' w.heap.size 43 (blkOf .u32 s) ∧ Below w.heap.size w w' ∧ w'.heap.size = w.heap.size + 1

theorem or_low (n c y : Nat) (hc : c < 2 ^ n) : c ||| (y * 2 ^ n) = c + y * 2 ^ n := by
  rw [Nat.or_comm, Nat.mul_comm y]
  rw [← Nat.two_pow_add_eq_or_of_lt hc]
  omega
theorem take_set_at (s : List Nat) (i d : Nat) : (s.set i d).take i = s.take i := by
  rw [List.take_set, List.set_eq_of_length_le (by rw [List.length_take]; omega)]
theorem getD_set_at (s : List Nat) (i d : Nat) (h : i < s.length) : (s.set i d).getD i 0 = d := by simp [List.getD, h]

set_option maxHeartbeats 2000000 in
/-- 'shiftUp'. -/
theorem shiftUp_any (A : Option Addr) (c n : Nat) (l : List Nat) (w : World) (hr : Arr 43 .u32 w A l) (hb : ∀ x ∈ l, x < 4294967296) (hl : l.length ≤ 400000) (hn : n ≤ 31) :
    Calls Tryd.prog 62 #[.slice A l.length c, .int .i64 n] w (RetNew (l.length + 1) (val 4294967296 l * 2 ^ n) w) := by
  have hmk : ∀ w, (Instr.makeSlice 22 (.int .i64 ((l.length : Int) + 1)) (.int .i64 ((l.length : Int) + 1))).run Tryd.prog w = .ok (.slice (some ⟨w.heap.size, 0, none⟩) (l.length + 1) (l.length + 1)) (w.alloc (.cells (blkOf .u32 (List.replicate (l.length + 1) 0)) 43)) := fun w => by
    rw [← make_u32 w (l.length + 1) (by omega)]; simp
  go_enter Tryd.func62, Tryd.ntmps62
  go_wp2
  clear hmk
  go_loopw [6, 14] (fun cr t wr => ∃ (i cy : Nat) (s : List Nat), t = .int .i64 i ∧ cr = .int .u64 cy ∧ i ≤ l.length ∧ cy < 2 ^ n ∧ s.length = l.length + 1 ∧ (∀ x ∈ s, x < 4294967296) ∧ val 4294967296 (s.take i) + 4294967296 ^ i * cy = val 4294967296 (l.take i) * 2 ^ n ∧ Blk wr w.heap.size 43 (blkOf .u32 s) ∧ Below w.heap.size w wr ∧ wr.heap.size = w.heap.size + 1) (fun _ t _ => l.length - (intOf t).toNat)
  case atStart => exact ⟨0, 0, List.replicate (l.length + 1) 0, rfl, rfl, by omega, Nat.pow_pos (by decide), by simp, by simp, by simp [val], Blk.new w 43 _, below_new _ _, by simp⟩
  case round =>
    obtain ⟨i, cy, s, rfl, rfl, hi, hcy, hsl, hsb, hval, hB, hbw, hws⟩ := hrel
    have HS := Lib.hid hsl
    have HV := Lib.hid hval
    have HW := Lib.hid hws
    clear hsl hval hws
    by_cases hil : i < l.length
    · obtain ⟨ad, rfl, hab, hxc⟩ := (hr.below hbw).row.at_ hil
      have hx1 := lt_of_mem_getD hb hil
      obtain ⟨x, hxe⟩ : ∃ x, x = l.getD i 0 := ⟨_, rfl⟩
      rw [← hxe] at hxc hx1
      have hp1 : 2 ^ n ≤ 2147483648 := Nat.pow_le_pow_right (n := 2) (by decide) hn
      have hp0 : 0 < 2 ^ n := Nat.pow_pos (by decide)
      have hxp : x * 2 ^ n ≤ 4294967295 * 2 ^ n := Nat.mul_le_mul_right _ (by omega)
      have hjoin : bits BinOp.or IntKind.u64 (cy : Int) (IntKind.u64.wrap (IntKind.u64.wrap (x : Int) * 2 ^ n)) = ((cy + x * 2 ^ n : Nat) : Int) := by
        have e1 : IntKind.u64.wrap (IntKind.u64.wrap (x : Int) * 2 ^ n) = ((x * 2 ^ n : Nat) : Int) := by
          rw [wrap_u64 (x := (x : Int)) (by omega) (by omega), show (x : Int) * 2 ^ n = ((x * 2 ^ n : Nat) : Int) by simp]
          exact wrap_u64 (by omega) (by omega)
        rw [e1, u64_or_nat _ _ (by omega) (by omega), or_low n cy x hcy]
      obtain ⟨t, ht⟩ : ∃ t, t = cy + x * 2 ^ n := ⟨_, rfl⟩
      have ht1 : t < 4294967296 * 2 ^ n := by omega
      have hstep : val 4294967296 ((s.set i (t % 4294967296)).take (i + 1)) + 4294967296 ^ (i + 1) * (t / 4294967296) = val 4294967296 (l.take (i + 1)) * 2 ^ n := by
        rw [val_take_next, val_take_next, take_set_at, getD_set_at s i _ (by rw [HS.out]; omega), ← hxe, Nat.add_mul, ← HV.out, Nat.pow_succ]
        have e := Nat.mod_add_div t 4294967296
        have e2 : 4294967296 ^ i * (t % 4294967296 + 4294967296 * (t / 4294967296)) = 4294967296 ^ i * (cy + x * 2 ^ n) := by rw [e, ht]
        rw [Nat.mul_assoc (4294967296 ^ i) 4294967296, Nat.mul_assoc (4294967296 ^ i) x]
        simp only [Nat.mul_add] at e2 ⊢
        omega
      have hcy2 : t / 4294967296 < 2 ^ n := by rw [Nat.div_lt_iff_lt_mul (by decide), Nat.mul_comm]; exact ht1
      rw [← ht] at hjoin
      have hwx : IntKind.u64.wrap (x : Int) = (x : Int) := wrap_u64 (by omega) (by omega)
      have hjoin2 := hjoin
      rw [hwx] at hjoin2
      have ht2 : t < 18446744073709551616 := by omega
      have hB2 : Blk (wr.setCell ⟨w.heap.size, i, none⟩ (.int .u32 ((t % 4294967296 : Nat) : Int))) w.heap.size 43 (blkOf .u32 (s.set i (t % 4294967296))) := by rw [← blkOf_set]; exact hB.set_ _ _
      have hb2 := hbw.setCell (p := ⟨w.heap.size, i, none⟩) (Nat.le_refl _) (.int .u32 ((t % 4294967296 : Nat) : Int))
      have hsz2 : (wr.setCell ⟨w.heap.size, i, none⟩ (.int .u32 ((t % 4294967296 : Nat) : Int))).heap.size = w.heap.size + 1 := by rw [World.size_setCell]; exact HW.out
      rw [show ((t % 4294967296 : Nat) : Int) = (t : Int) % 4294967296 by omega] at hB2 hb2 hsz2
      have HST := Lib.hid hstep
      have HCY := Lib.hid hcy2
      have HSZ := Lib.hid hsz2
      have hfr := hB.free i
      have hcl := (hB.cell i).trans (blkOf_get .u32 s (by rw [HS.out]; omega))
      clear hstep hcy2 hsz2 hxp ht ht1 hp1 hxe
      have hi0 : (0 : Int) ≤ (i : Int) := by omega
      have hi1 : (i : Int) < (l.length : Int) := by omega
      have hi2 : (i : Int) < (l.length : Int) + 1 := by omega
      go_wp2
      go_roundw
      case rel => exact ⟨i + 1, t / 4294967296, s.set i (t % 4294967296), by go_num, by simp, by omega, HCY.out, by rw [List.length_set]; exact HS.out, set_lt hsb i (Nat.mod_lt _ (by decide)), HST.out, hB2, hb2, HSZ.out⟩
      case measure => simp [intOf]; omega
    · have hie : i = l.length := by omega
      subst hie
      have hfin : val 4294967296 (s.set l.length cy) = val 4294967296 l * 2 ^ n := by
        have h1 := val_take_succ 4294967296 (s.set l.length cy) l.length (by rw [List.length_set, HS.out]; omega)
        rw [List.take_of_length_le (by rw [List.length_set, HS.out]; omega), take_set_at, getD_set_at s _ _ (by rw [HS.out]; omega)] at h1
        have h2 := HV.out
        rw [List.take_of_length_le (Nat.le_refl _)] at h2
        rw [h1, ← h2]
      have hp1 : 2 ^ n ≤ 2147483648 := Nat.pow_le_pow_right (n := 2) (by decide) hn
      have hcy3 : cy < 4294967296 := by omega
      have hB2 : Blk (wr.setCell ⟨w.heap.size, l.length, none⟩ (.int .u32 (cy : Int))) w.heap.size 43 (blkOf .u32 (s.set l.length cy)) := by rw [← blkOf_set]; exact hB.set_ _ _
      have hb2 := hbw.setCell (p := ⟨w.heap.size, l.length, none⟩) (Nat.le_refl _) (.int .u32 (cy : Int))
      have hsz2 : (wr.setCell ⟨w.heap.size, l.length, none⟩ (.int .u32 (cy : Int))).heap.size = w.heap.size + 1 := by rw [World.size_setCell]; exact HW.out
      have HSZ := Lib.hid hsz2
      have HFN := Lib.hid hfin
      have hfr := hB.free l.length
      have hcl := (hB.cell l.length).trans (blkOf_get .u32 s (by rw [HS.out]; omega))
      clear hsz2 hfin hp1 hcy
      have hi0 : (0 : Int) ≤ (l.length : Int) := by omega
      have hi2 : (l.length : Int) < (l.length : Int) + 1 := by omega
      go_wp2
      go_ret
      exact ⟨s.set l.length cy, rfl, by rw [List.length_set]; exact HS.out, set_lt hsb _ hcy3, HFN.out, hB2, hb2, HSZ.out⟩

/-- One limb more of a number shifted down. -/
theorem down_step (n x y Z : Nat) (hn : n ≤ 32) (hx : x < 4294967296) (hy : y = Z % 4294967296) :
    (x + 4294967296 * y) / 2 ^ n % 4294967296 + 4294967296 * (Z / 2 ^ n) = (x + 4294967296 * Z) / 2 ^ n := by
  have hp : 0 < 2 ^ n := Nat.pow_pos (by decide)
  obtain ⟨k, hk⟩ : ∃ k, 4294967296 = 2 ^ n * k := ⟨2 ^ (32 - n), by rw [← Nat.pow_add, show n + (32 - n) = 32 by omega]⟩
  -- the number, its lower part by the limb above
  have hZ : Z = y + 4294967296 * (Z / 4294967296) := by have := Nat.mod_add_div Z 4294967296; omega
  have h1 : (x + 4294967296 * Z) / 2 ^ n = (x + 4294967296 * y) / 2 ^ n + k * (4294967296 * (Z / 4294967296)) := by
    have e : x + 4294967296 * Z = (x + 4294967296 * y) + 2 ^ n * (k * (4294967296 * (Z / 4294967296))) := by
      rw [← Nat.mul_assoc, ← hk]; omega
    rw [e, Nat.add_mul_div_left _ _ hp]
  have h2 : (x + 4294967296 * Z) / 2 ^ n / 4294967296 = Z / 2 ^ n := by
    rw [Nat.div_div_eq_div_mul, Nat.mul_comm (2 ^ n), ← Nat.div_div_eq_div_mul, Nat.add_mul_div_left _ _ (by decide), Nat.div_eq_of_lt hx, Nat.zero_add]
  have h3 : (x + 4294967296 * Z) / 2 ^ n % 4294967296 = (x + 4294967296 * y) / 2 ^ n % 4294967296 := by
    rw [h1, ← Nat.mul_assoc, Nat.mul_comm k, Nat.mul_assoc, Nat.add_mul_mod_self_left]
  rw [← h3, ← h2]
  exact Nat.mod_add_div _ _

set_option maxHeartbeats 2000000 in
/-- 'shiftDown'. -/
theorem shiftDown_any (A : Option Addr) (c n : Nat) (l : List Nat) (w : World) (hr : Arr 43 .u32 w A l) (hb : ∀ x ∈ l, x < 4294967296) (hl : l.length ≤ 400000) (hn : n ≤ 31) :
    Calls Tryd.prog 64 #[.slice A l.length c, .int .i64 n] w (RetNew l.length (val 4294967296 l / 2 ^ n) w) := by
  have hmk : ∀ w, (Instr.makeSlice 22 (.int .i64 (l.length : Int)) (.int .i64 (l.length : Int))).run Tryd.prog w = .ok (.slice (some ⟨w.heap.size, 0, none⟩) l.length l.length) (w.alloc (.cells (blkOf .u32 (List.replicate l.length 0)) 43)) := fun w => make_u32 w l.length (by omega)
  go_enter Tryd.func64, Tryd.ntmps64
  go_wp2
  clear hmk
  go_loopw [6, 14] (fun cr t wr => ∃ (i cy : Nat) (s : List Nat), t = .int .i64 i ∧ cr = .int .u64 cy ∧ i ≤ l.length ∧ cy < 18446744073709551616 ∧ cy % 4294967296 = val 4294967296 (l.drop (l.length - i)) % 4294967296 ∧ s.length = l.length ∧ (∀ x ∈ s, x < 4294967296) ∧ val 4294967296 (s.drop (l.length - i)) = val 4294967296 (l.drop (l.length - i)) / 2 ^ n ∧ Blk wr w.heap.size 43 (blkOf .u32 s) ∧ Below w.heap.size w wr ∧ wr.heap.size = w.heap.size + 1) (fun _ t _ => l.length - (intOf t).toNat)
  case atStart => exact ⟨0, 0, List.replicate l.length 0, rfl, rfl, by omega, by omega, by rw [Nat.sub_zero, List.drop_length]; rfl, by simp, by simp, by rw [Nat.sub_zero, List.drop_length, List.drop_of_length_le (by simp)]; simp [val], Blk.new w 43 _, below_new _ _, by simp⟩
  case round =>
    obtain ⟨i, cy, s, rfl, rfl, hi, hcy, hcm, hsl, hsb, hval, hB, hbw, hws⟩ := hrel
    have HS := Lib.hid hsl
    have HV := Lib.hid hval
    have HW := Lib.hid hws
    have HM := Lib.hid hcm
    clear hsl hval hws hcm
    by_cases hil : i < l.length
    · obtain ⟨h, hh⟩ : ∃ h, h + 1 + i = l.length := ⟨l.length - 1 - i, by omega⟩
      have ei : ((l.length : Int) - 1 - (i : Int)) = (h : Int) := by omega
      have EI := Lib.hid ei
      have hhl : h < l.length := by omega
      obtain ⟨ad, rfl, hab, hxc⟩ := (hr.below hbw).row.at_ hhl
      have hx1 := lt_of_mem_getD hb hhl
      obtain ⟨x, hxe⟩ : ∃ x, x = l.getD h 0 := ⟨_, rfl⟩
      rw [← hxe] at hxc hx1
      obtain ⟨y, hy⟩ : ∃ y, y = cy % 4294967296 := ⟨_, rfl⟩
      have hy1 : y < 4294967296 := by omega
      have hjoin : bits BinOp.or IntKind.u64 (IntKind.u64.wrap ((cy : Int) * 4294967296)) (IntKind.u64.wrap (x : Int)) = ((x + 4294967296 * y : Nat) : Int) := by
        have e1 : IntKind.u64.wrap ((cy : Int) * 4294967296) = ((y * 2 ^ 32 : Nat) : Int) := by
          have e : ∀ n : Int, IntKind.u64.wrap n = n % 18446744073709551616 := fun n => by simp [IntKind.wrap, IntKind.bits, IntKind.signed]
          rw [e]; omega
        rw [e1, wrap_u64 (x := (x : Int)) (by omega) (by omega), u64_or_nat _ _ (by omega) (by omega), Nat.or_comm, or_low 32 x y (by omega)]
        omega
      obtain ⟨t, ht⟩ : ∃ t, t = x + 4294967296 * y := ⟨_, rfl⟩
      have ht2 : t < 18446744073709551616 := by omega
      have hd1 : l.length - i = h + 1 := by omega
      have hd2 : l.length - (i + 1) = h := by omega
      have hl2 : val 4294967296 (l.drop h) = x + 4294967296 * val 4294967296 (l.drop (h + 1)) := by rw [hxe]; exact val_drop _ _ _ hhl
      have hs2 : ∀ d, val 4294967296 ((s.set h d).drop h) = d + 4294967296 * val 4294967296 (s.drop (h + 1)) := fun d => by
        rw [val_drop _ _ _ (by rw [List.length_set, HS.out]; exact hhl), getD_set_at s h d (by rw [HS.out]; exact hhl), List.drop_set, if_pos (by omega)]
      have hvn : val 4294967296 ((s.set h (t / 2 ^ n % 4294967296)).drop (l.length - (i + 1))) = val 4294967296 (l.drop (l.length - (i + 1))) / 2 ^ n := by
        have h1 := HV.out
        have h2 := HM.out
        rw [hd1] at h1 h2
        rw [hd2, hs2, h1, hl2, ht]
        exact down_step n x y _ (by omega) hx1 (by rw [hy, h2])
      have hmn : t % 4294967296 = val 4294967296 (l.drop (l.length - (i + 1))) % 4294967296 := by
        rw [hd2, hl2, ht]; omega
      rw [← ht] at hjoin
      have hwx : IntKind.u64.wrap (x : Int) = (x : Int) := wrap_u64 (by omega) (by omega)
      have hjoin2 := hjoin
      rw [hwx] at hjoin2
      have hp0 : 0 < 2 ^ n := Nat.pow_pos (by decide)
      have htn : t / 2 ^ n ≤ t := Nat.div_le_self _ _
      have htI : (t : Int) / 2 ^ n = ((t / 2 ^ n : Nat) : Int) := by simp
      obtain ⟨d, hd⟩ : ∃ d, d = t / 2 ^ n % 4294967296 := ⟨_, rfl⟩
      have hdI : (t : Int) / 2 ^ n % 4294967296 = (d : Int) := by rw [htI, hd]; omega
      rw [← hd] at hvn
      have hdl : d < 4294967296 := by omega
      have hB2 : Blk (wr.setCell ⟨w.heap.size, h, none⟩ (.int .u32 (d : Int))) w.heap.size 43 (blkOf .u32 (s.set h d)) := by rw [← blkOf_set]; exact hB.set_ _ _
      have hb2 := hbw.setCell (p := ⟨w.heap.size, h, none⟩) (Nat.le_refl _) (.int .u32 (d : Int))
      have hsz2 : (wr.setCell ⟨w.heap.size, h, none⟩ (.int .u32 (d : Int))).heap.size = w.heap.size + 1 := by rw [World.size_setCell]; exact HW.out
      have HSZ := Lib.hid hsz2
      have HVN := Lib.hid hvn
      have HMN := Lib.hid hmn
      have hfr := hB.free h
      have hcl := (hB.cell h).trans (blkOf_get .u32 s (by rw [HS.out]; exact hhl))
      clear hsz2 hvn hmn hs2 hl2 hd1 hd2 hd ht hy hxe hh htI htn
      have hh0 : (0 : Int) ≤ (h : Int) := by omega
      have hh1 : (h : Int) < (l.length : Int) := by omega
      go_wp2
      go_roundw
      case rel => exact ⟨i + 1, t, s.set h d, by go_num, rfl, by omega, ht2, HMN.out, by rw [List.length_set]; exact HS.out, set_lt hsb h hdl, HVN.out, hB2, hb2, HSZ.out⟩
      case measure => simp [intOf]; omega
    · have hie : i = l.length := by omega
      have hfin : val 4294967296 s = val 4294967296 l / 2 ^ n := by
        have h1 := HV.out
        rw [hie, Nat.sub_self, List.drop_zero, List.drop_zero] at h1
        exact h1
      have HFN := Lib.hid hfin
      clear hfin
      go_wp2
      go_ret
      exact ⟨s, rfl, HS.out, hsb, HFN.out, hB, hbw, HW.out⟩
end Go.Proofs.YtobfhidajcnfdaaDoor
