/-
  Contracts of subTimes and addBack.
-/
import Derived.Test.YtobfhidajcnfdaaDoorDivA
namespace Go.Proofs.YtobfhidajcnfdaaDoor
set_option linter.unusedVariables false
set_option maxRecDepth 20000
open Go.RowKit

/-- One step of a difference of a row. -/
theorem subT_step (b j k y x cy bw d bw' rv rv' lv v0 : Nat) (h : rv + k * lv = v0 + b ^ j * (cy + bw)) (hs : rv' + b ^ j * x = rv + b ^ j * d) (hd : d + (k * y + cy) % b + bw = x + b * bw') :
    rv' + k * (lv + b ^ j * y) = v0 + b ^ (j + 1) * ((k * y + cy) / b + bw') := by
  have e := Nat.mod_add_div (k * y + cy) b
  have e3 : k * (lv + b ^ j * y) = k * lv + b ^ j * (k * y) := by rw [Nat.mul_add, Nat.mul_left_comm]
  have e4 : b ^ (j + 1) * ((k * y + cy) / b + bw') = b ^ j * (b * ((k * y + cy) / b)) + b ^ j * (b * bw') := by rw [Nat.pow_succ, Nat.mul_assoc, Nat.mul_add, Nat.mul_add]
  have e5 : b ^ j * (d + (k * y + cy) % b + bw) = b ^ j * (x + b * bw') := by rw [hd]
  have e6 : b ^ j * ((k * y + cy) % b + b * ((k * y + cy) / b)) = b ^ j * (k * y + cy) := by rw [e]
  simp only [Nat.mul_add] at *
  omega

/-- It answers whether that was more than there was, and has left m limbs in block g. -/
def RetS (g m : Nat) (a b : List Nat) (P V : Nat) (w : World) (e : Ending) (w' : World) : Prop :=
  ∃ (r' : List Nat) (c : Bool), e = .returned (.bool c) ∧ r'.length = m ∧ (∀ x ∈ r', x < 4294967296) ∧ val 4294967296 r' + P = V + 4294967296 ^ m * c.toNat ∧ Blk w' g 43 (blkOf .u32 (a ++ r' ++ b)) ∧ Only g w w'

set_option maxHeartbeats 2000000 in
/-- 'subTimes'. -/
theorem subTimes_any (A : Option Addr) (sc c n k g o : Nat) (a r b l : List Nat) (w : World) (hn : n ≤ 1000000) (ho : a.length = o) (hr : r.length = n + 1) (hl : l.length = n)
    (hB : Blk w g 43 (blkOf .u32 (a ++ r ++ b))) (hrb : ∀ x ∈ r, x < 4294967296) (hlb : ∀ x ∈ l, x < 4294967296) (hk : k < 4294967296) (hA : ArrO g 43 .u32 w A l) :
    Calls Tryd.prog 71 #[.slice (some ⟨g, o, none⟩) (n + 1) sc, .slice A n c, .int .u32 k] w (RetS g (n + 1) a b (k * val 4294967296 l) (val 4294967296 r) w) := by
  go_enter Tryd.func71, Tryd.ntmps71
  go_wp2
  go_loopw [7, 8, 13] (fun cr br t wr => ∃ (j cy bw : Nat) (r' : List Nat), t = .int .i64 j ∧ cr = .int .u64 cy ∧ br = .int .u32 bw ∧ j ≤ n ∧ cy < 4294967296 ∧ bw ≤ 1 ∧ r'.length = n + 1 ∧ (∀ x ∈ r', x < 4294967296) ∧ val 4294967296 r' + k * val 4294967296 (l.take j) = val 4294967296 r + 4294967296 ^ j * (cy + bw) ∧ Blk wr g 43 (blkOf .u32 (a ++ r' ++ b)) ∧ Only g w wr) (fun _ _ t _ => n - (intOf t).toNat)
  case atStart => exact ⟨0, 0, 0, r, rfl, rfl, rfl, by omega, by omega, by omega, hr, hrb, by simp [val], hB, Only.refl _ _⟩
  case round =>
    obtain ⟨j, cy, bw, r', rfl, rfl, rfl, hj, hcy, hbw, hr', hrb', hval, hB', hO⟩ := hrel
    have HV := Lib.hid hval
    have HR := Lib.hid hr'
    have HL := Lib.hid hl
    have HRl := Lib.hid hr
    have HOo := Lib.hid ho
    clear hval hr' hl hr ho
    by_cases hjn : j < n
    · obtain ⟨ad, rfl, hab, hy⟩ := (hA.only hO).arr.row.at_ (i := j) (by rw [HL.out]; exact hjn)
      have hy1 := getD_lt (b := 4294967296) (by decide) hlb j
      have hx1 := getD_lt (b := 4294967296) (by decide) hrb' j
      have hjr : j < r'.length := by rw [HR.out]; omega
      have hxc : wr.cell? ⟨g, o + j, none⟩ = some (.int .u32 (r'.getD j 0 : Nat)) := by
        rw [hB'.cell, blkOf_get .u32 _ (by rw [List.length_append, List.length_append, HOo.out, HR.out]; omega), ← HOo.out, mid_get a r' b hjr]
      have hfr := hB'.free (o + j)
      have hset := fun d => val_set 4294967296 r' j d hjr
      have hstep := fun d bw' (hd : d + (k * l.getD j 0 + cy) % 4294967296 + bw = r'.getD j 0 + 4294967296 * bw') => subT_step 4294967296 j k (l.getD j 0) (r'.getD j 0) cy bw d bw' _ _ _ _ HV.out (hset d) hd
      rw [← val_take_next] at hstep
      have hB2 : ∀ d, Blk (wr.setCell ⟨g, o + j, none⟩ (.int .u32 (d : Nat))) g 43 (blkOf .u32 (a ++ r'.set j d ++ b)) := fun d => by
        rw [← mid_set a r' b hjr, HOo.out, ← blkOf_set]
        exact hB'.set_ _ _
      obtain ⟨y, hye⟩ : ∃ y, y = l.getD j 0 := ⟨_, rfl⟩
      obtain ⟨x, hxe⟩ : ∃ x, x = r'.getD j 0 := ⟨_, rfl⟩
      rw [← hye] at hy hy1 hstep
      rw [← hxe] at hxc hx1 hstep
      have hp : k * y ≤ 4294967295 * 4294967295 := Nat.mul_le_mul (by omega) (by omega)
      obtain ⟨p, hpe⟩ : ∃ p, p = k * y := ⟨_, rfl⟩
      have hpI : (k : Int) * (y : Int) = (p : Int) := by rw [hpe]; exact (Int.natCast_mul k y).symm
      rw [← hpe] at hp hstep
      have hp : p ≤ 18446744065119617025 := hp
      have hcy2 : (p + cy) / 4294967296 < 4294967296 := by omega
      obtain ⟨tl, htl⟩ : ∃ tl, tl = (p + cy) % 4294967296 := ⟨_, rfl⟩
      have htl1 : tl < 4294967296 := by omega
      have htI : ((p : Int) + (cy : Int)) % 4294967296 = (tl : Int) := by omega
      rw [← htl] at hstep
      have SB := Lib.hid (fun w => sub32_any x tl bw w hx1 htl1 hbw)
      obtain ⟨d, hd⟩ : ∃ d, d = (4294967296 + x - tl - bw) % 4294967296 := ⟨_, rfl⟩
      obtain ⟨cz, hcz⟩ : ∃ cz, cz = brw x tl bw := ⟨_, rfl⟩
      have hcz1 : cz ≤ 1 := by rw [hcz]; unfold brw; split <;> omega
      have hd1 : d < 4294967296 := by omega
      have hdz : d + tl + bw = x + 4294967296 * cz := by rw [hd, hcz]; unfold brw; split <;> omega
      rw [← hd, ← hcz] at SB
      have K1 := Lib.hid (hstep d cz hdz)
      have K2 := hB2 d
      have K3 := hO.set_ (o + j) (.int .u32 (d : Nat))
      clear hye hxe hpe hstep hset hB2 hdz hd hcz htl
      have hj0 : (0 : Int) ≤ (j : Int) := by omega
      have hj1 : (j : Int) < (n : Int) := by omega
      have hj2 : (j : Int) < (n : Int) + 1 := by omega
      go_wp2_with fail
      refine (SB.out _).mono ?_
      rintro e w1 ⟨rfl, rfl⟩
      go_wp2
      go_roundw
      case rel => exact ⟨j + 1, (p + cy) / 4294967296, cz, r'.set j d, by go_num, by go_num, rfl, by omega, hcy2, hcz1, by rw [List.length_set]; exact HR.out, set_lt hrb' j hd1, K1.out, K2, K3⟩
      case measure => simp [intOf]; omega
    · have hjn' : j = n := by omega
      subst hjn'
      have hv := HV.out
      rw [List.take_of_length_le (by rw [HL.out]; omega)] at hv
      have hjr : j < r'.length := by rw [HR.out]; omega
      have hx1 := getD_lt (b := 4294967296) (by decide) hrb' j
      have hxc : wr.cell? ⟨g, o + j, none⟩ = some (.int .u32 (r'.getD j 0 : Nat)) := by
        rw [hB'.cell, blkOf_get .u32 _ (by rw [List.length_append, List.length_append, HOo.out, HR.out]; omega), ← HOo.out, mid_get a r' b hjr]
      have hfr := hB'.free (o + j)
      have hset := fun d => val_set 4294967296 r' j d hjr
      have hB2 : ∀ d, Blk (wr.setCell ⟨g, o + j, none⟩ (.int .u32 (d : Nat))) g 43 (blkOf .u32 (a ++ r'.set j d ++ b)) := fun d => by
        rw [← mid_set a r' b hjr, HOo.out, ← blkOf_set]
        exact hB'.set_ _ _
      obtain ⟨x, hxe⟩ : ∃ x, x = r'.getD j 0 := ⟨_, rfl⟩
      rw [← hxe] at hxc hx1 hset
      have SB := Lib.hid (fun w => sub32_any x cy bw w hx1 hcy hbw)
      obtain ⟨d, hd⟩ : ∃ d, d = (4294967296 + x - cy - bw) % 4294967296 := ⟨_, rfl⟩
      obtain ⟨cz, hcz⟩ : ∃ cz, cz = brw x cy bw := ⟨_, rfl⟩
      have hcz1 : cz ≤ 1 := by rw [hcz]; unfold brw; split <;> omega
      have hd1 : d < 4294967296 := by omega
      have hdz : d + cy + bw = x + 4294967296 * cz := by rw [hd, hcz]; unfold brw; split <;> omega
      rw [← hd, ← hcz] at SB
      have hb : ∃ c : Bool, c.toNat = cz ∧ ((cz : Int) != 0) = c := by
        rcases Nat.le_one_iff_eq_zero_or_eq_one.1 hcz1 with h | h
        · exact ⟨false, h.symm, by rw [h]; rfl⟩
        · exact ⟨true, h.symm, by rw [h]; rfl⟩
      obtain ⟨cb, hcb1, hcb2⟩ := hb
      have hfin : val 4294967296 (r'.set j d) + k * val 4294967296 l = val 4294967296 r + 4294967296 ^ (j + 1) * cb.toNat := by
        have h1 := hset d
        have h2 : 4294967296 ^ j * (d + cy + bw) = 4294967296 ^ j * (x + 4294967296 * cz) := by rw [hdz]
        rw [hcb1, Nat.pow_succ, Nat.mul_assoc]
        simp only [Nat.mul_add] at *
        omega
      have K1 := Lib.hid hfin
      have K2 := hB2 d
      have K3 := hO.set_ (o + j) (.int .u32 (d : Nat))
      have K4 := Lib.hid hcb1
      clear hxe hset hB2 hdz hd hcz hv hfin hcb1
      have hj0 : (0 : Int) ≤ (j : Int) := by omega
      have hj2 : (j : Int) < (j : Int) + 1 := by omega
      go_wp2_with fail
      refine (SB.out _).mono ?_
      rintro e w1 ⟨rfl, rfl⟩
      go_wp2
      go_ret
      exact ⟨r'.set j d, cb, rfl, by rw [List.length_set]; exact HR.out, set_lt hrb' j hd1, K1.out, K2, K3⟩

/-- It has left m limbs in block g; a carry is lost. -/
def RetB (g m : Nat) (a b : List Nat) (V : Nat) (w : World) (e : Ending) (w' : World) : Prop :=
  ∃ (r' : List Nat) (c : Nat), e = .returned (.tuple #[]) ∧ r'.length = m ∧ (∀ x ∈ r', x < 4294967296) ∧ val 4294967296 r' + 4294967296 ^ m * c = V ∧ c ≤ 1 ∧ Blk w' g 43 (blkOf .u32 (a ++ r' ++ b)) ∧ Only g w w'

set_option maxHeartbeats 2000000 in
/-- 'addBack'. -/
theorem addBack_any (A : Option Addr) (sc c n g o : Nat) (a r b l : List Nat) (w : World) (hn : n ≤ 1000000) (ho : a.length = o) (hr : r.length = n + 1) (hl : l.length = n)
    (hB : Blk w g 43 (blkOf .u32 (a ++ r ++ b))) (hrb : ∀ x ∈ r, x < 4294967296) (hlb : ∀ x ∈ l, x < 4294967296) (hA : ArrO g 43 .u32 w A l) :
    Calls Tryd.prog 72 #[.slice (some ⟨g, o, none⟩) (n + 1) sc, .slice A n c] w (RetB g (n + 1) a b (val 4294967296 r + val 4294967296 l) w) := by
  go_enter Tryd.func72, Tryd.ntmps72
  go_wp2
  go_loopw [4, 8] (fun br t wr => ∃ (j bw : Nat) (r' : List Nat), t = .int .i64 j ∧ br = .int .u32 bw ∧ j ≤ n ∧ bw ≤ 1 ∧ r'.length = n + 1 ∧ (∀ x ∈ r', x < 4294967296) ∧ val 4294967296 r' + 4294967296 ^ j * bw = val 4294967296 r + 1 * val 4294967296 (l.take j) ∧ Blk wr g 43 (blkOf .u32 (a ++ r' ++ b)) ∧ Only g w wr) (fun _ t _ => n - (intOf t).toNat)
  case atStart => exact ⟨0, 0, r, rfl, rfl, by omega, by omega, hr, hrb, by simp [val], hB, Only.refl _ _⟩
  case round =>
    obtain ⟨j, bw, r', rfl, rfl, hj, hbw, hr', hrb', hval, hB', hO⟩ := hrel
    have HV := Lib.hid hval
    have HR := Lib.hid hr'
    have HL := Lib.hid hl
    have HRl := Lib.hid hr
    have HOo := Lib.hid ho
    clear hval hr' hl hr ho
    by_cases hjn : j < n
    · obtain ⟨ad, rfl, hab, hy⟩ := (hA.only hO).arr.row.at_ (i := j) (by rw [HL.out]; exact hjn)
      have hy1 := getD_lt (b := 4294967296) (by decide) hlb j
      have hx1 := getD_lt (b := 4294967296) (by decide) hrb' j
      have hjr : j < r'.length := by rw [HR.out]; omega
      have hxc : wr.cell? ⟨g, o + j, none⟩ = some (.int .u32 (r'.getD j 0 : Nat)) := by
        rw [hB'.cell, blkOf_get .u32 _ (by rw [List.length_append, List.length_append, HOo.out, HR.out]; omega), ← HOo.out, mid_get a r' b hjr]
      have hfr := hB'.free (o + j)
      have hstep := times_step 4294967296 j 1 (l.getD j 0) (r'.getD j 0) bw _ _ _ _ HV.out (val_set 4294967296 r' j ((1 * l.getD j 0 + r'.getD j 0 + bw) % 4294967296) hjr)
      rw [← val_take_next, Nat.one_mul] at hstep
      have hB2 : ∀ d (W : World), Blk W g 43 (blkOf .u32 (a ++ r' ++ b)) → Blk (W.setCell ⟨g, o + j, none⟩ (.int .u32 (d : Nat))) g 43 (blkOf .u32 (a ++ r'.set j d ++ b)) := fun d W hW => by
        rw [← mid_set a r' b hjr, HOo.out, ← blkOf_set]
        exact hW.set_ _ _
      obtain ⟨y, hye⟩ : ∃ y, y = l.getD j 0 := ⟨_, rfl⟩
      obtain ⟨x, hxe⟩ : ∃ x, x = r'.getD j 0 := ⟨_, rfl⟩
      rw [← hye] at hy hy1 hstep
      rw [← hxe] at hxc hx1 hstep
      rw [Nat.add_comm y x] at hstep
      have AD := Lib.hid (fun w => add32_any x y bw w hx1 hy1 hbw)
      obtain ⟨d, hd⟩ : ∃ d, d = (x + y + bw) % 4294967296 := ⟨_, rfl⟩
      obtain ⟨cz, hcz⟩ : ∃ cz, cz = (x + y + bw) / 4294967296 := ⟨_, rfl⟩
      have hcz1 : cz ≤ 1 := by omega
      have hd1 : d < 4294967296 := by omega
      rw [← hd, ← hcz] at AD hstep
      have K1 := Lib.hid hstep
      have K2 := hB2 d wr.drew hB'
      have K3 := (hO.drew).set_ (o + j) (.int .u32 (d : Nat))
      clear hye hxe hstep hB2 hd hcz
      have hj0 : (0 : Int) ≤ (j : Int) := by omega
      have hj1 : (j : Int) < (n : Int) := by omega
      have hj2 : (j : Int) < (n : Int) + 1 := by omega
      go_wp2
      go_region_with ((go_at_call 48; refine (AD.out _).mono ?_; rintro e w1 ⟨rfl, rfl⟩))
      all_goals
        go_wp2
        go_roundw
        case rel => exact ⟨j + 1, cz, r'.set j d, by go_num, rfl, by omega, hcz1, by rw [List.length_set]; exact HR.out, set_lt hrb' j hd1, K1.out, K2, K3⟩
        case measure => simp [intOf]; omega
    · have hjn' : j = n := by omega
      subst hjn'
      have hv := HV.out
      rw [List.take_of_length_le (by rw [HL.out]; omega), Nat.one_mul] at hv
      have hjr : j < r'.length := by rw [HR.out]; omega
      have hx1 := getD_lt (b := 4294967296) (by decide) hrb' j
      have hxc : wr.cell? ⟨g, o + j, none⟩ = some (.int .u32 (r'.getD j 0 : Nat)) := by
        rw [hB'.cell, blkOf_get .u32 _ (by rw [List.length_append, List.length_append, HOo.out, HR.out]; omega), ← HOo.out, mid_get a r' b hjr]
      have hfr := hB'.free (o + j)
      have hset := val_set 4294967296 r' j ((r'.getD j 0 + bw) % 4294967296) hjr
      have hB2 : ∀ d, Blk (wr.setCell ⟨g, o + j, none⟩ (.int .u32 (d : Nat))) g 43 (blkOf .u32 (a ++ r'.set j d ++ b)) := fun d => by
        rw [← mid_set a r' b hjr, HOo.out, ← blkOf_set]
        exact hB'.set_ _ _
      obtain ⟨x, hxe⟩ : ∃ x, x = r'.getD j 0 := ⟨_, rfl⟩
      rw [← hxe] at hxc hx1 hset
      have hfin : val 4294967296 (r'.set j ((x + bw) % 4294967296)) + 4294967296 ^ (j + 1) * ((x + bw) / 4294967296) = val 4294967296 r + val 4294967296 l := by
        have e := Nat.mod_add_div (x + bw) 4294967296
        have e2 : 4294967296 ^ j * ((x + bw) % 4294967296 + 4294967296 * ((x + bw) / 4294967296)) = 4294967296 ^ j * (x + bw) := by rw [e]
        rw [Nat.pow_succ, Nat.mul_assoc]
        simp only [Nat.mul_add] at *
        omega
      have K1 := Lib.hid hfin
      have K2 := hB2 ((x + bw) % 4294967296)
      have K3 := hO.set_ (o + j) (.int .u32 ((x + bw) % 4294967296 : Nat))
      rw [show (((x + bw) % 4294967296 : Nat) : Int) = ((x : Int) + (bw : Int)) % 4294967296 by omega] at K2 K3
      clear hxe hset hB2 hv hfin
      have hj0 : (0 : Int) ≤ (j : Int) := by omega
      have hj2 : (j : Int) < (j : Int) + 1 := by omega
      go_wp2
      go_end0
      exact ⟨r'.set j ((x + bw) % 4294967296), (x + bw) / 4294967296, rfl, by rw [List.length_set]; exact HR.out, set_lt hrb' j (Nat.mod_lt _ (by decide)), K1.out, by omega, K2, K3⟩
end Go.Proofs.YtobfhidajcnfdaaDoor
