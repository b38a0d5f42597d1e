/-
  The contract of divideLong.
-/
import Derived.Test.YtobfhidajcnfdaaDoorLong
import Derived.Test.YtobfhidajcnfdaaDoorPow
namespace Go.Proofs.YtobfhidajcnfdaaDoor
set_option linter.unusedVariables false
set_option maxRecDepth 20000
open Go.RowKit

set_option maxHeartbeats 4000000 in
/-- 'divideLong', where the divisor is no longer. -/
theorem divLong_any (A A' : Option Addr) (c c' nq m : Nat) (l l' : List Nat) (w : World) (hl : l.length = nq + m + 1) (hl' : l'.length = m + 2) (hq1 : 1 ≤ nq) (hr : Arr 43 .u32 w A l) (hr' : Arr 43 .u32 w A' l') (hb : ∀ x ∈ l, x < 4294967296) (hn' : Norm 4294967296 l') (hs : nq + m + 2 ≤ 200000) :
    Calls Tryd.prog 52 #[.slice A (nq + m + 1) c, .slice A' (m + 2) c'] w (RetQR (nq + m + 1) (val 4294967296 l / val 4294967296 l') (m + 2) (val 4294967296 l % val 4294967296 l') w) := by
  have ht1 := getD_lt (b := 4294967296) (by decide) hn'.1 (m + 1)
  obtain ⟨u, hu⟩ : ∃ u, u + bl (l'.getD (m + 1) 0) = 32 := ⟨32 - bl (l'.getD (m + 1) 0), by have := (bl_spec (l'.getD (m + 1) 0) 32).2 (by omega); omega⟩
  obtain ⟨hYlt, hYge, hu31⟩ := shift_div hl' hn' hu
  have huI : (32 : Int) - (bl (l'.getD (m + 1) 0) : Int) = (u : Int) := by omega
  have hX : val 4294967296 l < 4294967296 ^ (nq + m + 1) := by have := val_lt (b := 4294967296) (by decide) hb; rwa [hl] at this
  have LZ := Lib.hid (fun w' => lz_any (l'.getD (m + 1) 0) w' ht1)
  rw [huI] at LZ
  have SU' := Lib.hid (fun w' (h : Arr 43 .u32 w' A' l') => shiftUp_any A' c' u l' w' h hn'.1 (by omega) hu31)
  have SU := Lib.hid (fun w' (h : Arr 43 .u32 w' A l) => shiftUp_any A c u l w' h hb (by omega) hu31)
  rw [hl'] at SU'
  rw [hl] at SU
  have hrW := (hr.alloc (.cells #[.slice none 0 0] 26)).alloc (.cells #[.slice none 0 0] 26)
  have hrW' := (hr'.alloc (.cells #[.slice none 0 0] 26)).alloc (.cells #[.slice none 0 0] 26)
  obtain ⟨ga, oa, csa, rfl, hga, hca⟩ := hrW' (by intro e; simp [e] at hl')
  have hxc' : ((w.alloc (.cells #[.slice none 0 0] 26)).alloc (.cells #[.slice none 0 0] 26)).cell? ⟨ga, oa + (m + 1), none⟩ = some (.int .u32 (l'.getD (m + 1) 0 : Nat)) := by rw [hga.cell]; exact hca _ (by omega)
  clear hga hca hr hr'
  have h4 : Blk ((w.alloc (.cells #[.slice none 0 0] 26)).alloc (.cells #[.slice none 0 0] 26)) w.heap.size 26 #[.slice none 0 0] := (Blk.new w 26 _).alloc _
  have h5 : Blk ((w.alloc (.cells #[.slice none 0 0] 26)).alloc (.cells #[.slice none 0 0] 26)) (w.heap.size + 1) 26 #[.slice none 0 0] := by
    have := Blk.new (w.alloc (.cells #[.slice none 0 0] 26)) 26 #[.slice none 0 0]
    simpa using this
  have bW : Below w.heap.size w ((w.alloc (.cells #[.slice none 0 0] 26)).alloc (.cells #[.slice none 0 0] 26)) := below_step (below_new _ _) (below_new _ _)
  generalize l'.getD (m + 1) 0 = top at *
  have HYL := Lib.hid hYlt
  have HYG := Lib.hid hYge
  have HX := Lib.hid hX
  clear hYlt hYge hX hu huI
  have hi0 : (0 : Int) ≤ (m : Int) + 1 := by omega
  have hi1 : (m : Int) + 1 < (m : Int) + 2 := by omega
  have hi2 : (m : Int) + 2 - 1 = (m : Int) + 1 := by omega
  have hi3 : ((m : Int) + 1).toNat = m + 1 := by omega
  have hi4 : ¬ ((nq : Int) + (m : Int) + 1 < (m : Int) + 2) := by omega
  go_enter Tryd.func52, Tryd.ntmps52
  go_wp2_with fail
  have hsz : ((w.alloc (.cells #[.slice none 0 0] 26)).alloc (.cells #[.slice none 0 0] 26)).heap.size = w.heap.size + 2 := by simp
  generalize hW : (w.alloc (.cells #[.slice none 0 0] 26)).alloc (.cells #[.slice none 0 0] 26) = W at *
  clear hW hxc'
  refine (LZ.out _).mono ?_
  rintro e w1 ⟨rfl, rfl⟩
  go_wp2_with fail
  refine (SU'.out _ hrW').mono ?_
  rintro e w2 ⟨dl, rfl, hdl, hdb, hdv, hD, b2, hs2⟩
  have hj1 : (m : Int) + 2 ≤ (m : Int) + 2 + 1 := by omega
  have hj2 : (0 : Int) ≤ (m : Int) + 2 := by omega
  go_wp2_with fail
  refine (SU.out _ (hrW.below b2)).mono ?_
  rintro e w3 ⟨rl, rfl, hrl, hrb, hrv, hR, b3, hs3⟩
  -- the blocks
  rw [hsz] at hD hs2
  rw [hs2] at hR hs3
  have hD3 : Blk w3 (w.heap.size + 2) 43 (blkOf .u32 dl) := hD.on b3
  have b23 := below_step b2 b3
  have h4 := h4.on b23
  have h5 := h5.on b23
  have b3' := below_step bW b23
  have hQ0 : Blk (w3.alloc (.cells (blkOf .u32 (List.replicate nq 0)) 43)) (w.heap.size + 2 + 1 + 1) 43 (blkOf .u32 (List.replicate nq 0)) := by rw [← hs3]; exact Blk.new w3 43 _
  have hR0 := hR.alloc (.cells (blkOf .u32 (List.replicate nq 0)) 43)
  have hD0 := hD3.alloc (.cells (blkOf .u32 (List.replicate nq 0)) 43)
  have h40 := h4.alloc (.cells (blkOf .u32 (List.replicate nq 0)) 43)
  have h50 := h5.alloc (.cells (blkOf .u32 (List.replicate nq 0)) 43)
  have b0 := below_step b3' (below_new _ (.cells (blkOf .u32 (List.replicate nq 0)) 43))
  -- the numbers
  obtain ⟨Y, hY⟩ : ∃ Y, Y = val 4294967296 l' * 2 ^ u := ⟨_, rfl⟩
  obtain ⟨X, hXe⟩ : ∃ X, X = val 4294967296 l * 2 ^ u := ⟨_, rfl⟩
  have hYL := HYL.out
  have hYG := HYG.out
  rw [← hY] at hYL hYG hdv
  have hst := long_start (by omega) hrv HX.out hu31 hYG
  rw [← hXe] at hrv
  have hdt : val 4294967296 (dl.take (m + 2)) = Y := by rw [take_fits (by decide) hdl (by rw [hdv]; exact hYL), hdv]
  have hdtop : 1 ≤ (dl.take (m + 2)).getD (m + 1) 0 := by
    rcases Nat.eq_zero_or_pos ((dl.take (m + 2)).getD (m + 1) 0) with h0 | h0
    · exfalso
      have h1 := val_take_succ 4294967296 (dl.take (m + 2)) (m + 1) (by rw [List.length_take]; omega)
      rw [List.take_of_length_le (by rw [List.length_take]; omega), h0, Nat.mul_zero, hdt] at h1
      have h1 : Y = val 4294967296 ((dl.take (m + 2)).take (m + 1)) := h1.trans (Nat.add_zero _)
      have h2 := val_lt (b := 4294967296) (by decide) (l := (dl.take (m + 2)).take (m + 1)) fun x hx => hdb x (List.mem_of_mem_take (List.mem_of_mem_take hx))
      rw [List.length_take, List.length_take, Nat.min_eq_left (by omega), ← h1] at h2
      have h3 : 4294967296 ^ (m + 1) * 1 ≤ 4294967296 ^ (m + 1) * 2147483648 := Nat.mul_le_mul_left _ (by decide)
      rw [Nat.mul_one] at h3
      exact absurd (Nat.lt_of_lt_of_le h2 (Nat.le_trans h3 hYG)) (Nat.lt_irrefl _)
    · exact h0
  have HYL' := Lib.hid hYL
  have HST := Lib.hid hst
  have HDT := Lib.hid hdt
  have HDP := Lib.hid hdtop
  have hfit : val 4294967296 l % val 4294967296 l' < 4294967296 ^ (m + 2) := by
    have h1 := val_lt (b := 4294967296) (by decide) hn'.1
    rw [hl'] at h1
    have h2 : 0 < val 4294967296 l' := by
      rcases Nat.eq_zero_or_pos (val 4294967296 l') with h0 | h0
      · exfalso
        rw [hY, h0, Nat.zero_mul] at hst
        omega
      · exact h0
    exact Nat.lt_trans (Nat.mod_lt _ h2) h1
  have HFIT := Lib.hid hfit
  clear hfit
  have HY := Lib.hid hY
  have HXE := Lib.hid hXe
  have HRV := Lib.hid hrv
  have HDL := Lib.hid hdl
  have HRL := Lib.hid hrl
  have HS3 := Lib.hid hs3
  clear hYL hYG hst hdt hdtop hdv hY hXe hrv hdl hrl HYL HYG HX b2 b3 b23 bW b3' hrW hrW' hR hD3 hD h4 h5 hsz SU SU' LZ hl hl'
  have hnI : ((nq : Int) + (m : Int) + 1 + 1 - ((m : Int) + 2)) = (nq : Int) := by omega
  have hmk : ∀ w, (Instr.makeSlice 22 (.int .i64 ((nq : Int) + (m : Int) + 1 + 1 - ((m : Int) + 2))) (.int .i64 ((nq : Int) + (m : Int) + 1 + 1 - ((m : Int) + 2)))).run Tryd.prog w = .ok (.slice (some ⟨w.heap.size, 0, none⟩) nq nq) (w.alloc (.cells (blkOf .u32 (List.replicate nq 0)) 43)) := fun w => by
    rw [hnI]; exact make_u32 w nq (by omega)
  clear hnI
  go_wp2
  clear hmk
  go_loopw [44] (fun t wr => ∃ (i : Nat) (s ql : List Nat), t = .int .i64 i ∧ i ≤ nq ∧ s.length = nq + m + 1 + 1 ∧ (∀ x ∈ s, x < 4294967296) ∧ ql.length = nq ∧ (∀ x ∈ ql, x < 4294967296) ∧ val 4294967296 s + Y * (4294967296 ^ (nq - i) * val 4294967296 (ql.drop (nq - i))) = X ∧ val 4294967296 (s.drop (nq - i)) < Y ∧
      Blk wr (w.heap.size + 2 + 1) 43 (blkOf .u32 s) ∧ Blk wr (w.heap.size + 2 + 1 + 1) 43 (blkOf .u32 ql) ∧ Blk wr (w.heap.size + 2) 43 (blkOf .u32 dl) ∧ Blk wr w.heap.size 26 #[.slice none 0 0] ∧ Blk wr (w.heap.size + 1) 26 #[.slice none 0 0] ∧ Below w.heap.size w wr) (fun t _ => nq - (intOf t).toNat)
  case atStart => exact ⟨0, rl, List.replicate nq 0, rfl, by omega, HRL.out, hrb, by simp, by simp, by rw [Nat.sub_zero, List.drop_of_length_le (by simp)]; simp [val]; exact HRV.out, HST.out, hR0, hQ0, hD0, h40, h50, b0⟩
  case round =>
    obtain ⟨i, s, ql, rfl, hi, hsl, hsb, hql, hqb, hval, hlt, hR, hQ, hD, h4, h5, hbw⟩ := hrel
    have HS := Lib.hid hsl
    have HQL := Lib.hid hql
    have HV := Lib.hid hval
    have HLT := Lib.hid hlt
    clear hsl hql hval hlt hR0 hQ0 hD0 h40 h50 b0
    by_cases hin : i < nq
    · obtain ⟨low, hlow⟩ : ∃ low, low + 1 + i = nq := ⟨nq - 1 - i, by omega⟩
      have ei : ((nq : Int) - 1 - (i : Int)) = (low : Int) := by omega
      have hk0 : (0 : Int) ≤ (low : Int) := by omega
      have hk1 : (low : Int) < (nq : Int) := by omega
      have hk2 : (low : Int) ≤ (low : Int) + ((m : Int) + 2) + 1 := by omega
      have hk3 : (low : Int) + ((m : Int) + 2) + 1 ≤ (nq : Int) + (m : Int) + 1 + 1 := by omega
      have hk4 : (0 : Int) ≤ (low : Int) + ((m : Int) + 2) + 1 := by omega
      have hts : ((low : Int) + ((m : Int) + 2) + 1).toNat = low + (m + 2) + 1 := by omega
      have hts2 : ((low : Int) + ((m : Int) + 2) + 1 - (low : Int)).toNat = m + 3 := by omega
      have hk5 : ¬ (nq + m + 1 + 1 = low) := by omega
      have hd1 : nq - i = low + 1 := by omega
      have hd2 : nq - (i + 1) = low := by omega
      have hll := HLT.out
      rw [hd1] at hll
      obtain ⟨hz, hlt⟩ := long_seg (B := 4294967296) (Y := Y) (s := s) (low := low) (k := m + 2) (by decide) (by rw [HS.out]; omega) hsb (Nat.le_of_lt HYL'.out) hll
      have hseg : ((s.drop low).take (m + 3)).length = m + 3 := by rw [List.length_take, List.length_drop, HS.out]; omega
      have hcap : (s.take low).length = low := by rw [List.length_take, HS.out]; omega
      have hsgb : ∀ x ∈ (s.drop low).take (m + 3), x < 4294967296 := fun x hx => hsb x (List.mem_of_mem_drop (List.mem_of_mem_take hx))
      have hB0 : Blk wr (w.heap.size + 2 + 1) 43 (blkOf .u32 (s.take low ++ (s.drop low).take (m + 3) ++ s.drop (low + (m + 3)))) := by
        rw [← split3 s low (m + 3) (by rw [HS.out]; omega)]; exact hR
      have hA : ArrO (w.heap.size + 2 + 1) 43 .u32 wr (some ⟨w.heap.size + 2, 0, none⟩) (dl.take (m + 2)) := fun _ => ⟨w.heap.size + 2, 0, blkOf .u32 dl, rfl, by omega, hD, fun j hj => by
        rw [List.length_take, HDL.out] at hj
        rw [Nat.zero_add, blkOf_get .u32 dl (by rw [HDL.out]; omega)]
        simp [List.getD, show j < m + 2 by omega]⟩
      obtain ⟨R, hRe⟩ : ∃ R, R = val 4294967296 ((s.drop low).take (m + 3)) := ⟨_, rfl⟩
      have hqlt : R / Y < 4294967296 := by
        rw [Nat.div_lt_iff_lt_mul (by have := HST.out; omega), hRe]; exact hlt
      have DS := Lib.hid (fun sc cc => divStep_any (some ⟨w.heap.size + 2, 0, none⟩) sc cc m (w.heap.size + 2 + 1) low (R / Y) (R % Y) (s.take low) ((s.drop low).take (m + 3)) (s.drop (low + (m + 3))) (dl.take (m + 2)) wr (by omega) hcap hseg (by rw [List.length_take, HDL.out]; omega) hB0 hsgb (fun x hx => hdb x (List.mem_of_mem_take hx)) hA HDP.out (by rw [HDT.out]; exact hlt) (by rw [HDT.out, hRe]) (by rw [HDT.out, hRe]))
      have hstep := fun r' (h1 : r'.length = m + 3) h2 => long_step (B := 4294967296) (Y := Y) (s := s) (low := low) (k := m + 2) (by rw [HS.out]; omega) (r' := r') hRe h1 h2 hz
      have hqs : val 4294967296 ((ql.set low (R / Y)).drop low) = R / Y + 4294967296 * val 4294967296 (ql.drop (low + 1)) := by
        rw [val_drop _ _ _ (by rw [List.length_set, HQL.out]; omega), getD_set_at ql low _ (by rw [HQL.out]; omega), List.drop_set, if_pos (by omega)]
      have hall : ∀ r' : List Nat, (∀ x ∈ r', x < 4294967296) → ∀ x ∈ s.take low ++ r' ++ s.drop (low + (m + 3)), x < 4294967296 := fun r' h1 x hx => by
        rcases List.mem_append.1 hx with h2 | h2
        · rcases List.mem_append.1 h2 with h3 | h3
          · exact hsb x (List.mem_of_mem_take h3)
          · exact h1 x h3
        · exact hsb x (List.mem_of_mem_drop h2)
      have hlen2 : ∀ r' : List Nat, r'.length = m + 3 → (s.take low ++ r' ++ s.drop (low + (m + 3))).length = nq + m + 1 + 1 := fun r' h1 => by
        rw [List.length_append, List.length_append, hcap, h1, List.length_drop, HS.out]; omega
      have hvn : ∀ r' : List Nat, r'.length = m + 3 → val 4294967296 r' = R % Y → val 4294967296 (s.take low ++ r' ++ s.drop (low + (m + 3))) + Y * (4294967296 ^ (nq - (i + 1)) * val 4294967296 ((ql.set low (R / Y)).drop (nq - (i + 1)))) = X := fun r' h1 h2 => by
        have h3 := (hstep r' h1 h2).1
        have h4 := HV.out
        rw [hd1] at h4
        rw [hd2, hqs, Nat.mul_add, Nat.mul_add, ← Nat.mul_assoc (4294967296 ^ low) 4294967296, ← Nat.pow_succ, ← Nat.add_assoc, h3]
        exact h4
      have hln : ∀ r' : List Nat, r'.length = m + 3 → val 4294967296 r' = R % Y → val 4294967296 ((s.take low ++ r' ++ s.drop (low + (m + 3))).drop (nq - (i + 1))) < Y := fun r' h1 h2 => by
        rw [hd2, (hstep r' h1 h2).2]
        exact Nat.mod_lt _ (by have := HST.out; omega)
      have HVN := Lib.hid hvn
      have HLN := Lib.hid hln
      have HLEN := Lib.hid hlen2
      obtain ⟨q, hqe⟩ : ∃ q, q = R / Y := ⟨_, rfl⟩
      rw [← hqe] at DS hqlt HVN
      clear hvn hln hstep hqs hd1 hd2 hll hz hlt hseg hcap hB0 hA hRe hqe hlen2
      go_wp2_with fail
      rw [show low + (m + 2) + 1 - low = m + 3 by omega]
      refine (DS.out _ _).mono ?_
      rintro e w4 ⟨r', rfl, hrl', hrb', hrv', hB', hO⟩
      have hQ4 := hQ.only hO (by omega)
      have hD4 := hD.only hO (by omega)
      have h44 := h4.only hO (by omega)
      have h54 := h5.only hO (by omega)
      have b4 : Below w.heap.size w w4 := hbw.trans (hO.below (by omega))
      have hfq := hQ4.free low
      have hcq := (hQ4.cell low).trans (blkOf_get .u32 ql (by rw [HQL.out]; omega))
      have hQ5 : Blk (w4.setCell ⟨w.heap.size + 2 + 1 + 1, low, none⟩ (.int .u32 (q : Nat))) (w.heap.size + 2 + 1 + 1) 43 (blkOf .u32 (ql.set low q)) := by rw [← blkOf_set]; exact hQ4.set_ _ _
      have hR5 := hB'.far (p := ⟨w.heap.size + 2 + 1 + 1, low, none⟩) (by show w.heap.size + 2 + 1 ≠ w.heap.size + 2 + 1 + 1; omega) (.int .u32 (q : Nat))
      have hD5 := hD4.far (p := ⟨w.heap.size + 2 + 1 + 1, low, none⟩) (by show w.heap.size + 2 ≠ w.heap.size + 2 + 1 + 1; omega) (.int .u32 (q : Nat))
      have h45 := h44.far (p := ⟨w.heap.size + 2 + 1 + 1, low, none⟩) (by show w.heap.size ≠ w.heap.size + 2 + 1 + 1; omega) (.int .u32 (q : Nat))
      have h55 := h54.far (p := ⟨w.heap.size + 2 + 1 + 1, low, none⟩) (by show w.heap.size + 1 ≠ w.heap.size + 2 + 1 + 1; omega) (.int .u32 (q : Nat))
      have b5 := b4.setCell (p := ⟨w.heap.size + 2 + 1 + 1, low, none⟩) (by show w.heap.size ≤ w.heap.size + 2 + 1 + 1; omega) (.int .u32 (q : Nat))
      clear hR hQ hD h4 h5 hbw hO hQ4 hD4 h44 h54 b4 hB'
      go_wp2
      go_roundw
      case rel => exact ⟨i + 1, s.take low ++ r' ++ s.drop (low + (m + 3)), ql.set low q, by go_num, by omega, HLEN.out r' hrl', hall r' hrb', by rw [List.length_set]; exact HQL.out, set_lt hqb low hqlt, HVN.out r' hrl' hrv', HLN.out r' hrl' hrv', hR5, hQ5, hD5, h45, h55, b5⟩
      case measure => simp [intOf]; omega
    · have hie : i = nq := by omega
      have hv1 := HV.out
      have hv2 := HLT.out
      rw [hie, Nat.sub_self, List.drop_zero, Nat.pow_zero, Nat.one_mul, HY.out, HXE.out] at hv1
      rw [hie, Nat.sub_self, List.drop_zero, HY.out] at hv2
      obtain ⟨hq, hrm⟩ := long_end hv1 hv2
      have T := limbs_any (some ⟨w.heap.size + 2 + 1 + 1, 0, none⟩) nq ql wr (blkOf_arr hQ).row hqb (by rw [HQL.out]; omega)
      rw [HQL.out, hq] at T
      have SD := fun w' (h : Blk w' (w.heap.size + 2 + 1) 43 (blkOf .u32 s)) => shiftDown_any (some ⟨w.heap.size + 2 + 1, 0, none⟩) (nq + m + 1 + 1) u s w' (blkOf_arr h) hsb (by rw [HS.out]; omega) hu31
      rw [HS.out, hrm] at SD
      have HT := Lib.hid T
      have HSD := Lib.hid SD
      clear T SD hv1 hv2 hq hrm hie
      go_wp2_with fail
      refine HT.out.mono ?_
      rintro e w4 ⟨v4, rfl, hN4, b4⟩
      obtain ⟨A4, n4, c4, rfl⟩ := hN4.shape
      have hR4 := hR.on b4
      go_wp2_with fail
      refine (HSD.out _ hR4).mono ?_
      rintro e w5 ⟨sl, rfl, hsl, hsb5, hsv, hS5, b5, hs5⟩
      have T2 := limbs_any (some ⟨w4.heap.size, 0, none⟩) (nq + m + 1 + 1) sl w5 (blkOf_arr hS5).row hsb5 (by omega)
      rw [hsl, hsv] at T2
      have HT2 := Lib.hid T2
      clear T2 hsl hsv hs5
      go_wp2_with fail
      refine HT2.out.mono ?_
      rintro e w6 ⟨v6, rfl, hN6, b6⟩
      obtain ⟨A6, n6, c6, rfl⟩ := hN6.shape
      have hN4 := (hN4.below b5).below b6
      have hN6 := hN6.fit HFIT.out
      have bb := below_step (below_step b4 b5) b6
      have h44 := h4.on bb
      have h54 := h5.on bb
      have hb6 := below_step hbw bb
      have hc4 := h44.cell0
      have hf4 := h44.free 0
      have h45 := h54.far (p := ⟨w.heap.size, 0, none⟩) (by show w.heap.size + 1 ≠ w.heap.size; omega) (.slice A4 n4 c4)
      have hc5 := h45.cell0
      have hf5 := h45.free 0
      have h46 := (h44.set0 (.slice A4 n4 c4)).far (p := ⟨w.heap.size + 1, 0, none⟩) (by show w.heap.size ≠ w.heap.size + 1; omega) (.slice A6 n6 c6)
      have h47 := h45.set0 (.slice A6 n6 c6)
      have hq6 := h46.cell0
      have hq7 := h47.cell0
      go_wp2
      exact bodyPost_ret (v := .tuple #[.agg #[.slice A4 n4 c4], .agg #[.slice A6 n6 c6]]) (by simp [results, Tryd.results52, go_sem, hq6, hq7]) rfl ⟨_, _, rfl, (((hN4.more (by omega)).far h44 0 _).far h45 0 _), ((hN6.far h44 0 _).far h45 0 _), (hb6.setCell (p := ⟨w.heap.size, 0, none⟩) (Nat.le_refl _) _).setCell (p := ⟨w.heap.size + 1, 0, none⟩) (by show w.heap.size ≤ w.heap.size + 1; omega) _⟩
end Go.Proofs.YtobfhidajcnfdaaDoor
