/-
  The contract of Mul.
-/
import Derived.Test.YtobfhidajcnfdaaDoorProdA
namespace Go.Proofs.YtobfhidajcnfdaaDoor
set_option linter.unusedVariables false
set_option maxRecDepth 20000
open Go.RowKit

theorem split3 (s : List Nat) (i m : Nat) (h : i + m ≤ s.length) : s = s.take i ++ (s.drop i).take m ++ s.drop (i + m) := by
  rw [List.append_assoc, ← List.drop_drop, List.take_append_drop, List.take_append_drop]

/-- A row of a product more. -/
theorem mul_row (B : Nat) (s r' : List Nat) (i m cy x y : Nat) (h : i + m < s.length) (hr : r'.length = m) (hz : s.getD (i + m) 0 = 0) (hv : val B r' + B ^ m * cy = val B ((s.drop i).take m) + x * y) :
    val B ((s.take i ++ r' ++ s.drop (i + m)).set (i + m) cy) = val B s + B ^ i * (x * y) := by
  have hl : (s.take i ++ r').length = i + m := by rw [List.length_append, List.length_take, hr]; omega
  have h1 := val_set B (s.take i ++ r' ++ s.drop (i + m)) (i + m) cy (by rw [List.length_append, hl, List.length_drop]; omega)
  have h2 : (s.take i ++ r' ++ s.drop (i + m)).getD (i + m) 0 = s.getD (i + m) 0 := by
    simp only [List.getD]
    rw [List.getElem?_append_right (by omega), hl, Nat.sub_self, List.getElem?_drop, Nat.add_zero]
  rw [h2, hz, Nat.mul_zero, Nat.add_zero] at h1
  rw [h1]
  have e1 : (s.take i).length = i := by rw [List.length_take]; omega
  have e2 : ((s.drop i).take m).length = m := by rw [List.length_take, List.length_drop]; omega
  have h3 : val B s = val B (s.take i) + B ^ i * (val B ((s.drop i).take m) + B ^ m * val B (s.drop (i + m))) := by
    conv => lhs; rw [split3 s i m (by omega), List.append_assoc, val_append, val_append]
    rw [e1, e2]
  rw [h3, List.append_assoc, val_append, val_append, hr, e1, Nat.pow_add, Nat.mul_assoc (B ^ i) (B ^ m) cy]
  have h4 : B ^ i * (val B r' + B ^ m * cy) = B ^ i * (val B ((s.drop i).take m) + x * y) := by rw [hv]
  simp only [Nat.mul_add] at h4 ⊢
  omega

set_option maxHeartbeats 2000000 in
/-- 'prod.Mul'. -/
theorem mul_any (v u : Value) (k m N M : Nat) (w : World) (h : IsN w v k N) (h' : IsN w u m M) (hk : k ≤ 400000) (hm : m ≤ 400000) :
    Calls Tryd.prog 29 #[v, u] w (RetN (k + m) (N * M) w) := by
  have hI := h
  have hI' := h'
  obtain ⟨A, c, l, rfl, hr, hn, hv, hlk, _⟩ := h
  obtain ⟨A', c', l', rfl, hr', hn', hv', hlk', _⟩ := h'
  have L1 := Lib.hid (fun w' (hN : IsN w' (.agg #[.slice A l.length c]) k N) => limbsN_any _ k N w' hN (by omega) l hn hv)
  have L2 := Lib.hid (fun w' (hN : IsN w' (.agg #[.slice A' l'.length c']) m M) => limbsN_any _ m M w' hN (by omega) l' hn' hv')
  have HV := Lib.hid hv
  have HV' := Lib.hid hv'
  clear hv hv'
  go_enter Tryd.func29, Tryd.ntmps29
  go_wp2_with fail
  have hX : Blk (((w.alloc (Obj.cells #[Value.slice A l.length c] 26)).alloc (Obj.cells #[Value.slice A' l'.length c'] 26)).alloc (Obj.cells #[Value.slice none 0 0] 26)) w.heap.size 26 #[.slice A l.length c] := ((Blk.new w 26 _).alloc _).alloc _
  have hY : Blk (((w.alloc (Obj.cells #[Value.slice A l.length c] 26)).alloc (Obj.cells #[Value.slice A' l'.length c'] 26)).alloc (Obj.cells #[Value.slice none 0 0] 26)) (w.heap.size + 1) 26 #[.slice A' l'.length c'] := by
    have := (Blk.new (w.alloc (Obj.cells #[Value.slice A l.length c] 26)) 26 #[.slice A' l'.length c']).alloc (Obj.cells #[Value.slice none 0 0] 26)
    simpa using this
  have hR : Blk (((w.alloc (Obj.cells #[Value.slice A l.length c] 26)).alloc (Obj.cells #[Value.slice A' l'.length c'] 26)).alloc (Obj.cells #[Value.slice none 0 0] 26)) (w.heap.size + 1 + 1) 26 #[.slice none 0 0] := by
    have := Blk.new ((w.alloc (Obj.cells #[Value.slice A l.length c] 26)).alloc (Obj.cells #[Value.slice A' l'.length c'] 26)) 26 #[.slice none 0 0]
    simpa using this
  have hN := ((hI.alloc (Obj.cells #[Value.slice A l.length c] 26)).alloc (Obj.cells #[Value.slice A' l'.length c'] 26)).alloc (Obj.cells #[Value.slice none 0 0] 26)
  have hM := ((hI'.alloc (Obj.cells #[Value.slice A l.length c] 26)).alloc (Obj.cells #[Value.slice A' l'.length c'] 26)).alloc (Obj.cells #[Value.slice none 0 0] 26)
  have bW : Below w.heap.size w (((w.alloc (Obj.cells #[Value.slice A l.length c] 26)).alloc (Obj.cells #[Value.slice A' l'.length c'] 26)).alloc (Obj.cells #[Value.slice none 0 0] 26)) := below_step (below_step (below_new _ _) (below_new _ _)) (below_new _ _)
  generalize hW : ((w.alloc (Obj.cells #[Value.slice A l.length c] 26)).alloc (Obj.cells #[Value.slice A' l'.length c'] 26)).alloc (Obj.cells #[Value.slice none 0 0] 26) = W at *
  clear hW hI hI'
  have tok1 : True := trivial
  have tok2 : True := trivial
  go_region_held3 (fun w' => w'.cell? ⟨w.heap.size, 0, none⟩ = some (.slice A l.length c) ∧ w'.cell? ⟨w.heap.size + 1, 0, none⟩ = some (.slice A' l'.length c'))
    (first | exact keep2 hX hY (below_drew _) | exact keep2 hX hY hw1 | exact keep2 hX hY hw2)
    (first
      | (go_at_call 42; have _t := tok1; clear tok1; refine (L1.out _ (hN.below (below_drew _))).mono ?_; rintro e x1 ⟨s1, rfl, ⟨A1, c1, rfl, hr1, hc1⟩, y1⟩; have hw1 : Below W.heap.size W x1 := below_step (below_drew _) y1)
      | (go_at_call 42; have _t := tok2; clear tok2; refine (L2.out _ (hM.below hw1)).mono ?_; rintro e x2 ⟨s2, rfl, ⟨A2, c2, rfl, hr2, hc2⟩, y2⟩; have hw2 : Below W.heap.size W x2 := below_step hw1 y2))
  have hr1 := hr1.below y2
  have hR2 := hR.on hw2
  have bW2 := below_step bW hw2
  clear hX hY hR hN hM bW hw1 hw2 y1 y2 L1 L2 hr hr'
  have hmk : ∀ w, (Instr.makeSlice 22 (.int .i64 ((l.length : Int) + (l'.length : Int))) (.int .i64 ((l.length : Int) + (l'.length : Int)))).run Tryd.prog w = .ok (.slice (some ⟨w.heap.size, 0, none⟩) (l.length + l'.length) (l.length + l'.length)) (w.alloc (.cells (blkOf .u32 (List.replicate (l.length + l'.length) 0)) 43)) := fun w => by
    rw [← make_u32 w (l.length + l'.length) (by omega)]; simp
  go_wp2
  clear hmk
  have hgr : w.heap.size ≤ x2.heap.size := bW2.size
  go_loopw [21] (fun t wr => ∃ (i : Nat) (s : List Nat), t = .int .i64 i ∧ i ≤ l.length ∧ s.length = l.length + l'.length ∧ (∀ x ∈ s, x < 4294967296) ∧ (∀ q, i + l'.length ≤ q → s.getD q 0 = 0) ∧ val 4294967296 s = val 4294967296 (l.take i) * M ∧ Blk wr x2.heap.size 43 (blkOf .u32 s) ∧ Below x2.heap.size x2 wr ∧ wr.heap.size = x2.heap.size + 1) (fun t _ => l.length - (intOf t).toNat)
  case atStart => exact ⟨0, List.replicate (l.length + l'.length) 0, rfl, by omega, by simp, by simp, fun q _ => by simp [List.getD, List.getElem?_replicate]; split <;> rfl, by simp [val, val_replicate], Blk.new x2 43 _, below_new _ _, by simp⟩
  case round =>
    obtain ⟨i, s, rfl, hi, hsl, hsb, hsz, hval, hB, hbw, hws⟩ := hrel
    have HS := Lib.hid hsl
    have HZ := Lib.hid hsz
    have HVs := Lib.hid hval
    have HWS := Lib.hid hws
    clear hsl hsz hval hws
    by_cases hil : i < l.length
    · obtain ⟨ad, rfl, hab, hxc⟩ := (hr1.below hbw).row.at_ hil
      have hx1 := getD_lt (b := 4294967296) (by decide) hn.1 i
      have hA2 : ArrO x2.heap.size 43 .u32 wr A2 l' := hr2.other hbw (Nat.le_refl _)
      have hadb : ad.block ≠ x2.heap.size := by
        obtain ⟨g', o', cs', e', hb', _⟩ := hr1 (by intro e; simp [e] at hil)
        injection e' with e'
        subst e'
        have := hb'.lt
        show g' ≠ _
        omega
      have hB0 : Blk wr x2.heap.size 43 (blkOf .u32 (s.take i ++ (s.drop i).take l'.length ++ s.drop (i + l'.length))) := by
        rw [← split3 s i l'.length (by rw [HS.out]; omega)]; exact hB
      obtain ⟨x, hxe⟩ : ∃ x, x = l.getD i 0 := ⟨_, rfl⟩
      rw [← hxe] at hxc hx1
      have hrow := fun r' cy (hr : r'.length = l'.length) hv => mul_row 4294967296 s r' i l'.length cy x (val 4294967296 l') (by rw [HS.out]; omega) hr (HZ.out _ (Nat.le_refl _)) hv
      have hfinal : val 4294967296 s + 4294967296 ^ i * (x * val 4294967296 l') = val 4294967296 (l.take (i + 1)) * M := by
        rw [HVs.out, val_take_next, Nat.add_mul, ← hxe, HV'.out, Nat.mul_assoc]
      rw [hfinal] at hrow
      have HROW := Lib.hid hrow
      clear hrow hfinal hxe
      have hi0 : (0 : Int) ≤ (i : Int) := by omega
      have hi1 : (i : Int) < (l.length : Int) := by omega
      have hi2 : (i : Int) ≤ (i : Int) + (l'.length : Int) := by omega
      have hi3 : (i : Int) + (l'.length : Int) ≤ (l.length : Int) + (l'.length : Int) := by omega
      have hi4 : (i : Int) + (l'.length : Int) < (l.length : Int) + (l'.length : Int) := by omega
      have hi5 : ¬ (l.length + l'.length = i) := by omega
      have hi6 : (0 : Int) ≤ (i : Int) + (l'.length : Int) := by omega
      have tok1 : True := trivial
      have hcap : (s.take i).length = i := by rw [List.length_take, HS.out]; omega
      have hmid : ((s.drop i).take l'.length).length = l'.length := by rw [List.length_take, List.length_drop, HS.out]; omega
      have hmb : ∀ q ∈ (s.drop i).take l'.length, q < 4294967296 := fun q hq => hsb q (List.mem_of_mem_drop (List.mem_of_mem_take hq))
      have AT := Lib.hid (fun w' c c'' (hB' : Blk w' x2.heap.size 43 (blkOf .u32 (s.take i ++ (s.drop i).take l'.length ++ s.drop (i + l'.length)))) (hA' : ArrO x2.heap.size 43 .u32 w' A2 l') =>
        addTimes_any (some ⟨x2.heap.size, i, none⟩) A2 c c'' l'.length x x2.heap.size i (s.take i) ((s.drop i).take l'.length) (s.drop (i + l'.length)) l' w' (fun _ => rfl) (by omega) hcap hmid rfl hB' hmb hn'.1 hx1 hA')
      have hws : IntKind.i64.wrap ((i : Int) + (l'.length : Int)) = (i : Int) + (l'.length : Int) := by rw [IntKind.wrap_i64]; omega
      have hts : ((i : Int) + (l'.length : Int)).toNat = i + l'.length := by omega
      have hts2 : ((i : Int) + (l'.length : Int) - (i : Int)).toNat = l'.length := by omega
      clear hcap hmid hmb
      go_wp2
      have hadi : (ad.add i).block ≠ x2.heap.size := by rw [add_block]; exact hadb
      go_region_held3 (fun w' => w'.cell? (ad.add i) = some (.int .u32 (x : Nat)))
        (first | exact hxc | exact hk1 | exact cell_off hk1 hadi)
        (first
          | (go_at_call 50; have _t := tok1; clear tok1; refine (AT.out _ _ _ ?h5 ?h6).mono ?_; (case h5 => exact hB0); (case h6 => exact hA2.below (below_drew _)); rintro e y1 ⟨r', cy, rfl, hcy, hrl, hrb, hrv, hrB, hrO⟩; have HRL := Lib.hid hrl; have HRV := Lib.hid hrv; clear hrl hrv; have hk1 : y1.cell? (ad.add i) = some (.int .u32 (x : Nat)) := (hrO.cell hadi).trans hxc; have hsc : y1.cell? ⟨x2.heap.size, i + l'.length, none⟩ = some (.int .u32 ((s.take i ++ r' ++ s.drop (i + l'.length)).getD (i + l'.length) 0 : Nat)) := ((hrB.cell _).trans (blkOf_get .u32 _ (by rw [List.length_append, List.length_append, List.length_take, List.length_drop, HRL.out, HS.out]; omega))); have hsf := hrB.free (i + l'.length)))
      have hBn : Blk (y1.setCell ⟨x2.heap.size, i + l'.length, none⟩ (.int .u32 (cy : Nat))) x2.heap.size 43 (blkOf .u32 ((s.take i ++ r' ++ s.drop (i + l'.length)).set (i + l'.length) cy)) := by
        rw [← blkOf_set]; exact hrB.set_ _ _
      have hOn := hrO.set_ (i + l'.length) (.int .u32 (cy : Nat))
      have hbn : Below x2.heap.size x2 (y1.setCell ⟨x2.heap.size, i + l'.length, none⟩ (.int .u32 (cy : Nat))) := hbw.trans ((below_drew wr).mono (by rw [HWS.out]; omega) |>.trans (hOn.below (Nat.le_refl _)))
      have hsn : (y1.setCell ⟨x2.heap.size, i + l'.length, none⟩ (.int .u32 (cy : Nat))).heap.size = x2.heap.size + 1 := by rw [hOn.size]; exact HWS.out
      have HSN := Lib.hid hsn
      clear hsn hsc hsf hk1 hws hts hts2
      have hlen2 : (s.take i ++ r' ++ s.drop (i + l'.length)).length = l.length + l'.length := by
        rw [List.length_append, List.length_append, List.length_take, List.length_drop, HRL.out, HS.out]; omega
      have hall : ∀ q ∈ s.take i ++ r' ++ s.drop (i + l'.length), q < 4294967296 := by
        intro q hq
        rcases List.mem_append.1 hq with h1 | h1
        · rcases List.mem_append.1 h1 with h2 | h2
          · exact hsb q (List.mem_of_mem_take h2)
          · exact hrb q h2
        · exact hsb q (List.mem_of_mem_drop h1)
      have hz2 : ∀ q, i + 1 + l'.length ≤ q → ((s.take i ++ r' ++ s.drop (i + l'.length)).set (i + l'.length) cy).getD q 0 = 0 := by
        intro q hq
        have hpre : (s.take i ++ r').length = i + l'.length := by rw [List.length_append, List.length_take, HRL.out, HS.out]; omega
        rw [List.getD, List.getElem?_set_ne (by omega), List.getElem?_append_right (by omega), hpre, List.getElem?_drop, show i + l'.length + (q - (i + l'.length)) = q by omega]
        exact HZ.out q (by omega)
      have HL2 := Lib.hid hlen2
      have HZ2 := Lib.hid hz2
      clear hlen2 hz2
      go_wp2
      go_roundw
      case rel => exact ⟨i + 1, (s.take i ++ r' ++ s.drop (i + l'.length)).set (i + l'.length) cy, by go_num, by omega, by rw [List.length_set]; exact HL2.out, set_lt hall _ hcy, HZ2.out, HROW.out r' cy HRL.out HRV.out, hBn, hbn, HSN.out⟩
      case measure => simp [intOf]; omega
    · have hfin : val 4294967296 s = N * M := by rw [HVs.out, List.take_of_length_le (by omega), HV.out]
      have T := limbs_any (some ⟨x2.heap.size, 0, none⟩) (l.length + l'.length) s wr (blkOf_arr hB).row hsb (by rw [HS.out]; omega)
      rw [HS.out, hfin] at T
      have hR := hR2.on hbw
      have HT := Lib.hid T
      clear hfin T
      go_wp2_with fail
      refine HT.out.mono ?_
      rintro e y1 ⟨v, rfl, hN, hb1⟩
      obtain ⟨A3, n3, c3, rfl⟩ := hN.shape
      have hR1 := hR.on hb1
      have hc0 := hR1.cell0
      have hf0 := hR1.free 0
      have hq := (hR1.set0 (.slice A3 n3 c3)).cell0
      go_wp2
      exact bodyPost_ret (v := .agg #[.slice A3 n3 c3]) (by simp [results, Tryd.results29, go_sem, hq]) rfl ⟨_, rfl, (hN.more (by omega)).far hR1 0 _, (below_step (bW2.trans (hbw.mono hgr)) hb1).setCell (by show w.heap.size ≤ w.heap.size + 1 + 1; omega) _⟩
end Go.Proofs.YtobfhidajcnfdaaDoor
