/-
  Contracts of Div32 and of the division by one limb.
-/
import Derived.Test.YtobfhidajcnfdaaDoorProdB
namespace Go.Proofs.YtobfhidajcnfdaaDoor
set_option linter.unusedVariables false
set_option maxRecDepth 20000
open Go.RowKit

theorem wrap_u64 {x : Int} (h0 : 0 ≤ x) (h1 : x < 18446744073709551616) : IntKind.u64.wrap x = x := by simp [IntKind.wrap, IntKind.bits, IntKind.signed]; omega
theorem wrap_u32 {x : Int} (h0 : 0 ≤ x) (h1 : x < 4294967296) : IntKind.u32.wrap x = x := by simp [IntKind.wrap, IntKind.bits, IntKind.signed]; omega

set_option maxHeartbeats 1000000 in
/-- 'bits.Div32'. -/
theorem div32_any (hi lo y : Nat) (w : World) (hh : hi < y) (hl : lo < 4294967296) (hy : y < 4294967296) :
    Calls Tryd.prog 60 #[.int .u32 hi, .int .u32 lo, .int .u32 y] w fun e w' => e = .returned (.tuple #[.int .u32 ((lo + 4294967296 * hi) / y : Nat), .int .u32 ((lo + 4294967296 * hi) % y : Nat)]) ∧ ∃ n, w' = w.drewN n := by
  have hy0 : ((y : Int) != 0) = true := by simp; omega
  have hle : ¬ (y ≤ hi) := by omega
  have hjoin := join_u64 lo hi hl (by omega)
  rw [wrap_u64 (x := (hi : Int)) (by omega) (by omega), wrap_u64 (x := (hi : Int) * 4294967296) (by omega) (by omega), wrap_u64 (x := (lo : Int)) (by omega) (by omega)] at hjoin
  obtain ⟨z, hz⟩ : ∃ z, z = lo + 4294967296 * hi := ⟨_, rfl⟩
  rw [← hz] at hjoin
  have hz1 : z < 18446744073709551616 := by omega
  have hqd : z / y < 4294967296 := by rw [Nat.div_lt_iff_lt_mul (by omega)]; rw [hz]; have : (hi + 1) * 4294967296 ≤ y * 4294967296 := Nat.mul_le_mul_right _ hh; omega
  have hrd : z % y < y := Nat.mod_lt _ (by omega)
  rw [← hz]
  clear hz
  go_enter Tryd.func60, Tryd.ntmps60
  go_wp2
  have hwy : IntKind.u64.wrap (y : Int) = (y : Int) := wrap_u64 (by omega) (by omega)
  have hy1 : ((y : Int) == 0) = false := by simp; omega
  have hy2 : ¬ ((y : Int) = 0) := by omega
  have hy3 : ¬ (y = 0) := by omega
  have ht1 : ((z : Int).tdiv (y : Int)) = ((z / y : Nat) : Int) := by rw [Int.tdiv_eq_ediv_of_nonneg (by omega)]; exact (Int.natCast_ediv z y).symm
  have ht2 : ((z : Int).tmod (y : Int)) = ((z % y : Nat) : Int) := by rw [Int.tmod_eq_emod_of_nonneg (by omega)]; exact (Int.natCast_emod z y).symm
  obtain ⟨q, hq⟩ : ∃ q, q = z / y := ⟨_, rfl⟩
  obtain ⟨r, hr⟩ : ∃ r, r = z % y := ⟨_, rfl⟩
  have HQ := Lib.hid hq
  have HR := Lib.hid hr
  rw [← hq] at ht1 hqd
  rw [← hr] at ht2 hrd
  clear hq hr
  have hw1 : IntKind.u64.wrap (q : Int) = (q : Int) := wrap_u64 (by omega) (by omega)
  have hw2 : IntKind.u64.wrap (r : Int) = (r : Int) := wrap_u64 (by omega) (by omega)
  have hw3 : IntKind.u32.wrap (q : Int) = (q : Int) := wrap_u32 (by omega) (by omega)
  have hw4 : IntKind.u32.wrap (r : Int) = (r : Int) := wrap_u32 (by omega) (by omega)
  go_quiet (fail)
  go_wp2
  go_ret2
  exact ⟨by rw [← HQ.out, ← HR.out]; rfl, nq, rfl⟩
theorem set_get_self' (s : List Nat) (i x : Nat) (hi : i < s.length) : (s.set i x).getD i 0 = x := by simp [List.getD, hi]

theorem short_step (B y : Nat) (l s : List Nat) (h x rest : Nat) (hl : h < l.length) (hs : h < s.length) (hx : x = l.getD h 0) (h1 : val B (l.drop (h + 1)) = y * val B (s.drop (h + 1)) + rest) :
    val B (l.drop h) = y * val B ((s.set h ((x + B * rest) / y)).drop h) + (x + B * rest) % y := by
  have a := val_drop B l h hl
  have b := val_drop B (s.set h ((x + B * rest) / y)) h (by rw [List.length_set]; exact hs)
  have hd : (s.set h ((x + B * rest) / y)).drop (h + 1) = s.drop (h + 1) := List.drop_set_of_lt (by omega)
  rw [set_get_self' s h _ hs, hd] at b
  rw [a, b, h1, ← hx]
  have e3 := Nat.mod_add_div (x + B * rest) y
  generalize val B (s.drop (h + 1)) = V at *
  have e4 : B * (y * V) = y * (B * V) := Nat.mul_left_comm B y V
  rw [Nat.mul_add, Nat.mul_add]
  omega

/-- It answers a quotient and what is left. -/
def RetQR (k Q m R : Nat) (w : World) (e : Ending) (w' : World) : Prop := ∃ v u, e = .returned (.tuple #[v, u]) ∧ IsN w' v k Q ∧ IsN w' u m R ∧ Below w.heap.size w w'

theorem one_row (w : World) (t : TypeId) (a : Nat) : Row .u32 (w.alloc (.cells #[.int .u32 (a : Nat)] t)) (some ⟨w.heap.size, 0, none⟩) [a] := by
  refine fun _ => ⟨_, rfl, by simp, fun i hi => ?_⟩
  rw [add_zero_block, (Blk.new w t _).cell]
  match i, hi with
  | 0, _ => rfl

set_option maxHeartbeats 2000000 in
/-- 'divideShort'. -/
theorem divShort_any (A : Option Addr) (c y : Nat) (l : List Nat) (w : World) (hr : Arr 43 .u32 w A l) (hb : ∀ x ∈ l, x < 4294967296) (hn : l.length ≤ 400000) (hy0 : 0 < y) (hy : y < 4294967296) :
    Calls Tryd.prog 51 #[.slice A l.length c, .int .u32 y] w (RetQR l.length (val 4294967296 l / y) 1 (val 4294967296 l % y) w) := by
  have hmk : ∀ w, (Instr.makeSlice 22 (.int .i64 (l.length : Int)) (.int .i64 (l.length : Int))).run Tryd.prog w = .ok (.slice (some ⟨w.heap.size, 0, none⟩) l.length l.length) (w.alloc (.cells (blkOf .u32 (List.replicate l.length 0)) 43)) := fun w => make_u32 w l.length (by omega)
  go_enter Tryd.func51, Tryd.ntmps51
  go_wp2
  clear hmk
  go_loopw [7, 15] (fun rr t wr => ∃ (i rest : Nat) (s : List Nat), t = .int .i64 i ∧ rr = .int .u32 rest ∧ i ≤ l.length ∧ rest < y ∧ s.length = l.length ∧ (∀ x ∈ s, x < 4294967296) ∧ val 4294967296 (l.drop (l.length - i)) = y * val 4294967296 (s.drop (l.length - i)) + rest ∧ Blk wr (w.heap.size + 1 + 1) 43 (blkOf .u32 s) ∧ Below (w.heap.size + 1 + 1) ((w.alloc (Obj.cells #[Value.slice none 0 0] 26)).alloc (Obj.cells #[Value.slice none 0 0] 26)) wr) (fun _ t _ => l.length - (intOf t).toNat)
  case atStart => exact ⟨0, 0, List.replicate l.length 0, rfl, rfl, by omega, by omega, by simp, by simp, by rw [Nat.sub_zero, List.drop_length, List.drop_of_length_le (by simp)]; simp [val], by simpa using Blk.new ((w.alloc (Obj.cells #[Value.slice none 0 0] 26)).alloc (Obj.cells #[Value.slice none 0 0] 26)) 43 (blkOf .u32 (List.replicate l.length 0)), (Below.refl _ _).alloc (by simp) _⟩
  case round =>
    obtain ⟨i, rest, s, rfl, rfl, hi, hrest, hsl, hsb, hval, hB, hbw⟩ := hrel
    have HS := Lib.hid hsl
    have HV := Lib.hid hval
    clear hsl hval
    have hw : Below w.heap.size w wr := (below_step (below_new _ _) (below_new _ _)).trans (hbw.mono (by omega))
    by_cases hil : i < l.length
    · obtain ⟨h, hh⟩ : ∃ h, h + 1 + i = l.length := ⟨l.length - 1 - i, by omega⟩
      have ei : ((l.length : Int) - 1 - (i : Int)) = (h : Int) := by omega
      have EI := Lib.hid ei
      have HH := Lib.hid hh
      have hhl : h < l.length := by omega
      obtain ⟨ad, rfl, hab, hxc⟩ := (hr.below hw).row.at_ hhl
      have hx1 := lt_of_mem_getD hb hhl
      obtain ⟨x, hxe⟩ : ∃ x, x = l.getD h 0 := ⟨_, rfl⟩
      rw [← hxe] at hxc hx1
      have hq1 : (x + 4294967296 * rest) / y < 4294967296 := by
        rw [Nat.div_lt_iff_lt_mul hy0]
        have : (rest + 1) * 4294967296 ≤ y * 4294967296 := Nat.mul_le_mul_right _ hrest
        rw [Nat.mul_comm 4294967296 y]
        omega
      have hr1 : (x + 4294967296 * rest) % y < y := Nat.mod_lt _ hy0
      have hval2 : val 4294967296 (l.drop (l.length - (i + 1))) = y * val 4294967296 ((s.set h ((x + 4294967296 * rest) / y)).drop (l.length - (i + 1))) + (x + 4294967296 * rest) % y := by
        have e1 : l.length - (i + 1) = h := by omega
        have e2 : l.length - i = h + 1 := by omega
        have h1 := HV.out
        rw [e2] at h1
        rw [e1]
        exact short_step 4294967296 y l s h x rest hhl (by rw [HS.out]; exact hhl) hxe h1
      have DV := Lib.hid (fun w' => div32_any rest x y w' hrest hx1 hy)
      have hB2 : ∀ W : World, Blk W (w.heap.size + 1 + 1) 43 (blkOf .u32 s) → Blk (W.setCell ⟨w.heap.size + 1 + 1, h, none⟩ (.int .u32 ((x + 4294967296 * rest) / y : Nat))) (w.heap.size + 1 + 1) 43 (blkOf .u32 (s.set h ((x + 4294967296 * rest) / y))) := fun W hW => by rw [← blkOf_set]; exact hW.set_ _ _
      obtain ⟨q, hqe⟩ : ∃ q, q = (x + 4294967296 * rest) / y := ⟨_, rfl⟩
      obtain ⟨r, hre⟩ : ∃ r, r = (x + 4294967296 * rest) % y := ⟨_, rfl⟩
      rw [← hqe] at hq1 hval2 DV hB2
      rw [← hre] at hr1 hval2 DV
      have K1 := Lib.hid hval2
      have K2 := Lib.hid hB2
      clear hqe hre hval2 hB2 hxe hh
      have hh0 : (0 : Int) ≤ (h : Int) := by omega
      have hh1 : (h : Int) < (l.length : Int) := by omega
      have hgc := fun n => ((show Blk (wr.drewN n) (w.heap.size + 1 + 1) 43 (blkOf .u32 s) from hB).cell h).trans (blkOf_get .u32 s (by rw [HS.out]; exact hhl))
      have hgf := fun n => (show Blk (wr.drewN n) (w.heap.size + 1 + 1) 43 (blkOf .u32 s) from hB).free h
      go_wp2_with fail
      refine (DV.out _).mono ?_
      rintro e w1 ⟨rfl, n1, rfl⟩
      have hB3 := K2.out (wr.drewN n1) hB
      have hb3 := (below_drewN hbw n1).setCell (p := ⟨w.heap.size + 1 + 1, h, none⟩) (Nat.le_refl _) (.int .u32 (q : Nat))
      go_wp2
      go_roundw
      case rel => exact ⟨i + 1, r, s.set h q, by go_num, rfl, by omega, hr1, by rw [List.length_set]; exact HS.out, set_lt hsb h hq1, K1.out, hB3, hb3⟩
      case measure => simp [intOf]; omega
    · have hie : i = l.length := by omega
      have hfin : val 4294967296 l = y * val 4294967296 s + rest := by
        have h1 := HV.out
        rw [hie, Nat.sub_self, List.drop_zero, List.drop_zero] at h1
        exact h1
      have hq : val 4294967296 s = val 4294967296 l / y := by
        rw [hfin, Nat.add_comm, Nat.add_mul_div_left _ _ hy0, Nat.div_eq_of_lt hrest, Nat.zero_add]
      have hrm : rest = val 4294967296 l % y := by
        rw [hfin, Nat.add_comm, Nat.add_mul_mod_self_left, Nat.mod_eq_of_lt hrest]
      have T := limbs_any (some ⟨w.heap.size + 1 + 1, 0, none⟩) l.length s wr (blkOf_arr hB).row hsb (by rw [HS.out]; omega)
      rw [HS.out, hq] at T
      have HT := Lib.hid T
      have T2 := fun w' (hrow : Row .u32 w' (some ⟨w'.heap.size - 1, 0, none⟩) [rest]) => limbs_any (some ⟨w'.heap.size - 1, 0, none⟩) 1 [rest] w' hrow (by intro x hx; simp at hx; omega) (by simp)
      have hr4 : Blk wr w.heap.size 26 #[.slice none 0 0] := (hbw.block _ (by omega)).trans ((Blk.new w 26 #[.slice none 0 0]).alloc _)
      have hr5 : Blk wr (w.heap.size + 1) 26 #[.slice none 0 0] := (hbw.block _ (by omega)).trans (by simpa [Blk] using Blk.new (w.alloc (Obj.cells #[Value.slice none 0 0] 26)) 26 #[.slice none 0 0])
      have HRM := Lib.hid hrm
      have hrv : val 4294967296 [rest] = rest := by simp [val]
      have HRV := Lib.hid hrv
      clear T hfin hq hrm hie hrv T2
      go_wp2_with fail
      refine HT.out.mono ?_
      rintro e w1 ⟨v1, rfl, hQ1, b1⟩
      obtain ⟨A1, n1, c1, rfl⟩ := hQ1.shape
      go_wp2_with fail
      refine (limbs_any (some ⟨w1.heap.size, 0, none⟩) 1 [rest] _ (one_row w1 43 rest) (by intro x hx; simp at hx; omega) (by simp)).mono ?_
      rintro e w2 ⟨v2, rfl, hR2, b2⟩
      rw [HRV.out, HRM.out] at hR2
      obtain ⟨A2, n2, c2, rfl⟩ := hR2.shape
      have b2' := below_step (below_new _ _) b2
      have h4 := (hr4.on b1).on b2'
      have h5 := (hr5.on b1).on b2'
      have hc4 := h4.cell0
      have hf4 := h4.free 0
      have h45 := h5.far (p := ⟨w.heap.size, 0, none⟩) (by show w.heap.size + 1 ≠ w.heap.size; omega) (.slice A1 n1 c1)
      have hc5 := h45.cell0
      have hf5 := h45.free 0
      have h46 := (h4.set0 (.slice A1 n1 c1)).far (p := ⟨w.heap.size + 1, 0, none⟩) (by show w.heap.size ≠ w.heap.size + 1; omega) (.slice A2 n2 c2)
      have h47 := h45.set0 (.slice A2 n2 c2)
      have hq6 := h46.cell0
      have hq7 := h47.cell0
      go_wp2
      exact bodyPost_ret (v := .tuple #[.agg #[.slice A1 n1 c1], .agg #[.slice A2 n2 c2]]) (by simp [results, Tryd.results51, go_sem, hq6, hq7]) rfl ⟨_, _, rfl, (((hQ1.below b2').far h4 0 _).far h45 0 _), ((hR2.far h4 0 _).far h45 0 _), ((below_step (below_step hw b1) b2').setCell (p := ⟨w.heap.size, 0, none⟩) (Nat.le_refl _) _).setCell (p := ⟨w.heap.size + 1, 0, none⟩) (by show w.heap.size ≤ w.heap.size + 1; omega) _⟩
end Go.Proofs.YtobfhidajcnfdaaDoor
