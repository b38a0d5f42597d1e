/-
  digits.Parse: its contract.
-/
import Derived.Test.YtobfhidajcnfdaaDoorParseA
import Derived.Test.YtobfhidajcnfdaaDoorKept
import Derived.Test.YtobfhidajcnfdaaDoorTakeB
namespace Go.Proofs.YtobfhidajcnfdaaDoor
set_option linter.unusedVariables false
set_option maxRecDepth 20000
open Go.RowKit

/-- It answers a number, and an error's number. -/
def RetPr (k N : Nat) (er : Int) (w : World) (e : Ending) (w' : World) : Prop := ∃ v, e = .returned (.tuple #[v, .int .i64 er]) ∧ IsN w' v k N ∧ Below w.heap.size w w'

theorem parse_big (s : ByteArray) (w : World) (k : Nat) (h : 10000 < s.size) (hs : s.size ≤ 1000000) : Calls Tryd.prog 13 #[.string s] w (RetPr k 0 4 w) := by
  have hB := Blk.new w 26 #[.slice none 0 0]
  have hc := hB.cell0
  have hf := hB.free 0
  have hq := (hB.set0 (.slice none 0 0)).cell0
  go_enter Tryd.func13, Tryd.ntmps13
  go_wp2
  exact bodyPost_ret (v := .tuple #[.agg #[.slice none 0 0], .int .i64 4]) (by simp [results, Tryd.results13, go_sem, hq]) rfl ⟨_, rfl, isN_zero _ _, below_new w _⟩

theorem parse_form (s : ByteArray) (w : World) (k : Nat) (hs : s.size ≤ 10000) (hd : ¬ Decimal s.data.toList) : Calls Tryd.prog 13 #[.string s] w (RetPr k 0 3 w) := by
  have hB := Blk.new w 26 #[.slice none 0 0]
  have hc := hB.cell0
  have hf := hB.free 0
  have hq := (hB.set0 (.slice none 0 0)).cell0
  have D := Lib.hid (fun W => isDec s W false (by omega) ⟨(fun h => by cases h), fun h => absurd h hd⟩)
  clear hd
  go_enter Tryd.func13, Tryd.ntmps13
  go_wp2_with fail
  refine (D.out _).mono ?_
  rintro e w1 ⟨rfl, rfl⟩
  go_wp2
  exact bodyPost_ret (v := .tuple #[.agg #[.slice none 0 0], .int .i64 3]) (by simp [results, Tryd.results13, go_sem, hq]) rfl ⟨_, rfl, isN_zero _ _, below_new w _⟩

theorem keep2n {W w' : World} {g1 g2 : Nat} {a b : Value} (h1 : Blk W g1 26 #[a]) (h2 : Blk W g2 26 #[b]) (hb : Below W.heap.size W w') : w'.cell? ⟨g1, 0, none⟩ = some a ∧ w'.cell? ⟨g2, 0, none⟩ = some b := ⟨(h1.on hb).cell0, (h2.on hb).cell0⟩

/-- What a round of Parse finds. -/
def ParseAt (s : ByteArray) (w : World) (g1 g2 g3 : Nat) (A1 : Option Addr) (n1 c1 : Nat) (i : Nat) (wr : World) : Prop :=
  ∃ A n c, Blk wr g1 26 #[.slice none 0 0] ∧ Blk wr g2 26 #[.slice A1 n1 c1] ∧ Blk wr g3 26 #[.slice A n c] ∧ IsN wr (.agg #[.slice A1 n1 c1]) 2 1000000000 ∧ IsN wr (.agg #[.slice A n c]) 1112 (decVal (s.data.toList.take i)) ∧ Below w.heap.size w wr

set_option maxHeartbeats 4000000 in
theorem parse_ok (s : ByteArray) (w : World) (hs : s.size ≤ 10000) (hd : Decimal s.data.toList) : Calls Tryd.prog 13 #[.string s] w (RetPr 1112 (decVal s.data.toList) 0 w) := by
  have hB := Blk.new w 26 #[.slice none 0 0]
  have D := Lib.hid (fun W => isDec s W true (by omega) ⟨fun _ => hd, fun _ => rfl⟩)
  have HD := Lib.hid hd.2.1
  have hl : s.data.toList.length = s.size := Array.length_toList
  have HL := Lib.hid hl
  clear hd hl
  go_enter Tryd.func13, Tryd.ntmps13
  go_wp2_with fail
  refine (D.out _).mono ?_
  rintro e w1 ⟨rfl, rfl⟩
  go_wp2_with fail
  refine (of_any 1000000000 _ (by decide)).mono ?_
  rintro e w2 ⟨v2, rfl, hb2, y2⟩
  obtain ⟨A1, n1, c1, rfl⟩ := hb2.shape
  have hX1 := Blk.over y2
  have hX2 := Blk.new w2 26 #[.slice A1 n1 c1]
  have hs2 : w.heap.size + 1 ≤ w2.heap.size := by have := y2.size; simpa using this
  have hx1 : Blk ((w2.alloc (.cells #[.slice A1 n1 c1] 26)).alloc (.cells #[.slice none 0 0] 26)) w.heap.size 26 #[.slice none 0 0] := (hX1.alloc _).alloc _
  have hx2 : Blk ((w2.alloc (.cells #[.slice A1 n1 c1] 26)).alloc (.cells #[.slice none 0 0] 26)) w2.heap.size 26 #[.slice A1 n1 c1] := hX2.alloc _
  have hx3 : Blk ((w2.alloc (.cells #[.slice A1 n1 c1] 26)).alloc (.cells #[.slice none 0 0] 26)) (w2.heap.size + 1) 26 #[.slice none 0 0] := by
    have := Blk.new (w2.alloc (.cells #[.slice A1 n1 c1] 26)) 26 #[.slice none 0 0]
    simpa using this
  have hbb := (hb2.alloc (.cells #[.slice A1 n1 c1] 26)).alloc (.cells #[.slice none 0 0] 26)
  have hbl : Below w.heap.size w ((w2.alloc (.cells #[.slice A1 n1 c1] 26)).alloc (.cells #[.slice none 0 0] 26)) := below_step (below_step (below_step (below_new _ _) y2) (below_new _ _)) (below_new _ _)
  have H0 : ParseAt s w w.heap.size w2.heap.size (w2.heap.size + 1) A1 n1 c1 0 ((w2.alloc (.cells #[.slice A1 n1 c1] 26)).alloc (.cells #[.slice none 0 0] 26)) := ⟨none, 0, 0, hx1, hx2, hx3, hbb, isN_zero _ _, hbl⟩
  have HH := Lib.hid H0
  clear H0 hx1 hx2 hx3 hbb hbl hX1 hX2 hb2 y2 hB
  go_wp2
  go_loopw [0] (fun v wr => ∃ i : Nat, i ≤ s.size ∧ Aside (i = 0 ∨ (s.size - i) % 9 = 0) ∧ v = .string (s.extract i s.size) ∧ ParseAt s w w.heap.size w2.heap.size (w2.heap.size + 1) A1 n1 c1 i wr) (fun v _ => match v with | .string r => r.size | _ => 0)
  case atStart => exact ⟨0, by omega, .inl rfl, by simp, HH.out⟩
  case round =>
    obtain ⟨i, hi, hi9, rfl, A, n, c, hx1, hx2, hx3, hbase, hnum, hbw⟩ := hrel
    obtain ⟨r, hr⟩ : ∃ r, r = s.extract i s.size := ⟨_, rfl⟩
    have hrs : r.size = s.size - i := by rw [hr, ByteArray.size_extract]; omega
    by_cases hil : i < s.size
    · obtain ⟨m, hm⟩ : ∃ m, (s.size - i - 1) % 9 + 1 = m := ⟨_, rfl⟩
      have hm1 : 1 ≤ m := by omega
      have hm9 : m ≤ 9 := by omega
      have hmi : i + m ≤ s.size := by omega
      have hdata : (r.extract 0 m).data.toList = (s.data.toList.drop i).take m := by
        rw [hr]
        simp only [ByteArray.data_extract, Array.toList_extract, List.extract_eq_take_drop, List.drop_zero, Nat.sub_zero]
        rw [List.take_take, Nat.min_eq_left (by omega)]
      have hgs : (r.extract 0 m).size = m := by rw [ByteArray.size_extract]; omega
      have hdg : Digs (r.extract 0 m).data.toList := by rw [hdata]; exact (HD.out.drop i).take m
      have hG := Lib.hid (fun W => groupValue_any (r.extract 0 m) W hdg (by omega))
      have hgv := decVal_group _ hdg (by rw [Array.length_toList]; show (r.extract 0 m).size ≤ 9; omega)
      have hval : decVal (s.data.toList.take i) * 1000000000 + decVal (r.extract 0 m).data.toList = decVal (s.data.toList.take (i + m)) := by
        rw [hdata, List.take_add, decVal_append, List.length_take, List.length_drop, HL.out, Nat.min_eq_left (by omega)]
        rcases hi9.out with h0 | h0
        · subst h0; simp [decVal]
        · rw [show m = 9 by omega]
      have hi9' : Aside (i + m = 0 ∨ (s.size - (i + m)) % 9 = 0) := .inr (by omega)
      have hfit := decVal_fits (s.data.toList.take (i + m)) (HD.out.take _) 1112 (by rw [List.length_take]; omega)
      have hrest : r.extract m r.size = s.extract (i + m) s.size := by
        rw [hr, ByteArray.extract_extract]
        congr 1
        rw [ByteArray.size_extract]; omega
      have HR := Lib.hid hrest
      have HV := Lib.hid hval
      have HF := Lib.hid hfit
      rw [← hr]
      have hrem : ((r.size : Int) - 1) % 9 + 1 = (m : Int) := by omega
      have hrp : 0 < r.size := by omega
      have hmr : m ≤ r.size := by omega
      have hne : w2.heap.size ≠ w2.heap.size + 1 := by omega
      have hne1 : w.heap.size ≠ w2.heap.size + 1 := by omega
      have hsz9 : r.size ≤ 10000 := by omega
      have hms : m = s.size - i - (r.size - m) := by omega
      clear hval hfit hrest hdata hgs hdg hm hi9 hr hrs hms
      generalize decVal (r.extract 0 m).data.toList = g at *
      generalize decVal (s.data.toList.take i) = V at *
      generalize hV' : decVal (s.data.toList.take (i + m)) = V' at *
      have HVV := Lib.hid hV'
      clear hV'
      go_wp2_with fail
      refine wp_region_kept (fun w' => w'.cell? ⟨w2.heap.size + 1, 0, none⟩ = some (.slice A n c) ∧ w'.cell? ⟨w2.heap.size, 0, none⟩ = some (.slice A1 n1 c1)) (fun i => decide (9 ≤ i)) (by kernel_rfl) (keep2n hx3 hx2 (below_drew _)) (fun hH => ?_)
      refine wpAnyK_take (i := 0) (v := .agg #[.slice A n c]) rfl (by kernel_rfl) (by kernel_rfl) (by kernel_rfl) (by kernel_rfl) (by kernel_rfl) (fun _ _ _ h => h) (Or.inl ⟨by rfl, ?_⟩) hH ?_
      · rintro w' ⟨k1, k2⟩; go_simp
      simp only [Act.put, List.setIfInBounds_toArray]
      refine wpAnyK_take (i := 1) (v := .agg #[.slice A1 n1 c1]) rfl (by kernel_rfl) (by kernel_rfl) (by kernel_rfl) (by kernel_rfl) (by kernel_rfl) (fun _ _ _ h => h) (Or.inl ⟨by rfl, ?_⟩) hH ?_
      · rintro w' ⟨k1, k2⟩; go_simp
      simp only [Act.put]
      refine wpAnyK_take (i := 3) (v := .string r) rfl (by kernel_rfl) (by kernel_rfl) (by kernel_rfl) (by kernel_rfl) (by kernel_rfl) (fun _ _ _ h => h) (Or.inl ⟨by rfl, ?_⟩) hH ?_
      · rintro w' ⟨k1, k2⟩; go_simp
      simp only [Act.put]
      refine wpAnyK_take (i := 4) (v := .int .i64 m) rfl (by kernel_rfl) (by kernel_rfl) (by kernel_rfl) (by kernel_rfl) (by kernel_rfl) (fun _ _ _ h => h) (Or.inl ⟨by rfl, ?_⟩) hH ?_
      · rintro w' ⟨k1, k2⟩; go_simp
      simp only [Act.put]
      refine wpAnyK_take (i := 5) (v := .string (r.extract 0 m)) rfl (by kernel_rfl) (by kernel_rfl) (by kernel_rfl) (by kernel_rfl) (by kernel_rfl) (fun _ _ _ h => h) (Or.inl ⟨by rfl, ?_⟩) hH ?_
      · rintro w' ⟨k1, k2⟩; go_simp
      simp only [Act.put]
      refine wpAnyK_one (i := 2) (by kernel_rfl) rfl (fun Kk hKk => ?_)
      go_simp
      refine (mul_any _ _ 1112 2 V 1000000000 _ (hnum.below (below_drew _)) (hbase.below (below_drew _)) (by decide) (by decide)).mono ?_
      rintro e z1 ⟨s1, rfl, hS1, y1⟩
      obtain ⟨P1, p1, q1, rfl⟩ := hS1.shape
      have hw1 := below_step (below_drew _) y1
      go_wp2_with fail
      refine hKk.out _ _ (keep2n hx3 hx2 hw1) (fun _ => ?_)
      clear hKk Kk
      refine wpAnyK_one (i := 6) (by kernel_rfl) rfl (fun Kk hKk => ?_)
      go_simp
      refine (hG.out _).mono ?_
      rintro e z2 ⟨rfl, rfl⟩
      go_wp2_with fail
      refine hKk.out _ _ (keep2n hx3 hx2 hw1) (fun _ => ?_)
      clear hKk Kk
      refine wpAnyK_one (i := 7) (by kernel_rfl) rfl (fun Kk hKk => ?_)
      go_simp
      refine (of_any g _ (by omega)).mono ?_
      rintro e z3 ⟨s3, rfl, hS3, y3⟩
      obtain ⟨P3, p3, q3, rfl⟩ := hS3.shape
      have hw3 := below_step hw1 y3
      have hS1 := hS1.below y3
      go_wp2_with fail
      refine hKk.out _ _ (keep2n hx3 hx2 hw3) (fun _ => ?_)
      clear hKk Kk
      refine wpAnyK_one (i := 8) (by kernel_rfl) rfl (fun Kk hKk => ?_)
      go_simp
      refine (add_any _ _ 1114 2 (V * 1000000000) g _ hS1 hS3 (by decide) (by decide)).mono ?_
      rintro e z4 ⟨s4, rfl, hS4, y4⟩
      obtain ⟨P4, p4, q4, rfl⟩ := hS4.shape
      have hw4 := below_step hw3 y4
      rw [HV.out] at hS4
      have hS4 := hS4.fit HF.out
      go_wp2_with fail
      refine hKk.out _ _ (keep2n hx3 hx2 hw4) (fun _ => ?_)
      clear hKk Kk
      have k1 := hx1.on hw4
      have k2 := hx2.on hw4
      have k3 := hx3.on hw4
      have kb := hbase.below hw4
      have bb := below_step hbw hw4
      clear hH hw1 hw3 hw4 y1 y3 y4 hS1 hS3 hx1 hx2 hx3 hnum hbase hbw
      have c3 := k3.cell0
      have f3 := k3.free 0
      have hle : w.heap.size ≤ w2.heap.size + 1 := by omega
      refine wpAnyK_last (i := 9) (by kernel_rfl) rfl rfl (fun Kk hKk => ?_)
      go_simp
      refine hKk.out _ _ ?_
      clear hKk Kk
      refine wpAnyK_done (by kernel_rfl) ?_ _
      go_wp2
      go_roundw
      case rel => exact ⟨i + m, hmi, hi9', by rw [HR.out], P4, p4, q4, k1.far (p := ⟨w2.heap.size + 1, 0, none⟩) hne1 _, k2.far (p := ⟨w2.heap.size + 1, 0, none⟩) hne _, k3.set0 _, kb.far k3 0 _, by rw [HVV.out]; exact hS4.far k3 0 _, bb.setCell (p := ⟨w2.heap.size + 1, 0, none⟩) hle _⟩
      case measure => simp; omega
    · obtain rfl : i = s.size := by omega
      have e : s.extract s.size s.size = ⟨#[]⟩ := by
        apply ByteArray.ext
        simp
      have hnum' : IsN wr (.agg #[.slice A n c]) 1112 (decVal s.data.toList) := by
        rw [List.take_of_length_le (by rw [HL.out]; exact Nat.le_refl _)] at hnum
        exact hnum
      rw [← hr]
      have hr0 : r.size = 0 := by omega
      have hc3 := hx3.cell0
      have hc1 := hx1.cell0
      have hf1 := hx1.free 0
      have hq := (hx1.set0 (.slice A n c)).cell0
      clear e hnum hr hrs
      go_wp2
      exact bodyPost_ret (v := .tuple #[.agg #[.slice A n c], .int .i64 0]) (by simp [results, Tryd.results13, go_sem, hq]) rfl ⟨_, rfl, hnum'.far hx1 0 _, hbw.setCell (p := ⟨w.heap.size, 0, none⟩) (Nat.le_refl _) _⟩
end Go.Proofs.YtobfhidajcnfdaaDoor
