/-
  The walk of the law on numbers, through the layers.
-/
import Derived.Test.YtobfhidajcnfdaaDoorNumsA
import Derived.Test.YtobfhidajcnfdaaDoorKept
import Derived.Test.YtobfhidajcnfdaaDoorLawBytes
import Derived.Deep.DeepCutAuto
import Derived.Deep.CutRange
import Derived.Deep.CutBlock
import Derived.Deep.RegionHeld3
namespace Go.Proofs.YtobfhidajcnfdaaDoor
set_option linter.unusedVariables false
set_option maxRecDepth 100000
open Go.RowKit

theorem keep3n {W w' : World} {g1 g2 g3 : Nat} {a b c : Value} (h1 : Blk W g1 26 #[a]) (h2 : Blk W g2 26 #[b]) (h3 : Blk W g3 26 #[c]) (hb : Below W.heap.size W w') : w'.cell? ⟨g1, 0, none⟩ = some a ∧ w'.cell? ⟨g2, 0, none⟩ = some b ∧ w'.cell? ⟨g3, 0, none⟩ = some c := ⟨(h1.on hb).cell0, (h2.on hb).cell0, (h3.on hb).cell0⟩

theorem keep5n {W w' : World} {g1 g2 g3 g4 g5 : Nat} {a b c d e : Value} (h1 : Blk W g1 26 #[a]) (h2 : Blk W g2 26 #[b]) (h3 : Blk W g3 26 #[c]) (h4 : Blk W g4 26 #[d]) (h5 : Blk W g5 26 #[e]) (hb : Below W.heap.size W w') : w'.cell? ⟨g1, 0, none⟩ = some a ∧ w'.cell? ⟨g2, 0, none⟩ = some b ∧ w'.cell? ⟨g3, 0, none⟩ = some c ∧ w'.cell? ⟨g4, 0, none⟩ = some d ∧ w'.cell? ⟨g5, 0, none⟩ = some e := ⟨(h1.on hb).cell0, (h2.on hb).cell0, (h3.on hb).cell0, (h4.on hb).cell0, (h5.on hb).cell0⟩

set_option maxHeartbeats 16000000 in
theorem cedillaNumbers_walk (a0 : Option Addr) (len0 cap0 : Nat) (w : World) (he : Env w) (h0 : CameR w a0 len0) (hl63 : len0 ≤ maxLen) :
    Calls Tryd.prog 8 #[.slice a0 len0 cap0] w (RetV (.bool true) w) := by
  obtain ⟨i0, hi0, hz0, hz1, hz2⟩ := info_parts nat_info
  have HC := Lib.hid h0
  unfold maxLen at hl63
  clear h0
  go_enter Tryd.func8, Tryd.ntmps8
  go_wp2_with fail
  refine (of_any 0 _ (by decide)).mono ?_
  rintro e w1 ⟨v1, rfl, hS0, y1⟩
  obtain ⟨A5, n5, c5, rfl⟩ := hS0.shape
  go_wp2_with fail
  refine (of_any 1 _ (by decide)).mono ?_
  rintro e w2 ⟨v2, rfl, hP0, y2⟩
  obtain ⟨A6, n6, c6, rfl⟩ := hP0.shape
  have b2 := below_step y1 y2
  have hS0 := hS0.below y2
  have H0 : NumAt w (w2.heap.size + 1 + 1) w2.heap.size (w2.heap.size + 1) (.slice none 0 0) (.slice none 0 0) [] ((w2.alloc (.cells #[.slice A5 n5 c5] 26)).alloc (.cells #[.slice A6 n6 c6] 26)) := by
    refine ⟨A5, n5, c5, A6, n6, c6, (Blk.new w2 26 _).alloc _, ?_, ((hS0.more (by decide)).alloc _).alloc _, (hP0.alloc _).alloc _, NatsAt.nil _ _, World.ownsRow_nil _ _ _ _, (fun n hn => by simp at hn), bel_new (bel_new b2 _) _, by simp⟩
    have := Blk.new (w2.alloc (.cells #[.slice A5 n5 c5] 26)) 26 #[.slice A6 n6 c6]
    simpa using this
  have HH := Lib.hid H0
  have hw2 := b2.size
  clear H0 hS0 hP0 y1 y2
  go_upto_block 0 with fail
  go_cut [3, 4] from 24 to 54 (fun u3 u4 wx => ∃ ns : List Nat, ns.length ≤ 8 ∧ NumAt w (w2.heap.size + 1 + 1) w2.heap.size (w2.heap.size + 1) u3 u4 ns wx)
  case first =>
    go_wp2
    go_loopw [3, 4, 7] (fun u3 u4 t wr => ∃ ns : List Nat, ns.length ≤ 8 ∧ ns.length ≤ len0 ∧ t = .int .i64 (ns.length : Int) ∧ NumAt w (w2.heap.size + 1 + 1) w2.heap.size (w2.heap.size + 1) u3 u4 ns wr) (fun _ _ t _ => 8 - (intOf t).toNat)
    case atStart => exact ⟨[], by simp, by simp, rfl, HH.out⟩
    case round =>
      obtain ⟨ns, hn8, hnl, rfl, A5, n5, c5, A6, n6, c6, hX5, hX6, hS, hP, hall, hby, hbl, hbw, hsz⟩ := hrel
      clear HH
      obtain ⟨i, hi⟩ : ∃ i, ns.length = i := ⟨_, rfl⟩
      by_cases hgo : i < len0 ∧ i < 8
      · obtain ⟨hil, hi8⟩ := hgo
        obtain ⟨ad, A, len, c, l, rfl, hab, hcell, hcame⟩ := HC.out i hil
        obtain ⟨t0, ht0, hl0, F0⟩ := hcame.few
        have hcell := (hbw.cell (by rw [add_block]; exact hab)).trans hcell
        have hil' : (i : Int) < (len0 : Int) := by omega
        have hi8' : (i : Int) < 8 := by omega
        rw [hi]
        clear hcame hab
        go_wp2_with fail
        refine (F0.out _ hbw).mono ?_
        rintro e w4 ⟨v4, rfl, ⟨A0, c0, rfl, hr0, hc0⟩, y4⟩
        go_wp2_with fail
        refine (limbs_any A0 c0 _ _ hr0.row hl0 (by omega)).mono ?_
        rintro e w5 ⟨v5, rfl, hN5, y5⟩
        obtain ⟨B0, m0, d0, rfl⟩ := hN5.shape
        have hN5 := hN5.more ht0
        generalize val 4294967296 t0 = N at *
        have y45 := below_step (below_step y4 y5) (below_new w5 (.cells #[.slice B0 m0 d0] 26))
        have hX8 := Blk.new w5 26 #[.slice B0 m0 d0]
        have hN := hN5.alloc (.cells #[.slice B0 m0 d0] 26)
        obtain ⟨cs, hrow, hels⟩ := hall
        rw [hi] at hrow hS hP
        have hcs : cs.length = i := by have := hrow.1; omega
        have hs5 : w2.heap.size + 1 + 1 ≤ w5.heap.size := by have := y4.size; have := y5.size; omega
        have hku : ∀ k, u4.ownBlock = some k → k < w5.heap.size := fun k hk => by have := (hrow.lt k hk).2; have := y4.size; have := y5.size; omega
        have hX5 := hX5.on y45
        have hX6 := hX6.on y45
        have hS := hS.below y45
        have hP := hP.below y45
        have hrow := own_kept hrow y45
        have hels : ∀ j, j < i → ∃ A n c, cs[j]? = some (.slice A n c) ∧ IsN (w5.alloc (.cells #[.slice B0 m0 d0] 26)) (.agg #[.slice A n c]) 400 (ns.getD j 0) := fun j hj => by
          obtain ⟨A', n', c', e1, e2⟩ := hels j (by omega)
          exact ⟨A', n', c', e1, e2.below y45⟩
        have hby := own_kept hby y45
        have hbw := below_step hbw y45
        have hc8 := hX8.cell0
        have HKU := Lib.hid hku
        have HEL := Lib.hid hels
        have HBL := Lib.hid hbl
        have HCS := Lib.hid hcs
        have HI := Lib.hid hi
        clear y4 y5 y45 F0 hr0 hN5 hcell hl0 hku hels hbl hcs hi HC
        have hrow2 := hrow.alloc (.cells #[.slice B0 m0 d0] 26)
        have hc1 : ∀ (j : Nat) (u : Value), [Value.slice B0 m0 d0][j]? = some u → ((w5.alloc (Obj.cells #[Value.slice B0 m0 d0] 26)).alloc (Obj.cells #[Value.slice B0 m0 d0] 26)).cell? ((⟨w5.heap.size + 1, 0, none⟩ : Addr).add j) = some u := by
          have := cell_one_new (w5.alloc (.cells #[.slice B0 m0 d0] 26)) (.slice B0 m0 d0) 26
          simpa using this
        have HC1 := Lib.hid hc1
        clear hc1
        go_wp2_with (at_builtin; refine wpList_append_own _ rfl (.tmp 40) (.tmp 42) 55 rfl (w2.heap.size + 1 + 1) 26 i0 (.agg #[.slice none 0 0]) 1 24 Tryd.underlying55 hi0 hz0 hz1 hz2 rfl (by decide) _ i cs rfl hrow2 ⟨w5.heap.size + 1, 0, none⟩ 1 1 [.slice B0 m0 d0] rfl rfl HC1.out (by simp [Value.oneCell']) (by unfold maxLen; omega) (by omega) (by simp; omega) ?_; intro v6 w6 hown6 hgrow _)
        have Y6 : Below (w2.heap.size + 1 + 1) ((w5.alloc (.cells #[.slice B0 m0 d0] 26)).alloc (.cells #[.slice B0 m0 d0] 26)) w6 := (Below.refl _ _).grown hgrow (by simp; omega) (fun k hk => (hrow.lt k hk).1)
        have hX5 := (hX5.alloc (.cells #[.slice B0 m0 d0] 26)).below Y6 (by omega)
        have hX6 := (hX6.alloc (.cells #[.slice B0 m0 d0] 26)).below Y6 (by omega)
        have hX8 : Blk w6 w5.heap.size 26 #[.slice B0 m0 d0] := (hgrow.block w5.heap.size (by simp; omega) (fun e => by have := HKU.out _ e.symm; omega)).trans (hX8.alloc (.cells #[.slice B0 m0 d0] 26))
        have hN := (hN.alloc (.cells #[.slice B0 m0 d0] 26)).grown hrow2 hgrow (by decide)
        have hS := (hS.alloc (.cells #[.slice B0 m0 d0] 26)).grown hrow2 hgrow (by decide)
        have hP := (hP.alloc (.cells #[.slice B0 m0 d0] 26)).grown hrow2 hgrow (by decide)
        have hby := own_other (hby.alloc (.cells #[.slice B0 m0 d0] 26)) hrow2 (by decide) hgrow
        have hbw := (bel_new hbw (.cells #[.slice B0 m0 d0] 26)).grown hgrow (by simp; omega) (fun k hk => by have := (hrow.lt k hk).1; omega)
        have hall : NatsAt (w2.heap.size + 1 + 1) w6 v6 (ns ++ [N]) := NatsAt.snoc (by rw [HI.out]; exact hown6) (HCS.out.trans HI.out.symm) (fun j hj => by
          obtain ⟨A', n', c', e1, e2⟩ := HEL.out j (by rw [← HI.out]; exact hj)
          exact ⟨A', n', c', e1, (e2.alloc _).grown hrow2 hgrow (by decide)⟩) (hN.more (by decide))
        have hs6 := Y6.size
        simp only [World.size_alloc] at hs6
        clear hrow hrow2 hown6 hgrow Y6 HKU HEL HC1 hc8
        have hlt8 : w2.heap.size ≠ w5.heap.size ∧ w2.heap.size + 1 ≠ w5.heap.size := by omega
        obtain ⟨g8, hg8⟩ : ∃ g8, g8 = w5.heap.size := ⟨_, rfl⟩
        rw [← hg8] at hX8 hlt8 hs6 hs5 ⊢
        clear hg8
        obtain ⟨hne1, hne2⟩ := hlt8
        have hX8s := hX8.lt
        have E1 := Lib.hid (of_any 1)
        go_wp2_with fail
        refine wp_region_kept (fun w' => w'.cell? ⟨w2.heap.size, 0, none⟩ = some (.slice A5 n5 c5) ∧ w'.cell? ⟨w2.heap.size + 1, 0, none⟩ = some (.slice A6 n6 c6) ∧ w'.cell? ⟨g8, 0, none⟩ = some (.slice B0 m0 d0)) (fun i => decide (8 ≤ i)) (by kernel_rfl) (keep3n hX5 hX6 hX8 (below_drew _)) (fun hH => ?_)
        refine wpAnyK_take (i := 0) (v := .agg #[.slice A5 n5 c5]) rfl (by kernel_rfl) (by kernel_rfl) (by kernel_rfl) (by kernel_rfl) (by kernel_rfl) (fun _ _ _ h => h) (Or.inl ⟨by rfl, ?_⟩) hH ?_
        · rintro w' ⟨k1, k2, k3⟩; go_simp
        simp only [Act.put, List.setIfInBounds_toArray]
        refine wpAnyK_take (i := 1) (v := .agg #[.slice B0 m0 d0]) rfl (by kernel_rfl) (by kernel_rfl) (by kernel_rfl) (by kernel_rfl) (by kernel_rfl) (fun _ _ _ h => h) (Or.inl ⟨by rfl, ?_⟩) hH ?_
        · rintro w' ⟨k1, k2, k3⟩; go_simp
        simp only [Act.put]
        refine wpAnyK_take (i := 3) (v := .agg #[.slice A6 n6 c6]) rfl (by kernel_rfl) (by kernel_rfl) (by kernel_rfl) (by kernel_rfl) (by kernel_rfl) (fun _ _ _ h => h) (Or.inl ⟨by rfl, ?_⟩) hH ?_
        · rintro w' ⟨k1, k2, k3⟩; go_simp
        simp only [Act.put]
        refine wpAnyK_take (i := 4) (v := .agg #[.slice B0 m0 d0]) rfl (by kernel_rfl) (by kernel_rfl) (by kernel_rfl) (by kernel_rfl) (by kernel_rfl) (fun _ _ _ h => h) (Or.inl ⟨by rfl, ?_⟩) hH ?_
        · rintro w' ⟨k1, k2, k3⟩; go_simp
        simp only [Act.put]
        refine wpAnyK_one (i := 2) (by kernel_rfl) rfl (fun Kk hKk => ?_)
        go_simp
        refine (add_any _ _ (41 + i) 40 ns.sum N _ (hS.below (below_drew _)) (hN.below (below_drew _)) (by omega) (by decide)).mono ?_
        rintro e z1 ⟨s1, rfl, hS1, y1⟩
        obtain ⟨P1, p1, q1, rfl⟩ := hS1.shape
        have hw1 := below_step (below_drew _) y1
        go_wp2_with fail
        refine hKk.out _ _ (keep3n hX5 hX6 hX8 hw1) (fun _ => ?_)
        clear hKk Kk
        refine wpAnyK_one (i := 5) (by kernel_rfl) rfl (fun Kk hKk => ?_)
        go_simp
        refine (E1.out _ (by decide)).mono ?_
        rintro e z2 ⟨s2, rfl, hS2, y2⟩
        obtain ⟨P2, p2, q2, rfl⟩ := hS2.shape
        have hw2' := below_step hw1 y2
        go_wp2_with fail
        refine hKk.out _ _ (keep3n hX5 hX6 hX8 hw2') (fun _ => ?_)
        clear hKk Kk
        refine wpAnyK_one (i := 6) (by kernel_rfl) rfl (fun Kk hKk => ?_)
        go_simp
        refine (add_any _ _ 40 2 N 1 _ (hN.below hw2') hS2 (by decide) (by decide)).mono ?_
        rintro e z3 ⟨s3, rfl, hS3, y3⟩
        obtain ⟨P3, p3, q3, rfl⟩ := hS3.shape
        have hw3 := below_step hw2' y3
        go_wp2_with fail
        refine hKk.out _ _ (keep3n hX5 hX6 hX8 hw3) (fun _ => ?_)
        clear hKk Kk
        refine wpAnyK_one (i := 7) (by kernel_rfl) rfl (fun Kk hKk => ?_)
        go_simp
        refine (mul_any _ _ (2 + 41 * i) 41 (prodOf ns) (N + 1) _ (hP.below hw3) (hS3.more (by decide)) (by omega) (by decide)).mono ?_
        rintro e z4 ⟨s4, rfl, hS4, y4⟩
        obtain ⟨P4, p4, q4, rfl⟩ := hS4.shape
        have hw4 := below_step hw3 y4
        go_wp2_with fail
        refine hKk.out _ _ (keep3n hX5 hX6 hX8 hw4) (fun _ => ?_)
        clear hKk Kk
        have hS1 := ((hS1.below y2).below y3).below y4
        have k5 := hX5.on hw4
        have k6 := hX6.on hw4
        have k8 := hX8.on hw4
        have hN4 := hN.below hw4
        have hall4 := hall.on hw4
        have hby4 := own_kept hby hw4
        have hbw4 := below_step hbw hw4
        have hsz4 := hw4.size
        clear hH hw1 hw2' hw3 hw4 y1 y2 y3 y4 hS2 hS3 hX5 hX6 hX8 hN hS hP hall hby hbw E1
        have c5' := k5.cell0
        have f5' := k5.free 0
        have k6' := k6.far (p := ⟨w2.heap.size, 0, none⟩) (by show w2.heap.size + 1 ≠ w2.heap.size; omega) (.slice P1 p1 q1)
        have c6' := k6'.cell0
        have f6' := k6'.free 0
        refine wpAnyK_last (i := 8) (by kernel_rfl) rfl rfl (fun Kk hKk => ?_)
        go_simp
        refine hKk.out _ _ ?_
        clear hKk Kk
        refine wpAnyK_last (i := 9) (by kernel_rfl) rfl rfl (fun Kk hKk => ?_)
        go_simp
        refine hKk.out _ _ ?_
        clear hKk Kk
        refine wpAnyK_done (by kernel_rfl) ?_ _
        have hne5 : w2.heap.size ≠ w2.heap.size + 1 := by omega
        have K5 := (k5.set0 (.slice P1 p1 q1)).far (p := ⟨w2.heap.size + 1, 0, none⟩) hne5 (.slice P4 p4 q4)
        have K6 := k6'.set0 (.slice P4 p4 q4)
        have K8 := (k8.far (p := ⟨w2.heap.size, 0, none⟩) (Ne.symm hne1) (.slice P1 p1 q1)).far (p := ⟨w2.heap.size + 1, 0, none⟩) (Ne.symm hne2) (.slice P4 p4 q4)
        have hS' := (hS1.far k5 0 (.slice P1 p1 q1)).far k6' 0 (.slice P4 p4 q4)
        have hP' := (hS4.far k5 0 (.slice P1 p1 q1)).far k6' 0 (.slice P4 p4 q4)
        have hN' := (hN4.far k5 0 (.slice P1 p1 q1)).far k6' 0 (.slice P4 p4 q4)
        have hall' := (hall4.set_ k5 (by omega) (.slice P1 p1 q1)).set_ k6' (by omega) (.slice P4 p4 q4)
        have hby' := ownsRow_setCell_below (ownsRow_setCell_below hby4 (a := ⟨w2.heap.size, 0, none⟩) (by show w2.heap.size < _; omega) (.slice P1 p1 q1)) (a := ⟨w2.heap.size + 1, 0, none⟩) (by show w2.heap.size + 1 < _; omega) (.slice P4 p4 q4)
        have hbw' := (hbw4.setCell (p := ⟨w2.heap.size, 0, none⟩) hw2 (.slice P1 p1 q1)).setCell (p := ⟨w2.heap.size + 1, 0, none⟩) (by show w.heap.size ≤ w2.heap.size + 1; omega) (.slice P4 p4 q4)
        have hsz' : w2.heap.size + 1 + 1 ≤ ((z4.setCell ⟨w2.heap.size, 0, none⟩ (.slice P1 p1 q1)).setCell ⟨w2.heap.size + 1, 0, none⟩ (.slice P4 p4 q4)).heap.size := by simp only [World.size_setCell]; omega
        clear k5 k6 k6' k8 hS1 hS4 hN4 hall4 hby4 hbw4 c5' f5' c6' f6' hsz4
        generalize (z4.setCell ⟨w2.heap.size, 0, none⟩ (.slice P1 p1 q1)).setCell ⟨w2.heap.size + 1, 0, none⟩ (.slice P4 p4 q4) = Z at *
        obtain ⟨Ab, cb, rfl, hByt, hcb⟩ := own_byt hby'
        have hbl2 := allBytes_len 40 ns HBL.out
        rw [HI.out] at hbl2
        have hblN := hN'.bl_le
        have c8 := K8.cell0
        have hlen9 : (allBytes ns).length ≤ 1000000 := by omega
        have PUT := Lib.hid (put_any Ab (allBytes ns).length cb (allBytes ns) _ 40 N Z hByt rfl hcb hlen9 hN' (by decide))
        generalize hpl : (allBytes ns).length = pl at *
        clear hpl hby' hByt hcb
        go_wp2_with fail
        refine PUT.out.mono ?_
        rintro e Z1 ⟨u1, rfl, hown1, yz⟩
        go_wp2
        go_roundw
        case rel =>
          refine ⟨ns ++ [N], by rw [List.length_append, HI.out]; simp; omega, by rw [List.length_append, HI.out]; simp; omega, by rw [List.length_append, HI.out]; go_num, P1, p1, q1, P4, p4, q4, K5.on yz, K6.on yz, ?_, ?_, hall'.on yz, ?_, ?_, below_step hbw' yz, Nat.le_trans hsz' yz.size⟩
          · rw [List.sum_append, List.sum_singleton, List.length_append, HI.out]
            exact (hS'.below yz).more (by simp; omega)
          · rw [prodOf_snoc, List.length_append, HI.out]
            exact (hP'.below yz).more (by simp; omega)
          · rw [allBytes_snoc]
            exact own_base hown1 hsz'
          · intro n hn
            simp only [List.mem_append, List.mem_singleton] at hn
            rcases hn with hn | rfl
            · exact HBL.out n hn
            · exact hblN
        case measure => simp [intOf]; omega
      · have HNL := Lib.hid (⟨ns, hn8, A5, n5, c5, A6, n6, c6, hX5, hX6, hS, hP, hall, hby, hbl, hbw, hsz⟩ : ∃ ns : List Nat, ns.length ≤ 8 ∧ NumAt w (w2.heap.size + 1 + 1) w2.heap.size (w2.heap.size + 1) u3 u4 ns wr)
        rw [hi]
        clear hX5 hX6 hS hP hall hby hbl
        by_cases h1 : i < len0
        · have h2 : ¬ i < 8 := by omega
          clear hgo
          go_wp2_with fail
          go_meet
          exact HNL.out
        · clear hgo
          go_wp2_with fail
          go_meet
          exact HNL.out
  case rest =>
    obtain ⟨ns, hn8, A5, n5, c5, A6, n6, c6, hX5, hX6, hS, hP, hall, hby, hbl, hbw, hsz⟩ := hcut
    clear HH
    have hS := hS.more (show 41 + ns.length ≤ 49 by omega)
    have hP := hP.more (show 2 + 41 * ns.length ≤ 330 by omega)
    have hbl2 := allBytes_len 40 ns hbl
    have hbS := hS.bl_le
    have hbP := hP.bl_le
    have hds := prodOf_dvd ns
    have hps := prodOf_pos ns
    have hls := le_sum ns
    have hlb2 : (allBytes ns).length ≤ 1312 := by omega
    obtain ⟨S, hSe⟩ : ∃ S, ns.sum = S := ⟨_, rfl⟩
    obtain ⟨PM, hPe⟩ : ∃ PM, prodOf ns = PM := ⟨_, rfl⟩
    rw [hSe] at hS hbS hls
    rw [hPe] at hP hbP hds hps
    have HDS := Lib.hid hds
    have HLS := Lib.hid hls
    have HBL := Lib.hid hbl
    clear hSe hPe hds hls hbl hbl2
    obtain ⟨bs0, hbs0⟩ : ∃ bs0, allBytes ns = bs0 := ⟨_, rfl⟩
    rw [hbs0] at hby hlb2
    have HB0 := Lib.hid hbs0
    clear hbs0
    obtain ⟨Ab, cb, rfl, hByt, hcb⟩ := own_byt hby
    have hpS : (putBytes S).length ≤ 300 := by rw [putBytes_length]; unfold bytesLen; omega
    have hpP : (putBytes PM).length ≤ 2000 := by rw [putBytes_length]; unfold bytesLen; omega
    have hl1 : (bs0 ++ putBytes S).length ≤ 2000 := by rw [List.length_append]; omega
    have tok1 : True := trivial
    have tok2 : True := trivial
    obtain ⟨bs1, hbs1⟩ : ∃ bs1, bs0 ++ putBytes S = bs1 := ⟨_, rfl⟩
    obtain ⟨bs2, hbs2⟩ : ∃ bs2, bs1 ++ putBytes PM = bs2 := ⟨_, rfl⟩
    have PUT1 := fun W (hb : Below wc.heap.size wc W) => put_any Ab bs0.length cb bs0 (.agg #[.slice A5 n5 c5]) 49 S W (hByt.below hb) rfl hcb (by omega) (hS.below hb) (by decide)
    have PUT2 := fun W (hb : Below wc.heap.size wc W) A c (h1 : Byt W A bs1) (h2 : A = none → c = 0) => put_any A bs1.length c bs1 (.agg #[.slice A6 n6 c6]) 330 PM W h1 rfl h2 (by rw [← hbs1]; omega) (hP.below hb) (by decide)
    rw [hbs1] at PUT1
    rw [hbs2] at PUT2
    have hbl2 : 0 < bs2.length := by rw [← hbs2, List.length_append, putBytes_length]; omega
    have hb2e : bs2 = bs0 ++ putBytes S ++ putBytes PM := by rw [hbs1, hbs2]
    have HB2 := Lib.hid hb2e
    have HP1 := Lib.hid PUT1
    have HP2 := Lib.hid PUT2
    clear PUT1 PUT2 hbs1 hbs2 hb2e hl1 hpS hpP
    generalize hpl : bs0.length = pl at *
    clear hpl hByt hcb
    obtain ⟨pl1, hpl1⟩ : ∃ pl1, bs1.length = pl1 := ⟨_, rfl⟩
    obtain ⟨pl2, hpl2⟩ : ∃ pl2, bs2.length = pl2 := ⟨_, rfl⟩
    have HL1 := Lib.hid hpl1
    have HL2 := Lib.hid hpl2
    rw [hpl1] at HP2
    rw [hpl2] at hbl2
    clear hpl1 hpl2
    go_wp2_with fail
    go_region_held3 (fun w' => w'.cell? ⟨w2.heap.size, 0, none⟩ = some (.slice A5 n5 c5) ∧ w'.cell? ⟨w2.heap.size + 1, 0, none⟩ = some (.slice A6 n6 c6))
      (first | exact keep2n hX5 hX6 (below_drew _) | exact keep2n hX5 hX6 hq1 | exact keep2n hX5 hX6 hq2)
      (first
        | (go_at_call 21; have _t := tok1; clear tok1; (with_reducible refine (HP1.out _ (below_drew _)).mono ?_); rintro e x1 ⟨u1, rfl, hown1, y1⟩; obtain ⟨Ab1, cb1, hu1, hByt1, hcb1⟩ := own_byt hown1; rw [HL1.out] at hu1; subst hu1; have hq1 : Below wc.heap.size wc x1 := below_step (below_drew _) y1; clear hown1)
        | (go_at_call 21; have _t := tok2; clear tok2; (with_reducible refine (HP2.out _ hq1 _ _ hByt1 hcb1).mono ?_); rintro e x2 ⟨u2, rfl, hown2, y2⟩; have hq2 : Below wc.heap.size wc x2 := below_step hq1 y2))
    obtain ⟨g2, cap2, hu2, hconv⟩ := own_put' hown2 (by rw [HL2.out]; exact hbl2)
    rw [HL2.out] at hu2 hconv
    subst hu2
    obtain ⟨s, hs⟩ : ∃ s : ByteArray, s = ⟨bs2.toArray⟩ := ⟨_, rfl⟩
    have hsd : s.data.toList = allBytes (ns ++ [S, PM]) := by
      rw [hs, HB2.out, ← HB0.out]
      show allBytes ns ++ putBytes S ++ putBytes PM = _
      rw [show ns ++ [S, PM] = (ns ++ [S]) ++ [PM] by simp, allBytes_snoc, allBytes_snoc]
    rw [← hs] at hconv
    have HSD := Lib.hid hsd
    have hX5 := hX5.on hq2
    have hX6 := hX6.on hq2
    have hS := hS.below hq2
    have hP := hP.below hq2
    have hall := hall.on hq2
    have hbw := below_step hbw hq2
    have hsz := Nat.le_trans hsz hq2.size
    clear hs hsd hown2 hq1 hq2 y1 y2 hByt1 hcb1 HP1 HP2 hlb2 HB0 hby HB2 HL1 HL2 hbl2
    obtain ⟨cs, hrow, hels⟩ := hall
    have hcs : cs.length = ns.length := by have := hrow.1; omega
    obtain ⟨ao, cpa, rfl⟩ := own_form hrow
    have hao : 0 < ns.length → ∃ g, ao = some ⟨g, 0, none⟩ := fun h => by
      obtain ⟨k, hk⟩ : ∃ k, ns.length = k + 1 := ⟨ns.length - 1, by omega⟩
      have h1 := hrow
      rw [hk] at h1
      obtain ⟨g, c', e'⟩ := ownsRow_succ h1
      injection e' with e1
      exact ⟨g, e1⟩
    have HAO := Lib.hid hao
    have HEL := Lib.hid hels
    have HCS := Lib.hid hcs
    have hrow2 := hrow.alloc (.cells #[.slice A5 n5 c5, .slice A6 n6 c6] 26)
    have HC2 := Lib.hid (cell_two_at x2 26 (.slice A5 n5 c5) (.slice A6 n6 c6))
    have cx5 := hX5.cell0
    have cx6 := hX6.cell0
    obtain ⟨i, hi⟩ : ∃ i, ns.length = i := ⟨_, rfl⟩
    have HI := Lib.hid hi
    rw [hi] at hrow hrow2 hn8 ⊢
    clear hao hels hcs hi
    go_wp2_with (at_builtin; refine wpList_append_keeps (w := x2.alloc (.cells #[.slice A5 n5 c5, .slice A6 n6 c6] 26)) rfl (.tmp 62) (.tmp 65) 55 rfl (w2.heap.size + 1 + 1) 26 i0 (.agg #[.slice none 0 0]) 1 24 Tryd.underlying55 hi0 hz0 hz1 hz2 rfl (by decide) (.slice ao i cpa) i cs rfl hrow2 ⟨x2.heap.size, 0, none⟩ 2 2 [.slice A5 n5 c5, .slice A6 n6 c6] rfl rfl HC2.out (by simp [Value.oneCell']) (by unfold maxLen; omega) (by omega) (by simp; omega) ?_; intro v6 w6 hown6 hgrow hold; have Hgrow := Lib.hid hgrow; have Hold := Lib.hid hold; clear hgrow hold; obtain ⟨ao6, cp6, rfl⟩ := own_form hown6)
    have hgrow := Hgrow.out
    have Y6 : Below (w2.heap.size + 1 + 1) (x2.alloc (.cells #[.slice A5 n5 c5, .slice A6 n6 c6] 26)) w6 := (Below.refl _ _).grown hgrow (by simp; omega) (fun k hk => (hrow.lt k hk).1)
    have hX5 := (hX5.alloc (.cells #[.slice A5 n5 c5, .slice A6 n6 c6] 26)).below Y6 (by omega)
    have hX6 := (hX6.alloc (.cells #[.slice A5 n5 c5, .slice A6 n6 c6] 26)).below Y6 (by omega)
    have hS := (hS.alloc (.cells #[.slice A5 n5 c5, .slice A6 n6 c6] 26)).grown hrow2 hgrow (by decide)
    have hP := (hP.alloc (.cells #[.slice A5 n5 c5, .slice A6 n6 c6] 26)).grown hrow2 hgrow (by decide)
    have hbw := (bel_new hbw (.cells #[.slice A5 n5 c5, .slice A6 n6 c6] 26)).grown hgrow (by simp; omega) (fun k hk => by have := (hrow.lt k hk).1; omega)
    have hel6 : ∀ j, j < ns.length → ∃ A n c, cs[j]? = some (.slice A n c) ∧ IsN w6 (.agg #[.slice A n c]) 400 (ns.getD j 0) := fun j hj => by
      obtain ⟨A', n', c', e1, e2⟩ := HEL.out j hj
      exact ⟨A', n', c', e1, (e2.alloc _).grown hrow2 hgrow (by decide)⟩
    have hnew : NatsIn w6 (.slice ao6 (i + 2) cp6) (ns ++ [S, PM]) := (NatsAt.two (by rw [HI.out]; exact hown6) HCS.out hel6 (hS.more (by decide)) (hP.more (by decide))).in_
    have hold : NatsIn w6 (.slice ao i cpa) ns := NatsIn.old (by rw [HI.out]) (fun k hk => Nat.lt_of_lt_of_le (hrow.lt k hk).2 (by have := Y6.size; simp at this; omega)) HAO.out Hold.out hel6
    have HNEW := Lib.hid hnew
    have HOLD := Lib.hid hold
    obtain ⟨ms, hms⟩ : ∃ ms, ms = ns ++ [S, PM] := ⟨_, rfl⟩
    have hml : ms.length = i + 2 := by rw [hms, List.length_append, HI.out]; rfl
    have hmb : ∀ n ∈ ms, bl n ≤ 32 * 400 := by
      intro n hn
      rw [hms] at hn
      simp only [List.mem_append, List.mem_cons, List.not_mem_nil, or_false] at hn
      rcases hn with hn | rfl | rfl
      · have := HBL.out n hn; omega
      · omega
      · omega
    rw [← hms] at HNEW HSD
    have HML := Lib.hid hml
    have HMB := Lib.hid hmb
    clear Hgrow Hold hgrow hrow hrow2 hown6 hel6 hnew hold HEL HCS HAO HC2 Y6 hml hmb hms cx5 cx6 hall
    go_wp2
    go_loopw [9, 68] (fun v t wr => ∃ (j : Nat) (r : ByteArray), j ≤ i + 2 ∧ t = .int .i64 (j : Int) ∧ v = .string r ∧ Aside (r.data.toList = allBytes (ms.drop j)) ∧ Below w6.heap.size w6 wr) (fun _ t _ => i + 2 - (intOf t).toNat)
    case atStart => exact ⟨0, s, by omega, rfl, rfl, by rw [Aside, List.drop_zero]; exact HSD.out, Below.refl _ _⟩
    case round =>
      obtain ⟨j, r, hj, rfl, rfl, hr, hbr⟩ := hrel
      by_cases hjl : j < i + 2
      · have hjm : j < ms.length := by rw [HML.out]; exact hjl
        obtain ⟨ao', cp', e', hget⟩ := HNEW.out.on hbr
        injection e' with e1 e2 e3
        subst e1
        subst e3
        clear e2
        obtain ⟨ge, Ae, ne, ce, rfl, hgel, hce, hNe⟩ := hget j hjm
        have hdrop := allBytes_drop ms j hjm
        have hlen := allBytes_len 400 (ms.drop (j + 1)) (fun n hn => HMB.out n (List.mem_of_mem_drop hn))
        obtain ⟨bs, hpf, hbl', hbv, hb0⟩ := put_form (ms.getD j 0)
        have hbb := hNe.bl_le
        have hdl := dec_len_k hNe (by decide)
        obtain ⟨rs, hrs⟩ : ∃ rs : ByteArray, rs = ⟨(allBytes (ms.drop (j + 1))).toArray⟩ := ⟨_, rfl⟩
        have hrsd : rs.data.toList = allBytes (ms.drop (j + 1)) := by rw [hrs]
        have hrss : rs.size ≤ 100000 := by
          have h1 := congrArg List.length hrsd
          rw [Array.length_toList] at h1
          have h2 : rs.size = (allBytes (ms.drop (j + 1))).length := h1
          rw [List.length_drop, HML.out] at hlen
          rw [h2]
          refine Nat.le_trans hlen (Nat.le_trans (Nat.mul_le_mul_left _ (show i + 2 - (j + 1) ≤ 10 by omega)) (by decide))
        have hrd : r.data.toList = beBytes 4 bs.length ++ bs ++ rs.data.toList := by rw [hr.out, hdrop, hpf, hrsd]
        generalize ms.getD j 0 = N at *
        have hbl3 : bs.length ≤ 100000 := by rw [hbl']; unfold bytesLen; omega
        have TK := Lib.hid (fun W => take_put bs rs r N hbl3 hbv hb0 hrss hrd W)
        obtain ⟨tx, htx⟩ : ∃ tx : ByteArray, tx = ⟨(Lib.decDigits N).toArray⟩ := ⟨_, rfl⟩
        have htd : tx.data.toList = Lib.decDigits N := by rw [htx]
        have hts : tx.size ≤ 10000 := by have := congrArg List.length htd; rw [Array.length_toList] at this; have h9 : tx.size = _ := this; omega
        have PR := fun W => parse_ok tx W hts (htd ▸ decDigits_decimal N)
        rw [htd, decVal_decDigits] at PR
        have HPR := Lib.hid PR
        have TX := fun W v k (h : IsN W v k N) hk (h' : Env W) => text_any v k N W h hk h'
        rw [← htx] at TX
        have HTX := Lib.hid TX
        have HRS := Lib.hid hrsd
        have hk3 : (bs.length + 3) / 4 ≤ 90000 := by omega
        generalize (bs.length + 3) / 4 = kx at *
        clear hdrop hlen hpf hbl' hbv hb0 hbb hdl hrs hrsd hrss hrd hr hbl3 htx htd hts PR TX hget
        have hX11 := Blk.new wr 26 #[.slice Ae ne ce]
        have hN := hNe.alloc (.cells #[.slice Ae ne ce] 26)
        have b11 := bel_new hbr (.cells #[.slice Ae ne ce] 26)
        clear hNe
        go_wp2_with fail
        refine (TK.out _).mono ?_
        rintro e z1 ⟨v1, rfl, hN1, y1⟩
        obtain ⟨B1, m1, d1, rfl⟩ := hN1.shape
        have hX11 := (hX11.on y1).alloc (.cells #[.slice B1 m1 d1] 26)
        have hN := (hN.below y1).alloc (.cells #[.slice B1 m1 d1] 26)
        have hN1 := hN1.alloc (.cells #[.slice B1 m1 d1] 26)
        have hX12 := Blk.new z1 26 #[.slice B1 m1 d1]
        have b12 := bel_new (below_step b11 y1) (.cells #[.slice B1 m1 d1] 26)
        have c12 := hX12.cell0
        clear y1 b11 TK
        go_wp2_with fail
        refine (HTX.out _ _ kx hN1 hk3 ((he.kept hbw).kept b12)).mono ?_
        rintro e z2 ⟨rfl, y2⟩
        go_wp2_with fail
        refine (HPR.out _).mono ?_
        rintro e z3 ⟨v3, rfl, hN3, y3⟩
        obtain ⟨B3, m3, d3, rfl⟩ := hN3.shape
        have y23 := bel_new (below_step y2 y3) (.cells #[.slice B3 m3 d3] 26)
        have hX11 := hX11.on y23
        have hX12 := hX12.on y23
        have hX15 := Blk.new z3 26 #[.slice B3 m3 d3]
        have hN := hN.below y23
        have hN1 := hN1.below y23
        have hN3 := hN3.alloc (.cells #[.slice B3 m3 d3] 26)
        have b15 := below_step b12 y23
        have c11 := hX11.cell0
        have c12 := hX12.cell0
        have c15 := hX15.cell0
        clear y2 y3 y23 b12 HTX HPR
        go_wp2_with fail
        refine (same_any _ _ kx 400 N N true _ hN1 hN (by omega) (by decide) (by simp)).mono ?_
        rintro e z4 ⟨rfl, y4⟩
        have c11 := (hX11.on y4).cell0
        have c15 := (hX15.on y4).cell0
        go_wp2_with fail
        refine (same_any _ _ 1112 400 N N true _ (hN3.below y4) (hN.below y4) (by decide) (by decide) (by simp)).mono ?_
        rintro e z5 ⟨rfl, y5⟩
        go_wp2
        go_roundw
        case rel => exact ⟨j + 1, rs, by omega, by go_num, rfl, HRS.out, below_step (below_step b15 y4) y5⟩
        case measure => simp [intOf]; omega
      · obtain rfl : j = i + 2 := by omega
        have hrn : r.data.toList = [] := by rw [hr.out, List.drop_of_length_le (by rw [HML.out]; exact Nat.le_refl _)]; rfl
        have hrl : r.toList = [] := by rw [ByteArray.toList_eq]; exact hrn
        have HRL := Lib.hid hrl
        have hX5 := hX5.on hbr
        have hX6 := hX6.on hbr
        have hS := hS.below hbr
        have hP := hP.below hbr
        have hold := HOLD.out.on hbr
        have hbw := below_step hbw hbr
        have HOLD := Lib.hid hold
        clear hr hrn hrl hold hbr HNEW HML HMB HSD
        go_wp2
        obtain ⟨W3, hW3⟩ : ∃ W3, W3 = wr := ⟨_, rfl⟩
        subst hW3
        have CMP := Lib.hid (fun W v u k m N (h : IsN W v k S) (h' : IsN W u m N) hk hm => compare_any v u k m S N W h h' hk hm)
        go_loopw [106] (fun t wr => ∃ j : Nat, j ≤ i ∧ t = .int .i64 (j : Int) ∧ Below W3.heap.size W3 wr) (fun t _ => i - (intOf t).toNat)
        case atStart => exact ⟨0, by omega, rfl, Below.refl _ _⟩
        case round =>
          obtain ⟨j, hj, rfl, hbr⟩ := hrel
          by_cases hjl : j < i
          · have hjm : j < ns.length := by rw [HI.out]; exact hjl
            obtain ⟨ao', cp', e', hget⟩ := HOLD.out.on hbr
            injection e' with e1 e2 e3
            subst e1
            subst e3
            clear e2
            obtain ⟨ge, Ae, ne, ce, rfl, hgel, hce, hNe⟩ := hget j hjm
            have hmem : ns.getD j 0 ∈ ns := by
              rw [List.getD_eq_getElem?_getD, List.getElem?_eq_getElem hjm]
              exact List.getElem_mem hjm
            have hdv := HDS.out _ hmem
            have hle := HLS.out _ hmem
            generalize ns.getD j 0 = N at *
            obtain ⟨Q, hQ⟩ := hdv
            have hdiv : PM / (N + 1) = Q := by rw [hQ]; exact Nat.mul_div_cancel_left _ (by omega)
            have hmod : PM % (N + 1) = 0 := by rw [hQ]; exact Nat.mul_mod_right _ _
            have hmq : Q * (N + 1) = PM := by rw [hQ, Nat.mul_comm]
            have HD := Lib.hid hdiv
            have HM := Lib.hid hmod
            have HQM := Lib.hid hmq
            have hcn : 0 ≤ cmpN S N := by
              rcases Nat.lt_or_ge N S with h | h
              · rw [cmpN_gt h]; decide
              · rw [show S = N by omega, cmpN_eq]; decide
            clear hdiv hmod hmq hQ hget hmem hle
            have hX18 := Blk.new wr 26 #[.slice Ae ne ce]
            have hN := hNe.alloc (.cells #[.slice Ae ne ce] 26)
            have hX5 := (hX5.on hbr).alloc (.cells #[.slice Ae ne ce] 26)
            have hX6 := (hX6.on hbr).alloc (.cells #[.slice Ae ne ce] 26)
            have hS := (hS.below hbr).alloc (.cells #[.slice Ae ne ce] 26)
            have hP := ((hP.below hbr).alloc (.cells #[.slice Ae ne ce] 26)).more (show 330 ≤ 400 by decide)
            have bV := bel_new hbr (.cells #[.slice Ae ne ce] 26)
            have E1 := Lib.hid (of_any 1)
            clear hNe
            go_upto_region 25 with fail
            obtain ⟨g18, hg18⟩ : ∃ g18, g18 = wr.heap.size := ⟨_, rfl⟩
            rw [← hg18] at hX18 ⊢
            clear hg18
            generalize wr.alloc (.cells #[.slice Ae ne ce] 26) = V at *
            have hV6 := hX6.lt
            have hV18 := hX18.lt
            go_cut [19, 20, 21] from 107 to 142 (fun s19 s20 s21 wx => QR V Q 0 s19 s20 s21 wx)
            case first =>
              clear hX5 hS bV hbr HOLD HDS HLS HBL HRL CMP hcn HQM hce hgel
              go_region_held3 (fun w' => w'.cell? ⟨w2.heap.size + 1, 0, none⟩ = some (.slice A6 n6 c6) ∧ w'.cell? ⟨g18, 0, none⟩ = some (.slice Ae ne ce))
                ((refine keep2n hX6 hX18 ?_; (repeat (first | exact hw3 | exact hw2 | exact hw1 | exact below_drew _ | exact Below.refl _ _ | refine bel_drew' ?_ | refine bel_new ?_ _ | refine bel_set' ?_ (by omega) _))))
                (first
                  | (go_at_call 27; refine (E1.out _ (by decide)).mono ?_; rintro e x1 ⟨s1, rfl, hS1, y1⟩; (have hw1 : Below V.heap.size V x1 := (by first | exact below_step (below_drew _) y1 | exact below_step (below_step (below_new _ _) (below_drew _)) y1 | exact below_step (below_step (below_step (below_new _ _) (below_new _ _)) (below_drew _)) y1)); have z1 := hw1.size; (first | (have k1 : Blk x1 V.heap.size 26 #[Value.slice none 0 0] := Blk.on (w := (V.alloc (Obj.cells #[Value.slice none 0 0] 26)).drew) (Blk.new V 26 _) y1; have l1 := k1.lt) | (have k1 : Blk x1 V.heap.size 26 #[Value.slice none 0 0] := Blk.on (w := ((V.alloc (Obj.cells #[Value.slice none 0 0] 26)).alloc (Obj.cells #[Value.slice none 0 0] 26)).drew) ((Blk.new V 26 _).alloc _) y1; have k2 : Blk x1 (V.heap.size + 1) 26 #[Value.slice none 0 0] := (by have := Blk.on (w := ((V.alloc (Obj.cells #[Value.slice none 0 0] 26)).alloc (Obj.cells #[Value.slice none 0 0] 26)).drew) (Blk.new (V.alloc (Obj.cells #[Value.slice none 0 0] 26)) 26 _) y1; simpa using this); have l1 := k1.lt; have l2 := k2.lt) | skip))
                  | (go_at_call 28; refine (add_any _ _ 400 2 N 1 _ (hN.below ?h4) ?h3 (by decide) (by decide)).mono ?_; (case h3 => first | exact hS1 | exact hS1.alloc _ | exact (hS1.alloc _).alloc _); (case h4 => (repeat (first | exact hw3 | exact hw2 | exact hw1 | exact below_drew _ | exact Below.refl _ _ | refine bel_drew' ?_ | refine bel_new ?_ _ | refine bel_set' ?_ (by omega) _))); rintro e x2 ⟨s2, rfl, hS2, y2⟩; (have hzx2 : Below x1.heap.size x1 x2 := (by first | exact y2 | exact below_step (below_new _ _) y2 | exact below_step (below_step (below_new _ _) (below_new _ _)) y2)); have hw2 : Below V.heap.size V x2 := below_step hw1 hzx2; have zx2s := hzx2.size; (try have k1 := k1.on hzx2); (try have k2 := k2.on hzx2); (first | (have k3 : Blk x2 x1.heap.size 26 #[Value.slice none 0 0] := Blk.over y2; have lk3 := k3.lt) | (have k3 : Blk x2 x1.heap.size 26 #[Value.slice none 0 0] := Blk.on (w := (x1.alloc (Obj.cells #[Value.slice none 0 0] 26)).alloc (Obj.cells #[Value.slice none 0 0] 26)) ((Blk.new x1 26 _).alloc _) y2; have k4 : Blk x2 (x1.heap.size + 1) 26 #[Value.slice none 0 0] := (by have := Blk.over (w := x1.alloc (Obj.cells #[Value.slice none 0 0] 26)) y2; simpa using this); have lk3 := k3.lt; have lk4 := k4.lt) | skip))
                  | (go_at_call 30; refine (divMod_all _ _ 400 PM (N + 1) 401 _ (hP.below ?h6) ?h5 (by decide) (by decide) (by decide) (by omega)).mono ?_; (case h5 => first | exact hS2.more (by decide) | exact (hS2.more (by decide)).alloc _ | exact ((hS2.more (by decide)).alloc _).alloc _); (case h6 => (repeat (first | exact hw3 | exact hw2 | exact hw1 | exact below_drew _ | exact Below.refl _ _ | refine bel_drew' ?_ | refine bel_new ?_ _ | refine bel_set' ?_ (by omega) _))); rintro e x3 ⟨v3, u3, rfl, hQ3, hR3, y3⟩; rw [HD.out] at hQ3; rw [HM.out] at hR3; obtain ⟨B4, m4, d4, rfl⟩ := hQ3.shape; obtain ⟨B5, m5, d5, rfl⟩ := hR3.shape; (have hzx3 : Below x2.heap.size x2 x3 := (by first | exact y3 | exact below_step (below_new _ _) y3 | exact below_step (below_step (below_new _ _) (below_new _ _)) y3)); have hw3 : Below V.heap.size V x3 := below_step hw2 hzx3; have zx3s := hzx3.size; (try have k1 := k1.on hzx3); (try have k2 := k2.on hzx3); (try have k3 := k3.on hzx3); (try have k4 := k4.on hzx3); (first | (have k5 : Blk x3 x2.heap.size 26 #[Value.slice none 0 0] := Blk.over y3; have lk5 := k5.lt) | (have k5 : Blk x3 x2.heap.size 26 #[Value.slice none 0 0] := Blk.on (w := (x2.alloc (Obj.cells #[Value.slice none 0 0] 26)).alloc (Obj.cells #[Value.slice none 0 0] 26)) ((Blk.new x2 26 _).alloc _) y3; have k6 : Blk x3 (x2.heap.size + 1) 26 #[Value.slice none 0 0] := (by have := Blk.over (w := x2.alloc (Obj.cells #[Value.slice none 0 0] 26)) y3; simpa using this); have lk5 := k5.lt; have lk6 := k6.lt) | skip); (try have ck1 := k1.cell0); (try have fk1 := k1.free 0); (try have ltk1 := k1.lt); (try have ck2 := k2.cell0); (try have fk2 := k2.free 0); (try have ltk2 := k2.lt); (try have ck3 := k3.cell0); (try have fk3 := k3.free 0); (try have ltk3 := k3.lt); (try have ck4 := k4.cell0); (try have fk4 := k4.free 0); (try have ltk4 := k4.lt); (try have ck5 := k5.cell0); (try have fk5 := k5.free 0); (try have ltk5 := k5.lt); (try have ck6 := k6.cell0); (try have fk6 := k6.free 0); (try have ltk6 := k6.lt); (try have k1k2 := k2.far (p := ⟨V.heap.size, 0, none⟩) (by show V.heap.size + 1 ≠ V.heap.size; have := k1.lt; have := k2.lt; omega) (.slice B4 m4 d4)); (try have ck1k2 := k1k2.cell0); (try have fk1k2 := k1k2.free 0); (try have k1k3 := k3.far (p := ⟨V.heap.size, 0, none⟩) (by show x1.heap.size ≠ V.heap.size; have := k1.lt; have := k3.lt; omega) (.slice B4 m4 d4)); (try have ck1k3 := k1k3.cell0); (try have fk1k3 := k1k3.free 0); (try have k1k4 := k4.far (p := ⟨V.heap.size, 0, none⟩) (by show x1.heap.size + 1 ≠ V.heap.size; have := k1.lt; have := k4.lt; omega) (.slice B4 m4 d4)); (try have ck1k4 := k1k4.cell0); (try have fk1k4 := k1k4.free 0); (try have k1k5 := k5.far (p := ⟨V.heap.size, 0, none⟩) (by show x2.heap.size ≠ V.heap.size; have := k1.lt; have := k5.lt; omega) (.slice B4 m4 d4)); (try have ck1k5 := k1k5.cell0); (try have fk1k5 := k1k5.free 0); (try have k1k6 := k6.far (p := ⟨V.heap.size, 0, none⟩) (by show x2.heap.size + 1 ≠ V.heap.size; have := k1.lt; have := k6.lt; omega) (.slice B4 m4 d4)); (try have ck1k6 := k1k6.cell0); (try have fk1k6 := k1k6.free 0); (try have k2k1 := k1.far (p := ⟨V.heap.size + 1, 0, none⟩) (by show V.heap.size ≠ V.heap.size + 1; have := k2.lt; have := k1.lt; omega) (.slice B4 m4 d4)); (try have ck2k1 := k2k1.cell0); (try have fk2k1 := k2k1.free 0); (try have k2k3 := k3.far (p := ⟨V.heap.size + 1, 0, none⟩) (by show x1.heap.size ≠ V.heap.size + 1; have := k2.lt; have := k3.lt; omega) (.slice B4 m4 d4)); (try have ck2k3 := k2k3.cell0); (try have fk2k3 := k2k3.free 0); (try have k2k4 := k4.far (p := ⟨V.heap.size + 1, 0, none⟩) (by show x1.heap.size + 1 ≠ V.heap.size + 1; have := k2.lt; have := k4.lt; omega) (.slice B4 m4 d4)); (try have ck2k4 := k2k4.cell0); (try have fk2k4 := k2k4.free 0); (try have k2k5 := k5.far (p := ⟨V.heap.size + 1, 0, none⟩) (by show x2.heap.size ≠ V.heap.size + 1; have := k2.lt; have := k5.lt; omega) (.slice B4 m4 d4)); (try have ck2k5 := k2k5.cell0); (try have fk2k5 := k2k5.free 0); (try have k2k6 := k6.far (p := ⟨V.heap.size + 1, 0, none⟩) (by show x2.heap.size + 1 ≠ V.heap.size + 1; have := k2.lt; have := k6.lt; omega) (.slice B4 m4 d4)); (try have ck2k6 := k2k6.cell0); (try have fk2k6 := k2k6.free 0); (try have k3k1 := k1.far (p := ⟨x1.heap.size, 0, none⟩) (by show V.heap.size ≠ x1.heap.size; have := k3.lt; have := k1.lt; omega) (.slice B4 m4 d4)); (try have ck3k1 := k3k1.cell0); (try have fk3k1 := k3k1.free 0); (try have k3k2 := k2.far (p := ⟨x1.heap.size, 0, none⟩) (by show V.heap.size + 1 ≠ x1.heap.size; have := k3.lt; have := k2.lt; omega) (.slice B4 m4 d4)); (try have ck3k2 := k3k2.cell0); (try have fk3k2 := k3k2.free 0); (try have k3k4 := k4.far (p := ⟨x1.heap.size, 0, none⟩) (by show x1.heap.size + 1 ≠ x1.heap.size; have := k3.lt; have := k4.lt; omega) (.slice B4 m4 d4)); (try have ck3k4 := k3k4.cell0); (try have fk3k4 := k3k4.free 0); (try have k3k5 := k5.far (p := ⟨x1.heap.size, 0, none⟩) (by show x2.heap.size ≠ x1.heap.size; have := k3.lt; have := k5.lt; omega) (.slice B4 m4 d4)); (try have ck3k5 := k3k5.cell0); (try have fk3k5 := k3k5.free 0); (try have k3k6 := k6.far (p := ⟨x1.heap.size, 0, none⟩) (by show x2.heap.size + 1 ≠ x1.heap.size; have := k3.lt; have := k6.lt; omega) (.slice B4 m4 d4)); (try have ck3k6 := k3k6.cell0); (try have fk3k6 := k3k6.free 0); (try have k4k1 := k1.far (p := ⟨x1.heap.size + 1, 0, none⟩) (by show V.heap.size ≠ x1.heap.size + 1; have := k4.lt; have := k1.lt; omega) (.slice B4 m4 d4)); (try have ck4k1 := k4k1.cell0); (try have fk4k1 := k4k1.free 0); (try have k4k2 := k2.far (p := ⟨x1.heap.size + 1, 0, none⟩) (by show V.heap.size + 1 ≠ x1.heap.size + 1; have := k4.lt; have := k2.lt; omega) (.slice B4 m4 d4)); (try have ck4k2 := k4k2.cell0); (try have fk4k2 := k4k2.free 0); (try have k4k3 := k3.far (p := ⟨x1.heap.size + 1, 0, none⟩) (by show x1.heap.size ≠ x1.heap.size + 1; have := k4.lt; have := k3.lt; omega) (.slice B4 m4 d4)); (try have ck4k3 := k4k3.cell0); (try have fk4k3 := k4k3.free 0); (try have k4k5 := k5.far (p := ⟨x1.heap.size + 1, 0, none⟩) (by show x2.heap.size ≠ x1.heap.size + 1; have := k4.lt; have := k5.lt; omega) (.slice B4 m4 d4)); (try have ck4k5 := k4k5.cell0); (try have fk4k5 := k4k5.free 0); (try have k4k6 := k6.far (p := ⟨x1.heap.size + 1, 0, none⟩) (by show x2.heap.size + 1 ≠ x1.heap.size + 1; have := k4.lt; have := k6.lt; omega) (.slice B4 m4 d4)); (try have ck4k6 := k4k6.cell0); (try have fk4k6 := k4k6.free 0); (try have k5k1 := k1.far (p := ⟨x2.heap.size, 0, none⟩) (by show V.heap.size ≠ x2.heap.size; have := k5.lt; have := k1.lt; omega) (.slice B4 m4 d4)); (try have ck5k1 := k5k1.cell0); (try have fk5k1 := k5k1.free 0); (try have k5k2 := k2.far (p := ⟨x2.heap.size, 0, none⟩) (by show V.heap.size + 1 ≠ x2.heap.size; have := k5.lt; have := k2.lt; omega) (.slice B4 m4 d4)); (try have ck5k2 := k5k2.cell0); (try have fk5k2 := k5k2.free 0); (try have k5k3 := k3.far (p := ⟨x2.heap.size, 0, none⟩) (by show x1.heap.size ≠ x2.heap.size; have := k5.lt; have := k3.lt; omega) (.slice B4 m4 d4)); (try have ck5k3 := k5k3.cell0); (try have fk5k3 := k5k3.free 0); (try have k5k4 := k4.far (p := ⟨x2.heap.size, 0, none⟩) (by show x1.heap.size + 1 ≠ x2.heap.size; have := k5.lt; have := k4.lt; omega) (.slice B4 m4 d4)); (try have ck5k4 := k5k4.cell0); (try have fk5k4 := k5k4.free 0); (try have k5k6 := k6.far (p := ⟨x2.heap.size, 0, none⟩) (by show x2.heap.size + 1 ≠ x2.heap.size; have := k5.lt; have := k6.lt; omega) (.slice B4 m4 d4)); (try have ck5k6 := k5k6.cell0); (try have fk5k6 := k5k6.free 0); (try have k6k1 := k1.far (p := ⟨x2.heap.size + 1, 0, none⟩) (by show V.heap.size ≠ x2.heap.size + 1; have := k6.lt; have := k1.lt; omega) (.slice B4 m4 d4)); (try have ck6k1 := k6k1.cell0); (try have fk6k1 := k6k1.free 0); (try have k6k2 := k2.far (p := ⟨x2.heap.size + 1, 0, none⟩) (by show V.heap.size + 1 ≠ x2.heap.size + 1; have := k6.lt; have := k2.lt; omega) (.slice B4 m4 d4)); (try have ck6k2 := k6k2.cell0); (try have fk6k2 := k6k2.free 0); (try have k6k3 := k3.far (p := ⟨x2.heap.size + 1, 0, none⟩) (by show x1.heap.size ≠ x2.heap.size + 1; have := k6.lt; have := k3.lt; omega) (.slice B4 m4 d4)); (try have ck6k3 := k6k3.cell0); (try have fk6k3 := k6k3.free 0); (try have k6k4 := k4.far (p := ⟨x2.heap.size + 1, 0, none⟩) (by show x1.heap.size + 1 ≠ x2.heap.size + 1; have := k6.lt; have := k4.lt; omega) (.slice B4 m4 d4)); (try have ck6k4 := k6k4.cell0); (try have fk6k4 := k6k4.free 0); (try have k6k5 := k5.far (p := ⟨x2.heap.size + 1, 0, none⟩) (by show x2.heap.size ≠ x2.heap.size + 1; have := k6.lt; have := k5.lt; omega) (.slice B4 m4 d4)); (try have ck6k5 := k6k5.cell0); (try have fk6k5 := k6k5.free 0)))
              all_goals go_wp2_with fail
              all_goals go_meet
              all_goals first | exact qr_nn hw3 hQ3 hR3 | exact qr_nn' hw3 hQ3 hR3 | exact qr_on hw3 hQ3 hR3 k1 (by omega) | exact qr_on hw3 hQ3 hR3 k2 (by omega) | exact qr_on hw3 hQ3 hR3 k3 (by omega) | exact qr_on hw3 hQ3 hR3 k4 (by omega) | exact qr_on hw3 hQ3 hR3 k5 (by omega) | exact qr_on hw3 hQ3 hR3 k6 (by omega) | exact qr_no hw3 hQ3 hR3 k1 (by omega) | exact qr_no hw3 hQ3 hR3 k2 (by omega) | exact qr_no hw3 hQ3 hR3 k3 (by omega) | exact qr_no hw3 hQ3 hR3 k4 (by omega) | exact qr_no hw3 hQ3 hR3 k5 (by omega) | exact qr_no hw3 hQ3 hR3 k6 (by omega) | exact qr_oo hw3 hQ3 hR3 k1 (by omega) k2 (by omega) (by omega) | exact qr_oo hw3 hQ3 hR3 k1 (by omega) k3 (by omega) (by omega) | exact qr_oo hw3 hQ3 hR3 k1 (by omega) k4 (by omega) (by omega) | exact qr_oo hw3 hQ3 hR3 k1 (by omega) k5 (by omega) (by omega) | exact qr_oo hw3 hQ3 hR3 k1 (by omega) k6 (by omega) (by omega) | exact qr_oo hw3 hQ3 hR3 k2 (by omega) k1 (by omega) (by omega) | exact qr_oo hw3 hQ3 hR3 k2 (by omega) k3 (by omega) (by omega) | exact qr_oo hw3 hQ3 hR3 k2 (by omega) k4 (by omega) (by omega) | exact qr_oo hw3 hQ3 hR3 k2 (by omega) k5 (by omega) (by omega) | exact qr_oo hw3 hQ3 hR3 k2 (by omega) k6 (by omega) (by omega) | exact qr_oo hw3 hQ3 hR3 k3 (by omega) k1 (by omega) (by omega) | exact qr_oo hw3 hQ3 hR3 k3 (by omega) k2 (by omega) (by omega) | exact qr_oo hw3 hQ3 hR3 k3 (by omega) k4 (by omega) (by omega) | exact qr_oo hw3 hQ3 hR3 k3 (by omega) k5 (by omega) (by omega) | exact qr_oo hw3 hQ3 hR3 k3 (by omega) k6 (by omega) (by omega) | exact qr_oo hw3 hQ3 hR3 k4 (by omega) k1 (by omega) (by omega) | exact qr_oo hw3 hQ3 hR3 k4 (by omega) k2 (by omega) (by omega) | exact qr_oo hw3 hQ3 hR3 k4 (by omega) k3 (by omega) (by omega) | exact qr_oo hw3 hQ3 hR3 k4 (by omega) k5 (by omega) (by omega) | exact qr_oo hw3 hQ3 hR3 k4 (by omega) k6 (by omega) (by omega) | exact qr_oo hw3 hQ3 hR3 k5 (by omega) k1 (by omega) (by omega) | exact qr_oo hw3 hQ3 hR3 k5 (by omega) k2 (by omega) (by omega) | exact qr_oo hw3 hQ3 hR3 k5 (by omega) k3 (by omega) (by omega) | exact qr_oo hw3 hQ3 hR3 k5 (by omega) k4 (by omega) (by omega) | exact qr_oo hw3 hQ3 hR3 k5 (by omega) k6 (by omega) (by omega) | exact qr_oo hw3 hQ3 hR3 k6 (by omega) k1 (by omega) (by omega) | exact qr_oo hw3 hQ3 hR3 k6 (by omega) k2 (by omega) (by omega) | exact qr_oo hw3 hQ3 hR3 k6 (by omega) k3 (by omega) (by omega) | exact qr_oo hw3 hQ3 hR3 k6 (by omega) k4 (by omega) (by omega) | exact qr_oo hw3 hQ3 hR3 k6 (by omega) k5 (by omega) (by omega)
            case rest =>
              obtain ⟨g19, g20, B4, m4, d4, B5, m5, d5, rfl, rfl, rfl, hX19, hX20, hQn, hRn, hbx⟩ := hcut
              have hX5 := hX5.on hbx
              have hX6 := hX6.on hbx
              have hX18 := hX18.on hbx
              have hN := hN.below hbx
              have hS := hS.below hbx
              have hP := hP.below hbx
              have bX := below_step bV hbx
              clear hbx bV hV6 hV18 HD HM
              go_wp2_with fail
              go_region_held3 (fun w' => w'.cell? ⟨w2.heap.size, 0, none⟩ = some (.slice A5 n5 c5) ∧ w'.cell? ⟨w2.heap.size + 1, 0, none⟩ = some (.slice A6 n6 c6) ∧ w'.cell? ⟨g18, 0, none⟩ = some (.slice Ae ne ce) ∧ w'.cell? ⟨g19, 0, none⟩ = some (.slice B4 m4 d4) ∧ w'.cell? ⟨g20, 0, none⟩ = some (.slice B5 m5 d5))
                (first | exact keep5n hX5 hX6 hX18 hX19 hX20 (below_drew _) | exact keep5n hX5 hX6 hX18 hX19 hX20 hq1 | exact keep5n hX5 hX6 hX18 hX19 hX20 hq2 | exact keep5n hX5 hX6 hX18 hX19 hX20 hq3 | exact keep5n hX5 hX6 hX18 hX19 hX20 hq4 | exact keep5n hX5 hX6 hX18 hX19 hX20 hq5 | exact keep5n hX5 hX6 hX18 hX19 hX20 hq6)
                (first
                  | (go_at_call 18; refine (zero_any _ 401 0 true _ (hRn.below (below_drew _)) rfl).mono ?_; rintro e q1 ⟨rfl, t1⟩; have hq1 := below_step (below_drew _) t1)
                  | (go_at_call 27; refine (E1.out _ (by decide)).mono ?_; rintro e q2 ⟨o2, rfl, hO, t2⟩; obtain ⟨O2, p2, r2, rfl⟩ := hO.shape; have hq2 := below_step hq1 t2)
                  | (go_at_call 28; refine (add_any _ _ 400 2 N 1 _ (hN.below hq2) hO (by decide) (by decide)).mono ?_; rintro e q3 ⟨o3, rfl, hA, t3⟩; obtain ⟨O3, p3, r3, rfl⟩ := hA.shape; have hq3 := below_step hq2 t3)
                  | (go_at_call 29; refine (mul_any _ _ 400 401 Q (N + 1) _ (hQn.below hq3) (hA.more (by decide)) (by decide) (by decide)).mono ?_; rintro e q4 ⟨o4, rfl, hMu, t4⟩; rw [HQM.out] at hMu; obtain ⟨O4, p4, r4, rfl⟩ := hMu.shape; have hq4 := below_step hq3 t4)
                  | (go_at_call 16; refine (same_any _ _ 801 400 PM PM true _ hMu (hP.below hq4) (by decide) (by decide) (by simp)).mono ?_; rintro e q5 ⟨rfl, t5⟩; have hq5 := below_step hq4 t5)
                  | (go_at_call 26; refine (CMP.out _ _ _ 49 400 N (hS.below hq5) (hN.below hq5) (by decide) (by decide)).mono ?_; rintro e q6 ⟨rfl, t6⟩; have hq6 := below_step hq5 t6))
              generalize cmpN S N = cn at *
              go_wp2
              go_roundw
              case rel =>
                (repeat apply Exists.intro)
                exact ⟨⟨j + 1, by omega, by go_num, below_step bX hq6⟩, rfl⟩
              case measure => simp [intOf]; omega
          · obtain rfl : j = i := by omega
            have hX6 := hX6.on hbr
            have hP := hP.below hbr
            have hbw := below_step hbw hbr
            have c6 := hX6.cell0
            have hrl := HRL.out
            have hrl2 : r.toList.isEmpty = true := by rw [hrl]; rfl
            have hpz : decide (PM = 0) = false := by simp; omega
            go_wp2_with fail
            refine (zero_any _ 330 PM false _ hP hpz).mono ?_
            rintro e z9 ⟨rfl, y9⟩
            go_wp2
            go_ret
            exact ⟨rfl, below_step hbw y9⟩
end Go.Proofs.YtobfhidajcnfdaaDoor
