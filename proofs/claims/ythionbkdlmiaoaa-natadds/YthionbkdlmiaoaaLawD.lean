/-
  The law NatAdds.
-/
import Derived.Test.YthionbkdlmiaoaaIs
namespace Go.Proofs.Ythionbkdlmiaoaa
set_option linter.unusedVariables false
open Go.RowKit

theorem keep4 {W w' : World} {gx gy gz gt : Nat} {a b c d : Value} (hX : Blk W gx 26 #[a]) (hY : Blk W gy 26 #[b]) (hZ : Blk W gz 26 #[c]) (hT : Blk W gt 26 #[d]) (hb : Below W.heap.size W w') : w'.cell? ⟨gx, 0, none⟩ = some a ∧ w'.cell? ⟨gy, 0, none⟩ = some b ∧ w'.cell? ⟨gz, 0, none⟩ = some c ∧ w'.cell? ⟨gt, 0, none⟩ = some d := ⟨(hX.on hb).cell0, (hY.on hb).cell0, (hZ.on hb).cell0, (hT.on hb).cell0⟩

set_option maxHeartbeats 8000000 in
theorem natAdds_walk (a0 : Option Addr) (len0 cap0 : Nat) (l0 : List Nat) (a1 : Option Addr) (len1 cap1 : Nat) (l1 : List Nat) (w : World) (h0 : Came w a0 len0 cap0 l0) (h1 : Came w a1 len1 cap1 l1) :
    Calls Try.prog 3 #[.slice a0 len0 cap0, .slice a1 len1 cap1] w (RetV (.bool true) w) := by
  obtain ⟨t0, ht0, hl0, F0⟩ := h0.few
  obtain ⟨t1, ht1, hl1, F1⟩ := h1.few
  clear h0 h1
  go_enter Try.func3, Try.ntmps3
  go_wp2_with fail
  refine (awake_any _).mono ?_
  rintro e w1 ⟨rfl, b1⟩
  go_wp2_with fail
  refine (F0.out _ b1).mono ?_
  rintro e w2 ⟨v2, rfl, ⟨A2, c2, rfl, hr2, hc2⟩, b2⟩
  have b2' := below_step b1 b2
  go_wp2_with fail
  refine (F1.out _ b2').mono ?_
  rintro e w3 ⟨v3, rfl, ⟨A3, c3, rfl, hr3, hc3⟩, b3⟩
  have b3' := below_step b2' b3
  go_wp2_with fail
  refine (limbs_any A2 c2 _ _ (hr2.below b3).row hl0 (by omega)).mono ?_
  rintro e w4 ⟨v4, rfl, hN4, b4⟩
  obtain ⟨A4, n4, c4, rfl⟩ := hN4.shape
  have b4' := below_step b3' b4
  go_wp2_with fail
  refine (limbs_any A3 c3 _ _ (hr3.below b4).row hl1 (by omega)).mono ?_
  rintro e w5 ⟨v5, rfl, hM5, b5⟩
  obtain ⟨A5, n5, c5, rfl⟩ := hM5.shape
  have b5' := below_step b4' b5
  have hX5 : Blk ((w5.alloc (Obj.cells #[Value.slice A4 n4 c4] 26)).alloc (Obj.cells #[Value.slice A5 n5 c5] 26)) w5.heap.size 26 #[.slice A4 n4 c4] := (Blk.new w5 26 _).alloc _
  have hY5 : Blk ((w5.alloc (Obj.cells #[Value.slice A4 n4 c4] 26)).alloc (Obj.cells #[Value.slice A5 n5 c5] 26)) (w5.heap.size + 1) 26 #[.slice A5 n5 c5] := by
    have := Blk.new (w5.alloc (Obj.cells #[Value.slice A4 n4 c4] 26)) 26 #[.slice A5 n5 c5]
    simpa using this
  have hN5 := (((hN4.more ht0).below b5).alloc (Obj.cells #[Value.slice A4 n4 c4] 26)).alloc (Obj.cells #[Value.slice A5 n5 c5] 26)
  have hM5 := ((hM5.more ht1).alloc (Obj.cells #[Value.slice A4 n4 c4] 26)).alloc (Obj.cells #[Value.slice A5 n5 c5] 26)
  have hr2 := ((((hr2.below b3).below b4).below b5).alloc (Obj.cells #[Value.slice A4 n4 c4] 26)).alloc (Obj.cells #[Value.slice A5 n5 c5] 26)
  have hr3 := (((hr3.below b4).below b5).alloc (Obj.cells #[Value.slice A4 n4 c4] 26)).alloc (Obj.cells #[Value.slice A5 n5 c5] 26)
  have b5'' := below_step (below_step b5' (below_new _ (Obj.cells #[Value.slice A4 n4 c4] 26))) (below_new _ (Obj.cells #[Value.slice A5 n5 c5] 26))
  clear b1 b2 b3 b4 b5 b2' b3' b4' b5' hN4
  go_wp2_with fail
  generalize hU : (w5.alloc (Obj.cells #[Value.slice A4 n4 c4] 26)).alloc (Obj.cells #[Value.slice A5 n5 c5] 26) = U at *
  clear hU
  refine (ofD_any A2 t0.length c2 t0 _ rfl hr2.row hl0 (by omega)).mono ?_
  rintro e w6 ⟨v6, rfl, hD6, b6⟩
  obtain ⟨A6, n6, c6, rfl⟩ := hD6.shape
  go_wp2_with fail
  refine (ofD_any A3 t1.length c3 t1 _ rfl (hr3.below b6).row hl1 (by omega)).mono ?_
  rintro e W ⟨v7, rfl, hF7, b7⟩
  obtain ⟨A7, n7, c7, rfl⟩ := hF7.shape
  have bU := below_step b6 b7
  have bW := below_step b5'' bU
  have hX := hX5.on bU
  have hY := hY5.on bU
  have hN := hN5.below bU
  have hM := hM5.below bU
  have hD := (hD6.below b7).more (k' := 400) (by omega)
  have hF := hF7.more (k' := 400) (by omega)
  clear hX5 hY5 hN5 hM5 hD6 hF7 b6 b7 b5'' bU hr2 hr3
  generalize val 4294967296 t0 = N at *
  generalize val 4294967296 t1 = M at *
  have hc5 := hX.cell0
  have hc6 := hY.cell0
  have tok1 : True := trivial
  have tok2 : True := trivial
  have tok3 : True := trivial
  have tok4 : True := trivial
  have tok5 : True := trivial
  have tok6 : True := trivial
  have tok7 : True := trivial
  have tok8 : True := trivial
  go_wp2_with fail
  go_region_held3 (fun w' => w'.cell? ⟨w5.heap.size, 0, none⟩ = some (.slice A4 n4 c4) ∧ w'.cell? ⟨w5.heap.size + 1, 0, none⟩ = some (.slice A5 n5 c5))
    (first | exact keep2 hX hY (below_drew _) | exact keep2 hX hY hw1 | exact keep2 hX hY hw2 | exact keep2 hX hY hw3 | exact keep2 hX hY hw4 | exact keep2 hX hY hw5 | exact keep2 hX hY hw6 | exact keep2 hX hY hw7 | exact keep2 hX hY hw8)
    (first
      | (go_at_call 16; have _t := tok1; clear tok1; refine (is_any _ _ 40 400 N N true _ (hN.below (below_drew _)) (hD.below (below_drew _)) (by decide) (by decide) (by simp)).mono ?_; rintro e x1 ⟨rfl, y1⟩; have hw1 : Below W.heap.size W x1 := below_step (below_drew _) y1)
      | (go_at_call 16; have _t := tok2; clear tok2; refine (is_any _ _ 40 400 M M true _ (hM.below hw1) (hF.below hw1) (by decide) (by decide) (by simp)).mono ?_; rintro e x2 ⟨rfl, y2⟩; have hw2 : Below W.heap.size W x2 := below_step hw1 y2)
      | (go_at_call 17; have _t := tok3; clear tok3; refine (add_any _ _ 40 40 N M _ (hN.below hw2) (hM.below hw2) (by decide) (by decide)).mono ?_; rintro e x3 ⟨s3, rfl, hS3, y3⟩; have hw3 : Below W.heap.size W x3 := below_step hw2 y3)
      | (go_at_call 18; have _t := tok4; clear tok4; refine (addD_any _ _ 400 400 N M _ (hD.below hw3) (hF.below hw3) (by decide) (by decide)).mono ?_; rintro e x4 ⟨s4, rfl, hS4, y4⟩; have hw4 : Below W.heap.size W x4 := below_step hw3 y4)
      | (go_at_call 16; have _t := tok5; clear tok5; refine (is_any _ _ 41 401 (N + M) (N + M) true _ (hS3.below y4) hS4 (by decide) (by decide) (by simp)).mono ?_; rintro e x5 ⟨rfl, y5⟩; have hw5 : Below W.heap.size W x5 := below_step hw4 y5)
      | (go_at_call 17; have _t := tok6; clear tok6; refine (add_any _ _ 40 40 N M _ (hN.below hw5) (hM.below hw5) (by decide) (by decide)).mono ?_; rintro e x6 ⟨s6, rfl, hS6, y6⟩; have hw6 : Below W.heap.size W x6 := below_step hw5 y6)
      | (go_at_call 17; have _t := tok7; clear tok7; refine (add_any _ _ 40 40 M N _ (hM.below hw6) (hN.below hw6) (by decide) (by decide)).mono ?_; rintro e x7 ⟨s7, rfl, hS7, y7⟩; have hw7 : Below W.heap.size W x7 := below_step hw6 y7)
      | (go_at_call 19; have _t := tok8; clear tok8; refine (same_any _ _ 41 41 (N + M) (M + N) true _ (hS6.below y7) hS7 (by decide) (by decide) (by simp; omega)).mono ?_; rintro e x8 ⟨rfl, y8⟩; have hw8 : Below W.heap.size W x8 := below_step hw7 y8))
  have hX8 := hX.on hw8
  have hY8 := hY.on hw8
  have hN8 := hN.below hw8
  have hM8 := hM.below hw8
  have hD8 := hD.below hw8
  have hF8 := hF.below hw8
  have bW8 := below_step bW hw8
  clear hX hY hN hM hD hF bW hc5 hc6 hw1 hw2 hw3 hw4 hw5 hw6 hw7 hw8 y1 y2 y3 y4 y5 y6 y7 y8 hS3 hS4 hS6 hS7 F0 F1 hl0 hl1
  have hc5 := hX8.cell0
  have hc6 := hY8.cell0
  by_cases hNM : N < M
  · have hlt : cmpN N M < 0 := by rw [cmpN_lt hNM]; omega
    go_wp2_with fail
    refine (sub_less _ _ 40 40 N M _ hN8 hM8 (by decide) (by decide) hNM).mono ?_
    rintro e x9 ⟨rfl, y9⟩
    go_wp2_with fail
    refine (compareD_any _ _ 400 400 N M _ ((hD8.below y9).below (below_new _ _)) ((hF8.below y9).below (below_new _ _)) (by decide) (by decide)).mono ?_
    rintro e x10 ⟨rfl, y10⟩
    have hz := (Blk.over y10).cell0
    obtain ⟨cn, hcn⟩ : ∃ cn, cn = cmpN N M := ⟨_, rfl⟩
    rw [← hcn] at hlt ⊢
    clear hcn
    go_wp2_with fail
    refine (zero_any _ 0 0 true _ ⟨none, 0, [], rfl, Arr.empty, Norm.nil _, rfl, by simp, by simp⟩ rfl).mono ?_
    rintro e x11 ⟨rfl, y11⟩
    go_wp2
    go_ret
    exact ⟨rfl, below_step (below_step (below_step (below_step bW8 y9) (below_new _ _)) y10) y11⟩
  · have hge : ¬ cmpN N M < 0 := by
      have := (cmpN_cases N M)
      intro h
      have h2 : cmpN N M = -1 := by omega
      unfold cmpN at h2
      rw [if_neg hNM] at h2
      split at h2 <;> omega
    have hNM' : M ≤ N := by omega
    go_wp2_with fail
    refine (sub_ge _ _ 40 40 N M _ hN8 hM8 (by decide) (by decide) hNM').mono ?_
    rintro e x9 ⟨z9, rfl, hZ9, y9⟩
    obtain ⟨A9, n9, c9, rfl⟩ := hZ9.shape
    go_wp2_with fail
    refine (compareD_any _ _ 400 400 N M _ ((hD8.below y9).below (below_new _ _)) ((hF8.below y9).below (below_new _ _)) (by decide) (by decide)).mono ?_
    rintro e V ⟨rfl, y10⟩
    have hT := Blk.over y10
    have yV := below_step (below_step y9 (below_new _ _)) y10
    have hXV := hX8.on yV
    have hYV := hY8.on yV
    have hNV := hN8.below yV
    have hMV := hM8.below yV
    have hDV := hD8.below yV
    have hFV := hF8.below yV
    have hZV := (hZ9.alloc (Obj.cells #[Value.slice A9 n9 c9] 26)).below y10
    have bV := below_step bW8 yV
    obtain ⟨cn, hcn⟩ : ∃ cn, cn = cmpN N M := ⟨_, rfl⟩
    rw [← hcn] at hge ⊢
    clear hcn hX8 hY8 hN8 hM8 hD8 hF8 bW8 y9 y10 yV hc5 hc6 hZ9 hNM
    have hc5 := hXV.cell0
    have hc6 := hYV.cell0
    have hc9 := hT.cell0
    have tok1 : True := trivial
    have tok2 : True := trivial
    go_wp2_with fail
    have hneX : w5.heap.size ≠ V.heap.size := by have := hXV.lt; omega
    have hneY : w5.heap.size + 1 ≠ V.heap.size := by have := hYV.lt; omega
    have hltX := hXV.lt
    have hltY := hYV.lt
    go_region_held3 (fun w' => w'.cell? ⟨w5.heap.size, 0, none⟩ = some (.slice A4 n4 c4) ∧ w'.cell? ⟨w5.heap.size + 1, 0, none⟩ = some (.slice A5 n5 c5))
      (first | exact keep2 hXV hYV (below_drew _) | exact keep2 hXV hYV (below_step (below_new _ _) (below_drew _)) | exact keep2 hXV hYV hw1 | exact keep2 hXV hYV (below_step hw1 (below_new _ _)) | exact keep2 hXV hYV hw2 | exact keep2 hXV hYV (below_step hw2 (below_new _ _)) | exact ⟨cell_far (keep2 hXV hYV hw2).1 hneX, cell_far (keep2 hXV hYV hw2).2 hneY⟩ | exact ⟨cell_far (keep2 hXV hYV hw2).1 (by have := hw1.size; omega), cell_far (keep2 hXV hYV hw2).2 (by have := hw1.size; omega)⟩)
      (first
        | (go_at_call 17; have _t := tok1; clear tok1; refine (add_any _ _ 40 40 N M _ (hNV.below ?h1) (hMV.below ?h2) (by decide) (by decide)).mono ?_; (case h1 => first | exact below_drew _ | exact below_step (below_new _ _) (below_drew _)); (case h2 => first | exact below_drew _ | exact below_step (below_new _ _) (below_drew _)); rintro e x1 ⟨s1, rfl, hS1, y1⟩; (have hw1 : Below V.heap.size V x1 := (by first | exact below_step (below_drew _) y1 | exact below_step (below_step (below_new _ _) (below_drew _)) y1)))
        | (go_at_call 20; have _t := tok2; clear tok2; refine (sub_ge _ _ 41 40 (N + M) M _ ?h3 ?h4 (by decide) (by decide) (by omega)).mono ?_; (case h3 => first | exact hS1 | exact hS1.alloc _); (case h4 => first | exact hMV.below hw1 | exact hMV.below (below_step hw1 (below_new _ _))); rintro e x2 ⟨s2, rfl, hS2, y2⟩; obtain ⟨B2, m2, d2, rfl⟩ := hS2.shape; (have hw2 : Below V.heap.size V x2 := (by first | exact below_step hw1 y2 | exact below_step (below_step hw1 (below_new _ _)) y2)); first | (have hbk : Blk x2 V.heap.size 26 #[.slice none 0 0] := (Blk.on (w := (V.alloc (Obj.cells #[Value.slice none 0 0] 26)).drew) (Blk.new V 26 _) y1).on y2; have hbc := hbk.cell0; have hbf := hbk.free 0) | (have hbk : Blk x2 x1.heap.size 26 #[.slice none 0 0] := Blk.over y2; have hbc := hbk.cell0; have hbf := hbk.free 0) | skip))
    · have hBK := Blk.new x2 26 #[Value.slice B2 m2 d2]
      have hwY := below_step hw2 (below_new _ (Obj.cells #[Value.slice B2 m2 d2] 26))
      have hSY := hS2.alloc (Obj.cells #[Value.slice B2 m2 d2] 26)
      generalize hYw : x2.alloc (Obj.cells #[Value.slice B2 m2 d2] 26) = Y at *
      clear hYw hw1 hw2 hS1 hS2 y1 y2
      rw [Nat.add_sub_cancel] at hSY
      have hXY := hXV.on hwY
      have hYY := hYV.on hwY
      have hTY := hT.on hwY
      have hNY := hNV.below hwY
      have hMY := hMV.below hwY
      have hDY := hDV.below hwY
      have hFY := hFV.below hwY
      have hZY := hZV.below hwY
      have bY := below_step bV hwY
      clear hwY hXV hYV hT hNV hMV hDV hFV hZV bV
      have tok1 : True := trivial
      have tok2 : True := trivial
      have tok3 : True := trivial
      have tok4 : True := trivial
      have tok5 : True := trivial
      go_wp2_with fail
      go_region_held3 (fun w' => w'.cell? ⟨w5.heap.size, 0, none⟩ = some (.slice A4 n4 c4) ∧ w'.cell? ⟨w5.heap.size + 1, 0, none⟩ = some (.slice A5 n5 c5) ∧ w'.cell? ⟨x9.heap.size, 0, none⟩ = some (.slice A9 n9 c9) ∧ w'.cell? ⟨x2.heap.size, 0, none⟩ = some (.slice B2 m2 d2))
        (first | exact keep4 hXY hYY hTY hBK (below_drew _) | exact keep4 hXY hYY hTY hBK hz1 | exact keep4 hXY hYY hTY hBK hz2 | exact keep4 hXY hYY hTY hBK hz3 | exact keep4 hXY hYY hTY hBK hz4 | exact keep4 hXY hYY hTY hBK hz5)
        (first
          | (go_at_call 23; have _t := tok1; clear tok1; refine (subD_any _ _ 400 400 N M _ (hDY.below (below_drew _)) (hFY.below (below_drew _)) (by decide) (by decide) hNM').mono ?_; rintro e r1 ⟨q1, rfl, hQ1, o1⟩; have hz1 : Below Y.heap.size Y r1 := below_step (below_drew _) o1)
          | (go_at_call 16; have _t := tok2; clear tok2; refine (is_any _ _ 40 400 (N - M) (N - M) true _ (hZY.below hz1) hQ1 (by decide) (by decide) (by simp)).mono ?_; rintro e r2 ⟨rfl, o2⟩; have hz2 : Below Y.heap.size Y r2 := below_step hz1 o2)
          | (go_at_call 17; have _t := tok3; clear tok3; refine (add_any _ _ 40 40 (N - M) M _ (hZY.below hz2) (hMY.below hz2) (by decide) (by decide)).mono ?_; rintro e r3 ⟨q3, rfl, hQ3, o3⟩; have hz3 : Below Y.heap.size Y r3 := below_step hz2 o3)
          | (go_at_call 19; have _t := tok4; clear tok4; refine (same_any _ _ 41 40 (N - M + M) N true _ hQ3 (hNY.below hz3) (by decide) (by decide) (decide_eq_true (by omega))).mono ?_; rintro e r4 ⟨rfl, o4⟩; have hz4 : Below Y.heap.size Y r4 := below_step hz3 o4)
          | (go_at_call 19; have _t := tok5; clear tok5; refine (same_any _ _ 41 40 N N true _ (hSY.below hz4) (hNY.below hz4) (by decide) (by decide) (by simp)).mono ?_; rintro e r5 ⟨rfl, o5⟩; have hz5 : Below Y.heap.size Y r5 := below_step hz4 o5))
      go_wp2
      go_ret
      exact ⟨rfl, below_step bY hz5⟩
    · have hBK := hbk.set0 (Value.slice B2 m2 d2)
      have hwY := hw2.setCell (p := ⟨x1.heap.size, 0, none⟩) hw1.size (Value.slice B2 m2 d2)
      have hSY := hS2.far hbk 0 (Value.slice B2 m2 d2)
      generalize hYw : x2.setCell ⟨x1.heap.size, 0, none⟩ (Value.slice B2 m2 d2) = Y at *
      clear hYw hbc hbf hbk hw1 hw2 hS1 hS2 y1 y2
      rw [Nat.add_sub_cancel] at hSY
      have hXY := hXV.on hwY
      have hYY := hYV.on hwY
      have hTY := hT.on hwY
      have hNY := hNV.below hwY
      have hMY := hMV.below hwY
      have hDY := hDV.below hwY
      have hFY := hFV.below hwY
      have hZY := hZV.below hwY
      have bY := below_step bV hwY
      clear hwY hXV hYV hT hNV hMV hDV hFV hZV bV
      have tok1 : True := trivial
      have tok2 : True := trivial
      have tok3 : True := trivial
      have tok4 : True := trivial
      have tok5 : True := trivial
      go_wp2_with fail
      go_region_held3 (fun w' => w'.cell? ⟨w5.heap.size, 0, none⟩ = some (.slice A4 n4 c4) ∧ w'.cell? ⟨w5.heap.size + 1, 0, none⟩ = some (.slice A5 n5 c5) ∧ w'.cell? ⟨x9.heap.size, 0, none⟩ = some (.slice A9 n9 c9) ∧ w'.cell? ⟨x1.heap.size, 0, none⟩ = some (.slice B2 m2 d2))
        (first | exact keep4 hXY hYY hTY hBK (below_drew _) | exact keep4 hXY hYY hTY hBK hz1 | exact keep4 hXY hYY hTY hBK hz2 | exact keep4 hXY hYY hTY hBK hz3 | exact keep4 hXY hYY hTY hBK hz4 | exact keep4 hXY hYY hTY hBK hz5)
        (first
          | (go_at_call 23; have _t := tok1; clear tok1; refine (subD_any _ _ 400 400 N M _ (hDY.below (below_drew _)) (hFY.below (below_drew _)) (by decide) (by decide) hNM').mono ?_; rintro e r1 ⟨q1, rfl, hQ1, o1⟩; have hz1 : Below Y.heap.size Y r1 := below_step (below_drew _) o1)
          | (go_at_call 16; have _t := tok2; clear tok2; refine (is_any _ _ 40 400 (N - M) (N - M) true _ (hZY.below hz1) hQ1 (by decide) (by decide) (by simp)).mono ?_; rintro e r2 ⟨rfl, o2⟩; have hz2 : Below Y.heap.size Y r2 := below_step hz1 o2)
          | (go_at_call 17; have _t := tok3; clear tok3; refine (add_any _ _ 40 40 (N - M) M _ (hZY.below hz2) (hMY.below hz2) (by decide) (by decide)).mono ?_; rintro e r3 ⟨q3, rfl, hQ3, o3⟩; have hz3 : Below Y.heap.size Y r3 := below_step hz2 o3)
          | (go_at_call 19; have _t := tok4; clear tok4; refine (same_any _ _ 41 40 (N - M + M) N true _ hQ3 (hNY.below hz3) (by decide) (by decide) (decide_eq_true (by omega))).mono ?_; rintro e r4 ⟨rfl, o4⟩; have hz4 : Below Y.heap.size Y r4 := below_step hz3 o4)
          | (go_at_call 19; have _t := tok5; clear tok5; refine (same_any _ _ 41 40 N N true _ (hSY.below hz4) (hNY.below hz4) (by decide) (by decide) (by simp)).mono ?_; rintro e r5 ⟨rfl, o5⟩; have hz5 : Below Y.heap.size Y r5 := below_step hz4 o5))
      go_wp2
      go_ret
      exact ⟨rfl, below_step bY hz5⟩
    · have hBK := hbk.set0 (Value.slice B2 m2 d2)
      have hwY := hw2.setCell (p := ⟨V.heap.size, 0, none⟩) (Nat.le_refl _) (Value.slice B2 m2 d2)
      have hSY := hS2.far hbk 0 (Value.slice B2 m2 d2)
      generalize hYw : x2.setCell ⟨V.heap.size, 0, none⟩ (Value.slice B2 m2 d2) = Y at *
      clear hYw hbc hbf hbk hw1 hw2 hS1 hS2 y1 y2
      rw [Nat.add_sub_cancel] at hSY
      have hXY := hXV.on hwY
      have hYY := hYV.on hwY
      have hTY := hT.on hwY
      have hNY := hNV.below hwY
      have hMY := hMV.below hwY
      have hDY := hDV.below hwY
      have hFY := hFV.below hwY
      have hZY := hZV.below hwY
      have bY := below_step bV hwY
      clear hwY hXV hYV hT hNV hMV hDV hFV hZV bV
      have tok1 : True := trivial
      have tok2 : True := trivial
      have tok3 : True := trivial
      have tok4 : True := trivial
      have tok5 : True := trivial
      go_wp2_with fail
      go_region_held3 (fun w' => w'.cell? ⟨w5.heap.size, 0, none⟩ = some (.slice A4 n4 c4) ∧ w'.cell? ⟨w5.heap.size + 1, 0, none⟩ = some (.slice A5 n5 c5) ∧ w'.cell? ⟨x9.heap.size, 0, none⟩ = some (.slice A9 n9 c9) ∧ w'.cell? ⟨V.heap.size, 0, none⟩ = some (.slice B2 m2 d2))
        (first | exact keep4 hXY hYY hTY hBK (below_drew _) | exact keep4 hXY hYY hTY hBK hz1 | exact keep4 hXY hYY hTY hBK hz2 | exact keep4 hXY hYY hTY hBK hz3 | exact keep4 hXY hYY hTY hBK hz4 | exact keep4 hXY hYY hTY hBK hz5)
        (first
          | (go_at_call 23; have _t := tok1; clear tok1; refine (subD_any _ _ 400 400 N M _ (hDY.below (below_drew _)) (hFY.below (below_drew _)) (by decide) (by decide) hNM').mono ?_; rintro e r1 ⟨q1, rfl, hQ1, o1⟩; have hz1 : Below Y.heap.size Y r1 := below_step (below_drew _) o1)
          | (go_at_call 16; have _t := tok2; clear tok2; refine (is_any _ _ 40 400 (N - M) (N - M) true _ (hZY.below hz1) hQ1 (by decide) (by decide) (by simp)).mono ?_; rintro e r2 ⟨rfl, o2⟩; have hz2 : Below Y.heap.size Y r2 := below_step hz1 o2)
          | (go_at_call 17; have _t := tok3; clear tok3; refine (add_any _ _ 40 40 (N - M) M _ (hZY.below hz2) (hMY.below hz2) (by decide) (by decide)).mono ?_; rintro e r3 ⟨q3, rfl, hQ3, o3⟩; have hz3 : Below Y.heap.size Y r3 := below_step hz2 o3)
          | (go_at_call 19; have _t := tok4; clear tok4; refine (same_any _ _ 41 40 (N - M + M) N true _ hQ3 (hNY.below hz3) (by decide) (by decide) (decide_eq_true (by omega))).mono ?_; rintro e r4 ⟨rfl, o4⟩; have hz4 : Below Y.heap.size Y r4 := below_step hz3 o4)
          | (go_at_call 19; have _t := tok5; clear tok5; refine (same_any _ _ 41 40 N N true _ (hSY.below hz4) (hNY.below hz4) (by decide) (by decide) (by simp)).mono ?_; rintro e r5 ⟨rfl, o5⟩; have hz5 : Below Y.heap.size Y r5 := below_step hz4 o5))
      go_wp2
      go_ret
      exact ⟨rfl, below_step bY hz5⟩
end Go.Proofs.Ythionbkdlmiaoaa
