/-
  The walk of the law on quotients.
-/
import Derived.Test.YthionbkdlmiaoaaDivG
import Derived.Test.YthionbkdlmiaoaaAwakeB
import Derived.Test.YthionbkdlmiaoaaRefD
namespace Go.Proofs.Ythionbkdlmiaoaa
set_option linter.unusedVariables false
open Go.RowKit

set_option maxRecDepth 20000 in
set_option maxHeartbeats 8000000 in
theorem prodDivides_walk (a0 : Option Addr) (len0 cap0 : Nat) (l0 : List Nat) (a1 : Option Addr) (len1 cap1 : Nat) (l1 : List Nat) (w : World) (h0 : Came w a0 len0 cap0 l0) (h1 : Came w a1 len1 cap1 l1) :
    Calls Try.prog 9 #[.slice a0 len0 cap0, .slice a1 len1 cap1] w (RetV (.bool true) w) := by
  obtain ⟨t0, ht0, hl0, F0⟩ := h0.few
  obtain ⟨t1, ht1, hl1, F1⟩ := h1.few
  clear h0 h1
  go_enter Try.func9, Try.ntmps9
  go_wp2_with fail
  refine (awake02_any _).mono ?_
  rintro e w1 ⟨rfl, b1⟩
  go_wp2_with fail
  refine (F0.out _ b1).mono ?_
  rintro e w2 ⟨v2, rfl, ⟨A0, c0, rfl, hr0, hc0⟩, b2⟩
  have b2' := below_step b1 b2
  go_wp2_with fail
  refine (F1.out _ b2').mono ?_
  rintro e w3 ⟨v3, rfl, ⟨A1, c1, rfl, hr1, hc1⟩, b3⟩
  have b3' := below_step b2' b3
  have hr0 := hr0.below b3
  clear b1 b2 b3 b2' F0 F1
  go_wp2_with fail
  refine (limbs_any A0 c0 _ _ hr0.row hl0 (by omega)).mono ?_
  rintro e w5 ⟨v5, rfl, hN5, b5⟩
  obtain ⟨B0, m0, d0, rfl⟩ := hN5.shape
  go_wp2_with fail
  refine (limbs_any A1 c1 _ _ (hr1.below b5).row hl1 (by omega)).mono ?_
  rintro e w6 ⟨v6, rfl, hM6, b6⟩
  obtain ⟨B1, m1, d1, rfl⟩ := hM6.shape
  have b56 := below_step b5 b6
  have hr1 := ((hr1.below b56).alloc (.cells #[.slice B0 m0 d0] 26)).alloc (.cells #[.slice B1 m1 d1] 26)
  have hX : Blk ((w6.alloc (.cells #[.slice B0 m0 d0] 26)).alloc (.cells #[.slice B1 m1 d1] 26)) w6.heap.size 26 #[.slice B0 m0 d0] := (Blk.new w6 26 _).alloc _
  have hY : Blk ((w6.alloc (.cells #[.slice B0 m0 d0] 26)).alloc (.cells #[.slice B1 m1 d1] 26)) (w6.heap.size + 1) 26 #[.slice B1 m1 d1] := by
    have := Blk.new (w6.alloc (.cells #[.slice B0 m0 d0] 26)) 26 #[.slice B1 m1 d1]
    simpa using this
  have hN := (((hN5.more ht0).below b6).alloc (.cells #[.slice B0 m0 d0] 26)).alloc (.cells #[.slice B1 m1 d1] 26)
  have hM := ((hM6.more ht1).alloc (.cells #[.slice B0 m0 d0] 26)).alloc (.cells #[.slice B1 m1 d1] 26)
  have bW := below_step (below_step (below_step b3' b56) (below_new _ (.cells #[.slice B0 m0 d0] 26))) (below_new _ (.cells #[.slice B1 m1 d1] 26))
  have O1 := Lib.hid (fun w' (hr : Row .u32 w' A1 t1) => ofD_any A1 t1.length c1 t1 w' rfl hr hl1 (by omega))
  generalize hvN : val 4294967296 t0 = N at *
  generalize hvM : val 4294967296 t1 = M at *
  clear b3' b5 b6 b56 hN5 hM6 hvN hvM hr0
  go_wp2_with fail
  generalize hW : (w6.alloc (.cells #[.slice B0 m0 d0] 26)).alloc (.cells #[.slice B1 m1 d1] 26) = W at *
  clear hW
  rcases Nat.eq_zero_or_pos M with hM0 | hM0
  · subst hM0
    refine (divMod_zero _ _ 40 N 40 _ hN hM (by decide)).mono ?_
    rintro e w7 ⟨rfl, b7⟩
    have hY7 := ((hY.on b7).alloc (.cells #[.slice none 0 0] 26)).alloc (.cells #[.slice none 0 0] 26)
    have hM7 := ((hM.below b7).alloc (.cells #[.slice none 0 0] 26)).alloc (.cells #[.slice none 0 0] 26)
    have bV := below_step (below_step (below_step bW b7) (below_new _ (.cells #[.slice none 0 0] 26))) (below_new _ (.cells #[.slice none 0 0] 26))
    have hP : Blk ((w7.alloc (.cells #[.slice none 0 0] 26)).alloc (.cells #[.slice none 0 0] 26)) w7.heap.size 26 #[.slice none 0 0] := (Blk.new w7 26 _).alloc _
    have hQ : Blk ((w7.alloc (.cells #[.slice none 0 0] 26)).alloc (.cells #[.slice none 0 0] 26)) (w7.heap.size + 1) 26 #[.slice none 0 0] := by
      have := Blk.new (w7.alloc (.cells #[.slice none 0 0] 26)) 26 #[.slice none 0 0]
      simpa using this
    have hZ : ∀ w' : World, IsN w' (.agg #[.slice none 0 0]) 0 0 := fun w' => ⟨none, 0, [], rfl, Arr.empty, Norm.nil _, rfl, by simp, by simp⟩
    have hcy := hY7.cell0
    clear hX hY hN hM bW b7
    go_wp2_with fail
    generalize hV : (w7.alloc (.cells #[.slice none 0 0] 26)).alloc (.cells #[.slice none 0 0] 26) = V at *
    clear hV
    refine (zero_any _ 40 0 true _ hM7 rfl).mono ?_
    rintro e w8 ⟨rfl, b8⟩
    have hc8 := (hP.on b8).cell0
    go_wp2_with fail
    refine (zero_any _ 0 0 true _ (hZ _) rfl).mono ?_
    rintro e w9 ⟨rfl, b9⟩
    have hc9 := ((hQ.on b8).on b9).cell0
    go_wp2_with fail
    refine (zero_any _ 0 0 true _ (hZ _) rfl).mono ?_
    rintro e w10 ⟨rfl, b10⟩
    go_wp2
    go_ret
    exact ⟨rfl, below_step (below_step (below_step bV b8) b9) b10⟩
  · refine (divMod_all _ _ 40 N M 40 _ hN hM (by decide) (by decide) (by decide) hM0).mono ?_
    rintro e w7 ⟨v7, u7, rfl, hQ7, hR7, b7⟩
    obtain ⟨B2, m2, d2, rfl⟩ := hQ7.shape
    obtain ⟨B3, m3, d3, rfl⟩ := hR7.shape
    have hX := ((hX.on b7).alloc (.cells #[.slice B2 m2 d2] 26)).alloc (.cells #[.slice B3 m3 d3] 26)
    have hY := ((hY.on b7).alloc (.cells #[.slice B2 m2 d2] 26)).alloc (.cells #[.slice B3 m3 d3] 26)
    have hN := ((hN.below b7).alloc (.cells #[.slice B2 m2 d2] 26)).alloc (.cells #[.slice B3 m3 d3] 26)
    have hM := ((hM.below b7).alloc (.cells #[.slice B2 m2 d2] 26)).alloc (.cells #[.slice B3 m3 d3] 26)
    have hr1 := ((hr1.below b7).alloc (.cells #[.slice B2 m2 d2] 26)).alloc (.cells #[.slice B3 m3 d3] 26)
    have hQ := (hQ7.alloc (.cells #[.slice B2 m2 d2] 26)).alloc (.cells #[.slice B3 m3 d3] 26)
    have hR := (hR7.alloc (.cells #[.slice B2 m2 d2] 26)).alloc (.cells #[.slice B3 m3 d3] 26)
    have bW := below_step (below_step (below_step bW b7) (below_new _ (.cells #[.slice B2 m2 d2] 26))) (below_new _ (.cells #[.slice B3 m3 d3] 26))
    have hP : Blk ((w7.alloc (.cells #[.slice B2 m2 d2] 26)).alloc (.cells #[.slice B3 m3 d3] 26)) w7.heap.size 26 #[.slice B2 m2 d2] := (Blk.new w7 26 _).alloc _
    have hS : Blk ((w7.alloc (.cells #[.slice B2 m2 d2] 26)).alloc (.cells #[.slice B3 m3 d3] 26)) (w7.heap.size + 1) 26 #[.slice B3 m3 d3] := by
      have := Blk.new (w7.alloc (.cells #[.slice B2 m2 d2] 26)) 26 #[.slice B3 m3 d3]
      simpa using this
    have hlt : N % M < M := Nat.mod_lt _ hM0
    have hcm : cmpN (N % M) M = -1 := cmpN_lt hlt
    have hdm : N / M * M + N % M = N := by rw [Nat.mul_comm]; exact Nat.div_add_mod N M
    have CM := Lib.hid (fun w' (h : IsN w' (.agg #[.slice B3 m3 d3]) 40 (N % M)) (h' : IsN w' (.agg #[.slice B1 m1 d1]) 40 M) => compare_any _ _ 40 40 (N % M) M w' h h' (by decide) (by decide))
    rw [hcm] at CM
    have HDM := Lib.hid hdm
    clear hdm hcm hlt hQ7 hR7 b7
    have hcy := hY.cell0
    go_wp2_with fail
    generalize hV : (w7.alloc (.cells #[.slice B2 m2 d2] 26)).alloc (.cells #[.slice B3 m3 d3] 26) = V at *
    clear hV
    generalize N / M = Q at *
    generalize N % M = R at *
    refine (zero_any _ 40 M false _ hM (by simp; omega)).mono ?_
    rintro e w8 ⟨rfl, b8⟩
    have hc8 := (hS.on b8).cell0
    have hc8' := (hY.on b8).cell0
    go_wp2_with fail
    refine (CM.out _ (hR.below b8) (hM.below b8)).mono ?_
    rintro e w9 ⟨rfl, b9⟩
    have b89 := below_step b8 b9
    have hc9 := (hP.on b89).cell0
    obtain ⟨lq, hnq, hvq, hlq⟩ : ∃ lq : List Nat, Norm 4294967296 lq ∧ val 4294967296 lq = Q ∧ lq.length ≤ 40 := by
      obtain ⟨_, _, l, _, _, h1, h2, h3, _⟩ := hQ.limbs
      exact ⟨l, h1, h2, h3⟩
    go_wp2_with fail
    refine (limbsN_any _ 40 Q _ (hQ.below b89) (by decide) lq hnq hvq).mono ?_
    rintro e w10 ⟨s10, rfl, ⟨A10, c10, rfl, hr10, hc10⟩, b10⟩
    have b810 := below_step b89 b10
    have T10 := Lib.hid (ofD_any A10 lq.length c10 lq w10 rfl hr10.row hnq.1 (by omega))
    rw [hvq] at T10
    go_wp2_with fail
    refine T10.out.mono ?_
    rintro e w11 ⟨s11, rfl, hD11, b11⟩
    have b811 := below_step b810 b11
    go_wp2_with fail
    refine (O1.out _ (hr1.below b811).row).mono ?_
    rintro e w12 ⟨s12, rfl, hD12, b12⟩
    go_wp2_with fail
    refine (mulD_any _ _ 400 400 Q M _ ((hD11.below b12).more (by omega)) (hD12.more (by omega)) (by decide) (by decide)).mono ?_
    rintro e w13 ⟨s13, rfl, hD13, b13⟩
    have b813 := below_step (below_step b811 b12) b13
    have hX := hX.on b813
    have hS := hS.on b813
    have hN := hN.below b813
    have hR := hR.below b813
    have bW := below_step bW b813
    obtain ⟨lr, hnr, hvr, hlr⟩ : ∃ lr : List Nat, Norm 4294967296 lr ∧ val 4294967296 lr = R ∧ lr.length ≤ 40 := by
      obtain ⟨_, _, l, _, _, h1, h2, h3, _⟩ := hR.limbs
      exact ⟨l, h1, h2, h3⟩
    have LR := Lib.hid (fun w' (h : IsN w' (.agg #[.slice B3 m3 d3]) 40 R) => limbsN_any _ 40 R w' h (by decide) lr hnr hvr)
    have OR := Lib.hid (fun w' A c (h : Row .u32 w' A lr) => ofD_any A lr.length c lr w' rfl h hnr.1 (by omega))
    rw [hvr] at OR
    clear b8 b9 b89 b10 b810 b11 b811 b12 b13 b813 hc8 hc8' hc9 hcy hY hM hP hQ hr1 O1 T10 hr10 hD11 hD12 CM hnq hvq hnr hvr
    have tok1 : True := trivial
    have tok2 : True := trivial
    have tok3 : True := trivial
    have tok4 : True := trivial
    go_wp2_with fail
    go_region_held3 (fun w' => w'.cell? ⟨w6.heap.size, 0, none⟩ = some (.slice B0 m0 d0) ∧ w'.cell? ⟨w7.heap.size + 1, 0, none⟩ = some (.slice B3 m3 d3))
      (first | exact keep2 hX hS (below_drew _) | exact keep2 hX hS hw1 | exact keep2 hX hS hw2 | exact keep2 hX hS hw3 | exact keep2 hX hS hw4)
      (first
        | (go_at_call 34; have _t := tok1; clear tok1; refine (LR.out _ (hR.below (below_drew _))).mono ?_; rintro e x1 ⟨s1, rfl, ⟨C1, k1, rfl, hs1, hk1⟩, y1⟩; have hw1 : Below w13.heap.size w13 x1 := below_step (below_drew _) y1)
        | (go_at_call 15; have _t := tok2; clear tok2; refine (OR.out _ _ _ hs1.row).mono ?_; rintro e x2 ⟨s2, rfl, hS2, y2⟩; have hw2 : Below w13.heap.size w13 x2 := below_step hw1 y2)
        | (go_at_call 18; have _t := tok3; clear tok3; refine (addD_any _ _ 801 400 (Q * M) R _ (hD13.below hw2) (hS2.more (by omega)) (by decide) (by decide)).mono ?_; rintro e x3 ⟨s3, rfl, hS3, y3⟩; have hw3 : Below w13.heap.size w13 x3 := below_step hw2 y3)
        | (go_at_call 16; have _t := tok4; clear tok4; refine (is_any _ _ 40 (max 801 400 + 1) N (Q * M + R) true _ (hN.below hw3) hS3 (by decide) (by decide) (by rw [HDM.out]; simp)).mono ?_; rintro e x4 ⟨rfl, y4⟩; have hw4 : Below w13.heap.size w13 x4 := below_step hw3 y4))
    go_wp2
    go_ret
    exact ⟨rfl, below_step bW hw4⟩
end Go.Proofs.Ythionbkdlmiaoaa
