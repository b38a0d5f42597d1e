/-
  The law NatCompares.
-/
import Derived.Test.YthionbkdlmiaoaaIs
namespace Go.Proofs.Ythionbkdlmiaoaa
set_option linter.unusedVariables false
open Go.RowKit

theorem cmpN_swap {a b : Nat} : cmpN b a = -cmpN a b := by
  rcases Nat.lt_trichotomy a b with h | h | h
  · rw [cmpN_lt h, cmpN_gt h]; rfl
  · subst h; rw [cmpN_eq]; rfl
  · rw [cmpN_lt h, cmpN_gt h]
theorem cmpN_add (a b c : Nat) : cmpN (a + c) (b + c) = cmpN a b := by
  rcases Nat.lt_trichotomy a b with h | h | h
  · rw [cmpN_lt h, cmpN_lt (by omega)]
  · subst h; rw [cmpN_eq, cmpN_eq]
  · rw [cmpN_gt h, cmpN_gt (by omega)]
theorem cmpN_le {a b : Nat} : cmpN a b ≤ 0 ↔ a ≤ b := by
  rcases Nat.lt_trichotomy a b with h | h | h
  · rw [cmpN_lt h]; omega
  · subst h; rw [cmpN_eq]; omega
  · rw [cmpN_gt h]; omega

set_option maxHeartbeats 4000000 in
theorem natCompares_walk (a0 : Option Addr) (len0 cap0 : Nat) (l0 : List Nat) (a1 : Option Addr) (len1 cap1 : Nat) (l1 : List Nat) (a2 : Option Addr) (len2 cap2 : Nat) (l2 : List Nat) (w : World)
    (h0 : Came w a0 len0 cap0 l0) (h1 : Came w a1 len1 cap1 l1) (h2 : Came w a2 len2 cap2 l2) :
    Calls Try.prog 4 #[.slice a0 len0 cap0, .slice a1 len1 cap1, .slice a2 len2 cap2] w (RetV (.bool true) w) := by
  obtain ⟨t0, ht0, hl0, F0⟩ := h0.few
  obtain ⟨t1, ht1, hl1, F1⟩ := h1.few
  obtain ⟨t2, ht2, hl2, F2⟩ := h2.few
  clear h0 h1 h2
  go_enter Try.func4, Try.ntmps4
  go_wp2_with fail
  refine (awake_any _).mono ?_
  rintro e w1 ⟨rfl, b1⟩
  go_wp2_with fail
  refine (F0.out _ b1).mono ?_
  rintro e w2 ⟨v2, rfl, ⟨A2, c2, rfl, hr2, hc2⟩, b2⟩
  have b2' := below_step b1 b2
  go_wp2_with fail
  refine (limbs_any A2 c2 _ _ hr2.row hl0 (by omega)).mono ?_
  rintro e w3 ⟨v3, rfl, hN3, b3⟩
  have b3' := below_step b2' b3
  obtain ⟨A3, n3, c3, rfl⟩ := hN3.shape
  go_wp2_with fail
  refine (F1.out _ b3').mono ?_
  rintro e w4 ⟨v4, rfl, ⟨A4, c4, rfl, hr4, hc4⟩, b4⟩
  have b4' := below_step b3' b4
  go_wp2_with fail
  refine (limbs_any A4 c4 _ _ hr4.row hl1 (by omega)).mono ?_
  rintro e w5 ⟨v5, rfl, hM5, b5⟩
  have b5' := below_step b4' b5
  obtain ⟨A5, n5, c5, rfl⟩ := hM5.shape
  go_wp2_with fail
  refine (F2.out _ b5').mono ?_
  rintro e w6 ⟨v6, rfl, ⟨A6, c6, rfl, hr6, hc6⟩, b6⟩
  have b6' := below_step b5' b6
  go_wp2_with fail
  refine (limbs_any A6 c6 _ _ hr6.row hl2 (by omega)).mono ?_
  rintro e w7 ⟨v7, rfl, hZ7, b7⟩
  have b7' := below_step b6' b7
  obtain ⟨A7, n7, c7, rfl⟩ := hZ7.shape
  have hN := (((hN3.more ht0).below (below_step (below_step (below_step b4 b5) b6) b7)))
  have hM := ((hM5.more ht1).below (below_step b6 b7))
  have hZ := hZ7.more ht2
  have hX : Blk (((w7.alloc (Obj.cells #[Value.slice A3 n3 c3] 26)).alloc (Obj.cells #[Value.slice A5 n5 c5] 26)).alloc (Obj.cells #[Value.slice A7 n7 c7] 26)) w7.heap.size 26 #[.slice A3 n3 c3] := ((Blk.new w7 26 _).alloc _).alloc _
  have hY : Blk (((w7.alloc (Obj.cells #[Value.slice A3 n3 c3] 26)).alloc (Obj.cells #[Value.slice A5 n5 c5] 26)).alloc (Obj.cells #[Value.slice A7 n7 c7] 26)) (w7.heap.size + 1) 26 #[.slice A5 n5 c5] := by
    have := (Blk.new (w7.alloc (Obj.cells #[Value.slice A3 n3 c3] 26)) 26 #[.slice A5 n5 c5]).alloc (Obj.cells #[Value.slice A7 n7 c7] 26)
    simpa using this
  have hU : Blk (((w7.alloc (Obj.cells #[Value.slice A3 n3 c3] 26)).alloc (Obj.cells #[Value.slice A5 n5 c5] 26)).alloc (Obj.cells #[Value.slice A7 n7 c7] 26)) (w7.heap.size + 1 + 1) 26 #[.slice A7 n7 c7] := by
    have := Blk.new ((w7.alloc (Obj.cells #[Value.slice A3 n3 c3] 26)).alloc (Obj.cells #[Value.slice A5 n5 c5] 26)) 26 #[.slice A7 n7 c7]
    simpa using this
  have hN := ((hN.alloc (Obj.cells #[Value.slice A3 n3 c3] 26)).alloc (Obj.cells #[Value.slice A5 n5 c5] 26)).alloc (Obj.cells #[Value.slice A7 n7 c7] 26)
  have hM := ((hM.alloc (Obj.cells #[Value.slice A3 n3 c3] 26)).alloc (Obj.cells #[Value.slice A5 n5 c5] 26)).alloc (Obj.cells #[Value.slice A7 n7 c7] 26)
  have hZ := ((hZ.alloc (Obj.cells #[Value.slice A3 n3 c3] 26)).alloc (Obj.cells #[Value.slice A5 n5 c5] 26)).alloc (Obj.cells #[Value.slice A7 n7 c7] 26)
  have bW := below_step (below_step (below_step b7' (below_new _ (Obj.cells #[Value.slice A3 n3 c3] 26))) (below_new _ (Obj.cells #[Value.slice A5 n5 c5] 26))) (below_new _ (Obj.cells #[Value.slice A7 n7 c7] 26))
  clear b1 b2 b3 b4 b5 b6 b7 b2' b3' b4' b5' b6' b7' hN3 hM5 hZ7 hr2 hr4 hr6
  go_wp2_with fail
  generalize hW : ((w7.alloc (Obj.cells #[Value.slice A3 n3 c3] 26)).alloc (Obj.cells #[Value.slice A5 n5 c5] 26)).alloc (Obj.cells #[Value.slice A7 n7 c7] 26) = W at *
  clear hW
  have OD0 := Lib.hid (fun (w' : World) (A : Option Addr) (c : Nat) (hr : Arr 47 .u32 w' A t0) => ofD_any A t0.length c t0 w' rfl hr.row hl0 (by omega))
  have OD1 := Lib.hid (fun (w' : World) (A : Option Addr) (c : Nat) (hr : Arr 47 .u32 w' A t1) => ofD_any A t1.length c t1 w' rfl hr.row hl1 (by omega))
  generalize val 4294967296 t0 = N at *
  generalize val 4294967296 t1 = M at *
  generalize val 4294967296 t2 = Z at *
  obtain ⟨cn, hcn⟩ : ∃ cn, cn = cmpN N M := ⟨_, rfl⟩
  obtain ⟨p, hp⟩ : ∃ p, p = cmpN M Z := ⟨_, rfl⟩
  obtain ⟨q, hq⟩ : ∃ q, q = cmpN N Z := ⟨_, rfl⟩
  have C1 : Hid (∀ w', Below W.heap.size W w' → Calls Try.prog 24 #[.agg #[.slice A3 n3 c3], .agg #[.slice A5 n5 c5]] w' (RetV (.int .i64 cn) w')) := fun w' hb => by rw [hcn]; exact compare_any _ _ 40 40 N M w' (hN.below hb) (hM.below hb) (by decide) (by decide)
  have C2 : Hid (∀ w', Below W.heap.size W w' → Calls Try.prog 24 #[.agg #[.slice A5 n5 c5], .agg #[.slice A3 n3 c3]] w' (RetV (.int .i64 (-cn)) w')) := fun w' hb => by rw [hcn, ← cmpN_swap]; exact compare_any _ _ 40 40 M N w' (hM.below hb) (hN.below hb) (by decide) (by decide)
  have C3 : Hid (∀ w', Below W.heap.size W w' → Calls Try.prog 24 #[.agg #[.slice A3 n3 c3], .agg #[.slice A3 n3 c3]] w' (RetV (.int .i64 0) w')) := fun w' hb => by rw [← cmpN_eq N]; exact compare_any _ _ 40 40 N N w' (hN.below hb) (hN.below hb) (by decide) (by decide)
  have C4 : Hid (∀ w', Below W.heap.size W w' → Calls Try.prog 24 #[.agg #[.slice A5 n5 c5], .agg #[.slice A7 n7 c7]] w' (RetV (.int .i64 p) w')) := fun w' hb => by rw [hp]; exact compare_any _ _ 40 40 M Z w' (hM.below hb) (hZ.below hb) (by decide) (by decide)
  have C5 : Hid (∀ w', Below W.heap.size W w' → Calls Try.prog 24 #[.agg #[.slice A3 n3 c3], .agg #[.slice A7 n7 c7]] w' (RetV (.int .i64 q) w')) := fun w' hb => by rw [hq]; exact compare_any _ _ 40 40 N Z w' (hN.below hb) (hZ.below hb) (by decide) (by decide)
  have C6 : Hid (∀ w' (u v : Value), IsN w' u 41 (N + Z) → IsN w' v 41 (M + Z) → Calls Try.prog 24 #[u, v] w' (RetV (.int .i64 cn) w')) := fun w' u v hu hv => by rw [hcn, ← cmpN_add N M Z]; exact compare_any _ _ 41 41 _ _ w' hu hv (by decide) (by decide)
  have D1 : Hid (∀ w' (u v : Value), IsD w' u (10 * t0.length) N → IsD w' v (10 * t1.length) M → Calls Try.prog 21 #[u, v] w' (RetV (.int .i64 cn) w')) := fun w' u v hu hv => by rw [hcn]; exact compareD_any _ _ _ _ _ _ w' hu hv (by omega) (by omega)
  have SM : Hid (∀ w', Below W.heap.size W w' → Calls Try.prog 19 #[.agg #[.slice A3 n3 c3], .agg #[.slice A5 n5 c5]] w' (RetV (.bool (cn == 0)) w')) := fun w' hb => same_any _ _ 40 40 N M _ w' (hN.below hb) (hM.below hb) (by decide) (by decide) (by rw [hcn, Bool.eq_iff_iff]; simp [cmpN_zero])
  have A1 : Hid (∀ w', Below W.heap.size W w' → Calls Try.prog 17 #[.agg #[.slice A3 n3 c3], .agg #[.slice A7 n7 c7]] w' (RetN 41 (N + Z) w')) := fun w' hb => add_any _ _ 40 40 N Z w' (hN.below hb) (hZ.below hb) (by decide) (by decide)
  have A2' : Hid (∀ w', Below W.heap.size W w' → Calls Try.prog 17 #[.agg #[.slice A5 n5 c5], .agg #[.slice A7 n7 c7]] w' (RetN 41 (M + Z) w')) := fun w' hb => add_any _ _ 40 40 M Z w' (hM.below hb) (hZ.below hb) (by decide) (by decide)
  have hways : (cn = 1) ∨ (cn = -1 ∧ p ≤ 0 ∧ q ≤ 0) ∨ (cn = -1 ∧ 0 < p) ∨ (cn = 0 ∧ p ≤ 0 ∧ q ≤ 0) ∨ (cn = 0 ∧ 0 < p) := by
    have h1 := cmpN_cases N M
    have h2 : p ≤ 0 ↔ M ≤ Z := by rw [hp]; exact cmpN_le
    have h3 : q ≤ 0 ↔ N ≤ Z := by rw [hq]; exact cmpN_le
    have h4 : cn ≤ 0 ↔ N ≤ M := by rw [hcn]; exact cmpN_le
    rw [← hcn] at h1
    omega
  clear hcn hp hq hN hM hZ
  have hc7 := hX.cell0
  have hc8 := hY.cell0
  go_wp2_with fail
  refine (C1.out _ (Below.refl _ _)).mono ?_
  rintro e w8 ⟨rfl, b8⟩
  go_wp2_with fail
  refine (F0.out _ (below_step bW b8)).mono ?_
  rintro e w9 ⟨v9, rfl, ⟨A9, c9, rfl, hr9, hc9⟩, b9⟩
  have b9' := below_step b8 b9
  go_wp2_with fail
  refine (OD0.out _ A9 c9 hr9).mono ?_
  rintro e w10 ⟨v10, rfl, hD10, b10⟩
  have b10' := below_step b9' b10
  go_wp2_with fail
  refine (F1.out _ (below_step bW b10')).mono ?_
  rintro e w11 ⟨v11, rfl, ⟨A11, c11, rfl, hr11, hc11⟩, b11⟩
  have b11' := below_step b10' b11
  go_wp2_with fail
  refine (OD1.out _ A11 c11 hr11).mono ?_
  rintro e w12 ⟨v12, rfl, hD12, b12⟩
  have b12' := below_step b11' b12
  go_wp2_with fail
  refine (D1.out _ _ _ ((hD10.below b11).below b12) hD12).mono ?_
  rintro e w13 ⟨rfl, b13⟩
  have b13' := below_step b12' b13
  have hX13 := hX.on b13'
  have hY13 := hY.on b13'
  have hU13 := hU.on b13'
  have bW13 := below_step bW b13'
  clear hc7 hc8 b8 b9 b10 b11 b12 b13 b9' b10' b11' b12' hr9 hr11 hc9 hc11 hD10 hD12 F0 F1 F2 OD0 OD1
  have hc7 := hX13.cell0
  have hc8 := hY13.cell0
  have hc9 := hU13.cell0
  rcases hways with rfl | ⟨rfl, hp, hq⟩ | ⟨rfl, hp⟩ | ⟨rfl, hp, hq⟩ | ⟨rfl, hp⟩
  · skip
    go_wp2_with fail
    refine (C2.out _ b13').mono ?_
    rintro e w14 ⟨rfl, b14⟩
    have b14' := below_step b13' b14
    have hc7 := (hX.on b14').cell0
    have hc8 := (hY.on b14').cell0
    go_wp2_with fail
    refine (SM.out _ b14').mono ?_
    rintro e w15 ⟨rfl, b15⟩
    have b15' := below_step b14' b15
    have hc7 := (hX.on b15').cell0
    have hc8 := (hY.on b15').cell0
    have hc9 := (hU.on b15').cell0
    go_wp2_with fail
    refine (C3.out _ b15').mono ?_
    rintro e w16 ⟨rfl, b16⟩
    have b16' := below_step b15' b16
    have hc7 := (hX.on b16').cell0
    have hc8 := (hY.on b16').cell0
    have hc9 := (hU.on b16').cell0
    go_wp2_with fail
    obtain ⟨V, hV⟩ : ∃ V, V = w16 := ⟨_, rfl⟩
    rw [← hV]
    rw [← hV] at b16'
    clear hV
    have hXV := hX.on b16'
    have hYV := hY.on b16'
    have hUV := hU.on b16'
    have tok1 : True := trivial
    have tok2 : True := trivial
    have tok3 : True := trivial
    go_region_held3 (fun w' => w'.cell? ⟨w7.heap.size, 0, none⟩ = some (.slice A3 n3 c3) ∧ w'.cell? ⟨w7.heap.size + 1, 0, none⟩ = some (.slice A5 n5 c5) ∧ w'.cell? ⟨w7.heap.size + 1 + 1, 0, none⟩ = some (.slice A7 n7 c7))
      (first | exact keep3 hXV hYV hUV (below_drew _) | exact keep3 hXV hYV hUV hw20 | exact keep3 hXV hYV hUV hw21 | exact keep3 hXV hYV hUV hw22)
      (first
        | (go_at_call 17; have _t := tok1; clear tok1; refine (A1.out _ (below_step b16' (below_drew _))).mono ?_; rintro e w20 ⟨v20, rfl, hS20, b20⟩; have hw20 : Below V.heap.size V w20 := below_step (below_drew _) b20)
        | (go_at_call 17; have _t := tok2; clear tok2; refine (A2'.out _ (below_step b16' hw20)).mono ?_; rintro e w21 ⟨v21, rfl, hS21, b21⟩; have hw21 : Below V.heap.size V w21 := below_step hw20 b21)
        | (go_at_call 24; have _t := tok3; clear tok3; refine (C6.out _ _ _ (hS20.below b21) hS21).mono ?_; rintro e w22 ⟨rfl, b22⟩; have hw22 : Below V.heap.size V w22 := below_step hw21 b22))
    go_wp2
    go_ret
    exact ⟨rfl, below_step (below_step bW b16') hw22⟩
  · have dq : decide (0 < q) = false := decide_eq_false (by omega)
    go_wp2_with fail
    refine (C2.out _ b13').mono ?_
    rintro e w14 ⟨rfl, b14⟩
    have b14' := below_step b13' b14
    have hc7 := (hX.on b14').cell0
    have hc8 := (hY.on b14').cell0
    go_wp2_with fail
    refine (SM.out _ b14').mono ?_
    rintro e w15 ⟨rfl, b15⟩
    have b15' := below_step b14' b15
    have hc7 := (hX.on b15').cell0
    have hc8 := (hY.on b15').cell0
    have hc9 := (hU.on b15').cell0
    go_wp2_with fail
    refine (C3.out _ b15').mono ?_
    rintro e w16 ⟨rfl, b16⟩
    have b16' := below_step b15' b16
    have hc7 := (hX.on b16').cell0
    have hc8 := (hY.on b16').cell0
    have hc9 := (hU.on b16').cell0
    go_wp2_with fail
    refine (C4.out _ b16').mono ?_
    rintro e w17 ⟨rfl, b17⟩
    have b17' := below_step b16' b17
    have hc7 := (hX.on b17').cell0
    have hc8 := (hY.on b17').cell0
    have hc9 := (hU.on b17').cell0
    go_wp2_with fail
    refine (C5.out _ b17').mono ?_
    rintro e w18 ⟨rfl, b18⟩
    have b18' := below_step b17' b18
    have hc7 := (hX.on b18').cell0
    have hc8 := (hY.on b18').cell0
    have hc9 := (hU.on b18').cell0
    go_wp2_with fail
    obtain ⟨V, hV⟩ : ∃ V, V = w18 := ⟨_, rfl⟩
    rw [← hV]
    rw [← hV] at b18'
    clear hV
    have hXV := hX.on b18'
    have hYV := hY.on b18'
    have hUV := hU.on b18'
    have tok1 : True := trivial
    have tok2 : True := trivial
    have tok3 : True := trivial
    go_region_held3 (fun w' => w'.cell? ⟨w7.heap.size, 0, none⟩ = some (.slice A3 n3 c3) ∧ w'.cell? ⟨w7.heap.size + 1, 0, none⟩ = some (.slice A5 n5 c5) ∧ w'.cell? ⟨w7.heap.size + 1 + 1, 0, none⟩ = some (.slice A7 n7 c7))
      (first | exact keep3 hXV hYV hUV (below_drew _) | exact keep3 hXV hYV hUV hw20 | exact keep3 hXV hYV hUV hw21 | exact keep3 hXV hYV hUV hw22)
      (first
        | (go_at_call 17; have _t := tok1; clear tok1; refine (A1.out _ (below_step b18' (below_drew _))).mono ?_; rintro e w20 ⟨v20, rfl, hS20, b20⟩; have hw20 : Below V.heap.size V w20 := below_step (below_drew _) b20)
        | (go_at_call 17; have _t := tok2; clear tok2; refine (A2'.out _ (below_step b18' hw20)).mono ?_; rintro e w21 ⟨v21, rfl, hS21, b21⟩; have hw21 : Below V.heap.size V w21 := below_step hw20 b21)
        | (go_at_call 24; have _t := tok3; clear tok3; refine (C6.out _ _ _ (hS20.below b21) hS21).mono ?_; rintro e w22 ⟨rfl, b22⟩; have hw22 : Below V.heap.size V w22 := below_step hw21 b22))
    go_wp2
    go_ret
    exact ⟨rfl, below_step (below_step bW b18') hw22⟩
  · have dp : decide (p ≤ 0) = false := decide_eq_false (by omega)
    go_wp2_with fail
    refine (C2.out _ b13').mono ?_
    rintro e w14 ⟨rfl, b14⟩
    have b14' := below_step b13' b14
    have hc7 := (hX.on b14').cell0
    have hc8 := (hY.on b14').cell0
    go_wp2_with fail
    refine (SM.out _ b14').mono ?_
    rintro e w15 ⟨rfl, b15⟩
    have b15' := below_step b14' b15
    have hc7 := (hX.on b15').cell0
    have hc8 := (hY.on b15').cell0
    have hc9 := (hU.on b15').cell0
    go_wp2_with fail
    refine (C3.out _ b15').mono ?_
    rintro e w16 ⟨rfl, b16⟩
    have b16' := below_step b15' b16
    have hc7 := (hX.on b16').cell0
    have hc8 := (hY.on b16').cell0
    have hc9 := (hU.on b16').cell0
    go_wp2_with fail
    refine (C4.out _ b16').mono ?_
    rintro e w17 ⟨rfl, b17⟩
    have b17' := below_step b16' b17
    have hc7 := (hX.on b17').cell0
    have hc8 := (hY.on b17').cell0
    have hc9 := (hU.on b17').cell0
    go_wp2_with fail
    obtain ⟨V, hV⟩ : ∃ V, V = w17 := ⟨_, rfl⟩
    rw [← hV]
    rw [← hV] at b17'
    clear hV
    have hXV := hX.on b17'
    have hYV := hY.on b17'
    have hUV := hU.on b17'
    have tok1 : True := trivial
    have tok2 : True := trivial
    have tok3 : True := trivial
    go_region_held3 (fun w' => w'.cell? ⟨w7.heap.size, 0, none⟩ = some (.slice A3 n3 c3) ∧ w'.cell? ⟨w7.heap.size + 1, 0, none⟩ = some (.slice A5 n5 c5) ∧ w'.cell? ⟨w7.heap.size + 1 + 1, 0, none⟩ = some (.slice A7 n7 c7))
      (first | exact keep3 hXV hYV hUV (below_drew _) | exact keep3 hXV hYV hUV hw20 | exact keep3 hXV hYV hUV hw21 | exact keep3 hXV hYV hUV hw22)
      (first
        | (go_at_call 17; have _t := tok1; clear tok1; refine (A1.out _ (below_step b17' (below_drew _))).mono ?_; rintro e w20 ⟨v20, rfl, hS20, b20⟩; have hw20 : Below V.heap.size V w20 := below_step (below_drew _) b20)
        | (go_at_call 17; have _t := tok2; clear tok2; refine (A2'.out _ (below_step b17' hw20)).mono ?_; rintro e w21 ⟨v21, rfl, hS21, b21⟩; have hw21 : Below V.heap.size V w21 := below_step hw20 b21)
        | (go_at_call 24; have _t := tok3; clear tok3; refine (C6.out _ _ _ (hS20.below b21) hS21).mono ?_; rintro e w22 ⟨rfl, b22⟩; have hw22 : Below V.heap.size V w22 := below_step hw21 b22))
    go_wp2
    go_ret
    exact ⟨rfl, below_step (below_step bW b17') hw22⟩
  · have dq : decide (0 < q) = false := decide_eq_false (by omega)
    go_wp2_with fail
    refine (C2.out _ b13').mono ?_
    rintro e w14 ⟨rfl, b14⟩
    have b14' := below_step b13' b14
    have hc7 := (hX.on b14').cell0
    have hc8 := (hY.on b14').cell0
    go_wp2_with fail
    refine (SM.out _ b14').mono ?_
    rintro e w15 ⟨rfl, b15⟩
    have b15' := below_step b14' b15
    have hc7 := (hX.on b15').cell0
    have hc8 := (hY.on b15').cell0
    have hc9 := (hU.on b15').cell0
    go_wp2_with fail
    refine (C3.out _ b15').mono ?_
    rintro e w16 ⟨rfl, b16⟩
    have b16' := below_step b15' b16
    have hc7 := (hX.on b16').cell0
    have hc8 := (hY.on b16').cell0
    have hc9 := (hU.on b16').cell0
    go_wp2_with fail
    refine (C4.out _ b16').mono ?_
    rintro e w17 ⟨rfl, b17⟩
    have b17' := below_step b16' b17
    have hc7 := (hX.on b17').cell0
    have hc8 := (hY.on b17').cell0
    have hc9 := (hU.on b17').cell0
    go_wp2_with fail
    refine (C5.out _ b17').mono ?_
    rintro e w18 ⟨rfl, b18⟩
    have b18' := below_step b17' b18
    have hc7 := (hX.on b18').cell0
    have hc8 := (hY.on b18').cell0
    have hc9 := (hU.on b18').cell0
    go_wp2_with fail
    obtain ⟨V, hV⟩ : ∃ V, V = w18 := ⟨_, rfl⟩
    rw [← hV]
    rw [← hV] at b18'
    clear hV
    have hXV := hX.on b18'
    have hYV := hY.on b18'
    have hUV := hU.on b18'
    have tok1 : True := trivial
    have tok2 : True := trivial
    have tok3 : True := trivial
    go_region_held3 (fun w' => w'.cell? ⟨w7.heap.size, 0, none⟩ = some (.slice A3 n3 c3) ∧ w'.cell? ⟨w7.heap.size + 1, 0, none⟩ = some (.slice A5 n5 c5) ∧ w'.cell? ⟨w7.heap.size + 1 + 1, 0, none⟩ = some (.slice A7 n7 c7))
      (first | exact keep3 hXV hYV hUV (below_drew _) | exact keep3 hXV hYV hUV hw20 | exact keep3 hXV hYV hUV hw21 | exact keep3 hXV hYV hUV hw22)
      (first
        | (go_at_call 17; have _t := tok1; clear tok1; refine (A1.out _ (below_step b18' (below_drew _))).mono ?_; rintro e w20 ⟨v20, rfl, hS20, b20⟩; have hw20 : Below V.heap.size V w20 := below_step (below_drew _) b20)
        | (go_at_call 17; have _t := tok2; clear tok2; refine (A2'.out _ (below_step b18' hw20)).mono ?_; rintro e w21 ⟨v21, rfl, hS21, b21⟩; have hw21 : Below V.heap.size V w21 := below_step hw20 b21)
        | (go_at_call 24; have _t := tok3; clear tok3; refine (C6.out _ _ _ (hS20.below b21) hS21).mono ?_; rintro e w22 ⟨rfl, b22⟩; have hw22 : Below V.heap.size V w22 := below_step hw21 b22))
    go_wp2
    go_ret
    exact ⟨rfl, below_step (below_step bW b18') hw22⟩
  · have dp : decide (p ≤ 0) = false := decide_eq_false (by omega)
    go_wp2_with fail
    refine (C2.out _ b13').mono ?_
    rintro e w14 ⟨rfl, b14⟩
    have b14' := below_step b13' b14
    have hc7 := (hX.on b14').cell0
    have hc8 := (hY.on b14').cell0
    go_wp2_with fail
    refine (SM.out _ b14').mono ?_
    rintro e w15 ⟨rfl, b15⟩
    have b15' := below_step b14' b15
    have hc7 := (hX.on b15').cell0
    have hc8 := (hY.on b15').cell0
    have hc9 := (hU.on b15').cell0
    go_wp2_with fail
    refine (C3.out _ b15').mono ?_
    rintro e w16 ⟨rfl, b16⟩
    have b16' := below_step b15' b16
    have hc7 := (hX.on b16').cell0
    have hc8 := (hY.on b16').cell0
    have hc9 := (hU.on b16').cell0
    go_wp2_with fail
    refine (C4.out _ b16').mono ?_
    rintro e w17 ⟨rfl, b17⟩
    have b17' := below_step b16' b17
    have hc7 := (hX.on b17').cell0
    have hc8 := (hY.on b17').cell0
    have hc9 := (hU.on b17').cell0
    go_wp2_with fail
    obtain ⟨V, hV⟩ : ∃ V, V = w17 := ⟨_, rfl⟩
    rw [← hV]
    rw [← hV] at b17'
    clear hV
    have hXV := hX.on b17'
    have hYV := hY.on b17'
    have hUV := hU.on b17'
    have tok1 : True := trivial
    have tok2 : True := trivial
    have tok3 : True := trivial
    go_region_held3 (fun w' => w'.cell? ⟨w7.heap.size, 0, none⟩ = some (.slice A3 n3 c3) ∧ w'.cell? ⟨w7.heap.size + 1, 0, none⟩ = some (.slice A5 n5 c5) ∧ w'.cell? ⟨w7.heap.size + 1 + 1, 0, none⟩ = some (.slice A7 n7 c7))
      (first | exact keep3 hXV hYV hUV (below_drew _) | exact keep3 hXV hYV hUV hw20 | exact keep3 hXV hYV hUV hw21 | exact keep3 hXV hYV hUV hw22)
      (first
        | (go_at_call 17; have _t := tok1; clear tok1; refine (A1.out _ (below_step b17' (below_drew _))).mono ?_; rintro e w20 ⟨v20, rfl, hS20, b20⟩; have hw20 : Below V.heap.size V w20 := below_step (below_drew _) b20)
        | (go_at_call 17; have _t := tok2; clear tok2; refine (A2'.out _ (below_step b17' hw20)).mono ?_; rintro e w21 ⟨v21, rfl, hS21, b21⟩; have hw21 : Below V.heap.size V w21 := below_step hw20 b21)
        | (go_at_call 24; have _t := tok3; clear tok3; refine (C6.out _ _ _ (hS20.below b21) hS21).mono ?_; rintro e w22 ⟨rfl, b22⟩; have hw22 : Below V.heap.size V w22 := below_step hw21 b22))
    go_wp2
    go_ret
    exact ⟨rfl, below_step (below_step bW b17') hw22⟩
end Go.Proofs.Ythionbkdlmiaoaa
