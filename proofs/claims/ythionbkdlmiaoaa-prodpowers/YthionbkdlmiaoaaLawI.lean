/-
  The walk of the law on powers.
-/
import Derived.Test.YthionbkdlmiaoaaPowB
import Derived.Test.YthionbkdlmiaoaaAwakeB
namespace Go.Proofs.Ythionbkdlmiaoaa
set_option linter.unusedVariables false
open Go.RowKit

/-- A slice that came in, cut shorter. -/
theorem Came.cut {w : World} {a : Option Addr} {len cap : Nat} {l : List Nat} (h : Came w a len cap l) (n : Nat) (hn : n ≤ len) : Came w a n cap (l.take n) :=
  ⟨by rw [List.length_take, h.1]; omega, h.2.take n, fun x hx => h.3 x (List.mem_of_mem_take hx), Nat.le_trans hn h.4⟩

set_option maxRecDepth 20000 in
set_option maxHeartbeats 8000000 in
theorem prodPowers_walk (a0 : Option Addr) (len0 cap0 : Nat) (l0 : List Nat) (n : Int) (w : World) (h0 : Came w a0 len0 cap0 l0) (hn1 : -9223372036854775808 ≤ n) (hn2 : n < 9223372036854775808) :
    Calls Try.prog 11 #[.slice a0 len0 cap0, .int .i64 n] w (RetV (.bool true) w) := by
  have hlc := h0.le
  go_enter Try.func11, Try.ntmps11
  go_wp2_with fail
  refine (awake02_any _).mono ?_
  rintro e w1 ⟨rfl, b1⟩
  have hcase : (3 < len0 ∧ ∃ t : List Nat, t.length ≤ 40 ∧ (∀ n ∈ t, n < 4294967296) ∧ Hid (∀ w', Below w.heap.size w w' → Calls Try.prog 13 #[.slice a0 3 cap0] w' (RetL 47 .u32 t w'))) ∨
      (¬ 3 < len0 ∧ ∃ t : List Nat, t.length ≤ 40 ∧ (∀ n ∈ t, n < 4294967296) ∧ Hid (∀ w', Below w.heap.size w w' → Calls Try.prog 13 #[.slice a0 len0 cap0] w' (RetL 47 .u32 t w'))) := by
    by_cases h3 : 3 < len0
    · exact .inl ⟨h3, (h0.cut 3 (by omega)).few⟩
    · exact .inr ⟨h3, h0.few⟩
  clear h0
  rcases hcase with ⟨h3, t0, ht0, hl0, F0⟩ | ⟨h3, t0, ht0, hl0, F0⟩
  all_goals
    go_wp2_with fail
    refine (F0.out _ b1).mono ?_
    rintro e w2 ⟨v2, rfl, ⟨A2, c2, rfl, hr2, hc2⟩, b2⟩
    have b2 := below_step b1 b2
    go_wp2_with fail
    refine (limbs_any A2 c2 _ _ hr2.row hl0 (by omega)).mono ?_
    rintro e w3 ⟨v3, rfl, hN3, b3⟩
    obtain ⟨A3, n3, c3, rfl⟩ := hN3.shape
    have hN := (hN3.more ht0).alloc (.cells #[.slice A3 n3 c3] 26)
    have hX := Blk.new w3 26 #[.slice A3 n3 c3]
    have bW := below_step (below_step b2 b3) (below_new _ (.cells #[.slice A3 n3 c3] 26))
    clear b1 b2 b3 hN3 hr2 hc2 F0 hl0
    generalize val 4294967296 t0 = N at *
    go_wp2_with fail
    generalize hW : w3.alloc (.cells #[.slice A3 n3 c3] 26) = W at *
    clear hW
    by_cases hneg : n < 0
    · refine (pow_neg _ 40 N n _ hN hneg).mono ?_
      rintro e w4 ⟨rfl, b4⟩
      have hZ : IsN (w4.alloc (.cells #[.slice none 0 0] 26)) (.agg #[.slice none 0 0]) 0 0 := ⟨none, 0, [], rfl, Arr.empty, Norm.nil _, rfl, by simp, by simp⟩
      go_wp2_with fail
      refine (zero_any _ 0 0 true _ hZ rfl).mono ?_
      rintro e w5 ⟨rfl, b5⟩
      go_wp2
      go_ret
      exact ⟨rfl, below_step (below_step (below_step bW b4) (below_new _ _)) b5⟩
    · obtain ⟨m, rfl⟩ := Int.eq_ofNat_of_zero_le (show 0 ≤ n by omega)
      have hm : m < 9223372036854775808 := by omega
      clear hn1 hn2 hneg
      by_cases hbig : 0 < bl N ∧ 131072 / bl N < m
      · have hb1 := hbig.1
        have hbl := hN.bl_le
        have hg' : 131072 / (bl N : Int) < (m : Int) := by
          have h2 : (131072 : Int) / (bl N : Int) = ((131072 / bl N : Nat) : Int) := by simp
          rw [h2]; omega
        refine (pow_big _ 40 N m _ hN (by decide) hm hbig.1 hbig.2).mono ?_
        rintro e w4 ⟨rfl, b4⟩
        have hX4 := (hX.on b4).alloc (.cells #[.slice none 0 0] 26)
        have hN4 := (hN.below b4).alloc (.cells #[.slice none 0 0] 26)
        have hY4 := Blk.new w4 26 #[.slice none 0 0]
        have b4' := below_step (below_step bW b4) (below_new _ (.cells #[.slice none 0 0] 26))
        have BT := Lib.hid (fun w' (hN : IsN w' (.agg #[.slice A3 n3 c3]) 40 N) => bits_any _ 40 N w' hN (by omega))
        obtain ⟨b, hb⟩ : ∃ b, b = bl N := ⟨_, rfl⟩
        rw [← hb] at BT hg' hbl hb1
        have hcx := hX4.cell0
        clear hb hbig b4 bW hX hN
        go_wp2_with fail
        generalize hV : w4.alloc (.cells #[.slice none 0 0] 26) = V at *
        clear hV
        refine (BT.out _ hN4).mono ?_
        rintro e w5 ⟨rfl, b5⟩
        have hcx5 := (hX4.on b5).cell0
        go_wp2_with fail
        refine (BT.out _ (hN4.below b5)).mono ?_
        rintro e w6 ⟨rfl, b6⟩
        have hcy6 := ((hY4.on b5).on b6).cell0
        have hZ : IsN w6 (.agg #[.slice none 0 0]) 0 0 := ⟨none, 0, [], rfl, Arr.empty, Norm.nil _, rfl, by simp, by simp⟩
        go_wp2_with fail
        refine (zero_any _ 0 0 true _ hZ rfl).mono ?_
        rintro e w7 ⟨rfl, b7⟩
        go_wp2
        go_ret
        exact ⟨rfl, below_step (below_step (below_step b4' b5) b6) b7⟩
      · have hfit : bl N * m ≤ 131072 := by
          rcases Nat.eq_zero_or_pos (bl N) with h0 | h0
          · rw [h0, Nat.zero_mul]; omega
          · have h1 : m ≤ 131072 / bl N := by omega
            have h2 := (Nat.le_div_iff_mul_le h0).1 h1
            rw [Nat.mul_comm] at h2; exact h2
        have hbl := hN.bl_le
        have HP := Lib.hid (fun w' e (hN : IsN w' (.agg #[.slice A3 n3 c3]) 40 N) (he : e ≤ m) => pow_any _ 40 N e 4097 w' hN (by decide) (by omega) (Nat.le_trans (Nat.mul_le_mul_left _ he) hfit) (by decide) (by decide))
        have HF := Lib.hid (fun e (he : e ≤ m) => pow_fits (K := 4097) hfit (by decide) he)
        refine (HP.out _ m hN (Nat.le_refl _)).mono ?_
        rintro e w4 ⟨v4, rfl, hP4, b4⟩
        obtain ⟨A4, n4, c4, rfl⟩ := hP4.shape
        have hX := (hX.on b4).alloc (.cells #[.slice A4 n4 c4] 26)
        have hN := (hN.below b4).alloc (.cells #[.slice A4 n4 c4] 26)
        have hY := Blk.new w4 26 #[.slice A4 n4 c4]
        have hP := hP4.alloc (.cells #[.slice A4 n4 c4] 26)
        have bW := below_step (below_step bW b4) (below_new _ (.cells #[.slice A4 n4 c4] 26))
        have BT := Lib.hid (fun w' (hN : IsN w' (.agg #[.slice A3 n3 c3]) 40 N) => bits_any _ 40 N w' hN (by omega))
        have E1 := Lib.hid (of_any 1)
        have hcx := hX.cell0
        clear b4 hP4
        by_cases hb0 : bl N = 0
        · have hN0 : N = 0 := by
            rcases Nat.eq_zero_or_pos N with h | h
            · exact h
            · exfalso
              have := (bl_spec N 0).1 (by omega)
              simp at this; omega
          subst hN0
          rw [bl_zero] at BT
          clear hb0 hfit hbl hbig HP HF
          go_wp2_with fail
          generalize hV : w4.alloc (.cells #[.slice A4 n4 c4] 26) = V at *
          clear hV
          refine (BT.out _ hN).mono ?_
          rintro e w5 ⟨rfl, b5⟩
          have hcx5 := (hX.on b5).cell0
          go_wp2_with fail
          refine (BT.out _ (hN.below b5)).mono ?_
          rintro e w6 ⟨rfl, b6⟩
          have hY6 := (hY.on b5).on b6
          have hP6 := (hP.below b5).below b6
          have bW6 := below_step (below_step bW b5) b6
          clear hX hN hY hP bW b5 b6 hcx hcx5 BT
          have tok1 : True := trivial
          have tok2 : True := trivial
          have tok3 : True := trivial
          by_cases hm0 : m = 0
          · subst hm0
            rw [Nat.pow_zero] at hP6
            go_wp2_with fail
            go_region_held3 (fun w' => w'.cell? ⟨w4.heap.size, 0, none⟩ = some (.slice A4 n4 c4))
              (first | exact keep1 hY6 (below_drew _) | exact keep1 hY6 hw1 | exact keep1 hY6 hw2 | exact keep1 hY6 hw3)
              (first
                | (go_at_call 22; have _t := tok1; clear tok1; refine (zero_any _ 4097 1 false _ (hP6.below (below_drew _)) (by decide)).mono ?_; rintro e x1 ⟨rfl, y1⟩; have hw1 : Below w6.heap.size w6 x1 := below_step (below_drew _) y1)
                | (go_at_call 25; have _t := tok2; clear tok2; refine (E1.out _ (by decide)).mono ?_; rintro e x2 ⟨s2, rfl, hS2, y2⟩; have hw2 : Below w6.heap.size w6 x2 := below_step hw1 y2)
                | (go_at_call 19; have _t := tok3; clear tok3; refine (same_any _ _ 4097 2 1 1 true _ (hP6.below hw2) hS2 (by decide) (by decide) (by decide)).mono ?_; rintro e x3 ⟨rfl, y3⟩; have hw3 : Below w6.heap.size w6 x3 := below_step hw2 y3))
            go_wp2
            go_ret
            exact ⟨rfl, below_step bW6 hw3⟩
          · have hmp : decide ((0 : Int) < (m : Int)) = true := by simp; omega
            have hmp2 : 0 < m := by omega
            rw [Nat.zero_pow hmp2] at hP6
            have ky := fun x : Since w6 => hY6.since x
            have ZR := Lib.hid (fun (w' : World) (h : IsN w' (.agg #[.slice A4 n4 c4]) 4097 0) => zero_any _ 4097 0 true w' h (by decide))
            have hmp3 : decide (0 < m) = true := by simp; omega
            have hmp4 : (true == decide ((0 : Int) < (m : Int))) = true := by rw [hmp]; rfl
            have hmp5 : (true == decide (0 < m)) = true := by rw [hmp3]; rfl
            have hmp6 : (0 : Int) < (m : Int) := by omega
            go_wp2_with fail
            refine wp_region_since (by kernel_rfl) (by kernel_rfl) ?_
            repeat (go_big_quiet_step ((go_at_call 22; exact since_call (ZR.out _ (hP6.below (Since.kept _))))))
            refine wpQuiet_nil ?_
            rintro _ ⟨⟨w7, b7⟩, rfl⟩
            go_wp2
            go_ret
            exact ⟨by simp, below_step bW6 b7⟩
        · have hb1 : 0 < bl N := by omega
          have hg' : ¬ (131072 / (bl N : Int) < (m : Int)) := by
            have h1 : m ≤ 131072 / bl N := by omega
            have h2 : (131072 : Int) / (bl N : Int) = ((131072 / bl N : Nat) : Int) := by simp
            rw [h2]; omega
          obtain ⟨b, hb⟩ : ∃ b, b = bl N := ⟨_, rfl⟩
          rw [← hb] at BT hg' hbl hb1
          clear hb hbig hb0 hfit
          have hb2 : ¬ (b = 0) := by omega
          go_wp2_with fail
          generalize hV : w4.alloc (.cells #[.slice A4 n4 c4] 26) = V at *
          clear hV
          refine (BT.out _ hN).mono ?_
          rintro e w5 ⟨rfl, b5⟩
          have hcx5 := (hX.on b5).cell0
          go_wp2_with fail
          refine (BT.out _ (hN.below b5)).mono ?_
          rintro e w6 ⟨rfl, b6⟩
          have hX6 := (hX.on b5).on b6
          have hN6 := (hN.below b5).below b6
          have hcx6 := hX6.cell0
          go_wp2_with fail
          refine (BT.out _ hN6).mono ?_
          rintro e w7 ⟨rfl, b7⟩
          have hX7 := hX6.on b7
          have hN7 := hN6.below b7
          have hY7 := ((hY.on b5).on b6).on b7
          have hP7 := ((hP.below b5).below b6).below b7
          have bW7 := below_step (below_step (below_step bW b5) b6) b7
          have hcx7 := hX7.cell0
          clear hX hN hY hP bW b5 b6 b7 hcx hcx5 hcx6 hX6 hN6 BT
          by_cases h40 : 40 < m
          · go_wp2_with fail
            rw [show ((m : Int) - (m : Int) / 2) = ((m - m / 2 : Nat) : Int) by omega]
            refine (HP.out _ (m - m / 2) hN7 (by omega)).mono ?_
            rintro e w8 ⟨v8, rfl, hQ8, b8⟩
            obtain ⟨A8, n8, c8, rfl⟩ := hQ8.shape
            have b8 := below_step b8 (below_new _ (.cells #[.slice A8 n8 c8] 26))
            have hU := Blk.new w8 26 #[.slice A8 n8 c8]
            have hQ := hQ8.alloc (.cells #[.slice A8 n8 c8] 26)
            have hX := hX7.on b8
            have hN := hN7.below b8
            have hY := hY7.on b8
            have hP := hP7.below b8
            have bW := below_step bW7 b8
            have hcx := hX.cell0
            clear hX7 hN7 hY7 hP7 bW7 b8 hcx7 hQ8
            go_wp2_with fail
            generalize hV2 : w8.alloc (.cells #[.slice A8 n8 c8] 26) = V2 at *
            clear hV2
            rw [show ((m : Int) / 2) = ((m / 2 : Nat) : Int) by omega]
            refine (HP.out _ (m / 2) hN (by omega)).mono ?_
            rintro e w9 ⟨v9, rfl, hR9, b9⟩
            obtain ⟨A9, n9, c9, rfl⟩ := hR9.shape
            have b9 := below_step b9 (below_new _ (.cells #[.slice A9 n9 c9] 26))
            have hT9 := Blk.new w9 26 #[.slice A9 n9 c9]
            have hR := hR9.alloc (.cells #[.slice A9 n9 c9] 26)
            have hU9 := hU.on b9
            have hQ9 := hQ.below b9
            have hY9 := hY.on b9
            have hP9 := hP.below b9
            have bW9 := below_step bW b9
            have hpow : N ^ (m - m / 2) * N ^ (m / 2) = N ^ m := by rw [← Nat.pow_add]; congr 1; omega
            clear hX hN hY hP bW b9 hcx hR9 hU hQ HP HF
            have tok1 : True := trivial
            have tok2 : True := trivial
            go_wp2_with fail
            generalize hV3 : w9.alloc (.cells #[.slice A9 n9 c9] 26) = V3 at *
            clear hV3
            go_region_held3 (fun w' => w'.cell? ⟨w8.heap.size, 0, none⟩ = some (.slice A8 n8 c8) ∧ w'.cell? ⟨w9.heap.size, 0, none⟩ = some (.slice A9 n9 c9) ∧ w'.cell? ⟨w4.heap.size, 0, none⟩ = some (.slice A4 n4 c4))
              (first | exact keep3 hU9 hT9 hY9 (below_drew _) | exact keep3 hU9 hT9 hY9 hw1 | exact keep3 hU9 hT9 hY9 hw2)
              (first
                | (go_at_call 30; have _t := tok1; clear tok1; refine (mul_any _ _ 4097 4097 (N ^ (m - m / 2)) (N ^ (m / 2)) _ (hQ9.below (below_drew _)) (hR.below (below_drew _)) (by decide) (by decide)).mono ?_; rintro e x1 ⟨s1, rfl, hS1, y1⟩; have hw1 : Below V3.heap.size V3 x1 := below_step (below_drew _) y1)
                | (go_at_call 19; have _t := tok2; clear tok2; refine (same_any _ _ 8194 4097 (N ^ (m - m / 2) * N ^ (m / 2)) (N ^ m) true _ hS1 (hP9.below hw1) (by decide) (by decide) (by rw [hpow]; simp)).mono ?_; rintro e x2 ⟨rfl, y2⟩; have hw2 : Below V3.heap.size V3 x2 := below_step hw1 y2))
            go_wp2
            go_ret
            exact ⟨rfl, below_step bW9 hw2⟩
          · go_wp2_with fail
            refine (E1.out _ (by decide)).mono ?_
            rintro e w8 ⟨v8, rfl, hQ8, b8⟩
            obtain ⟨A8, n8, c8, rfl⟩ := hQ8.shape
            have hlt : w4.heap.size < w8.heap.size ∧ w3.heap.size < w8.heap.size ∧ w.heap.size ≤ w8.heap.size := ⟨Nat.lt_of_lt_of_le hY7.lt b8.size, Nat.lt_of_lt_of_le hX7.lt b8.size, Nat.le_trans bW7.size b8.size⟩
            have b8 := below_step b8 (below_new _ (.cells #[.slice A8 n8 c8] 26))
            have hU := Blk.new w8 26 #[.slice A8 n8 c8]
            have hQ := hQ8.alloc (.cells #[.slice A8 n8 c8] 26)
            have hX := hX7.on b8
            have hN := hN7.below b8
            have hY := hY7.on b8
            have hP := hP7.below b8
            have bW := below_step bW7 b8
            clear hX7 hN7 hY7 hP7 bW7 b8 hcx7 hQ8 HP
            go_wp2
            generalize hV2 : w8.alloc (.cells #[.slice A8 n8 c8] 26) = V2 at *
            clear hV2
            go_loopw [105] (fun t wr => ∃ (i : Nat) (Ap : Option Addr) (np cp : Nat), t = .int .i64 i ∧ i ≤ m ∧ Blk wr w8.heap.size 26 #[.slice Ap np cp] ∧ IsN wr (.agg #[.slice Ap np cp]) 4097 (N ^ i) ∧ Blk wr w3.heap.size 26 #[.slice A3 n3 c3] ∧ IsN wr (.agg #[.slice A3 n3 c3]) 40 N ∧ Blk wr w4.heap.size 26 #[.slice A4 n4 c4] ∧ IsN wr (.agg #[.slice A4 n4 c4]) 4097 (N ^ m) ∧ Below w.heap.size w wr) (fun t _ => m - (intOf t).toNat)
            case atStart => exact ⟨0, A8, n8, c8, rfl, by omega, hU, by rw [Nat.pow_zero]; exact hQ.more (by decide), hX, hN, hY, hP, bW⟩
            case round =>
              obtain ⟨i, Ap, np, cp, rfl, hi, hU', hQ', hX', hN', hY', hP', bW'⟩ := hrel
              clear hU hQ hX hN hY hP bW
              have hcu := hU'.cell0
              have hcx := hX'.cell0
              by_cases him : i < m
              · go_wp2_with fail
                refine (mul_any _ _ 4097 40 _ _ _ hQ' hN' (by decide) (by decide)).mono ?_
                rintro e x1 ⟨v1, rfl, hM1, y1⟩
                obtain ⟨B1, k1, d1, rfl⟩ := hM1.shape
                have hU1 := hU'.on y1
                have hcu1 := hU1.cell0
                have hfu1 := hU1.free 0
                have hX1 := (hX'.on y1).far (p := ⟨w8.heap.size, 0, none⟩) (by show w3.heap.size ≠ w8.heap.size; omega) (.slice B1 k1 d1)
                have hY1 := (hY'.on y1).far (p := ⟨w8.heap.size, 0, none⟩) (by show w4.heap.size ≠ w8.heap.size; omega) (.slice B1 k1 d1)
                have hN1 := (hN'.below y1).far hU1 0 (.slice B1 k1 d1)
                have hP1 := (hP'.below y1).far hU1 0 (.slice B1 k1 d1)
                have hM2 := hM1.far hU1 0 (.slice B1 k1 d1)
                have b1 := (below_step bW' y1).setCell (p := ⟨w8.heap.size, 0, none⟩) (by show w.heap.size ≤ w8.heap.size; omega) (.slice B1 k1 d1)
                rw [← Nat.pow_succ, Nat.succ_eq_add_one] at hM2
                have hM3 := hM2.fit (HF.out (i + 1) (by omega))
                go_wp2
                go_roundw
                case rel => exact ⟨i + 1, B1, k1, d1, by go_num, by omega, hU1.set0 _, hM3, hX1, hN1, hY1, hP1, b1⟩
                case measure => simp [intOf]; omega
              · have him' : i = m := by omega
                subst him'
                have hcy := hY'.cell0
                go_wp2_with fail
                refine (same_any _ _ 4097 4097 _ _ true _ hQ' hP' (by decide) (by decide) (by simp)).mono ?_
                rintro e x1 ⟨rfl, y1⟩
                go_wp2
                go_ret
                exact ⟨rfl, below_step bW' y1⟩
end Go.Proofs.Ythionbkdlmiaoaa
