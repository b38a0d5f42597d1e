/-
  The walk of the law on products.
-/
import Derived.Test.YthionbkdlmiaoaaAwakeB
import Derived.Test.YthionbkdlmiaoaaRefD
import Derived.Test.YthionbkdlmiaoaaProdC
namespace Go.Proofs.Ythionbkdlmiaoaa
set_option linter.unusedVariables false
open Go.RowKit

theorem keep4p {W w' : World} {g1 g2 g3 g4 : Nat} {a b c d : Value} (h1 : Blk W g1 26 #[a]) (h2 : Blk W g2 26 #[b]) (h3 : Blk W g3 26 #[c]) (h4 : Blk W g4 26 #[d]) (hb : Below W.heap.size W w') : w'.cell? ⟨g1, 0, none⟩ = some a ∧ w'.cell? ⟨g2, 0, none⟩ = some b ∧ w'.cell? ⟨g3, 0, none⟩ = some c ∧ w'.cell? ⟨g4, 0, none⟩ = some d := ⟨(h1.on hb).cell0, (h2.on hb).cell0, (h3.on hb).cell0, (h4.on hb).cell0⟩
theorem keep5 {W w' : World} {g1 g2 g3 g4 g5 : Nat} {a b c d e : Value} (h1 : Blk W g1 26 #[a]) (h2 : Blk W g2 26 #[b]) (h3 : Blk W g3 26 #[c]) (h4 : Blk W g4 26 #[d]) (h5 : Blk W g5 26 #[e]) (hb : Below W.heap.size W w') : w'.cell? ⟨g1, 0, none⟩ = some a ∧ w'.cell? ⟨g2, 0, none⟩ = some b ∧ w'.cell? ⟨g3, 0, none⟩ = some c ∧ w'.cell? ⟨g4, 0, none⟩ = some d ∧ w'.cell? ⟨g5, 0, none⟩ = some e := ⟨(h1.on hb).cell0, (h2.on hb).cell0, (h3.on hb).cell0, (h4.on hb).cell0, (h5.on hb).cell0⟩

theorem facts0 (w : World) : Facts w none [] := fun h => absurd rfl h
theorem facts1 {w : World} {B0 : Option Addr} {m0 d0 N : Nat} (h : IsN w (.agg #[.slice B0 m0 d0]) 40 N) : Facts (w.alloc (.cells #[.slice B0 m0 d0] 26)) (some ⟨w.heap.size, 0, none⟩) [N] := by
  refine fun _ => ⟨_, rfl, by simp, fun i hi => ?_⟩
  rw [add_zero_block, (Blk.new w 26 _).cell]
  match i, hi with
  | 0, _ => exact ⟨B0, m0, d0, rfl, h.alloc _⟩
theorem facts3 {w : World} {B0 B1 B2 : Option Addr} {m0 d0 m1 d1 m2 d2 N M K : Nat} (h : IsN w (.agg #[.slice B0 m0 d0]) 40 N) (h' : IsN w (.agg #[.slice B1 m1 d1]) 40 M) (h'' : IsN w (.agg #[.slice B2 m2 d2]) 40 K) :
    Facts (w.alloc (.cells #[.slice B0 m0 d0, .slice B1 m1 d1, .slice B2 m2 d2] 26)) (some ⟨w.heap.size, 0, none⟩) [N, M, K] := by
  refine fun _ => ⟨_, rfl, by simp, fun i hi => ?_⟩
  rw [add_zero_block, (Blk.new w 26 _).cell]
  match i, hi with
  | 0, _ => exact ⟨B0, m0, d0, rfl, h.alloc _⟩
  | 1, _ => exact ⟨B1, m1, d1, rfl, h'.alloc _⟩
  | 2, _ => exact ⟨B2, m2, d2, rfl, h''.alloc _⟩
theorem prodL3 (N M K : Nat) : prodL [N, M, K] = N * M * K := by simp [prodL]
theorem prodL1 (N : Nat) : prodL [N] = N := by simp [prodL]

set_option maxHeartbeats 8000000 in
theorem prodMuls_walk (a0 : Option Addr) (len0 cap0 : Nat) (l0 : List Nat) (a1 : Option Addr) (len1 cap1 : Nat) (l1 : List Nat) (a2 : Option Addr) (len2 cap2 : Nat) (l2 : List Nat) (w : World) (h0 : Came w a0 len0 cap0 l0) (h1 : Came w a1 len1 cap1 l1) (h2 : Came w a2 len2 cap2 l2) :
    Calls Try.prog 8 #[.slice a0 len0 cap0, .slice a1 len1 cap1, .slice a2 len2 cap2] w (RetV (.bool true) w) := by
  obtain ⟨t0, ht0, hl0, F0⟩ := h0.few
  obtain ⟨t1, ht1, hl1, F1⟩ := h1.few
  obtain ⟨t2, ht2, hl2, F2⟩ := h2.few
  clear h0 h1 h2
  go_enter Try.func8, Try.ntmps8
  go_wp2_with fail
  refine (awake02_any _).mono ?_
  rintro e w1 ⟨rfl, b1⟩
  go_wp2_with fail
  refine (F0.out _ b1).mono ?_
  rintro e w2 ⟨v2, rfl, ⟨A0, c0, rfl, hr0, hc0⟩, b2⟩
  have b2' := below_step b1 b2
  go_wp2_with fail
  refine (F1.out _ b2').mono ?_
  rintro e w3 ⟨v3, rfl, ⟨A1, c1, rfl, hr1, hc1⟩, b3⟩
  have b3' := below_step b2' b3
  go_wp2_with fail
  refine (F2.out _ b3').mono ?_
  rintro e w4 ⟨v4, rfl, ⟨A2, c2, rfl, hr2, hc2⟩, b4⟩
  have b4' := below_step b3' b4
  have hr0 := (hr0.below b3).below b4
  have hr1 := hr1.below b4
  clear b1 b2 b3 b4 b2' b3' F0 F1 F2
  go_wp2_with fail
  refine (limbs_any A0 c0 _ _ hr0.row hl0 (by omega)).mono ?_
  rintro e w5 ⟨v5, rfl, hN5, b5⟩
  obtain ⟨B0, m0, d0, rfl⟩ := hN5.shape
  go_wp2_with fail
  refine (limbs_any A1 c1 _ _ (hr1.below b5).row hl1 (by omega)).mono ?_
  rintro e w6 ⟨v6, rfl, hM6, b6⟩
  obtain ⟨B1, m1, d1, rfl⟩ := hM6.shape
  go_wp2_with fail
  refine (limbs_any A2 c2 _ _ ((hr2.below b5).below b6).row hl2 (by omega)).mono ?_
  rintro e w7 ⟨v7, rfl, hK7, b7⟩
  obtain ⟨B2, m2, d2, rfl⟩ := hK7.shape
  have b57 := below_step (below_step b5 b6) b7
  have hr0 := hr0.below b57
  have hr1 := hr1.below b57
  have hN := (((hN5.more ht0).below b6).below b7)
  have hM := (hM6.more ht1).below b7
  have hK := hK7.more ht2
  have b7' := below_step b4' b57
  clear b5 b6 b7 b57 b4' hN5 hM6 hK7 hr2
  generalize hvN : val 4294967296 t0 = N at *
  generalize hvM : val 4294967296 t1 = M at *
  generalize val 4294967296 t2 = K at *
  have hX : Blk (((w7.alloc (.cells #[.slice B0 m0 d0] 26)).alloc (.cells #[.slice B1 m1 d1] 26)).alloc (.cells #[.slice B2 m2 d2] 26)) w7.heap.size 26 #[.slice B0 m0 d0] := ((Blk.new w7 26 _).alloc _).alloc _
  have hY : Blk (((w7.alloc (.cells #[.slice B0 m0 d0] 26)).alloc (.cells #[.slice B1 m1 d1] 26)).alloc (.cells #[.slice B2 m2 d2] 26)) (w7.heap.size + 1) 26 #[.slice B1 m1 d1] := by
    have := (Blk.new (w7.alloc (.cells #[.slice B0 m0 d0] 26)) 26 #[.slice B1 m1 d1]).alloc (.cells #[.slice B2 m2 d2] 26)
    simpa using this
  have hZ : Blk (((w7.alloc (.cells #[.slice B0 m0 d0] 26)).alloc (.cells #[.slice B1 m1 d1] 26)).alloc (.cells #[.slice B2 m2 d2] 26)) (w7.heap.size + 1 + 1) 26 #[.slice B2 m2 d2] := by
    have := Blk.new ((w7.alloc (.cells #[.slice B0 m0 d0] 26)).alloc (.cells #[.slice B1 m1 d1] 26)) 26 #[.slice B2 m2 d2]
    simpa using this
  have hN := ((hN.alloc (.cells #[.slice B0 m0 d0] 26)).alloc (.cells #[.slice B1 m1 d1] 26)).alloc (.cells #[.slice B2 m2 d2] 26)
  have hM := ((hM.alloc (.cells #[.slice B0 m0 d0] 26)).alloc (.cells #[.slice B1 m1 d1] 26)).alloc (.cells #[.slice B2 m2 d2] 26)
  have hK := ((hK.alloc (.cells #[.slice B0 m0 d0] 26)).alloc (.cells #[.slice B1 m1 d1] 26)).alloc (.cells #[.slice B2 m2 d2] 26)
  have hr0 := ((hr0.alloc (.cells #[.slice B0 m0 d0] 26)).alloc (.cells #[.slice B1 m1 d1] 26)).alloc (.cells #[.slice B2 m2 d2] 26)
  have hr1 := ((hr1.alloc (.cells #[.slice B0 m0 d0] 26)).alloc (.cells #[.slice B1 m1 d1] 26)).alloc (.cells #[.slice B2 m2 d2] 26)
  have b8 := below_step (below_step (below_step b7' (below_new _ (.cells #[.slice B0 m0 d0] 26))) (below_new _ (.cells #[.slice B1 m1 d1] 26))) (below_new _ (.cells #[.slice B2 m2 d2] 26))
  clear b7'
  go_wp2_with fail
  generalize hU : ((w7.alloc (.cells #[.slice B0 m0 d0] 26)).alloc (.cells #[.slice B1 m1 d1] 26)).alloc (.cells #[.slice B2 m2 d2] 26) = U at *
  clear hU
  refine (mul_any _ _ 40 40 N M _ hN hM (by decide) (by decide)).mono ?_
  rintro e w9 ⟨v9, rfl, hP, b9⟩
  obtain ⟨B3, m3, d3, rfl⟩ := hP.shape
  have hX := (hX.on b9).alloc (.cells #[.slice B3 m3 d3] 26)
  have hY := (hY.on b9).alloc (.cells #[.slice B3 m3 d3] 26)
  have hZ := (hZ.on b9).alloc (.cells #[.slice B3 m3 d3] 26)
  have hT := Blk.new w9 26 #[.slice B3 m3 d3]
  have hN := (hN.below b9).alloc (.cells #[.slice B3 m3 d3] 26)
  have hM := (hM.below b9).alloc (.cells #[.slice B3 m3 d3] 26)
  have hK := (hK.below b9).alloc (.cells #[.slice B3 m3 d3] 26)
  have hP := hP.alloc (.cells #[.slice B3 m3 d3] 26)
  have hr0 := (hr0.below b9).alloc (.cells #[.slice B3 m3 d3] 26)
  have hr1 := (hr1.below b9).alloc (.cells #[.slice B3 m3 d3] 26)
  have b9 := below_step (below_step b8 b9) (below_new _ (.cells #[.slice B3 m3 d3] 26))
  clear b8
  have O0 := Lib.hid (fun w' (hr : Row .u32 w' A0 t0) => ofD_any A0 t0.length c0 t0 w' rfl hr hl0 (by omega))
  have O1 := Lib.hid (fun w' (hr : Row .u32 w' A1 t1) => ofD_any A1 t1.length c1 t1 w' rfl hr hl1 (by omega))
  rw [hvN] at O0
  rw [hvM] at O1
  go_wp2_with fail
  generalize hW : w9.alloc (.cells #[.slice B3 m3 d3] 26) = W at *
  clear hW hvN hvM
  have tok1 : True := trivial
  have tok2 : True := trivial
  have tok3 : True := trivial
  have tok4 : True := trivial
  have tok5 : True := trivial
  have tok6 : True := trivial
  go_region_held3 (fun w' => w'.cell? ⟨w7.heap.size, 0, none⟩ = some (.slice B0 m0 d0) ∧ w'.cell? ⟨w7.heap.size + 1, 0, none⟩ = some (.slice B1 m1 d1) ∧ w'.cell? ⟨w7.heap.size + 1 + 1, 0, none⟩ = some (.slice B2 m2 d2) ∧ w'.cell? ⟨w9.heap.size, 0, none⟩ = some (.slice B3 m3 d3))
    (first | exact keep4p hX hY hZ hT (below_drew _) | exact keep4p hX hY hZ hT hw1 | exact keep4p hX hY hZ hT hw2 | exact keep4p hX hY hZ hT hw3 | exact keep4p hX hY hZ hT hw4 | exact keep4p hX hY hZ hT hw5 | exact keep4p hX hY hZ hT hw6)
    (first
      | (go_at_call 15; have _t := tok1; clear tok1; refine (O0.out _ (hr0.below (below_drew _)).row).mono ?_; rintro e x1 ⟨s1, rfl, hS1, y1⟩; have hw1 : Below W.heap.size W x1 := below_step (below_drew _) y1)
      | (go_at_call 15; have _t := tok2; clear tok2; refine (O1.out _ (hr1.below hw1).row).mono ?_; rintro e x2 ⟨s2, rfl, hS2, y2⟩; have hw2 : Below W.heap.size W x2 := below_step hw1 y2)
      | (go_at_call 31; have _t := tok3; clear tok3; refine (mulD_any _ _ 400 400 N M _ ((hS1.below y2).more (by omega)) (hS2.more (by omega)) (by decide) (by decide)).mono ?_; rintro e x3 ⟨s3, rfl, hS3, y3⟩; have hw3 : Below W.heap.size W x3 := below_step hw2 y3)
      | (go_at_call 16; have _t := tok4; clear tok4; refine (is_any _ _ 80 801 (N * M) (N * M) true _ (hP.below hw3) hS3 (by decide) (by decide) (by simp)).mono ?_; rintro e x4 ⟨rfl, y4⟩; have hw4 : Below W.heap.size W x4 := below_step hw3 y4)
      | (go_at_call 30; have _t := tok5; clear tok5; refine (mul_any _ _ 40 40 M N _ (hM.below hw4) (hN.below hw4) (by decide) (by decide)).mono ?_; rintro e x5 ⟨s5, rfl, hS5, y5⟩; have hw5 : Below W.heap.size W x5 := below_step hw4 y5)
      | (go_at_call 19; have _t := tok6; clear tok6; refine (same_any _ _ 80 80 (N * M) (M * N) true _ (hP.below hw5) hS5 (by decide) (by decide) (by simp [Nat.mul_comm])).mono ?_; rintro e x6 ⟨rfl, y6⟩; have hw6 : Below W.heap.size W x6 := below_step hw5 y6))
  have hX := hX.on hw6
  have hY := hY.on hw6
  have hZ := hZ.on hw6
  have hT := hT.on hw6
  have hN := hN.below hw6
  have hM := hM.below hw6
  have hK := hK.below hw6
  have hP := hP.below hw6
  have b9 := below_step b9 hw6
  clear hw1 hw2 hw3 hw4 hw5 hw6 y1 y2 y3 y4 y5 y6
  clear hS1 hS2 hS3 hS5 O0 O1 hr0 hr1
  have hc5 := hX.cell0
  have hc6 := hY.cell0
  have hc7 := hZ.cell0
  have hc8 := hT.cell0
  go_wp2_with fail
  generalize x6 = V at *
  have tok1 : True := trivial
  have tok2 : True := trivial
  have tok3 : True := trivial
  have tok4 : True := trivial
  have tok5 : True := trivial
  have tok6 : True := trivial
  go_region_held3 (fun w' => w'.cell? ⟨w7.heap.size, 0, none⟩ = some (.slice B0 m0 d0) ∧ w'.cell? ⟨w7.heap.size + 1, 0, none⟩ = some (.slice B1 m1 d1) ∧ w'.cell? ⟨w7.heap.size + 1 + 1, 0, none⟩ = some (.slice B2 m2 d2) ∧ w'.cell? ⟨w9.heap.size, 0, none⟩ = some (.slice B3 m3 d3))
    (first | exact keep4p hX hY hZ hT (below_drew _) | exact keep4p hX hY hZ hT hw1 | exact keep4p hX hY hZ hT hw2 | exact keep4p hX hY hZ hT hw3 | exact keep4p hX hY hZ hT hw4 | exact keep4p hX hY hZ hT hw5 | exact keep4p hX hY hZ hT hw6)
    (first
      | (go_at_call 17; have _t := tok1; clear tok1; refine (add_any _ _ 40 40 N M _ (hN.below (below_drew _)) (hM.below (below_drew _)) (by decide) (by decide)).mono ?_; rintro e x1 ⟨s1, rfl, hS1, y1⟩; have hw1 : Below V.heap.size V x1 := below_step (below_drew _) y1)
      | (go_at_call 30; have _t := tok2; clear tok2; refine (mul_any _ _ 41 40 (N + M) K _ hS1 (hK.below hw1) (by decide) (by decide)).mono ?_; rintro e x2 ⟨s2, rfl, hS2, y2⟩; have hw2 : Below V.heap.size V x2 := below_step hw1 y2)
      | (go_at_call 30; have _t := tok3; clear tok3; refine (mul_any _ _ 40 40 N K _ (hN.below hw2) (hK.below hw2) (by decide) (by decide)).mono ?_; rintro e x3 ⟨s3, rfl, hS3, y3⟩; have hw3 : Below V.heap.size V x3 := below_step hw2 y3)
      | (go_at_call 30; have _t := tok4; clear tok4; refine (mul_any _ _ 40 40 M K _ (hM.below hw3) (hK.below hw3) (by decide) (by decide)).mono ?_; rintro e x4 ⟨s4, rfl, hS4, y4⟩; have hw4 : Below V.heap.size V x4 := below_step hw3 y4)
      | (go_at_call 17; have _t := tok5; clear tok5; refine (add_any _ _ 80 80 (N * K) (M * K) _ (hS3.below y4) hS4 (by decide) (by decide)).mono ?_; rintro e x5 ⟨s5, rfl, hS5, y5⟩; have hw5 : Below V.heap.size V x5 := below_step hw4 y5)
      | (go_at_call 19; have _t := tok6; clear tok6; refine (same_any _ _ 81 81 ((N + M) * K) (N * K + M * K) true _ (((hS2.below y3).below y4).below y5) hS5 (by decide) (by decide) (by simp [Nat.add_mul])).mono ?_; rintro e x6 ⟨rfl, y6⟩; have hw6 : Below V.heap.size V x6 := below_step hw5 y6))
  have hX := hX.on hw6
  have hY := hY.on hw6
  have hZ := hZ.on hw6
  have hT := hT.on hw6
  have hN := hN.below hw6
  have hM := hM.below hw6
  have hK := hK.below hw6
  have hP := hP.below hw6
  have b9 := below_step b9 hw6
  clear hw1 hw2 hw3 hw4 hw5 hw6 y1 y2 y3 y4 y5 y6
  clear hS1 hS2 hS3 hS4 hS5 hc5 hc6 hc7 hc8
  have hc5 := hX.cell0
  have hc6 := hY.cell0
  have hc7 := hZ.cell0
  have hc8 := hT.cell0
  go_wp2_with fail
  refine (ofAll_any _ 3 [N, M, K] _ (facts3 hN hM hK) (by simp)).mono ?_
  rintro e w10 ⟨v10, rfl, hO, b10⟩
  rw [prodL3] at hO
  obtain ⟨B4, m4, d4, rfl⟩ := hO.shape
  have b10 := below_step (below_step (below_new _ _) b10) (below_new _ (.cells #[.slice B4 m4 d4] 26))
  have hQ := Blk.new w10 26 #[.slice B4 m4 d4]
  have hX := hX.on b10
  have hY := hY.on b10
  have hZ := hZ.on b10
  have hT := hT.on b10
  have hN := hN.below b10
  have hM := hM.below b10
  have hK := hK.below b10
  have hP := hP.below b10
  have hO := hO.alloc (.cells #[.slice B4 m4 d4] 26)
  have b9 := below_step b9 b10
  have E1 := Lib.hid (of_any 1)
  clear b10 hc5 hc6 hc7 hc8
  go_wp2_with fail
  generalize hGG : w10.alloc (.cells #[.slice B4 m4 d4] 26) = G at *
  clear hGG
  have tok1 : True := trivial
  have tok2 : True := trivial
  have tok3 : True := trivial
  have tok4 : True := trivial
  have tok5 : True := trivial
  have tok6 : True := trivial
  have tok7 : True := trivial
  have tok8 : True := trivial
  have tok9 : True := trivial
  have tok10 : True := trivial
  go_region_held3 (fun w' => w'.cell? ⟨w7.heap.size, 0, none⟩ = some (.slice B0 m0 d0) ∧ w'.cell? ⟨w7.heap.size + 1, 0, none⟩ = some (.slice B1 m1 d1) ∧ w'.cell? ⟨w7.heap.size + 1 + 1, 0, none⟩ = some (.slice B2 m2 d2) ∧ w'.cell? ⟨w9.heap.size, 0, none⟩ = some (.slice B3 m3 d3) ∧ w'.cell? ⟨w10.heap.size, 0, none⟩ = some (.slice B4 m4 d4))
    (first | exact keep5 hX hY hZ hT hQ (below_drew _) | exact keep5 hX hY hZ hT hQ hw1 | exact keep5 hX hY hZ hT hQ hw2 | exact keep5 hX hY hZ hT hQ hw3 | exact keep5 hX hY hZ hT hQ hw4 | exact keep5 hX hY hZ hT hQ hw5 | exact keep5 hX hY hZ hT hQ hw6 | exact keep5 hX hY hZ hT hQ hw7 | exact keep5 hX hY hZ hT hQ hw8 | exact keep5 hX hY hZ hT hQ hw9 | exact keep5 hX hY hZ hT hQ hw10 | exact keep5 hX hY hZ hT hQ (below_step hw8 (below_new _ _)))
    (first
      | (go_at_call 30; have _t := tok1; clear tok1; refine (mul_any _ _ 80 40 (N * M) K _ (hP.below (below_drew _)) (hK.below (below_drew _)) (by decide) (by decide)).mono ?_; rintro e x1 ⟨s1, rfl, hS1, y1⟩; have hw1 : Below G.heap.size G x1 := below_step (below_drew _) y1)
      | (go_at_call 19; have _t := tok2; clear tok2; refine (same_any _ _ 122 120 (N * M * K) (N * M * K) true _ (hO.below hw1) hS1 (by decide) (by decide) (by simp)).mono ?_; rintro e x2 ⟨rfl, y2⟩; have hw2 : Below G.heap.size G x2 := below_step hw1 y2)
      | (go_at_call 30; have _t := tok3; clear tok3; refine (mul_any _ _ 40 40 M K _ (hM.below hw2) (hK.below hw2) (by decide) (by decide)).mono ?_; rintro e x3 ⟨s3, rfl, hS3, y3⟩; have hw3 : Below G.heap.size G x3 := below_step hw2 y3)
      | (go_at_call 30; have _t := tok4; clear tok4; refine (mul_any _ _ 40 80 N (M * K) _ (hN.below hw3) hS3 (by decide) (by decide)).mono ?_; rintro e x4 ⟨s4, rfl, hS4, y4⟩; have hw4 : Below G.heap.size G x4 := below_step hw3 y4)
      | (go_at_call 19; have _t := tok5; clear tok5; refine (same_any _ _ 122 120 (N * M * K) (N * (M * K)) true _ (hO.below hw4) hS4 (by decide) (by decide) (by simp [Nat.mul_assoc])).mono ?_; rintro e x5 ⟨rfl, y5⟩; have hw5 : Below G.heap.size G x5 := below_step hw4 y5)
      | (go_at_call 32; have _t := tok6; clear tok6; refine (ofAll_any none 0 [] _ (facts0 _) (by simp)).mono ?_; rintro e x6 ⟨s6, rfl, hS6, y6⟩; have hw6 : Below G.heap.size G x6 := below_step hw5 y6)
      | (go_at_call 25; have _t := tok7; clear tok7; refine (E1.out _ (by decide)).mono ?_; rintro e x7 ⟨s7, rfl, hS7, y7⟩; have hw7 : Below G.heap.size G x7 := below_step hw6 y7)
      | (go_at_call 19; have _t := tok8; clear tok8; refine (same_any _ _ 2 2 1 1 true _ (hS6.below y7) hS7 (by decide) (by decide) (by simp)).mono ?_; rintro e x8 ⟨rfl, y8⟩; have hw8 : Below G.heap.size G x8 := below_step hw7 y8)
      | (go_at_call 32; have _t := tok9; clear tok9; refine (ofAll_any _ 1 [N] _ (facts1 (hN.below hw8)) (by simp)).mono ?_; rintro e x9 ⟨s9, rfl, hS9, y9⟩; have y9 := below_step (below_new _ _) y9; have hw9 : Below G.heap.size G x9 := below_step hw8 y9)
      | (go_at_call 19; have _t := tok10; clear tok10; refine (same_any _ _ 42 40 (prodL [N]) N true _ hS9 (hN.below hw9) (by decide) (by decide) (by simp [prodL1])).mono ?_; rintro e x10 ⟨rfl, y10⟩; have hw10 : Below G.heap.size G x10 := below_step hw9 y10))
  go_wp2
  go_ret
  exact ⟨rfl, below_step b9 hw10⟩
end Go.Proofs.Ythionbkdlmiaoaa
