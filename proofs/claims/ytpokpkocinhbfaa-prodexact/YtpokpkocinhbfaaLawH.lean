/-
  The walk of the law on exact quotients.
-/
import Derived.Test.YtpokpkocinhbfaaDivG
import Derived.Test.YtpokpkocinhbfaaAwakeB
import Derived.Test.YtpokpkocinhbfaaKept
import Derived.Deep.DeepCutAuto
import Derived.Deep.CutRange
namespace Go.Proofs.Ytpokpkocinhbfaa
set_option linter.unusedVariables false
set_option maxRecDepth 20000
open Go.RowKit

theorem keep3s {w' : World} {g1 g2 g3 : Nat} {a b c : Value} (h1 : Blk w' g1 25 #[a]) (h2 : Blk w' g2 25 #[b]) (h3 : Blk w' g3 25 #[c]) : w'.cell? ⟨g1, 0, none⟩ = some a ∧ w'.cell? ⟨g2, 0, none⟩ = some b ∧ w'.cell? ⟨g3, 0, none⟩ = some c := ⟨h1.cell0, h2.cell0, h3.cell0⟩
theorem cmpN_ge {a b : Nat} (h : b ≤ a) : 0 ≤ cmpN a b := by
  rcases Nat.lt_or_ge b a with h1 | h1
  · rw [cmpN_gt h1]; omega
  · rw [show a = b by omega, cmpN_eq]; omega

theorem bel_new {V W : World} (h : Below V.heap.size V W) (o : Obj) : Below V.heap.size V (W.alloc o) := h.alloc h.size o
theorem bel_drew {B : Nat} {V W : World} (h : Below B V W) : Below B V W.drew := h.drew
theorem bel_set {B g o : Nat} {V W : World} (h : Below B V W) (hp : B ≤ g) (u : Value) : Below B V (W.setCell ⟨g, o, none⟩ u) := h.setCell (p := ⟨g, o, none⟩) hp u

/-- What the exchange leaves: three boxes, the third number less than the second. -/
def Trio (w0 : World) (g1 g2 g3 : Nat) (w : World) : Prop := ∃ B0 m0 d0 B1 m1 d1 B2 m2 d2 N M K, Blk w g1 25 #[.slice B0 m0 d0] ∧ Blk w g2 25 #[.slice B1 m1 d1] ∧ Blk w g3 25 #[.slice B2 m2 d2] ∧ IsN w (.agg #[.slice B0 m0 d0]) 41 N ∧ IsN w (.agg #[.slice B1 m1 d1]) 41 M ∧ IsN w (.agg #[.slice B2 m2 d2]) 41 K ∧ K < M ∧ Below w0.heap.size w0 w

/-- What the division leaves: two boxes more. -/
def Quint (w0 : World) (g1 g3 : Nat) (N K : Nat) (B0 : Option Addr) (m0 d0 : Nat) (B2 : Option Addr) (m2 d2 : Nat) (s10 s11 s12 : Value) (w : World) : Prop :=
  ∃ g10 g11 B4 m4 d4 B5 m5 d5, s10 = .pointer (some ⟨g10, 0, none⟩) ∧ s11 = .pointer (some ⟨g11, 0, none⟩) ∧ s12 = .int .i64 0 ∧ Blk w g1 25 #[.slice B0 m0 d0] ∧ Blk w g3 25 #[.slice B2 m2 d2] ∧ Blk w g10 25 #[.slice B4 m4 d4] ∧ Blk w g11 25 #[.slice B5 m5 d5] ∧
    IsN w (.agg #[.slice B0 m0 d0]) 41 N ∧ IsN w (.agg #[.slice B2 m2 d2]) 41 K ∧ IsN w (.agg #[.slice B4 m4 d4]) 83 N ∧ IsN w (.agg #[.slice B5 m5 d5]) 41 K ∧ Below w0.heap.size w0 w

section
variable {w V x3 : World} {g1 g3 N K : Nat} {B0 : Option Addr} {m0 d0 : Nat} {B2 : Option Addr} {m2 d2 : Nat} {B4 : Option Addr} {m4 d4 : Nat} {B5 : Option Addr} {m5 d5 : Nat}
theorem quint_of {W : World} {g10 g11 : Nat} (hX : Blk V g1 25 #[.slice B0 m0 d0]) (hZ : Blk V g3 25 #[.slice B2 m2 d2]) (hN : IsN V (.agg #[.slice B0 m0 d0]) 41 N) (hK : IsN V (.agg #[.slice B2 m2 d2]) 41 K) (bW : Below w.heap.size w V) (hW : Below V.heap.size V W)
    (h10 : Blk W g10 25 #[.slice B4 m4 d4]) (h11 : Blk W g11 25 #[.slice B5 m5 d5]) (hQ : IsN W (.agg #[.slice B4 m4 d4]) 83 N) (hR : IsN W (.agg #[.slice B5 m5 d5]) 41 K) :
    Quint w g1 g3 N K B0 m0 d0 B2 m2 d2 (.pointer (some ⟨g10, 0, none⟩)) (.pointer (some ⟨g11, 0, none⟩)) (.int .i64 0) W :=
  ⟨_, _, _, _, _, _, _, _, rfl, rfl, rfl, hX.on hW, hZ.on hW, h10, h11, hN.below hW, hK.below hW, hQ, hR, below_step bW hW⟩
theorem quint_nn (hX : Blk V g1 25 #[.slice B0 m0 d0]) (hZ : Blk V g3 25 #[.slice B2 m2 d2]) (hN : IsN V (.agg #[.slice B0 m0 d0]) 41 N) (hK : IsN V (.agg #[.slice B2 m2 d2]) 41 K) (bW : Below w.heap.size w V) (hw : Below V.heap.size V x3) (hQ : IsN x3 (.agg #[.slice B4 m4 d4]) 83 N) (hR : IsN x3 (.agg #[.slice B5 m5 d5]) 41 K) :
    Quint w g1 g3 N K B0 m0 d0 B2 m2 d2 (.pointer (some ⟨x3.heap.size, 0, none⟩)) (.pointer (some ⟨x3.heap.size + 1, 0, none⟩)) (.int .i64 0) ((x3.alloc (.cells #[.slice B4 m4 d4] 25)).alloc (.cells #[.slice B5 m5 d5] 25)) :=
  quint_of hX hZ hN hK bW (bel_new (bel_new hw _) _) ((Blk.new x3 25 _).alloc _) (by have := Blk.new (x3.alloc (.cells #[.slice B4 m4 d4] 25)) 25 #[.slice B5 m5 d5]; simpa using this) ((hQ.alloc _).alloc _) ((hR.alloc _).alloc _)
theorem quint_nn' (hX : Blk V g1 25 #[.slice B0 m0 d0]) (hZ : Blk V g3 25 #[.slice B2 m2 d2]) (hN : IsN V (.agg #[.slice B0 m0 d0]) 41 N) (hK : IsN V (.agg #[.slice B2 m2 d2]) 41 K) (bW : Below w.heap.size w V) (hw : Below V.heap.size V x3) (hQ : IsN x3 (.agg #[.slice B4 m4 d4]) 83 N) (hR : IsN x3 (.agg #[.slice B5 m5 d5]) 41 K) :
    Quint w g1 g3 N K B0 m0 d0 B2 m2 d2 (.pointer (some ⟨x3.heap.size + 1, 0, none⟩)) (.pointer (some ⟨x3.heap.size, 0, none⟩)) (.int .i64 0) ((x3.alloc (.cells #[.slice B5 m5 d5] 25)).alloc (.cells #[.slice B4 m4 d4] 25)) :=
  quint_of hX hZ hN hK bW (bel_new (bel_new hw _) _) (by have := Blk.new (x3.alloc (.cells #[.slice B5 m5 d5] 25)) 25 #[.slice B4 m4 d4]; simpa using this) ((Blk.new x3 25 _).alloc _) ((hQ.alloc _).alloc _) ((hR.alloc _).alloc _)
theorem quint_on (hX : Blk V g1 25 #[.slice B0 m0 d0]) (hZ : Blk V g3 25 #[.slice B2 m2 d2]) (hN : IsN V (.agg #[.slice B0 m0 d0]) 41 N) (hK : IsN V (.agg #[.slice B2 m2 d2]) 41 K) (bW : Below w.heap.size w V) (hw : Below V.heap.size V x3) (hQ : IsN x3 (.agg #[.slice B4 m4 d4]) 83 N) (hR : IsN x3 (.agg #[.slice B5 m5 d5]) 41 K) {p : Nat} {u : Value} (k : Blk x3 p 25 #[u]) (hp : V.heap.size ≤ p) :
    Quint w g1 g3 N K B0 m0 d0 B2 m2 d2 (.pointer (some ⟨p, 0, none⟩)) (.pointer (some ⟨x3.heap.size, 0, none⟩)) (.int .i64 0) ((x3.setCell ⟨p, 0, none⟩ (.slice B4 m4 d4)).alloc (.cells #[.slice B5 m5 d5] 25)) :=
  quint_of hX hZ hN hK bW (bel_new (bel_set hw hp _) _) ((k.set0 _).alloc _) (by have := Blk.new (x3.setCell ⟨p, 0, none⟩ (.slice B4 m4 d4)) 25 #[.slice B5 m5 d5]; simpa using this) ((hQ.far k 0 _).alloc _) ((hR.far k 0 _).alloc _)
theorem quint_no (hX : Blk V g1 25 #[.slice B0 m0 d0]) (hZ : Blk V g3 25 #[.slice B2 m2 d2]) (hN : IsN V (.agg #[.slice B0 m0 d0]) 41 N) (hK : IsN V (.agg #[.slice B2 m2 d2]) 41 K) (bW : Below w.heap.size w V) (hw : Below V.heap.size V x3) (hQ : IsN x3 (.agg #[.slice B4 m4 d4]) 83 N) (hR : IsN x3 (.agg #[.slice B5 m5 d5]) 41 K) {p : Nat} {u : Value} (k : Blk x3 p 25 #[u]) (hp : V.heap.size ≤ p) :
    Quint w g1 g3 N K B0 m0 d0 B2 m2 d2 (.pointer (some ⟨x3.heap.size, 0, none⟩)) (.pointer (some ⟨p, 0, none⟩)) (.int .i64 0) ((x3.setCell ⟨p, 0, none⟩ (.slice B5 m5 d5)).alloc (.cells #[.slice B4 m4 d4] 25)) :=
  quint_of hX hZ hN hK bW (bel_new (bel_set hw hp _) _) (by have := Blk.new (x3.setCell ⟨p, 0, none⟩ (.slice B5 m5 d5)) 25 #[.slice B4 m4 d4]; simpa using this) ((k.set0 _).alloc _) ((hQ.far k 0 _).alloc _) ((hR.far k 0 _).alloc _)
theorem quint_oo (hX : Blk V g1 25 #[.slice B0 m0 d0]) (hZ : Blk V g3 25 #[.slice B2 m2 d2]) (hN : IsN V (.agg #[.slice B0 m0 d0]) 41 N) (hK : IsN V (.agg #[.slice B2 m2 d2]) 41 K) (bW : Below w.heap.size w V) (hw : Below V.heap.size V x3) (hQ : IsN x3 (.agg #[.slice B4 m4 d4]) 83 N) (hR : IsN x3 (.agg #[.slice B5 m5 d5]) 41 K) {p q : Nat} {u v : Value} (k : Blk x3 p 25 #[u]) (hp : V.heap.size ≤ p) (k' : Blk x3 q 25 #[v]) (hq : V.heap.size ≤ q) (hne : q ≠ p) :
    Quint w g1 g3 N K B0 m0 d0 B2 m2 d2 (.pointer (some ⟨p, 0, none⟩)) (.pointer (some ⟨q, 0, none⟩)) (.int .i64 0) ((x3.setCell ⟨p, 0, none⟩ (.slice B4 m4 d4)).setCell ⟨q, 0, none⟩ (.slice B5 m5 d5)) :=
  have k2 := k'.far (p := ⟨p, 0, none⟩) hne (.slice B4 m4 d4)
  quint_of hX hZ hN hK bW (bel_set (bel_set hw hp _) hq _) ((k.set0 _).far (p := ⟨q, 0, none⟩) (Ne.symm hne) _) (k2.set0 _) ((hQ.far k 0 _).far k2 0 _) ((hR.far k 0 _).far k2 0 _)
end

set_option maxRecDepth 20000 in
set_option maxHeartbeats 8000000 in
theorem prodExact_walk (a0 : Option Addr) (len0 cap0 : Nat) (l0 : List Nat) (a1 : Option Addr) (len1 cap1 : Nat) (l1 : List Nat) (a2 : Option Addr) (len2 cap2 : Nat) (l2 : List Nat) (w : World) (h0 : Came w a0 len0 cap0 l0) (h1 : Came w a1 len1 cap1 l1) (h2 : Came w a2 len2 cap2 l2) :
    Calls Try.prog 3 #[.slice a0 len0 cap0, .slice a1 len1 cap1, .slice a2 len2 cap2] w (RetV (.bool true) w) := by
  obtain ⟨t0, ht0, hl0, F0⟩ := h0.few
  obtain ⟨t1, ht1, hl1, F1⟩ := h1.few
  obtain ⟨t2, ht2, hl2, F2⟩ := h2.few
  clear h0 h1 h2
  go_enter Try.func3, Try.ntmps3
  go_wp2_with fail
  refine (awake02_any _).mono ?_
  rintro e w1 ⟨rfl, b1⟩
  go_wp2_with fail
  refine (F0.out _ b1).mono ?_
  rintro e w2 ⟨v2, rfl, ⟨A0, c0, rfl, hr0, hc0⟩, b2⟩
  have b2 := below_step b1 b2
  go_wp2_with fail
  refine (limbs_any A0 c0 _ _ hr0.row hl0 (by omega)).mono ?_
  rintro e w3 ⟨v3, rfl, hN3, b3⟩
  obtain ⟨B0, m0, d0, rfl⟩ := hN3.shape
  have hN := hN3.more ht0
  have b3 := below_step b2 b3
  go_wp2_with fail
  refine (F1.out _ b3).mono ?_
  rintro e w4 ⟨v4, rfl, ⟨A1, c1, rfl, hr1, hc1⟩, b4⟩
  have hN := hN.below b4
  have b4 := below_step b3 b4
  go_wp2_with fail
  refine (limbs_any A1 c1 _ _ hr1.row hl1 (by omega)).mono ?_
  rintro e w5 ⟨v5, rfl, hM5, b5⟩
  obtain ⟨B1, m1, d1, rfl⟩ := hM5.shape
  have hM := hM5.more ht1
  have hN := hN.below b5
  have b5 := below_step b4 b5
  go_wp2_with fail
  refine (F2.out _ b5).mono ?_
  rintro e w6 ⟨v6, rfl, ⟨A2, c2, rfl, hr2, hc2⟩, b6⟩
  have hN := hN.below b6
  have hM := hM.below b6
  have b6 := below_step b5 b6
  go_wp2_with fail
  refine (limbs_any A2 c2 _ _ hr2.row hl2 (by omega)).mono ?_
  rintro e w7 ⟨v7, rfl, hK7, b7⟩
  obtain ⟨B2, m2, d2, rfl⟩ := hK7.shape
  have hK := hK7.more ht2
  have hN := hN.below b7
  have hM := hM.below b7
  have b7 := below_step b6 b7
  generalize val 4294967296 t0 = N at *
  generalize val 4294967296 t1 = M at *
  generalize val 4294967296 t2 = K at *
  have hX : Blk (((w7.alloc (.cells #[.slice B0 m0 d0] 25)).alloc (.cells #[.slice B1 m1 d1] 25)).alloc (.cells #[.slice B2 m2 d2] 25)) w7.heap.size 25 #[.slice B0 m0 d0] := ((Blk.new w7 25 _).alloc _).alloc _
  have hY : Blk (((w7.alloc (.cells #[.slice B0 m0 d0] 25)).alloc (.cells #[.slice B1 m1 d1] 25)).alloc (.cells #[.slice B2 m2 d2] 25)) (w7.heap.size + 1) 25 #[.slice B1 m1 d1] := by
    have := (Blk.new (w7.alloc (.cells #[.slice B0 m0 d0] 25)) 25 #[.slice B1 m1 d1]).alloc (.cells #[.slice B2 m2 d2] 25)
    simpa using this
  have hZ : Blk (((w7.alloc (.cells #[.slice B0 m0 d0] 25)).alloc (.cells #[.slice B1 m1 d1] 25)).alloc (.cells #[.slice B2 m2 d2] 25)) (w7.heap.size + 1 + 1) 25 #[.slice B2 m2 d2] := by
    have := Blk.new ((w7.alloc (.cells #[.slice B0 m0 d0] 25)).alloc (.cells #[.slice B1 m1 d1] 25)) 25 #[.slice B2 m2 d2]
    simpa using this
  have hN := ((hN.alloc (.cells #[.slice B0 m0 d0] 25)).alloc (.cells #[.slice B1 m1 d1] 25)).alloc (.cells #[.slice B2 m2 d2] 25)
  have hM := ((hM.alloc (.cells #[.slice B0 m0 d0] 25)).alloc (.cells #[.slice B1 m1 d1] 25)).alloc (.cells #[.slice B2 m2 d2] 25)
  have hK := ((hK.alloc (.cells #[.slice B0 m0 d0] 25)).alloc (.cells #[.slice B1 m1 d1] 25)).alloc (.cells #[.slice B2 m2 d2] 25)
  have bW := below_step (below_step (below_step b7 (below_new _ (.cells #[.slice B0 m0 d0] 25))) (below_new _ (.cells #[.slice B1 m1 d1] 25))) (below_new _ (.cells #[.slice B2 m2 d2] 25))
  have hsw : w.heap.size ≤ w7.heap.size := b7.size
  clear b1 b2 b3 b4 b5 b6 b7 hr0 hr1 hr2 F0 F1 F2 hN3 hM5 hK7 hl0 hl1 hl2
  have hcx := hX.cell0
  have hcy := hY.cell0
  have hcz := hZ.cell0
  have E1 := Lib.hid (of_any 1)
  go_wp2_with fail
  generalize hW : ((w7.alloc (.cells #[.slice B0 m0 d0] 25)).alloc (.cells #[.slice B1 m1 d1] 25)).alloc (.cells #[.slice B2 m2 d2] 25) = W at *
  clear hW
  refine (compare_any _ _ 40 40 K M _ hK hM (by decide) (by decide)).mono ?_
  rintro e w8 ⟨rfl, b8⟩
  have hX := hX.on b8
  have hY := hY.on b8
  have hZ := hZ.on b8
  have hN := hN.below b8
  have hM := hM.below b8
  have hK := hK.below b8
  have bW := below_step bW b8
  clear b8 hcx hcy hcz
  have hcx := hX.cell0
  have hcy := hY.cell0
  have hcz := hZ.cell0
  have hlx := hX.lt
  go_upto_if 27 with fail
  go_cut [] (fun wx => Trio w w7.heap.size (w7.heap.size + 1) (w7.heap.size + 1 + 1) wx)
  case first =>
    by_cases hKM : K < M
    · rw [cmpN_lt hKM]
      go_wp2_with fail
      go_meet
      exact ⟨_, _, _, _, _, _, _, _, _, N, M, K, hX, hY, hZ, hN.more (by decide), hM.more (by decide), hK.more (by decide), hKM, bW⟩
    · have hge := cmpN_ge (a := K) (b := M) (by omega)
      generalize cmpN K M = cn at *
      have hne1 : w7.heap.size + 1 ≠ w7.heap.size := by omega
      have hne2 : w7.heap.size + 1 + 1 ≠ w7.heap.size := by omega
      have hne3 : w7.heap.size + 1 + 1 ≠ w7.heap.size + 1 := by omega
      have hKM1 : M < K + 1 := by omega
      clear hlx ht0 ht1 ht2 hc0 hc1 hc2 b2 b3 b4 b5 b6 b7
      go_wp2_with fail
      refine wp_region_kept (fun w' => w'.cell? ⟨w7.heap.size, 0, none⟩ = some (.slice B0 m0 d0) ∧ w'.cell? ⟨w7.heap.size + 1, 0, none⟩ = some (.slice B1 m1 d1) ∧ w'.cell? ⟨w7.heap.size + 1 + 1, 0, none⟩ = some (.slice B2 m2 d2)) (fun i => decide (7 ≤ i)) (by kernel_rfl) (keep3 hX hY hZ (below_drew _)) (fun hH => ?_)
      refine wpAnyK_take (i := 0) (v := .agg #[.slice B0 m0 d0]) rfl (by kernel_rfl) (by kernel_rfl) (by kernel_rfl) (by kernel_rfl) (by kernel_rfl) (fun _ _ _ h => h) (Or.inl ⟨by rfl, ?_⟩) hH ?_
      · rintro w' ⟨k1, k2, k3⟩; go_simp
      simp only [Act.put, List.setIfInBounds_toArray, List.set_cons_zero, List.set_cons_succ]
      refine wpAnyK_take (i := 1) (v := .agg #[.slice B2 m2 d2]) rfl (by kernel_rfl) (by kernel_rfl) (by kernel_rfl) (by kernel_rfl) (by kernel_rfl) (fun _ _ _ h => h) (Or.inl ⟨by rfl, ?_⟩) hH ?_
      · rintro w' ⟨k1, k2, k3⟩; go_simp
      simp only [Act.put, List.setIfInBounds_toArray, List.set_cons_zero, List.set_cons_succ]
      refine wpAnyK_take (i := 3) (v := .agg #[.slice B2 m2 d2]) rfl (by kernel_rfl) (by kernel_rfl) (by kernel_rfl) (by kernel_rfl) (by kernel_rfl) (fun _ _ _ h => h) (Or.inl ⟨by rfl, ?_⟩) hH ?_
      · rintro w' ⟨k1, k2, k3⟩; go_simp
      simp only [Act.put, List.setIfInBounds_toArray, List.set_cons_zero, List.set_cons_succ]
      refine wpAnyK_take (i := 6) (v := .agg #[.slice B1 m1 d1]) rfl (by kernel_rfl) (by kernel_rfl) (by kernel_rfl) (by kernel_rfl) (by kernel_rfl) (fun _ _ _ h => h) (Or.inl ⟨by rfl, ?_⟩) hH ?_
      · rintro w' ⟨k1, k2, k3⟩; go_simp
      simp only [Act.put, List.setIfInBounds_toArray, List.set_cons_zero, List.set_cons_succ]
      refine wpAnyK_one (i := 2) (by kernel_rfl) rfl (fun Kk hKk => ?_)
      go_simp
      refine (add_any _ _ 40 40 N K _ (hN.below (below_drew _)) (hK.below (below_drew _)) (by decide) (by decide)).mono ?_
      rintro e x1 ⟨s1, rfl, hS1, y1⟩
      obtain ⟨P1, p1, q1, rfl⟩ := hS1.shape
      have hw1 := below_step (below_drew _) y1
      go_wp2_with fail
      refine hKk.out _ _ (keep3 hX hY hZ hw1) (fun _ => ?_)
      clear hKk Kk
      refine wpAnyK_one (i := 4) (by kernel_rfl) rfl (fun Kk hKk => ?_)
      go_simp
      refine (E1.out _ (by decide)).mono ?_
      rintro e x2 ⟨s2, rfl, hS2, y2⟩
      obtain ⟨P2, p2, q2, rfl⟩ := hS2.shape
      have hw2 := below_step hw1 y2
      go_wp2_with fail
      refine hKk.out _ _ (keep3 hX hY hZ hw2) (fun _ => ?_)
      clear hKk Kk
      refine wpAnyK_one (i := 5) (by kernel_rfl) rfl (fun Kk hKk => ?_)
      go_simp
      refine (add_any _ _ 40 2 K 1 _ (hK.below hw2) hS2 (by decide) (by decide)).mono ?_
      rintro e x3 ⟨s3, rfl, hS3, y3⟩
      obtain ⟨P3, p3, q3, rfl⟩ := hS3.shape
      have hw3 := below_step hw2 y3
      go_wp2_with fail
      refine hKk.out _ _ (keep3 hX hY hZ hw3) (fun _ => ?_)
      clear hKk Kk
      have hx3 := hX.on hw3
      have hy3 := hY.on hw3
      have hz3 := hZ.on hw3
      have hS1 := (hS1.below y2).below y3
      have hM := hM.below hw3
      have bW := below_step bW hw3
      clear hH hcx hcy hcz hX hY hZ hN hK hw1 hw2 hw3 y1 y2 y3 hS2 E1
      have cx3 := hx3.cell0
      have fx3 := hx3.free 0
      have hy4 := hy3.far (p := ⟨w7.heap.size, 0, none⟩) hne1 (.slice P1 p1 q1)
      have hz4 := hz3.far (p := ⟨w7.heap.size, 0, none⟩) hne2 (.slice P1 p1 q1)
      have cy4 := hy4.cell0
      have fy4 := hy4.free 0
      have hz5 := hz4.far (p := ⟨w7.heap.size + 1, 0, none⟩) hne3 (.slice P3 p3 q3)
      have cz5 := hz5.cell0
      have fz5 := hz5.free 0
      refine wpAnyK_last (i := 7) (by kernel_rfl) rfl rfl (fun Kk hKk => ?_)
      go_simp
      refine hKk.out _ _ ?_
      clear hKk Kk
      refine wpAnyK_last (i := 8) (by kernel_rfl) rfl rfl (fun Kk hKk => ?_)
      go_simp
      refine hKk.out _ _ ?_
      clear hKk Kk
      refine wpAnyK_last (i := 9) (by kernel_rfl) rfl rfl (fun Kk hKk => ?_)
      go_simp
      refine hKk.out _ _ ?_
      clear hKk Kk
      refine wpAnyK_done (by kernel_rfl) ?_ _
      go_wp2_with fail
      go_meet
      have hS1' := ((hS1.far hx3 0 (.slice P1 p1 q1)).far hy4 0 (.slice P3 p3 q3)).far hz5 0 (.slice B1 m1 d1)
      have hS3' := ((hS3.far hx3 0 (.slice P1 p1 q1)).far hy4 0 (.slice P3 p3 q3)).far hz5 0 (.slice B1 m1 d1)
      have hM' := ((hM.far hx3 0 (.slice P1 p1 q1)).far hy4 0 (.slice P3 p3 q3)).far hz5 0 (.slice B1 m1 d1)
      have gx := ((hx3.set0 (.slice P1 p1 q1)).far (p := ⟨w7.heap.size + 1, 0, none⟩) (Ne.symm hne1) (.slice P3 p3 q3)).far (p := ⟨w7.heap.size + 1 + 1, 0, none⟩) (Ne.symm hne2) (.slice B1 m1 d1)
      have gy := (hy4.set0 (.slice P3 p3 q3)).far (p := ⟨w7.heap.size + 1 + 1, 0, none⟩) (Ne.symm hne3) (.slice B1 m1 d1)
      have gz := hz5.set0 (.slice B1 m1 d1)
      exact ⟨_, _, _, _, _, _, _, _, _, N + K, K + 1, M, gx, gy, gz, hS1'.more (by decide), hS3'.more (by decide), hM'.more (by decide), hKM1, ((bW.setCell (p := ⟨w7.heap.size, 0, none⟩) hsw _).setCell (p := ⟨w7.heap.size + 1, 0, none⟩) (by show w.heap.size ≤ w7.heap.size + 1; omega) _).setCell (p := ⟨w7.heap.size + 1 + 1, 0, none⟩) (by show w.heap.size ≤ w7.heap.size + 1 + 1; omega) _⟩
  case rest =>
    obtain ⟨B0, m0, d0, B1, m1, d1, B2, m2, d2, N, M, K, hX, hY, hZ, hN, hM, hK, hKM, bW⟩ := hcut
    have hcx := hX.cell0
    have hcy := hY.cell0
    have hcz := hZ.cell0
    go_wp2_with fail
    refine (compare_any _ _ 41 41 K M _ hK hM (by decide) (by decide)).mono ?_
    rintro e V ⟨rfl, b9⟩
    rw [cmpN_lt hKM]
    have hX := hX.on b9
    have hY := hY.on b9
    have hZ := hZ.on b9
    have hN := hN.below b9
    have hM := hM.below b9
    have hK := hK.below b9
    have bW := below_step bW b9
    have hMp : 0 < M := by omega
    have hdv : (N * M + K) / M = N := by rw [Nat.mul_comm, Nat.mul_add_div hMp, Nat.div_eq_of_lt hKM]; rfl
    have hmd : (N * M + K) % M = K := by rw [Nat.mul_comm, Nat.mul_add_mod, Nat.mod_eq_of_lt hKM]
    have HD := Lib.hid hdv
    have HM := Lib.hid hmd
    clear b9 hcx hcy hcz hdv hmd
    have hVx := hX.lt
    have hVy := hY.lt
    have hVz := hZ.lt
    clear hsw hlx ht0 ht1 ht2 hc0 hc1 hc2 b2 b3 b4 b5 b6 b7
    go_upto_region 8 with fail
    go_cut [10, 11, 12] (fun s10 s11 s12 wx => Quint w w7.heap.size (w7.heap.size + 1 + 1) N K B0 m0 d0 B2 m2 d2 s10 s11 s12 wx)
    case first =>
      go_region_held3 (fun w' => w'.cell? ⟨w7.heap.size, 0, none⟩ = some (.slice B0 m0 d0) ∧ w'.cell? ⟨w7.heap.size + 1, 0, none⟩ = some (.slice B1 m1 d1) ∧ w'.cell? ⟨w7.heap.size + 1 + 1, 0, none⟩ = some (.slice B2 m2 d2))
        ((refine keep3 hX hY hZ ?_; (repeat (first | exact hw3 | exact hw2 | exact hw1 | exact below_drew _ | exact Below.refl _ _ | refine bel_drew ?_ | refine bel_new ?_ _ | refine bel_set ?_ (by omega) _))))
        (first
          | (go_at_call 11; refine (mul_any _ _ 41 41 N M _ (hN.below ?h1) (hM.below ?h2) (by decide) (by decide)).mono ?_; (case h1 => (repeat (first | exact hw3 | exact hw2 | exact hw1 | exact below_drew _ | exact Below.refl _ _ | refine bel_drew ?_ | refine bel_new ?_ _ | refine bel_set ?_ (by omega) _))); (case h2 => (repeat (first | exact hw3 | exact hw2 | exact hw1 | exact below_drew _ | exact Below.refl _ _ | refine bel_drew ?_ | refine bel_new ?_ _ | refine bel_set ?_ (by omega) _))); rintro e x1 ⟨s1, rfl, hS1, y1⟩; (have hw1 : Below V.heap.size V x1 := (by first | exact below_step (below_drew _) y1 | exact below_step (below_step (below_new _ _) (below_drew _)) y1 | exact below_step (below_step (below_step (below_new _ _) (below_new _ _)) (below_drew _)) y1)); have z1 := hw1.size; (first | (have k1 : Blk x1 V.heap.size 25 #[Value.slice none 0 0] := Blk.on (w := (V.alloc (Obj.cells #[Value.slice none 0 0] 25)).drew) (Blk.new V 25 _) y1; have l1 := k1.lt) | (have k1 : Blk x1 V.heap.size 25 #[Value.slice none 0 0] := Blk.on (w := ((V.alloc (Obj.cells #[Value.slice none 0 0] 25)).alloc (Obj.cells #[Value.slice none 0 0] 25)).drew) ((Blk.new V 25 _).alloc _) y1; have k2 : Blk x1 (V.heap.size + 1) 25 #[Value.slice none 0 0] := (by have := Blk.on (w := ((V.alloc (Obj.cells #[Value.slice none 0 0] 25)).alloc (Obj.cells #[Value.slice none 0 0] 25)).drew) (Blk.new (V.alloc (Obj.cells #[Value.slice none 0 0] 25)) 25 _) y1; simpa using this); have l1 := k1.lt; have l2 := k2.lt) | skip))
          | (go_at_call 8; refine (add_any _ _ 82 41 (N * M) K _ ?h3 (hK.below ?h4) (by decide) (by decide)).mono ?_; (case h3 => first | exact hS1 | exact hS1.alloc _ | exact (hS1.alloc _).alloc _); (case h4 => (repeat (first | exact hw3 | exact hw2 | exact hw1 | exact below_drew _ | exact Below.refl _ _ | refine bel_drew ?_ | refine bel_new ?_ _ | refine bel_set ?_ (by omega) _))); rintro e x2 ⟨s2, rfl, hS2, y2⟩; (have hzx2 : Below x1.heap.size x1 x2 := (by first | exact y2 | exact below_step (below_new _ _) y2 | exact below_step (below_step (below_new _ _) (below_new _ _)) y2)); have hw2 : Below V.heap.size V x2 := below_step hw1 hzx2; have zx2s := hzx2.size; (try have k1 := k1.on hzx2); (try have k2 := k2.on hzx2); (first | (have k3 : Blk x2 x1.heap.size 25 #[Value.slice none 0 0] := Blk.over y2; have lk3 := k3.lt) | (have k3 : Blk x2 x1.heap.size 25 #[Value.slice none 0 0] := Blk.on (w := (x1.alloc (Obj.cells #[Value.slice none 0 0] 25)).alloc (Obj.cells #[Value.slice none 0 0] 25)) ((Blk.new x1 25 _).alloc _) y2; have k4 : Blk x2 (x1.heap.size + 1) 25 #[Value.slice none 0 0] := (by have := Blk.over (w := x1.alloc (Obj.cells #[Value.slice none 0 0] 25)) y2; simpa using this); have lk3 := k3.lt; have lk4 := k4.lt) | skip))
          | (go_at_call 10; refine (divMod_all _ _ 83 (N * M + K) M 41 _ ?h5 (hM.below ?h6) (by decide) (by decide) (by decide) hMp).mono ?_; (case h5 => first | exact hS2 | exact hS2.alloc _ | exact (hS2.alloc _).alloc _); (case h6 => (repeat (first | exact hw3 | exact hw2 | exact hw1 | exact below_drew _ | exact Below.refl _ _ | refine bel_drew ?_ | refine bel_new ?_ _ | refine bel_set ?_ (by omega) _))); rintro e x3 ⟨v3, u3, rfl, hQ3, hR3, y3⟩; rw [HD.out] at hQ3; rw [HM.out] at hR3; obtain ⟨B4, m4, d4, rfl⟩ := hQ3.shape; obtain ⟨B5, m5, d5, rfl⟩ := hR3.shape; (have hzx3 : Below x2.heap.size x2 x3 := (by first | exact y3 | exact below_step (below_new _ _) y3 | exact below_step (below_step (below_new _ _) (below_new _ _)) y3)); have hw3 : Below V.heap.size V x3 := below_step hw2 hzx3; have zx3s := hzx3.size; (try have k1 := k1.on hzx3); (try have k2 := k2.on hzx3); (try have k3 := k3.on hzx3); (try have k4 := k4.on hzx3); (first | (have k5 : Blk x3 x2.heap.size 25 #[Value.slice none 0 0] := Blk.over y3; have lk5 := k5.lt) | (have k5 : Blk x3 x2.heap.size 25 #[Value.slice none 0 0] := Blk.on (w := (x2.alloc (Obj.cells #[Value.slice none 0 0] 25)).alloc (Obj.cells #[Value.slice none 0 0] 25)) ((Blk.new x2 25 _).alloc _) y3; have k6 : Blk x3 (x2.heap.size + 1) 25 #[Value.slice none 0 0] := (by have := Blk.over (w := x2.alloc (Obj.cells #[Value.slice none 0 0] 25)) y3; simpa using this); have lk5 := k5.lt; have lk6 := k6.lt) | skip); (try have ck1 := k1.cell0); (try have fk1 := k1.free 0); (try have ltk1 := k1.lt); (try have ck2 := k2.cell0); (try have fk2 := k2.free 0); (try have ltk2 := k2.lt); (try have ck3 := k3.cell0); (try have fk3 := k3.free 0); (try have ltk3 := k3.lt); (try have ck4 := k4.cell0); (try have fk4 := k4.free 0); (try have ltk4 := k4.lt); (try have ck5 := k5.cell0); (try have fk5 := k5.free 0); (try have ltk5 := k5.lt); (try have ck6 := k6.cell0); (try have fk6 := k6.free 0); (try have ltk6 := k6.lt); (try have k1k2 := k2.far (p := ⟨V.heap.size, 0, none⟩) (by show V.heap.size + 1 ≠ V.heap.size; have := k1.lt; have := k2.lt; omega) (.slice B4 m4 d4)); (try have ck1k2 := k1k2.cell0); (try have fk1k2 := k1k2.free 0); (try have k1k3 := k3.far (p := ⟨V.heap.size, 0, none⟩) (by show x1.heap.size ≠ V.heap.size; have := k1.lt; have := k3.lt; omega) (.slice B4 m4 d4)); (try have ck1k3 := k1k3.cell0); (try have fk1k3 := k1k3.free 0); (try have k1k4 := k4.far (p := ⟨V.heap.size, 0, none⟩) (by show x1.heap.size + 1 ≠ V.heap.size; have := k1.lt; have := k4.lt; omega) (.slice B4 m4 d4)); (try have ck1k4 := k1k4.cell0); (try have fk1k4 := k1k4.free 0); (try have k1k5 := k5.far (p := ⟨V.heap.size, 0, none⟩) (by show x2.heap.size ≠ V.heap.size; have := k1.lt; have := k5.lt; omega) (.slice B4 m4 d4)); (try have ck1k5 := k1k5.cell0); (try have fk1k5 := k1k5.free 0); (try have k1k6 := k6.far (p := ⟨V.heap.size, 0, none⟩) (by show x2.heap.size + 1 ≠ V.heap.size; have := k1.lt; have := k6.lt; omega) (.slice B4 m4 d4)); (try have ck1k6 := k1k6.cell0); (try have fk1k6 := k1k6.free 0); (try have k2k1 := k1.far (p := ⟨V.heap.size + 1, 0, none⟩) (by show V.heap.size ≠ V.heap.size + 1; have := k2.lt; have := k1.lt; omega) (.slice B4 m4 d4)); (try have ck2k1 := k2k1.cell0); (try have fk2k1 := k2k1.free 0); (try have k2k3 := k3.far (p := ⟨V.heap.size + 1, 0, none⟩) (by show x1.heap.size ≠ V.heap.size + 1; have := k2.lt; have := k3.lt; omega) (.slice B4 m4 d4)); (try have ck2k3 := k2k3.cell0); (try have fk2k3 := k2k3.free 0); (try have k2k4 := k4.far (p := ⟨V.heap.size + 1, 0, none⟩) (by show x1.heap.size + 1 ≠ V.heap.size + 1; have := k2.lt; have := k4.lt; omega) (.slice B4 m4 d4)); (try have ck2k4 := k2k4.cell0); (try have fk2k4 := k2k4.free 0); (try have k2k5 := k5.far (p := ⟨V.heap.size + 1, 0, none⟩) (by show x2.heap.size ≠ V.heap.size + 1; have := k2.lt; have := k5.lt; omega) (.slice B4 m4 d4)); (try have ck2k5 := k2k5.cell0); (try have fk2k5 := k2k5.free 0); (try have k2k6 := k6.far (p := ⟨V.heap.size + 1, 0, none⟩) (by show x2.heap.size + 1 ≠ V.heap.size + 1; have := k2.lt; have := k6.lt; omega) (.slice B4 m4 d4)); (try have ck2k6 := k2k6.cell0); (try have fk2k6 := k2k6.free 0); (try have k3k1 := k1.far (p := ⟨x1.heap.size, 0, none⟩) (by show V.heap.size ≠ x1.heap.size; have := k3.lt; have := k1.lt; omega) (.slice B4 m4 d4)); (try have ck3k1 := k3k1.cell0); (try have fk3k1 := k3k1.free 0); (try have k3k2 := k2.far (p := ⟨x1.heap.size, 0, none⟩) (by show V.heap.size + 1 ≠ x1.heap.size; have := k3.lt; have := k2.lt; omega) (.slice B4 m4 d4)); (try have ck3k2 := k3k2.cell0); (try have fk3k2 := k3k2.free 0); (try have k3k4 := k4.far (p := ⟨x1.heap.size, 0, none⟩) (by show x1.heap.size + 1 ≠ x1.heap.size; have := k3.lt; have := k4.lt; omega) (.slice B4 m4 d4)); (try have ck3k4 := k3k4.cell0); (try have fk3k4 := k3k4.free 0); (try have k3k5 := k5.far (p := ⟨x1.heap.size, 0, none⟩) (by show x2.heap.size ≠ x1.heap.size; have := k3.lt; have := k5.lt; omega) (.slice B4 m4 d4)); (try have ck3k5 := k3k5.cell0); (try have fk3k5 := k3k5.free 0); (try have k3k6 := k6.far (p := ⟨x1.heap.size, 0, none⟩) (by show x2.heap.size + 1 ≠ x1.heap.size; have := k3.lt; have := k6.lt; omega) (.slice B4 m4 d4)); (try have ck3k6 := k3k6.cell0); (try have fk3k6 := k3k6.free 0); (try have k4k1 := k1.far (p := ⟨x1.heap.size + 1, 0, none⟩) (by show V.heap.size ≠ x1.heap.size + 1; have := k4.lt; have := k1.lt; omega) (.slice B4 m4 d4)); (try have ck4k1 := k4k1.cell0); (try have fk4k1 := k4k1.free 0); (try have k4k2 := k2.far (p := ⟨x1.heap.size + 1, 0, none⟩) (by show V.heap.size + 1 ≠ x1.heap.size + 1; have := k4.lt; have := k2.lt; omega) (.slice B4 m4 d4)); (try have ck4k2 := k4k2.cell0); (try have fk4k2 := k4k2.free 0); (try have k4k3 := k3.far (p := ⟨x1.heap.size + 1, 0, none⟩) (by show x1.heap.size ≠ x1.heap.size + 1; have := k4.lt; have := k3.lt; omega) (.slice B4 m4 d4)); (try have ck4k3 := k4k3.cell0); (try have fk4k3 := k4k3.free 0); (try have k4k5 := k5.far (p := ⟨x1.heap.size + 1, 0, none⟩) (by show x2.heap.size ≠ x1.heap.size + 1; have := k4.lt; have := k5.lt; omega) (.slice B4 m4 d4)); (try have ck4k5 := k4k5.cell0); (try have fk4k5 := k4k5.free 0); (try have k4k6 := k6.far (p := ⟨x1.heap.size + 1, 0, none⟩) (by show x2.heap.size + 1 ≠ x1.heap.size + 1; have := k4.lt; have := k6.lt; omega) (.slice B4 m4 d4)); (try have ck4k6 := k4k6.cell0); (try have fk4k6 := k4k6.free 0); (try have k5k1 := k1.far (p := ⟨x2.heap.size, 0, none⟩) (by show V.heap.size ≠ x2.heap.size; have := k5.lt; have := k1.lt; omega) (.slice B4 m4 d4)); (try have ck5k1 := k5k1.cell0); (try have fk5k1 := k5k1.free 0); (try have k5k2 := k2.far (p := ⟨x2.heap.size, 0, none⟩) (by show V.heap.size + 1 ≠ x2.heap.size; have := k5.lt; have := k2.lt; omega) (.slice B4 m4 d4)); (try have ck5k2 := k5k2.cell0); (try have fk5k2 := k5k2.free 0); (try have k5k3 := k3.far (p := ⟨x2.heap.size, 0, none⟩) (by show x1.heap.size ≠ x2.heap.size; have := k5.lt; have := k3.lt; omega) (.slice B4 m4 d4)); (try have ck5k3 := k5k3.cell0); (try have fk5k3 := k5k3.free 0); (try have k5k4 := k4.far (p := ⟨x2.heap.size, 0, none⟩) (by show x1.heap.size + 1 ≠ x2.heap.size; have := k5.lt; have := k4.lt; omega) (.slice B4 m4 d4)); (try have ck5k4 := k5k4.cell0); (try have fk5k4 := k5k4.free 0); (try have k5k6 := k6.far (p := ⟨x2.heap.size, 0, none⟩) (by show x2.heap.size + 1 ≠ x2.heap.size; have := k5.lt; have := k6.lt; omega) (.slice B4 m4 d4)); (try have ck5k6 := k5k6.cell0); (try have fk5k6 := k5k6.free 0); (try have k6k1 := k1.far (p := ⟨x2.heap.size + 1, 0, none⟩) (by show V.heap.size ≠ x2.heap.size + 1; have := k6.lt; have := k1.lt; omega) (.slice B4 m4 d4)); (try have ck6k1 := k6k1.cell0); (try have fk6k1 := k6k1.free 0); (try have k6k2 := k2.far (p := ⟨x2.heap.size + 1, 0, none⟩) (by show V.heap.size + 1 ≠ x2.heap.size + 1; have := k6.lt; have := k2.lt; omega) (.slice B4 m4 d4)); (try have ck6k2 := k6k2.cell0); (try have fk6k2 := k6k2.free 0); (try have k6k3 := k3.far (p := ⟨x2.heap.size + 1, 0, none⟩) (by show x1.heap.size ≠ x2.heap.size + 1; have := k6.lt; have := k3.lt; omega) (.slice B4 m4 d4)); (try have ck6k3 := k6k3.cell0); (try have fk6k3 := k6k3.free 0); (try have k6k4 := k4.far (p := ⟨x2.heap.size + 1, 0, none⟩) (by show x1.heap.size + 1 ≠ x2.heap.size + 1; have := k6.lt; have := k4.lt; omega) (.slice B4 m4 d4)); (try have ck6k4 := k6k4.cell0); (try have fk6k4 := k6k4.free 0); (try have k6k5 := k5.far (p := ⟨x2.heap.size + 1, 0, none⟩) (by show x2.heap.size ≠ x2.heap.size + 1; have := k6.lt; have := k5.lt; omega) (.slice B4 m4 d4)); (try have ck6k5 := k6k5.cell0); (try have fk6k5 := k6k5.free 0)))
      all_goals go_wp2_with fail
      all_goals go_meet
      all_goals first | exact quint_nn hX hZ hN hK bW hw3 hQ3 hR3 | exact quint_nn' hX hZ hN hK bW hw3 hQ3 hR3 | exact quint_on hX hZ hN hK bW hw3 hQ3 hR3 k1 (by omega) | exact quint_on hX hZ hN hK bW hw3 hQ3 hR3 k2 (by omega) | exact quint_on hX hZ hN hK bW hw3 hQ3 hR3 k3 (by omega) | exact quint_on hX hZ hN hK bW hw3 hQ3 hR3 k4 (by omega) | exact quint_on hX hZ hN hK bW hw3 hQ3 hR3 k5 (by omega) | exact quint_on hX hZ hN hK bW hw3 hQ3 hR3 k6 (by omega) | exact quint_no hX hZ hN hK bW hw3 hQ3 hR3 k1 (by omega) | exact quint_no hX hZ hN hK bW hw3 hQ3 hR3 k2 (by omega) | exact quint_no hX hZ hN hK bW hw3 hQ3 hR3 k3 (by omega) | exact quint_no hX hZ hN hK bW hw3 hQ3 hR3 k4 (by omega) | exact quint_no hX hZ hN hK bW hw3 hQ3 hR3 k5 (by omega) | exact quint_no hX hZ hN hK bW hw3 hQ3 hR3 k6 (by omega) | exact quint_oo hX hZ hN hK bW hw3 hQ3 hR3 k1 (by omega) k2 (by omega) (by omega) | exact quint_oo hX hZ hN hK bW hw3 hQ3 hR3 k1 (by omega) k3 (by omega) (by omega) | exact quint_oo hX hZ hN hK bW hw3 hQ3 hR3 k1 (by omega) k4 (by omega) (by omega) | exact quint_oo hX hZ hN hK bW hw3 hQ3 hR3 k1 (by omega) k5 (by omega) (by omega) | exact quint_oo hX hZ hN hK bW hw3 hQ3 hR3 k1 (by omega) k6 (by omega) (by omega) | exact quint_oo hX hZ hN hK bW hw3 hQ3 hR3 k2 (by omega) k1 (by omega) (by omega) | exact quint_oo hX hZ hN hK bW hw3 hQ3 hR3 k2 (by omega) k3 (by omega) (by omega) | exact quint_oo hX hZ hN hK bW hw3 hQ3 hR3 k2 (by omega) k4 (by omega) (by omega) | exact quint_oo hX hZ hN hK bW hw3 hQ3 hR3 k2 (by omega) k5 (by omega) (by omega) | exact quint_oo hX hZ hN hK bW hw3 hQ3 hR3 k2 (by omega) k6 (by omega) (by omega) | exact quint_oo hX hZ hN hK bW hw3 hQ3 hR3 k3 (by omega) k1 (by omega) (by omega) | exact quint_oo hX hZ hN hK bW hw3 hQ3 hR3 k3 (by omega) k2 (by omega) (by omega) | exact quint_oo hX hZ hN hK bW hw3 hQ3 hR3 k3 (by omega) k4 (by omega) (by omega) | exact quint_oo hX hZ hN hK bW hw3 hQ3 hR3 k3 (by omega) k5 (by omega) (by omega) | exact quint_oo hX hZ hN hK bW hw3 hQ3 hR3 k3 (by omega) k6 (by omega) (by omega) | exact quint_oo hX hZ hN hK bW hw3 hQ3 hR3 k4 (by omega) k1 (by omega) (by omega) | exact quint_oo hX hZ hN hK bW hw3 hQ3 hR3 k4 (by omega) k2 (by omega) (by omega) | exact quint_oo hX hZ hN hK bW hw3 hQ3 hR3 k4 (by omega) k3 (by omega) (by omega) | exact quint_oo hX hZ hN hK bW hw3 hQ3 hR3 k4 (by omega) k5 (by omega) (by omega) | exact quint_oo hX hZ hN hK bW hw3 hQ3 hR3 k4 (by omega) k6 (by omega) (by omega) | exact quint_oo hX hZ hN hK bW hw3 hQ3 hR3 k5 (by omega) k1 (by omega) (by omega) | exact quint_oo hX hZ hN hK bW hw3 hQ3 hR3 k5 (by omega) k2 (by omega) (by omega) | exact quint_oo hX hZ hN hK bW hw3 hQ3 hR3 k5 (by omega) k3 (by omega) (by omega) | exact quint_oo hX hZ hN hK bW hw3 hQ3 hR3 k5 (by omega) k4 (by omega) (by omega) | exact quint_oo hX hZ hN hK bW hw3 hQ3 hR3 k5 (by omega) k6 (by omega) (by omega) | exact quint_oo hX hZ hN hK bW hw3 hQ3 hR3 k6 (by omega) k1 (by omega) (by omega) | exact quint_oo hX hZ hN hK bW hw3 hQ3 hR3 k6 (by omega) k2 (by omega) (by omega) | exact quint_oo hX hZ hN hK bW hw3 hQ3 hR3 k6 (by omega) k3 (by omega) (by omega) | exact quint_oo hX hZ hN hK bW hw3 hQ3 hR3 k6 (by omega) k4 (by omega) (by omega) | exact quint_oo hX hZ hN hK bW hw3 hQ3 hR3 k6 (by omega) k5 (by omega) (by omega)
    case rest =>
      obtain ⟨g10, g11, B4, m4, d4, B5, m5, d5, rfl, rfl, rfl, hX, hZ, hQ, hR, hN, hK, hN', hK', bW⟩ := hcut
      have hcx := hX.cell0
      have hcz := hZ.cell0
      have hcq := hQ.cell0
      have hcr := hR.cell0
      go_wp2_with fail
      refine (same_any _ _ 83 41 N N true _ hN' hN (by decide) (by decide) (by simp)).mono ?_
      rintro e x1 ⟨rfl, y1⟩
      have hcz1 := (hZ.on y1).cell0
      have hcr1 := (hR.on y1).cell0
      go_wp2_with fail
      refine (same_any _ _ 41 41 K K true _ (hK'.below y1) (hK.below y1) (by decide) (by decide) (by simp)).mono ?_
      rintro e x2 ⟨rfl, y2⟩
      go_wp2
      go_ret
      exact ⟨rfl, below_step (below_step bW y1) y2⟩
end Go.Proofs.Ytpokpkocinhbfaa
