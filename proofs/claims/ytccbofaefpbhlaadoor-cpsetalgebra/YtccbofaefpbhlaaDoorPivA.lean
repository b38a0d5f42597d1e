/-
  A range of runes turned round: the same runes.
  The sort's pivot, at runes: a place between the two.
-/
import Derived.Test.YtccbofaefpbhlaaDoorSiftA
namespace Go.Proofs.YtccbofaefpbhlaaDoor
set_option linter.unusedVariables false
set_option maxRecDepth 20000
open Go.RowKit Go.Lib

set_option maxHeartbeats 4000000 in
theorem rev_any (g n c a b : Nat) (l : List Nat) (tl : List Value) (w : World) (hB : Blk w g 21 (runeBlk l tl)) (hl : l.length = n) (hn : n ≤ 1000000000) (hab : a < b) (hbn : b ≤ n) :
    Calls Tryd.prog 151 #[.slice (some ⟨g, 0, none⟩) n c, .int .i64 a, .int .i64 b] w (RetSub (fun _ => True) a b g l tl w) := by
  have HL := Lib.hid hl
  clear hl
  go_enter Tryd.func151, Tryd.ntmps151
  go_wp2
  go_loopw [6, 7] (fun t u wr => ∃ (i j : Nat) (m : List Nat), a ≤ i ∧ i ≤ j + 1 ∧ j < b ∧ t = .int .i64 (i : Int) ∧ u = .int .i64 (j : Int) ∧ Blk wr g 21 (runeBlk m tl) ∧ Hid (Sub a b m l) ∧ Only g w wr) (fun t u _ => (intOf u + 1 - intOf t).toNat)
  case atStart => exact ⟨a, b - 1, l, Nat.le_refl _, by omega, by omega, rfl, by rw [show ((b - 1 : Nat) : Int) = (b : Int) - 1 by omega], hB, Sub.refl _ _ _, Only.refl _ _⟩
  case round =>
    clear hB
    obtain ⟨i, j, m, hi, hij, hjb, rfl, rfl, hBm, HS, hon⟩ := hrel
    by_cases hlt : i < j
    · have HML : Hid (m.length = n) := HS.out.length.trans HL.out
      have bi : i < n := by omega
      have bj : j < n := by omega
      have ci := (hBm.cell i).trans (runeBlk_get m tl (by rw [HML.out]; omega))
      have cj := (hBm.cell j).trans (runeBlk_get m tl (by rw [HML.out]; omega))
      obtain ⟨XI, hXI⟩ : ∃ X, m.getD i 0 = X := ⟨_, rfl⟩
      obtain ⟨XJ, hXJ⟩ : ∃ X, m.getD j 0 = X := ⟨_, rfl⟩
      rw [hXI] at ci
      rw [hXJ] at cj
      have f1 := hBm.free i
      have hB6 := hBm.set_ i (.int .i32 (XJ : Int))
      rw [runeBlk_set _ _ _ _ (show i < m.length by rw [HML.out]; omega)] at hB6
      have cj6 := (hB6.cell j).trans (runeBlk_get _ tl (by rw [List.length_set, HML.out]; omega))
      obtain ⟨Y, hY⟩ : ∃ Y, (m.set i XJ).getD j 0 = Y := ⟨_, rfl⟩
      rw [hY] at cj6
      have f2 := hB6.free j
      have hB7 := hB6.set_ j (.int .i32 (XI : Int))
      rw [runeBlk_set _ _ _ _ (show j < (m.set i XJ).length by rw [List.length_set, HML.out]; omega)] at hB7
      have hsw : (m.set i XJ).set j XI = swapAt m i j := by rw [swapAt, hXI, hXJ]
      rw [hsw] at hB7
      have HSW : Hid (Sub a b (swapAt m i j) l) := HS.out.trans (Sub.swap (by omega) (by omega) (by omega) (by omega) (by rw [HML.out]; omega))
      have on7 := ((hon.set_ i (.int .i32 (XJ : Int))).set_ j (.int .i32 (XI : Int))).drew
      clear hsw hY hXI hXJ hBm hon hB6
      go_wp2_with fail
      go_region
      go_wp2
      go_roundw
      case rel => exact ⟨i + 1, j - 1, swapAt m i j, by omega, by omega, by omega, by go_num, by rw [show ((j - 1 : Nat) : Int) = (j : Int) - 1 by omega], hB7, HSW.out, on7⟩
      case measure => simp [intOf]; omega
    · go_wp2
      go_end0
      exact ⟨m, rfl, hBm, HS.out, trivial, hon⟩
end Go.Proofs.YtccbofaefpbhlaaDoor

namespace Go.Proofs.YtccbofaefpbhlaaDoor
set_option linter.unusedVariables false
set_option maxRecDepth 20000
open Go.RowKit Go.Lib

/-- Two places, in one order or the other; the counter has gone up by at most one. -/
def RetO2 (gb a b s : Nat) (W : World) (e : Ending) (W' : World) : Prop :=
  ∃ x y s' : Nat, e = .returned (.tuple #[.int .i64 (x : Int), .int .i64 (y : Int)]) ∧ (x = a ∧ y = b ∨ x = b ∧ y = a) ∧ s' ≤ s + 1 ∧ Blk W' gb 3 #[.int .i64 (s' : Int)] ∧ Only gb W W'
theorem order2_any (g n c a b gb s : Nat) (l : List Nat) (tl : List Value) (W : World) (hB : Blk W g 21 (runeBlk l tl)) (hl : l.length = n) (hb : ∀ x ∈ l, x < 2147483648) (ha : a < n) (hbn : b < n) (hn : n ≤ 1000000000)
    (hS : Blk W gb 3 #[.int .i64 (s : Int)]) (hs : s ≤ 1000) : Calls Tryd.prog 196 #[.slice (some ⟨g, 0, none⟩) n c, .int .i64 a, .int .i64 b, .pointer (some ⟨gb, 0, none⟩)] W (RetO2 gb a b s W) := by
  have ca := (hB.cell a).trans (runeBlk_get l tl (by omega))
  have cb := (hB.cell b).trans (runeBlk_get l tl (by omega))
  have xa := lt_of_mem_getD' hb (show a < l.length by omega)
  have xb := lt_of_mem_getD' hb (show b < l.length by omega)
  generalize l.getD a 0 = XA at *
  generalize l.getD b 0 = XB at *
  have hon := Only.refl gb W
  clear hB hl hb
  by_cases hx : XB < XA
  · have hd : decide (XB < XA) = true := by simpa using hx
    have LQ := fun W => less_q XB XA true W xb xa hd
    go_enter Tryd.func196, Tryd.ntmps196
    go_wp2_with fail
    go_quiet ((go_at_call 153; exact Calls.quiet_of_same (LQ _)))
    have hSq : Blk (W.drewN nq) gb 3 #[.int .i64 (s : Int)] := hS
    have honq := hon.drewN nq
    clear hS hon ca cb LQ hd
    generalize W.drewN nq = V at *
    have cs := hSq.cell0
    have fs := hSq.free 0
    have hS2 := hSq.set0 (.int .i64 ((s : Int) + 1))
    have hon2 := honq.set_ 0 (.int .i64 ((s : Int) + 1))
    go_wp2
    go_ret2
    exact ⟨b, a, s + 1, rfl, .inr ⟨rfl, rfl⟩, Nat.le_refl _, hS2, hon2⟩
  · have hd : decide (XB < XA) = false := by simpa using hx
    have LQ := fun W => less_q XB XA false W xb xa hd
    go_enter Tryd.func196, Tryd.ntmps196
    go_wp2_with fail
    go_quiet ((go_at_call 153; exact Calls.quiet_of_same (LQ _)))
    go_wp2
    go_ret2
    exact ⟨a, b, s, rfl, .inl ⟨rfl, rfl⟩, Nat.le_succ _, hS, hon.drewN _⟩

def RetMd (gb s d : Nat) (P : Nat → Prop) (W : World) (e : Ending) (W' : World) : Prop :=
  ∃ x s' : Nat, e = .returned (.int .i64 (x : Int)) ∧ P x ∧ s' ≤ s + d ∧ Blk W' gb 3 #[.int .i64 (s' : Int)] ∧ Only gb W W'
theorem median_any (g n c a b k gb s : Nat) (l : List Nat) (tl : List Value) (W : World) (hB : Blk W g 21 (runeBlk l tl)) (hl : l.length = n) (hb : ∀ x ∈ l, x < 2147483648) (ha : a < n) (hbn : b < n) (hkn : k < n) (hn : n ≤ 1000000000)
    (hS : Blk W gb 3 #[.int .i64 (s : Int)]) (hs : s ≤ 100) (hne : g ≠ gb) : Calls Tryd.prog 182 #[.slice (some ⟨g, 0, none⟩) n c, .int .i64 a, .int .i64 b, .int .i64 k, .pointer (some ⟨gb, 0, none⟩)] W (RetMd gb s 3 (fun x => x = a ∨ x = b ∨ x = k) W) := by
  have O := Lib.hid (fun V (h : Only gb W V) a b s (h1 : a < n) (h2 : b < n) (h3 : Blk V gb 3 #[.int .i64 ((s : Nat) : Int)]) (h4 : s ≤ 1000) => order2_any g n c a b gb s l tl V (hB.only h hne) hl hb h1 h2 hn h3 h4)
  have O1 := Lib.hid (O.out W (Only.refl _ _) a b s ha hbn hS (by omega))
  clear hB hl hb
  go_enter Tryd.func182, Tryd.ntmps182
  go_wp2_with fail
  refine O1.out.mono ?_
  rintro e V1 ⟨x1, y1, s1, rfl, h1, hs1, hS1, o1⟩
  have O2 := Lib.hid (O.out V1 o1 y1 k s1 (by omega) hkn hS1 (by omega))
  clear O1 hS
  go_wp2_with fail
  refine O2.out.mono ?_
  rintro e V2 ⟨x2, y2, s2, rfl, h2, hs2, hS2, o2⟩
  have o2' := o1.trans o2
  have O3 := Lib.hid (O.out V2 o2' x1 x2 s2 (by omega) (by omega) hS2 (by omega))
  clear O2 hS1 O
  go_wp2_with fail
  refine O3.out.mono ?_
  rintro e V3 ⟨x3, y3, s3, rfl, h3, hs3, hS3, o3⟩
  clear O3
  go_wp2
  go_ret
  exact ⟨y3, s3, rfl, by omega, by omega, hS3, o2'.trans o3⟩
theorem medianAdj_any (g n c a gb s : Nat) (l : List Nat) (tl : List Value) (W : World) (hB : Blk W g 21 (runeBlk l tl)) (hl : l.length = n) (hb : ∀ x ∈ l, x < 2147483648) (ha1 : 1 ≤ a) (ha : a + 1 < n) (hn : n ≤ 1000000000)
    (hS : Blk W gb 3 #[.int .i64 (s : Int)]) (hs : s ≤ 100) (hne : g ≠ gb) : Calls Tryd.prog 181 #[.slice (some ⟨g, 0, none⟩) n c, .int .i64 a, .pointer (some ⟨gb, 0, none⟩)] W (RetMd gb s 3 (fun x => a ≤ x + 1 ∧ x ≤ a + 1) W) := by
  obtain ⟨p, rfl⟩ : ∃ p, a = p + 1 := ⟨a - 1, by omega⟩
  obtain ⟨q, hq⟩ : ∃ q, q = p + 1 := ⟨_, rfl⟩
  obtain ⟨r, hr⟩ : ∃ r, r = q + 1 := ⟨_, rfl⟩
  have e1 : (q : Int) - 1 = (p : Int) := by omega
  have e2 : (q : Int) + 1 = (r : Int) := by omega
  have bq : q < 1000000000 := by omega
  have bp : p < 1000000000 := by omega
  have M := Lib.hid (median_any g n c p q r gb s l tl W hB hl hb (by omega) (by omega) (by omega) hn hS hs hne)
  rw [← hq]
  have HQ := Lib.hid hq
  have HR := Lib.hid hr
  clear hB hl hb hq hr hS
  go_enter Tryd.func181, Tryd.ntmps181
  go_wp2_with fail
  refine M.out.mono ?_
  rintro e V ⟨x, s', rfl, h, hs', hS', o⟩
  go_wp2
  go_ret
  have := HQ.out
  have := HR.out
  exact ⟨x, s', rfl, by omega, hs', hS', o⟩

/-- A place between the two, and a hint. -/
def RetPv (a b : Nat) (W : World) (e : Ending) (W' : World) : Prop :=
  ∃ (p : Nat) (h : Int), e = .returned (.tuple #[.int .i64 (p : Int), .int .i64 h]) ∧ a ≤ p ∧ p < b ∧ Below W.heap.size W W'
set_option maxHeartbeats 4000000 in
theorem pivot_any (g n c a N : Nat) (l : List Nat) (tl : List Value) (W : World) (hB : Blk W g 21 (runeBlk l tl)) (hl : l.length = n) (hb : ∀ x ∈ l, x < 2147483648) (hN : 12 < N) (hbn : a + N ≤ n) (hn : n ≤ 1000000000) :
    Calls Tryd.prog 150 #[.slice (some ⟨g, 0, none⟩) n c, .int .i64 a, .int .i64 ((a + N : Nat) : Int)] W (RetPv a (a + N) W) := by
  obtain ⟨b, hb'⟩ : ∃ b, b = a + N := ⟨_, rfl⟩
  obtain ⟨q, hq⟩ : ∃ q, q = N / 4 := ⟨_, rfl⟩
  obtain ⟨i, hi⟩ : ∃ i, i = a + q := ⟨_, rfl⟩
  obtain ⟨j, hj⟩ : ∃ j, j = a + q * 2 := ⟨_, rfl⟩
  obtain ⟨k, hk⟩ : ∃ k, k = a + q * 3 := ⟨_, rfl⟩
  have e1 : (b : Int) - (a : Int) = (N : Int) := by omega
  have e2 : (N : Int).tdiv 4 = (q : Int) := by rw [Int.tdiv_eq_ediv_of_nonneg (by omega)]; omega
  have e3 : (a : Int) + (q : Int) = (i : Int) := by omega
  have e4 : (a : Int) + (q : Int) * 2 = (j : Int) := by omega
  have e5 : (a : Int) + (q : Int) * 3 = (k : Int) := by omega
  have bq : q ≤ 250000000 := by omega
  have bb : b ≤ n := by omega
  have bi : i < n := by omega
  have bj : j < n := by omega
  have bk : k < n := by omega
  have bN : N ≤ n := by omega
  have hg8 : decide ((8 : Int) ≤ (N : Int)) = true := by simp; omega
  have hne : g ≠ W.heap.size := by have := hB.lt; omega
  have hS := Blk.new W 3 #[.int .i64 0]
  have b0 := below_new W (.cells #[.int .i64 0] 3)
  have hB0 := hB.on b0
  have MA := Lib.hid (fun V (h : Only W.heap.size (W.alloc (.cells #[.int .i64 0] 3)) V) i s (h1 : 1 ≤ i) (h2 : i + 1 < n) (h3 : Blk V W.heap.size 3 #[.int .i64 ((s : Nat) : Int)]) (h4 : s ≤ 100) => medianAdj_any g n c i W.heap.size s l tl V (hB0.only h hne) hl hb h1 h2 hn h3 h4 hne)
  have MD := Lib.hid (fun V (h : Only W.heap.size (W.alloc (.cells #[.int .i64 0] 3)) V) i j k s (h1 : i < n) (h2 : j < n) (h2' : k < n) (h3 : Blk V W.heap.size 3 #[.int .i64 ((s : Nat) : Int)]) (h4 : s ≤ 100) => median_any g n c i j k W.heap.size s l tl V (hB0.only h hne) hl hb h1 h2 h2' hn h3 h4 hne)
  rw [← hb']
  have HBB := Lib.hid hb'
  have HQ := Lib.hid hq
  have HI := Lib.hid hi
  have HJ := Lib.hid hj
  have HK := Lib.hid hk
  obtain ⟨V0, hV0⟩ : ∃ V0, V0 = W.alloc (.cells #[.int .i64 0] 3) := ⟨_, rfl⟩
  obtain ⟨gb, hgb⟩ : ∃ gb, gb = W.heap.size := ⟨_, rfl⟩
  rw [← hV0, ← hgb] at MA MD
  rw [← hV0] at b0
  rw [← hV0, ← hgb] at hS
  have HV := Lib.hid hV0
  have HG := Lib.hid hgb
  have on0 := Only.refl gb V0
  clear hB hl hb hb' hq hi hj hk hB0 hV0 hgb hne
  go_enter Tryd.func150, Tryd.ntmps150
  by_cases h50 : 50 ≤ N
  · have hg50 : decide ((50 : Int) ≤ (N : Int)) = true := by simp; omega
    have A1 := Lib.hid (MA.out V0 on0 i 0 (by have := HI.out; have := HQ.out; omega) (by have := HI.out; have := HQ.out; omega) hS (by omega))
    go_wp2_with fail
    rw [← HV.out, ← HG.out]
    refine A1.out.mono ?_
    rintro e V1 ⟨i1, s1, rfl, p1, q1, hS1, o1⟩
    have A2 := Lib.hid (MA.out V1 o1 j s1 (by have := HJ.out; have := HQ.out; omega) (by have := HJ.out; have := HQ.out; omega) hS1 (by omega))
    clear A1 hS
    go_wp2_with fail
    refine A2.out.mono ?_
    rintro e V2 ⟨j1, s2, rfl, p2, q2, hS2, o2'⟩
    have o2 := o1.trans o2'
    have A3 := Lib.hid (MA.out V2 o2 k s2 (by have := HK.out; have := HQ.out; omega) (by have := HK.out; have := HQ.out; omega) hS2 (by omega))
    clear A2 hS1
    go_wp2_with fail
    refine A3.out.mono ?_
    rintro e V3 ⟨k1, s3, rfl, p3, q3, hS3, o3'⟩
    have o3 := o2.trans o3'
    have A4 := Lib.hid (MD.out V3 o3 i1 j1 k1 s3 (by have := HI.out; have := HQ.out; omega) (by have := HJ.out; have := HQ.out; omega) (by have := HK.out; have := HQ.out; omega) hS3 (by omega))
    clear A3 hS2
    go_wp2_with fail
    refine A4.out.mono ?_
    rintro e V4 ⟨x, s4, rfl, p4, q4, hS4, o4'⟩
    have o4 := o3.trans o4'
    have c4 := hS4.cell0
    have hx1 : a ≤ x ∧ x < b := by have := HI.out; have := HJ.out; have := HK.out; have := HQ.out; have := HBB.out; omega
    have bw : Below W.heap.size W V4 := b0.trans (o4.below (by rw [HG.out]; exact Nat.le_refl _))
    clear A4 hS3 MA MD
    by_cases z0 : s4 = 0
    · subst z0
      go_wp2
      go_ret2
      exact ⟨x, _, rfl, hx1.1, hx1.2, bw⟩
    · by_cases z12 : s4 = 12
      · subst z12
        go_wp2
        go_ret2
        exact ⟨x, _, rfl, hx1.1, hx1.2, bw⟩
      · have d0 : ((s4 : Int) == 0) = false := by simp; omega
        have d12 : ((s4 : Int) == 12) = false := by simp; omega
        go_wp2
        go_ret2
        exact ⟨x, _, rfl, hx1.1, hx1.2, bw⟩
  · have hg50 : decide ((50 : Int) ≤ (N : Int)) = false := by simp; omega
    have A4 := Lib.hid (MD.out V0 on0 i j k 0 bi bj bk hS (by omega))
    go_wp2_with fail
    rw [← HV.out, ← HG.out]
    refine A4.out.mono ?_
    rintro e V4 ⟨x, s4, rfl, p4, q4, hS4, o4⟩
    have c4 := hS4.cell0
    have hx1 : a ≤ x ∧ x < b := by have := HI.out; have := HJ.out; have := HK.out; have := HQ.out; have := HBB.out; omega
    have bw : Below W.heap.size W V4 := b0.trans (o4.below (by rw [HG.out]; exact Nat.le_refl _))
    clear A4 MA MD
    have d12 : ((s4 : Int) == 12) = false := by simp; omega
    by_cases z0 : s4 = 0
    · subst z0
      go_wp2
      go_ret2
      exact ⟨x, _, rfl, hx1.1, hx1.2, bw⟩
    · have d0 : ((s4 : Int) == 0) = false := by simp; omega
      go_wp2
      go_ret2
      exact ⟨x, _, rfl, hx1.1, hx1.2, bw⟩
end Go.Proofs.YtccbofaefpbhlaaDoor
