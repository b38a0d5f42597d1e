/-
  The sort's state, plain: what lies outside of the part that is left stands in its order.
  The sort's way of breaking patterns: a few runes change their places.
  The sort of runes between two places: any number of them.
  slices.Sort at runes, of any number: its contract.
-/
import Derived.Test.YtccbofaefpbhlaaDoorSortM
import Derived.Test.YtccbofaefpbhlaaDoorPinA
import Derived.Test.YtccbofaefpbhlaaDoorHeapA
import Derived.Test.YtccbofaefpbhlaaDoorShelf
import Derived.Laws.BitsAllLaws
import Derived.Laws.BitsLemmas
import Derived.Test.YtccbofaefpbhlaaDoorPivA
import Derived.Test.YtccbofaefpbhlaaDoorPartA
import Derived.Test.YtccbofaefpbhlaaDoorPeqA
namespace Go.Proofs.YtccbofaefpbhlaaDoor
set_option linter.unusedVariables false

/-- Between a and b all that isn't between c and d, or isn't both, is in order. -/
def OkOut (a b c d : Nat) (m : List Nat) : Prop := ∀ p q, a ≤ p → p < q → q < b → (p < c ∨ d ≤ q) → m.getD p 0 ≤ m.getD q 0
theorem OkOut.start (a b : Nat) (m : List Nat) : OkOut a b a b m := fun p q h1 h2 h3 h4 => by omega
theorem OkOut.sub {a b c d : Nat} {m k : List Nat} (h : OkOut a b c d m) (hs : Sub c d k m) (ha : a ≤ c) (hb : d ≤ b) : OkOut a b c d k := fun p q h1 h2 h3 h4 => by
  have hp : ∃ r, k.getD p 0 = m.getD r 0 ∧ ((c ≤ p ∧ p < d ∧ c ≤ r ∧ r < d) ∨ ((p < c ∨ d ≤ p) ∧ r = p)) := by
    by_cases e : c ≤ p ∧ p < d
    · obtain ⟨r, r1, r2, r3⟩ := hs.2.2 p e.1 e.2
      exact ⟨r, r3, .inl ⟨e.1, e.2, r1, r2⟩⟩
    · exact ⟨p, hs.2.1 p (by omega), .inr ⟨by omega, rfl⟩⟩
  have hq : ∃ r, k.getD q 0 = m.getD r 0 ∧ ((c ≤ q ∧ q < d ∧ c ≤ r ∧ r < d) ∨ ((q < c ∨ d ≤ q) ∧ r = q)) := by
    by_cases e : c ≤ q ∧ q < d
    · obtain ⟨r, r1, r2, r3⟩ := hs.2.2 q e.1 e.2
      exact ⟨r, r3, .inl ⟨e.1, e.2, r1, r2⟩⟩
    · exact ⟨q, hs.2.1 q (by omega), .inr ⟨by omega, rfl⟩⟩
  obtain ⟨x, ex, hx⟩ := hp
  obtain ⟨y, ey, hy⟩ := hq
  rw [ex, ey]
  exact h x y (by omega) (by omega) (by omega) (by omega)
theorem OkOut.done {a b c d : Nat} {m : List Nat} (h : OkOut a b c d m) (ho : OrdIn c d m) : OrdIn a b m := fun p q h1 h2 h3 => by
  by_cases e : p < c ∨ d ≤ q
  · exact h p q h1 h2 h3 e
  · exact ho p q (by omega) h2 (by omega)
theorem OkOut.least {a b c d : Nat} {m l : List Nat} (h : OkOut a b c d m) (hs : Sub a b m l) (hl : LeastAt a b l) (ha : a ≤ c) (hb : d ≤ b) : LeastAt c d m := fun hc p h1 h2 => by
  by_cases e : a = c
  · subst e
    exact hs.least hl hc p h1 (by omega)
  · exact h (c - 1) p (by omega) (by omega) (by omega) (.inl (by omega))
theorem OkOut.left {a b c d r : Nat} {m k : List Nat} (h : OkOut a b c d m) (hp : PartAt c d r m) (h1 : c ≤ r) (h2 : r < d) (hs : Sub c r k m) (ho : OrdIn c r k) (ha : a ≤ c) (hb : d ≤ b) : OkOut a b (r + 1) d k := fun p q p1 p2 p3 p4 => by
  have hk := h.sub (hs.wide (Nat.le_refl _) (Nat.le_of_lt h2)) ha hb
  by_cases e : p < c ∨ d ≤ q
  · exact hk p q p1 p2 p3 e
  · have hlow : ∀ x, c ≤ x → x < r → k.getD x 0 ≤ m.getD r 0 := fun x x1 x2 => by
      obtain ⟨y, y1, y2, y3⟩ := hs.2.2 x x1 x2
      rw [y3]
      exact hp.1 y y1 y2
    by_cases e2 : q < r
    · exact ho p q (by omega) p2 e2
    · by_cases e3 : q = r
      · subst e3
        rw [hs.2.1 q (.inr (Nat.le_refl _))]
        exact hlow p (by omega) p2
      · rw [hs.2.1 q (.inr (by omega))]
        have hh := hp.2 q (by omega) (by omega)
        by_cases e4 : p = r
        · subst e4
          rw [hs.2.1 p (.inr (Nat.le_refl _))]
          exact hh
        · exact Nat.le_trans (hlow p (by omega) (by omega)) hh
theorem OkOut.right {a b c d r : Nat} {m k : List Nat} (h : OkOut a b c d m) (hp : PartAt c d r m) (h1 : c ≤ r) (h2 : r < d) (hs : Sub (r + 1) d k m) (ho : OrdIn (r + 1) d k) (ha : a ≤ c) (hb : d ≤ b) : OkOut a b c r k := fun p q p1 p2 p3 p4 => by
  have hk := h.sub (hs.wide (show c ≤ r + 1 by omega) (Nat.le_refl _)) ha hb
  by_cases e : p < c ∨ d ≤ q
  · exact hk p q p1 p2 p3 e
  · have hhigh : ∀ x, r < x → x < d → m.getD r 0 ≤ k.getD x 0 := fun x x1 x2 => by
      obtain ⟨y, y1, y2, y3⟩ := hs.2.2 x x1 x2
      rw [y3]
      exact hp.2 y y1 y2
    by_cases e2 : r < p
    · exact ho p q e2 p2 (by omega)
    · rw [hs.2.1 p (.inl (by omega))]
      by_cases e3 : q = r
      · subst e3
        rw [hs.2.1 q (.inl (by omega))]
        exact hp.1 p (by omega) p2
      · have hh := hhigh q (by omega) (by omega)
        by_cases e4 : p = r
        · subst e4
          exact hh
        · exact Nat.le_trans (hp.1 p (by omega) (by omega)) hh
theorem OkOut.eq {a b c d r X : Nat} {m : List Nat} (h : OkOut a b c d m) (hp : PeqAt c d r X m) (hX : ∀ q, c ≤ q → q < d → X ≤ m.getD q 0) : OkOut a b r d m := fun p q p1 p2 p3 p4 => by
  by_cases e : p < c ∨ d ≤ q
  · exact h p q p1 p2 p3 e
  · exact Nat.le_trans (hp.1 p (by omega) (by omega)) (hX q (by omega) (by omega))
theorem PartAt.least {c d r : Nat} {m : List Nat} (h : PartAt c d r m) : LeastAt (r + 1) d m := fun _ p h1 h2 => h.2 p (by omega) h2
end Go.Proofs.YtccbofaefpbhlaaDoor

namespace Go.Proofs.YtccbofaefpbhlaaDoor
set_option linter.unusedVariables false
set_option maxRecDepth 20000
open Go.RowKit Go.Lib

theorem wrap_lo (z : Int) : 0 ≤ IntKind.u64.wrap z := by rw [IntKind.wrap_u64]; omega
theorem wrap_hi (z : Int) : IntKind.u64.wrap z < 18446744073709551616 := by rw [IntKind.wrap_u64]; omega
theorem xor_some (x : Nat) (z : Int) (hx : x < 18446744073709551616) (h1 : 0 ≤ z) (h2 : z < 18446744073709551616) : ∃ y : Nat, bits .xor .u64 (x : Int) z = (y : Int) ∧ y < 18446744073709551616 := by
  obtain ⟨n, rfl⟩ := Int.eq_ofNat_of_zero_le h1
  exact ⟨x ^^^ n, u64_xor_nat x n hx (by omega), Nat.xor_lt_two_pow (n := 64) (by omega) (by omega)⟩

/-- It answers some number, and its box holds it. -/
def RetRnd (gx : Nat) (W : World) (e : Ending) (W' : World) : Prop :=
  ∃ u : Nat, e = .returned (.int .u64 (u : Int)) ∧ u < 18446744073709551616 ∧ Blk W' gx 210 #[.int .u64 (u : Int)] ∧ Only gx W W'

set_option maxHeartbeats 4000000 in
theorem rnd_any (gx x : Nat) (W : World) (hx : x < 18446744073709551616) (hB : Blk W gx 210 #[.int .u64 (x : Int)]) :
    Calls Tryd.prog 177 #[.pointer (some ⟨gx, 0, none⟩)] W (RetRnd gx W) := by
  have c0 := hB.cell0
  have f0 := hB.free 0
  go_enter Tryd.func177, Tryd.ntmps177
  go_wp2_with fail
  go_region
  go_wp2_with fail
  obtain ⟨y, hy, hyl⟩ := xor_some x (IntKind.u64.wrap ((x : Int) * 8192)) hx (wrap_lo _) (wrap_hi _)
  rw [hy]
  have hB1 := (hB.set0 (.int .u64 (y : Int))).drew
  have o1 := ((Only.refl gx W).set_ 0 (.int .u64 (y : Int))).drew
  clear hB c0 f0 hy
  generalize (W.setCell ⟨gx, 0, none⟩ (.int .u64 (y : Int))).drew = W1 at *
  generalize IntKind.u64.wrap ((x : Int) * 8192) = z1 at *
  have c0 := hB1.cell0
  have f0 := hB1.free 0
  go_region
  go_wp2_with fail
  obtain ⟨y2, hy, hyl2⟩ := xor_some y ((y : Int) / 128) hyl (by omega) (by omega)
  rw [hy]
  have hB2 := (hB1.set0 (.int .u64 (y2 : Int))).drew
  have o2 := (o1.set_ 0 (.int .u64 (y2 : Int))).drew
  clear hB1 c0 f0 hy o1
  generalize (W1.setCell ⟨gx, 0, none⟩ (.int .u64 (y2 : Int))).drew = W2 at *
  generalize (y : Int) / 128 = z2 at *
  have c0 := hB2.cell0
  have f0 := hB2.free 0
  go_region
  go_wp2_with fail
  obtain ⟨y3, hy, hyl3⟩ := xor_some y2 (IntKind.u64.wrap ((y2 : Int) * 131072)) hyl2 (wrap_lo _) (wrap_hi _)
  rw [hy]
  have hB3 := (hB2.set0 (.int .u64 (y3 : Int))).drew
  have o3 := (o2.set_ 0 (.int .u64 (y3 : Int))).drew
  clear hB2 c0 f0 hy o2
  generalize (W2.setCell ⟨gx, 0, none⟩ (.int .u64 (y3 : Int))).drew = W3 at *
  generalize IntKind.u64.wrap ((y2 : Int) * 131072) = z3 at *
  have c0 := hB3.cell0
  go_wp2
  go_ret
  exact ⟨y3, rfl, hyl3, hB3, o3⟩

/-- A power of two above N, at most twice it. -/
theorem npow_any (N : Nat) (W : World) (h1 : 1 ≤ N) (h2 : N ≤ 1000000000) :
    Calls Tryd.prog 176 #[.int .i64 (N : Int)] W fun e W' => e = .returned (.int .u64 ((2 ^ Lib.bitLen N : Nat) : Int)) ∧ W = W' := by
  obtain ⟨a1, a2, a3⟩ := pow_bits N h1 (by omega)
  have HL := Lib.hid (Tryd.bits_Len (N : Int) W (by omega) (by omega))
  rw [Int.toNat_natCast] at HL
  have hb : Lib.bitLen N ≤ 31 := Lib.bitLen_le N 31 (by decide) (by omega)
  have hb64 : Lib.bitLen N ≤ 64 := by omega
  generalize Lib.bitLen N = k at *
  have hM : 2 ^ k < 18446744073709551616 := by omega
  have HE : Hid (IntKind.u64.wrap ((2 : Int) ^ k) = ((2 ^ k : Nat) : Int)) := by
    apply Lib.hid
    have e : (2 : Int) ^ k = ((2 ^ k : Nat) : Int) := by rw [Int.natCast_pow]; rfl
    rw [IntKind.wrap_u64, e]
    generalize 2 ^ k = M at *
    omega
  clear hM
  clear a1 a2 a3
  go_enter Tryd.func176, Tryd.ntmps176
  go_wp2_with fail
  refine HL.out.mono ?_
  rintro e W' ⟨rfl, rfl⟩
  go_wp2
  go_ret
  refine ⟨?_, rfl⟩
  rw [← HE.out]
  rfl

/-! All blocks but one stay. -/
theorem bt_refl (w : World) (g : Nat) : w.grownBy w (some g) := ⟨rfl, rfl, rfl, Nat.le_refl _, fun _ _ _ => rfl⟩
theorem bt_only {V w w' : World} {g : Nat} (h : V.grownBy w (some g)) (h2 : Only g w w') : V.grownBy w' (some g) :=
  ⟨h2.os.trans h.os, h2.tape.trans h.tape, h2.output.trans h.output, by rw [h2.size]; exact h.size, fun k hk hne => (h2.block k (fun e => hne (by rw [e]))).trans (h.block k hk hne)⟩
theorem bt_far {V w w' : World} {g gx : Nat} (h : V.grownBy w (some g)) (h2 : Only gx w w') (hx : V.heap.size ≤ gx) : V.grownBy w' (some g) :=
  ⟨h2.os.trans h.os, h2.tape.trans h.tape, h2.output.trans h.output, by rw [h2.size]; exact h.size, fun k hk hne => (h2.block k (by omega)).trans (h.block k hk hne)⟩
theorem bt_below {V w w' : World} {g B : Nat} (h : V.grownBy w (some g)) (h2 : Below B w w') (hB : V.heap.size ≤ B) : V.grownBy w' (some g) :=
  ⟨h2.os.trans h.os, h2.tape.trans h.tape, h2.output.trans h.output, Nat.le_trans h.size h2.size, fun k hk hne => (h2.block k (by omega)).trans (h.block k hk hne)⟩
theorem bt_trans {V w w' : World} {g : Nat} (h : V.grownBy w (some g)) (h2 : w.grownBy w' (some g)) : V.grownBy w' (some g) :=
  ⟨h2.os.trans h.os, h2.tape.trans h.tape, h2.output.trans h.output, Nat.le_trans h.size h2.size, fun k hk hne => (h2.block k (Nat.lt_of_lt_of_le hk h.size) hne).trans (h.block k hk hne)⟩

/-- The same runes, in some order between a and b; no other old block has turned. -/
def RetBrk (a b g : Nat) (l : List Nat) (tl : List Value) (w : World) (e : Ending) (w' : World) : Prop :=
  ∃ m : List Nat, e = .returned (.tuple #[]) ∧ Blk w' g 21 (runeBlk m tl) ∧ Sub a b m l ∧ w.grownBy w' (some g)

set_option maxHeartbeats 8000000 in
theorem brk_any (g n c a N : Nat) (l : List Nat) (tl : List Value) (w : World) (hB : Blk w g 21 (runeBlk l tl)) (hl : l.length = n) (hn : n ≤ 1000000000) (hN : 12 < N) (hbn : a + N ≤ n) :
    Calls Tryd.prog 149 #[.slice (some ⟨g, 0, none⟩) n c, .int .i64 a, .int .i64 ((a + N : Nat) : Int)] w (RetBrk a (a + N) g l tl w) := by
  have HL := Lib.hid hl
  obtain ⟨b, hb'⟩ : ∃ b, b = a + N := ⟨_, rfl⟩
  obtain ⟨q, hq⟩ : ∃ q, q = N / 4 := ⟨_, rfl⟩
  obtain ⟨j, hj⟩ : ∃ j, j = a + q * 2 := ⟨_, rfl⟩
  obtain ⟨p0, hp0⟩ : ∃ p0, p0 = j - 1 := ⟨_, rfl⟩
  obtain ⟨p2, hp2⟩ : ∃ p2, p2 = j + 1 := ⟨_, rfl⟩
  have e1 : (b : Int) - (a : Int) = (N : Int) := by omega
  have e2 : (N : Int).tdiv 4 = (q : Int) := by rw [Int.tdiv_eq_ediv_of_nonneg (by omega)]; omega
  have e4 : (a : Int) + (q : Int) * 2 = (j : Int) := by omega
  have e5 : (j : Int) - 1 = (p0 : Int) := by omega
  have e6 : (j : Int) + 1 = (p2 : Int) := by omega
  have bq : q ≤ 250000000 := by omega
  have bb : b ≤ n := by omega
  have bN : N ≤ n := by omega
  have bp0 : p0 ≤ p2 := by omega
  have bpa : a ≤ p0 := by omega
  have bp2 : p2 < b := by omega
  have bab : a + N ≤ b := by omega
  have hg8 : decide ((8 : Int) ≤ (N : Int)) = true := by simp; omega
  obtain ⟨a1, a2, a3⟩ := pow_bits N (by omega) (by omega)
  have NP := Lib.hid (fun W => npow_any N W (by omega) (by omega))
  generalize 2 ^ Lib.bitLen N = M at *
  obtain ⟨M1, hM1⟩ : ∃ M1, M1 = M - 1 := ⟨_, rfl⟩
  have e7 : (M : Int) - 1 = (M1 : Int) := by omega
  have bM : M ≤ 2000000000 := by omega
  have bM1 : M1 < 2 * N := by omega
  rw [← hb']
  have HBB := Lib.hid hb'
  have hlt := hB.lt
  have hne : g ≠ w.heap.size := by omega
  have hX := Blk.new w 210 #[.int .u64 (N : Int)]
  have hB0 := hB.alloc (.cells #[.int .u64 (N : Int)] 210)
  have bt0 : w.grownBy (w.alloc (.cells #[.int .u64 (N : Int)] 210)) (some g) := bt_below (bt_refl w g) (below_new w _) (Nat.le_refl _)
  clear hl hb' hq hj hp0 hp2 hM1 a1 a2 a3 hB hlt
  go_enter Tryd.func149, Tryd.ntmps149
  go_wp2_with fail
  refine (NP.out _).mono ?_
  rintro e w' ⟨rfl, rfl⟩
  go_wp2
  generalize w.alloc (.cells #[.int .u64 (N : Int)] 210) = V0 at *
  obtain ⟨gx, hgx⟩ : ∃ gx, w.heap.size = gx := ⟨_, rfl⟩
  rw [hgx] at hX hne
  have HGX := Lib.hid hgx
  clear HBB
  rw [hgx]
  clear hgx
  go_loopw [9] (fun t wr => ∃ (i u : Nat) (m : List Nat), p0 ≤ i ∧ i ≤ p2 + 1 ∧ t = .int .i64 (i : Int) ∧ u < 18446744073709551616 ∧ Blk wr gx 210 #[.int .u64 (u : Int)] ∧ Blk wr g 21 (runeBlk m tl) ∧ Hid (Sub a b m l) ∧ w.grownBy wr (some g)) (fun t _ => p2 + 1 - (RowKit.intOf t).toNat)
  case atStart => exact ⟨p0, N, l, Nat.le_refl _, by omega, rfl, by omega, hX, hB0, Sub.refl _ _ _, bt0⟩
  case round =>
    clear hX hB0 bt0
    obtain ⟨i, u, m, hi0, hi2, rfl, hu, hXr, hBm, HS, hbt⟩ := hrel
    by_cases hlt : i ≤ p2
    · have HML : Hid (m.length = n) := HS.out.length.trans HL.out
      have HR := Lib.hid (rnd_any gx u wr hu hXr)
      go_wp2_with fail
      refine HR.out.mono ?_
      rintro e w1 ⟨u1, rfl, hu1, hX1, ho1⟩
      have hBm1 := hBm.only ho1 hne
      have hbt1 := bt_far hbt ho1 (by rw [HGX.out]; exact Nat.le_refl _)
      clear HR hXr hBm hbt ho1
      obtain ⟨o, ho⟩ : ∃ o : Nat, o = u1 &&& M1 := ⟨_, rfl⟩
      have hand : bits .and .u64 (u1 : Int) (M1 : Int) = (o : Int) := by rw [u64_and_nat u1 M1 hu1 (by omega), ho]
      have ho2 : o ≤ M1 := by rw [ho]; exact Nat.and_le_right
      clear ho
      obtain ⟨o', ho', ho2'⟩ : ∃ o' : Nat, (N ≤ o → (o : Int) - (N : Int) = (o' : Int)) ∧ (¬ N ≤ o → o' = o) ∧ o' < N := by
        by_cases h : N ≤ o
        · exact ⟨o - N, fun _ => by omega, fun h2 => absurd h h2, by omega⟩
        · exact ⟨o, fun h2 => absurd h2 h, fun _ => rfl, by omega⟩
      obtain ⟨ho3, ho4⟩ := ho2'
      obtain ⟨j2, hj2⟩ : ∃ j2, j2 = a + o' := ⟨_, rfl⟩
      have e9 : (a : Int) + (o' : Int) = (j2 : Int) := by omega
      have hj1 : a ≤ j2 := by omega
      have hjb : j2 < b := by omega
      have bi : i < n := by omega
      have bj : j2 < n := by omega
      clear hj2
      have ci := (hBm1.cell i).trans (runeBlk_get m tl (by rw [HML.out]; omega))
      have cj := (hBm1.cell j2).trans (runeBlk_get m tl (by rw [HML.out]; omega))
      obtain ⟨XI, hXI⟩ : ∃ X, m.getD i 0 = X := ⟨_, rfl⟩
      obtain ⟨XJ, hXJ⟩ : ∃ X, m.getD j2 0 = X := ⟨_, rfl⟩
      rw [hXI] at ci
      rw [hXJ] at cj
      have f1 := hBm1.free i
      have hB6 := hBm1.set_ i (.int .i32 (XJ : Int))
      rw [runeBlk_set _ _ _ _ (show i < m.length by rw [HML.out]; omega)] at hB6
      have cj6 := (hB6.cell j2).trans (runeBlk_get _ tl (by rw [List.length_set, HML.out]; omega))
      obtain ⟨Y, hY⟩ : ∃ Y, (m.set i XJ).getD j2 0 = Y := ⟨_, rfl⟩
      rw [hY] at cj6
      have f2 := hB6.free j2
      have hB7 := hB6.set_ j2 (.int .i32 (XI : Int))
      rw [runeBlk_set _ _ _ _ (show j2 < (m.set i XJ).length by rw [List.length_set, HML.out]; omega)] at hB7
      have hsw : (m.set i XJ).set j2 XI = swapAt m i j2 := by rw [swapAt, hXI, hXJ]
      rw [hsw] at hB7
      have HSW : Hid (Sub a b (swapAt m i j2) l) := HS.out.trans (Sub.swap (by omega) (by omega) (by omega) (by omega) (by rw [HML.out]; omega))
      have on7 := (((Only.refl g w1).set_ i (.int .i32 (XJ : Int))).set_ j2 (.int .i32 (XI : Int))).drew
      have hX7 := hX1.only on7 (fun e => hne e.symm)
      have bt7 := bt_only hbt1 on7
      clear hsw hY hXI hXJ hBm1 hB6 on7 hX1 hbt1
      by_cases h : N ≤ o
      · have e8 := ho' h
        clear ho' ho3
        go_wp2_with fail
        go_region
        go_wp2
        go_roundw
        case rel => exact ⟨i + 1, u1, swapAt m i j2, by omega, by omega, by go_num, hu1, hX7, hB7, HSW.out, bt7⟩
        case measure => simp [RowKit.intOf]; omega
      · obtain rfl := ho3 h
        clear ho'
        go_wp2_with fail
        go_region
        go_wp2
        go_roundw
        case rel => exact ⟨i + 1, u1, swapAt m i j2, by omega, by omega, by go_num, hu1, hX7, hB7, HSW.out, bt7⟩
        case measure => simp [RowKit.intOf]; omega
    · go_wp2
      go_end0
      exact ⟨m, rfl, hBm, HS.out, hbt⟩
end Go.Proofs.YtccbofaefpbhlaaDoor

namespace Go.Proofs.YtccbofaefpbhlaaDoor
set_option linter.unusedVariables false
set_option maxRecDepth 20000
open Go.RowKit

theorem ins_empty (g n c a : Nat) (w : World) (hn : a ≤ 1000000000) :
    Calls Tryd.prog 147 #[.slice (some ⟨g, 0, none⟩) n c, .int .i64 a, .int .i64 a] w fun e w' => e = .returned (.tuple #[]) ∧ w = w' := by
  have h1 : ¬ (a : Int) + 1 < (a : Int) := by omega
  go_enter Tryd.func147, Tryd.ntmps147
  go_wp2
  go_loop [6] (fun t => t = .int .i64 ((a : Int) + 1)) (fun t => 0)
  case atStart => rfl
  case round =>
    subst hrel
    go_wp2
    go_end0
    exact ⟨rfl, rfl⟩

/-- The same runes, in order between a and b; no other old block has turned. -/
def RetPdq (a b g : Nat) (l : List Nat) (tl : List Value) (w : World) (e : Ending) (w' : World) : Prop :=
  ∃ m : List Nat, e = .returned (.tuple #[]) ∧ Blk w' g 21 (runeBlk m tl) ∧ Sub a b m l ∧ OrdIn a b m ∧ w.grownBy w' (some g)

set_option maxHeartbeats 40000000 in
theorem pdq_any (g n c : Nat) (tl : List Value) (hn : n ≤ 1000000000) (K : Nat) : ∀ (a b lim : Nat) (l : List Nat) (w : World), b - a = K → a ≤ b → b ≤ n → lim ≤ 64 → Blk w g 21 (runeBlk l tl) → l.length = n → (∀ x ∈ l, x < 2147483648) → LeastAt a b l →
    Calls Tryd.prog 123 #[.slice (some ⟨g, 0, none⟩) n c, .int .i64 a, .int .i64 b, .int .i64 lim] w (RetPdq a b g l tl w) := by
  induction K using Nat.strongRecOn with
  | ind K ih =>
  intro a b lim l w hK hab hbn hlim hB hl hb hleast
  have HI := Lib.hid ih
  have HK := Lib.hid hK
  have HB := Lib.hid hb
  have HL := Lib.hid hl
  have HLE := Lib.hid hleast
  clear ih hK hb hl hleast
  go_enter Tryd.func123, Tryd.ntmps123
  go_wp2
  go_loopw [1, 2, 3, 8, 9] (fun va vb vl vx vy wr => ∃ (a' b' lim : Nat) (m : List Nat) (x y : Bool), a ≤ a' ∧ a' ≤ b' ∧ b' ≤ b ∧ lim ≤ 64 ∧ va = .int .i64 (a' : Int) ∧ vb = .int .i64 (b' : Int) ∧ vl = .int .i64 (lim : Int) ∧ vx = .bool x ∧ vy = .bool y ∧ Blk wr g 21 (runeBlk m tl) ∧ Hid (Sub a b m l) ∧ Hid (OkOut a b a' b' m) ∧ w.grownBy wr (some g)) (fun va vb _ _ _ _ => (intOf vb - intOf va).toNat)
  case atStart => exact ⟨a, b, lim, l, true, true, Nat.le_refl _, hab, Nat.le_refl _, hlim, rfl, rfl, rfl, rfl, rfl, hB, Sub.refl _ _ _, OkOut.start _ _ _, bt_refl _ _⟩
  case round =>
    clear hB hlim hab
    obtain ⟨a', b', lim, m, x, y, ha, hab, hb, hlim, rfl, rfl, rfl, rfl, rfl, hBm, HS, HO, hbt⟩ := hrel
    have HML : Hid (m.length = n) := HS.out.length.trans HL.out
    have HMB : Hid (∀ x ∈ m, x < 2147483648) := fun x hx => HB.out x (HS.out.1.mem_iff.1 hx)
    have HLM : Hid (LeastAt a' b' m) := HO.out.least HS.out HLE.out ha hb
    obtain ⟨N, hN⟩ : ∃ N, N = b' - a' := ⟨_, rfl⟩
    have e1 : (b' : Int) - (a' : Int) = (N : Int) := by omega
    have hbN : b' = a' + N := by omega
    have HBN := Lib.hid hbN
    clear hN hbN
    have hN9 : N ≤ 1000000000 := by have := HBN.out; omega
    by_cases h12 : N ≤ 12
    · by_cases h0 : N = 0
      · subst h0
        obtain rfl : b' = a' := by have := HBN.out; omega
        go_wp2_with fail
        refine (ins_empty _ _ _ _ _ (by omega)).mono ?_
        rintro e w1 ⟨rfl, rfl⟩
        go_wp2
        go_end0
        exact ⟨m, rfl, hBm, HS.out, HO.out.done (fun p q h1 h2 h3 => by omega), hbt⟩
      · have HINS := Lib.hid (ins_any g n c a' b' m tl wr hBm HML.out HMB.out hn (by have := HBN.out; omega) (by omega))
        clear hBm
        go_wp2_with fail
        refine HINS.out.mono ?_
        rintro e w1 ⟨m1, rfl, hB1, hS1, hO1, ho1⟩
        have HF : Hid (Sub a b m1 l ∧ OrdIn a b m1) := ⟨HS.out.trans (hS1.wide ha hb), (HO.out.sub hS1 ha hb).done hO1⟩
        have hbt1 := bt_only hbt ho1
        clear HINS hS1 hO1 ho1 hbt
        go_wp2
        go_end0
        exact ⟨m1, rfl, hB1, HF.out.1, HF.out.2, hbt1⟩
    · by_cases hl0 : lim = 0
      · subst hl0
        have HHP := Lib.hid (heap_any g n c a' N m tl wr hBm HML.out HMB.out hn (by omega) (by have := HBN.out; omega))
        rw [← HBN.out] at HHP
        clear hBm
        go_wp2_with fail
        refine HHP.out.mono ?_
        rintro e w1 ⟨m1, rfl, hB1, hS1, hO1, ho1⟩
        have HF : Hid (Sub a b m1 l ∧ OrdIn a b m1) := ⟨HS.out.trans (hS1.wide ha hb), (HO.out.sub hS1 ha hb).done hO1⟩
        have hbt1 := bt_only hbt ho1
        clear HHP hS1 hO1 ho1 hbt
        go_wp2
        go_end0
        exact ⟨m1, rfl, hB1, HF.out.1, HF.out.2, hbt1⟩
      · have gl : ((lim : Int) == 0) = false := by simp; omega
        go_upto_if 35 with fail
        go_cut [3] from 19 to 133 (fun v3 wx => ∃ (lim1 : Nat) (m1 : List Nat), v3 = .int .i64 (lim1 : Int) ∧ lim1 ≤ 64 ∧ Blk wx g 21 (runeBlk m1 tl) ∧ Hid (Sub a' b' m1 m) ∧ w.grownBy wx (some g))
        case first =>
          cases x with
          | true =>
            go_wp2
            go_meet
            exact ⟨lim, m, rfl, hlim, hBm, Sub.refl _ _ _, hbt⟩
          | false =>
            have HBR := Lib.hid (brk_any g n c a' N m tl wr hBm HML.out hn (by omega) (by have := HBN.out; omega))
            rw [← HBN.out] at HBR
            clear hBm
            go_wp2_with fail
            refine HBR.out.mono ?_
            rintro e w1 ⟨m1, rfl, hB1, hS1, hg1⟩
            have HS1 := Lib.hid hS1
            have hbt1 := bt_trans hbt hg1
            clear HBR hS1 hg1 hbt
            go_wp2
            go_meet
            exact ⟨lim - 1, m1, by rw [show ((lim - 1 : Nat) : Int) = (lim : Int) - 1 by omega], by omega, hB1, HS1.out, hbt1⟩
        case rest =>
          obtain ⟨lim1, m1, rfl, hlim1, hB1, HS1, hbt1⟩ := hcut
          clear hBm hbt gl hl0 hlim
          have HML1 : Hid (m1.length = n) := HS1.out.length.trans HML.out
          have HMB1 : Hid (∀ x ∈ m1, x < 2147483648) := fun x hx => HMB.out x (HS1.out.1.mem_iff.1 hx)
          have HPV := Lib.hid (pivot_any g n c a' N m1 tl wc hB1 HML1.out HMB1.out (by omega) (by have := HBN.out; omega) hn)
          rw [← HBN.out] at HPV
          go_wp2_with fail
          refine HPV.out.mono ?_
          rintro e w2 ⟨p, h, rfl, hp1, hp2, bw⟩
          have hB2 := hB1.on bw
          have hbt2 := bt_below hbt1 bw hbt1.size
          clear HPV hB1 hbt1 bw
          go_upto_if 50 with fail
          go_cut [11, 12] from 19 to 133 (fun v11 v12 wx => ∃ (p3 : Nat) (h3 : Int) (m3 : List Nat), v11 = .int .i64 (p3 : Int) ∧ v12 = .int .i64 h3 ∧ a' ≤ p3 ∧ p3 < b' ∧ Blk wx g 21 (runeBlk m3 tl) ∧ Hid (Sub a' b' m3 m1) ∧ w.grownBy wx (some g))
          case first =>
            by_cases h2 : h = 2
            · subst h2
              have HRV := Lib.hid (rev_any g n c a' b' m1 tl w2 hB2 HML1.out hn (by omega) (by omega))
              clear hB2
              go_wp2_with fail
              refine HRV.out.mono ?_
              rintro e w3 ⟨m3, rfl, hB3, hS3, _, ho3⟩
              have HS3 := Lib.hid hS3
              have hbt3 := bt_only hbt2 ho3
              clear HRV hS3 ho3 hbt2
              go_wp2
              go_meet
              exact ⟨b' - 1 - (p - a'), _, m3, by rw [show ((b' - 1 - (p - a') : Nat) : Int) = (b' : Int) - 1 - ((p : Int) - (a' : Int)) by omega], rfl, by omega, by omega, hB3, HS3.out, hbt3⟩
            · have gh : (h == 2) = false := by simpa using h2
              go_wp2
              go_meet
              exact ⟨p, h, m1, rfl, rfl, hp1, hp2, hB2, Sub.refl _ _ _, hbt2⟩
          case rest =>
            obtain ⟨p3, h3, m3, rfl, rfl, hp31, hp32, hB3, HS3, hbt3⟩ := hcut
            clear hB2 hbt2 hp1 hp2
            have HML3 : Hid (m3.length = n) := HS3.out.length.trans HML1.out
            have HMB3 : Hid (∀ x ∈ m3, x < 2147483648) := fun x hx => HMB1.out x (HS3.out.1.mem_iff.1 hx)
            have HS4 : Hid (Sub a' b' m3 m) := HS1.out.trans HS3.out
            have HO4 : Hid (OkOut a b a' b' m3) := HO.out.sub HS4.out ha hb
            have HSL4 : Hid (Sub a b m3 l) := HS.out.trans (HS4.out.wide ha hb)
            clear HS1 HS3 HS4 HML1 HMB1 HO HS HML HMB HLM
            obtain ⟨W3, hW3⟩ : ∃ W3, W3 = wc := ⟨_, rfl⟩
            rw [← hW3] at hB3 hbt3 ⊢
            clear hW3
            go_upto_region 15 with fail
            go_cut [68] from 19 to 133 (fun v wx => ∃ z : Bool, v = .bool z ∧ wx = W3)
            case first =>
              rcases gh : (h3 == 1)
              all_goals cases x
              all_goals cases y
              all_goals
                go_wp2
                go_meet
                exact ⟨_, rfl, rfl⟩
            case rest =>
              obtain ⟨z, rfl, rfl⟩ := hcut
              go_upto_if 68 with fail
              go_cut [] from 19 to 133 (fun wx => ∃ m4 : List Nat, Blk wx g 21 (runeBlk m4 tl) ∧ Hid (Sub a' b' m4 m3) ∧ w.grownBy wx (some g))
              case first =>
                cases z with
                | false =>
                  go_wp2
                  go_meet
                  exact ⟨m3, hB3, Sub.refl _ _ _, hbt3⟩
                | true =>
                  have HPN := Lib.hid (pins_any g n c a' b' m3 tl wc hB3 HML3.out HMB3.out hn (by omega) (by omega) (HO4.out.least HSL4.out HLE.out ha hb))
                  clear hB3
                  go_wp2_with fail
                  refine HPN.out.mono ?_
                  rintro e w4 ⟨bb, m4, rfl, hB4, hS4, hO4, ho4⟩
                  have HS4 := Lib.hid hS4
                  have HOR := Lib.hid hO4
                  have hbt4 := bt_only hbt3 ho4
                  clear HPN hS4 hO4 ho4 hbt3
                  cases bb with
                  | true =>
                    have HF : Hid (Sub a b m4 l ∧ OrdIn a b m4) := ⟨HSL4.out.trans (HS4.out.wide ha hb), (HO4.out.sub HS4.out ha hb).done (HOR.out rfl)⟩
                    go_wp2
                    go_end0
                    exact ⟨m4, rfl, hB4, HF.out.1, HF.out.2, hbt4⟩
                  | false =>
                    go_wp2
                    go_meet
                    exact ⟨m4, hB4, HS4.out, hbt4⟩
              case rest =>
                obtain ⟨m4, hB4, HS4, hbt4⟩ := hcut
                clear hB3 hbt3
                have HML4 : Hid (m4.length = n) := HS4.out.length.trans HML3.out
                have HMB4 : Hid (∀ x ∈ m4, x < 2147483648) := fun x hx => HMB3.out x (HS4.out.1.mem_iff.1 hx)
                have HO5 : Hid (OkOut a b a' b' m4) := HO4.out.sub HS4.out ha hb
                have HSL5 : Hid (Sub a b m4 l) := HSL4.out.trans (HS4.out.wide ha hb)
                clear HS4 HO4 HSL4 HML3 HMB3
                obtain ⟨W4, hW4⟩ : ∃ W4, W4 = wc := ⟨_, rfl⟩
                rw [← hW4] at hB4 hbt4 ⊢
                clear hW4
                go_upto_region 17 with fail
                go_cut [87] from 19 to 133 (fun v wx => v = .bool (decide (0 < a' ∧ ¬ m4.getD (a' - 1) 0 < m4.getD p3 0)) ∧ Blk wx g 21 (runeBlk m4 tl) ∧ w.grownBy wx (some g))
                case first =>
                  by_cases h0 : 0 < a'
                  · obtain ⟨a1, ha1⟩ : ∃ a1, a1 = a' - 1 := ⟨_, rfl⟩
                    have ea : (a' : Int) - 1 = (a1 : Int) := by omega
                    have ba1 : a1 < n := by omega
                    have g0 : decide ((0 : Int) < (a' : Int)) = true := by simp; omega
                    have ca := (hB4.cell a1).trans (runeBlk_get m4 tl (by rw [HML4.out]; omega))
                    have cp := (hB4.cell p3).trans (runeBlk_get m4 tl (by rw [HML4.out]; omega))
                    have xa := lt_of_mem_getD' HMB4.out (show a1 < m4.length by rw [HML4.out]; omega)
                    have xp := lt_of_mem_getD' HMB4.out (show p3 < m4.length by rw [HML4.out]; omega)
                    have HA1 := Lib.hid ha1
                    clear ha1
                    obtain ⟨XA, hXA⟩ : ∃ X, m4.getD a1 0 = X := ⟨_, rfl⟩
                    obtain ⟨XP, hXP⟩ : ∃ X, m4.getD p3 0 = X := ⟨_, rfl⟩
                    rw [hXA] at ca xa
                    rw [hXP] at cp xp
                    have HXA := Lib.hid hXA
                    have HXP := Lib.hid hXP
                    clear hXA hXP
                    by_cases hx : XA < XP
                    · have hd : decide (XA < XP) = true := by simpa using hx
                      have LQ := fun W => less_q XA XP true W xa xp hd
                      go_quiet ((go_at_call 153; exact Calls.quiet_of_same (LQ _)))
                      go_wp2
                      go_meet
                      exact ⟨by rw [← HA1.out, HXA.out, HXP.out, show decide (0 < a' ∧ ¬ XA < XP) = false by simp [hx]], hB4, ⟨hbt4.os, hbt4.tape, hbt4.output, hbt4.size, hbt4.block⟩⟩
                    · have hd : decide (XA < XP) = false := by simpa using hx
                      have LQ := fun W => less_q XA XP false W xa xp hd
                      go_quiet ((go_at_call 153; exact Calls.quiet_of_same (LQ _)))
                      go_wp2
                      go_meet
                      exact ⟨by rw [← HA1.out, HXA.out, HXP.out, show decide (0 < a' ∧ ¬ XA < XP) = true by simp [hx, h0]], hB4, ⟨hbt4.os, hbt4.tape, hbt4.output, hbt4.size, hbt4.block⟩⟩
                  · have g0 : decide ((0 : Int) < (a' : Int)) = false := by simp; omega
                    go_quiet (fail)
                    go_wp2
                    go_meet
                    exact ⟨by rw [show decide (0 < a' ∧ ¬ m4.getD (a' - 1) 0 < m4.getD p3 0) = false by simp [h0]], hB4, ⟨hbt4.os, hbt4.tape, hbt4.output, hbt4.size, hbt4.block⟩⟩
                case rest =>
                  obtain ⟨rfl, hB5, hbt5⟩ := hcut
                  clear hB4 hbt4
                  by_cases hz : 0 < a' ∧ ¬ m4.getD (a' - 1) 0 < m4.getD p3 0
                  · have HZ := Lib.hid hz
                    rw [decide_eq_true hz]
                    clear hz
                    have HPE := Lib.hid (peq_any g n c a' b' p3 m4 tl wc hB5 HML4.out HMB4.out hn hp31 hp32 (by omega))
                    clear hB5
                    go_wp2_with fail
                    refine HPE.out.mono ?_
                    rintro e w6 ⟨r, m6, rfl, hr1, hr2, hB6, hS6, hP6, ho6⟩
                    have HS6 : Hid (Sub a b m6 l) := HSL5.out.trans (hS6.wide ha hb)
                    have HO6a : OkOut a b a' b' m6 := HO5.out.sub hS6 ha hb
                    have HO6 : Hid (OkOut a b r b' m6) := HO6a.eq hP6 (fun q q1 q2 => by
                      have h1 := HO6a.least HS6.out HLE.out ha hb HZ.out.1 q q1 q2
                      rw [hS6.2.1 (a' - 1) (.inl (by have := HZ.out.1; omega))] at h1
                      have h2 := HZ.out.2
                      omega)
                    have hbt6 := bt_only hbt5 ho6
                    clear HPE hS6 hP6 ho6 hbt5 HO6a
                    go_wp2
                    go_roundw
                    case rel => first | exact ⟨r, b', lim1, m6, x, y, by omega, hr2, hb, hlim1, rfl, rfl, rfl, rfl, rfl, hB6, HS6.out, HO6.out, hbt6⟩ | ((repeat apply Exists.intro); exact ⟨⟨r, b', lim1, m6, x, y, by omega, hr2, hb, hlim1, rfl, rfl, rfl, rfl, rfl, hB6, HS6.out, HO6.out, hbt6⟩, rfl⟩)
                    case measure => simp [intOf]; omega
                  · rw [decide_eq_false hz]
                    clear hz
                    have HPA := Lib.hid (part_any g n c a' b' p3 m4 tl wc hB5 HML4.out HMB4.out hn hp31 hp32 (by omega))
                    clear hB5
                    go_wp2_with fail
                    refine HPA.out.mono ?_
                    rintro e w6 ⟨r, m6, bb, rfl, hr1, hr2, hB6, hS6, hP6, ho6⟩
                    have HS6 : Hid (Sub a b m6 l) := HSL5.out.trans (hS6.wide ha hb)
                    have HO6 : Hid (OkOut a b a' b' m6) := HO5.out.sub hS6 ha hb
                    have HP6 := Lib.hid hP6
                    have hbt6 := bt_only hbt5 ho6
                    have HML6 : Hid (m6.length = n) := HS6.out.length.trans HL.out
                    have HMB6 : Hid (∀ x ∈ m6, x < 2147483648) := fun x hx => HB.out x (HS6.out.1.mem_iff.1 hx)
                    clear HPA hS6 hP6 ho6 hbt5 HO5 HSL5 HML4 HMB4
                    obtain ⟨Lf, hLf⟩ : ∃ Lf, Lf = r - a' := ⟨_, rfl⟩
                    obtain ⟨Rt, hRt⟩ : ∃ Rt, Rt = b' - r := ⟨_, rfl⟩
                    obtain ⟨r1, hr1'⟩ : ∃ r1, r1 = r + 1 := ⟨_, rfl⟩
                    have eL : (r : Int) - (a' : Int) = (Lf : Int) := by omega
                    have eR : (b' : Int) - (r : Int) = (Rt : Int) := by omega
                    have e8 : (N : Int).tdiv 8 = ((N / 8 : Nat) : Int) := by rw [Int.tdiv_eq_ediv_of_nonneg (by omega)]; omega
                    have er : (r : Int) + 1 = (r1 : Int) := by omega
                    have hr1b : r1 ≤ b' := by omega
                    have hN8 : N / 8 ≤ N := Nat.div_le_self _ _
                    generalize N / 8 = T at *
                    have hLf9 : Lf ≤ 1000000000 := by omega
                    have hRt9 : Rt ≤ 1000000000 := by omega
                    by_cases hlr : Lf < Rt
                    · have HRC := Lib.hid (HI.out Lf (by have := HK.out; omega) a' r lim1 m6 w6 hLf.symm hr1 (by omega) hlim1 hB6 HML6.out HMB6.out (fun h0 q q1 q2 => HO6.out.least HS6.out HLE.out ha hb h0 q q1 (by omega)))
                      have HR1 := Lib.hid hr1'
                      clear hB6 hr1' hLf hRt
                      go_wp2_with fail
                      refine HRC.out.mono ?_
                      rintro e w7 ⟨m7, rfl, hB7, hS7, hO7, hg7⟩
                      have HS7 : Hid (Sub a b m7 l) := HS6.out.trans (hS7.wide ha (by omega))
                      have HO7 : Hid (OkOut a b r1 b' m7) := by rw [HR1.out]; exact HO6.out.left HP6.out hr1 hr2 hS7 hO7 ha hb
                      have hbt7 := bt_trans hbt6 hg7
                      clear HRC hS7 hO7 hg7 hbt6
                      go_wp2
                      go_roundw
                      case rel => first | exact ⟨r1, b', lim1, m7, _, bb, by have := HR1.out; omega, hr1b, hb, hlim1, rfl, rfl, rfl, rfl, rfl, hB7, HS7.out, HO7.out, hbt7⟩ | ((repeat apply Exists.intro); exact ⟨⟨r1, b', lim1, m7, _, bb, by have := HR1.out; omega, hr1b, hb, hlim1, rfl, rfl, rfl, rfl, rfl, hB7, HS7.out, HO7.out, hbt7⟩, rfl⟩)
                      case measure => have := HR1.out; simp [intOf]; omega
                    · have HRC := Lib.hid (HI.out (b' - r1) (by have := HK.out; omega) r1 b' lim1 m6 w6 rfl hr1b (by omega) hlim1 hB6 HML6.out HMB6.out (by rw [hr1']; exact HP6.out.least))
                      have HR1 := Lib.hid hr1'
                      clear hB6 hr1' hLf hRt
                      go_wp2_with fail
                      refine HRC.out.mono ?_
                      rintro e w7 ⟨m7, rfl, hB7, hS7, hO7, hg7⟩
                      have HS7 : Hid (Sub a b m7 l) := HS6.out.trans (hS7.wide (by have := HR1.out; omega) hb)
                      have HO7 : Hid (OkOut a b a' r m7) := by
                        rw [HR1.out] at hS7 hO7
                        exact HO6.out.right HP6.out hr1 hr2 hS7 hO7 ha hb
                      have hbt7 := bt_trans hbt6 hg7
                      clear HRC hS7 hO7 hg7 hbt6
                      go_wp2
                      go_roundw
                      case rel => first | exact ⟨a', r, lim1, m7, _, bb, ha, hr1, by omega, hlim1, rfl, rfl, rfl, rfl, rfl, hB7, HS7.out, HO7.out, hbt7⟩ | ((repeat apply Exists.intro); exact ⟨⟨a', r, lim1, m7, _, bb, ha, hr1, by omega, hlim1, rfl, rfl, rfl, rfl, rfl, hB7, HS7.out, HO7.out, hbt7⟩, rfl⟩)
                      case measure => have := HR1.out; simp [intOf]; omega
end Go.Proofs.YtccbofaefpbhlaaDoor

namespace Go.Proofs.YtccbofaefpbhlaaDoor
set_option linter.unusedVariables false
set_option maxRecDepth 20000
open Go.RowKit

/-- The sort leaves the block's first cells in order, the same numbers; no other old block has turned. -/
def RetSortB (g n : Nat) (l : List Nat) (tl : List Value) (w : World) (e : Ending) (w' : World) : Prop :=
  ∃ m : List Nat, e = .returned (.tuple #[]) ∧ Blk w' g 21 (runeBlk m tl) ∧ m.Perm l ∧ Ord n m ∧ w.grownBy w' (some g)

theorem bitLen_le64 (n : Nat) (h : n < 2 ^ 64) : Lib.bitLen n ≤ 64 := Lib.bitLen_le n 64 (by decide) h

theorem sort_all (g n c : Nat) (l : List Nat) (tl : List Value) (w : World) (hB : Blk w g 21 (runeBlk l tl)) (hl : l.length = n) (hb : ∀ x ∈ l, x < 2147483648) (hn : n ≤ 1000000000) :
    Calls Tryd.prog 100 #[.slice (some ⟨g, 0, none⟩) n c] w (RetSortB g n l tl w) := by
  have I := Lib.hid (fun lim hlim => pdq_any g n c tl hn n 0 n lim l w (by omega) (by omega) (by omega) hlim hB hl hb (fun h => absurd h (by omega)))
  have HL := Lib.hid (bitLen_le64 n (by omega))
  clear hl hb hB
  go_enter Tryd.func100, Tryd.ntmps100
  go_wp2_with fail
  refine (Tryd.bits_Len _ _ (by omega) (by omega)).mono ?_
  rintro e w1 ⟨rfl, rfl⟩
  rw [Int.toNat_natCast]
  have hl64 := HL.out
  generalize Lib.bitLen n = k at *
  go_wp2_with fail
  refine (I.out k hl64).mono ?_
  rintro e w1 ⟨m, rfl, h1, h2, h3, h4⟩
  go_wp2
  go_end0
  exact ⟨m, rfl, h1, h2.1, fun p q hp hq => h3 p q (Nat.zero_le _) hp hq, h4⟩

/-- Nothing comes of it, and nothing has turned. -/
def RetNo (w : World) (e : Ending) (w' : World) : Prop := e = .returned (.tuple #[]) ∧ w = w'
set_option maxRecDepth 100000 in
theorem pdq_none (A : Option Addr) (c : Nat) (k : Nat) (w : World) (hk : k ≤ 64) :
    Calls Tryd.prog 123 #[.slice A 0 c, .int .i64 0, .int .i64 0, .int .i64 k] w (RetNo w) := by
  have hI : Hid (∀ W, Calls Tryd.prog 147 #[.slice A 0 c, .int .i64 0, .int .i64 0] W fun e w' => e = .returned (.tuple #[]) ∧ W = w') := by
    apply Lib.hid
    intro W
    go_enter Tryd.func147, Tryd.ntmps147
    go_wp2
    go_loop [6] (fun t => t = .int .i64 1) (fun t => 0)
    case atStart => rfl
    case round =>
      subst hrel
      go_wp2
      go_end0
      exact ⟨rfl, rfl⟩
  go_enter Tryd.func123, Tryd.ntmps123
  go_wp2
  go_loopw [1, 2] (fun a b wr => a = .int .i64 0 ∧ b = .int .i64 0 ∧ w = wr) (fun _ _ _ => 0)
  case atStart => exact ⟨rfl, rfl, rfl⟩
  case round =>
    obtain ⟨rfl, rfl, rfl⟩ := hrel
    go_wp2_with fail
    refine (hI.out _).mono ?_
    rintro e w1 ⟨rfl, rfl⟩
    go_wp2
    go_end0
    exact ⟨rfl, rfl⟩

theorem sort_none (A : Option Addr) (c : Nat) (w : World) :
    Calls Tryd.prog 100 #[.slice A 0 c] w fun e w' => e = .returned (.tuple #[]) ∧ w = w' := by
  go_enter Tryd.func100, Tryd.ntmps100
  go_wp2_with fail
  refine (Tryd.bits_Len _ _ (by omega) (by omega)).mono ?_
  rintro e w1 ⟨rfl, rfl⟩
  go_wp2_with fail
  refine (pdq_none A c (Lib.bitLen (0 : Int).toNat) _ (by decide)).mono ?_
  rintro e w1 ⟨rfl, rfl⟩
  go_wp2
  go_end0
  exact ⟨rfl, rfl⟩
end Go.Proofs.YtccbofaefpbhlaaDoor
