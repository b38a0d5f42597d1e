/-
  A heap sort at runes.
-/
import Derived.Test.YtccbofaefpbhlaaDoorSiftA
namespace Go.Proofs.YtccbofaefpbhlaaDoor
set_option linter.unusedVariables false
set_option maxRecDepth 20000
open Go.RowKit Go.Lib

theorem Half.sift {f n j : Nat} {l : List Nat} (h : Half f n (j + 1) l) (hj : j < n) (hl : f + n ≤ l.length) : HeapIn f 1 j (swapAt l f (f + j)) := fun k c h1 h2 h3 => by
  rw [swapAt_getD _ _ _ _ (by omega) (by omega), swapAt_getD _ _ _ _ (by omega) (by omega), if_neg (by omega), if_neg (by omega), if_neg (by omega), if_neg (by omega)]
  exact h.heap k c (Nat.zero_le _) h2 (by omega)

theorem Blk.drew {w : World} {g : Nat} {t : TypeId} {cs : Array Value} (h : Blk w g t cs) : Blk w.drew g t cs := h
set_option maxHeartbeats 4000000 in
theorem heap_any (g n c a N : Nat) (l : List Nat) (tl : List Value) (w : World) (hB : Blk w g 21 (runeBlk l tl)) (hl : l.length = n) (hb : ∀ x ∈ l, x < 2147483648) (hn : n ≤ 1000000000) (hN : 1 ≤ N) (hf : a + N ≤ n) :
    Calls Tryd.prog 148 #[.slice (some ⟨g, 0, none⟩) n c, .int .i64 a, .int .i64 ((a + N : Nat) : Int)] w (RetSub (OrdIn a (a + N)) a (a + N) g l tl w) := by
  have HB := Lib.hid hb
  have HL := Lib.hid hl
  obtain ⟨b, hb'⟩ : ∃ b, b = a + N := ⟨_, rfl⟩
  obtain ⟨M, hM⟩ : ∃ M, M = N - 1 := ⟨_, rfl⟩
  obtain ⟨h, hh⟩ : ∃ h, h = M / 2 := ⟨_, rfl⟩
  have e1 : (b : Int) - (a : Int) = (N : Int) := by omega
  have e2 : (N : Int) - 1 = (M : Int) := by omega
  have e3 : (M : Int).tdiv 2 = (h : Int) := by rw [Int.tdiv_eq_ediv_of_nonneg (by omega)]; omega
  have hhM : h ≤ M := by omega
  have hMN : M < N := by omega
  have hbn : b ≤ n := by omega
  rw [← hb']
  have SF : Hid (∀ m W, Blk W g 21 (runeBlk m tl) → Sub a (a + N) m l → ∀ lo hi, lo ≤ hi → hi ≤ N → HeapIn a (lo + 1) hi m → Calls Tryd.prog 180 #[.slice (some ⟨g, 0, none⟩) n c, .int .i64 (lo : Int), .int .i64 (hi : Int), .int .i64 (a : Int)] W (RetSub (HeapIn a lo hi) a (a + hi) g m tl W)) :=
    fun m W h1 h2 lo hi h3 h4 h5 => sift_any g n c lo hi a m tl W h1 (h2.length.trans hl) (fun x hx => hb x (h2.1.mem_iff.1 hx)) hn h3 (by omega) h5
  have HBB := Lib.hid hb'
  have HMM := Lib.hid hM
  have HHH := Lib.hid hh
  clear hb hl hb' hM hh
  go_enter Tryd.func148, Tryd.ntmps148
  go_wp2
  go_loopw [9] (fun t wr => ∃ (k : Nat) (m : List Nat), k ≤ h + 1 ∧ t = .int .i64 ((k : Int) - 1) ∧ Blk wr g 21 (runeBlk m tl) ∧ Hid (Sub a (a + N) m l) ∧ Hid (HeapIn a k N m) ∧ Only g w wr) (fun t _ => (intOf t + 1).toNat)
  case atStart => exact ⟨h + 1, l, Nat.le_refl _, by go_num, hB, Sub.refl _ _ _, HeapIn.leaves (by have := HMM.out; have := HHH.out; omega), Only.refl _ _⟩
  case round =>
    clear hB
    obtain ⟨k, m, hk, ht, hBm, HS, HP, hon⟩ := hrel
    rcases k with _ | j
    · rw [show ((0 : Nat) : Int) - 1 = -1 by omega] at ht
      subst ht
      go_wp2
      go_loopw [10] (fun t wr => ∃ (k : Nat) (m : List Nat), k ≤ N ∧ t = .int .i64 ((k : Int) - 1) ∧ Blk wr g 21 (runeBlk m tl) ∧ Hid (Sub a (a + N) m l) ∧ Hid (Half a N k m) ∧ Only g w wr) (fun t _ => (intOf t + 1).toNat)
      case atStart => exact ⟨N, m, Nat.le_refl _, by have := HMM.out; rw [show ((N : Int) - 1) = (M : Int) by omega], hBm, HS.out, ⟨HP.out, fun p q h1 h2 h3 => by omega, fun p q h1 h2 h3 h4 => by omega⟩, hon⟩
      case round =>
        clear hBm HS HP hon
        obtain ⟨k, m, hk, ht, hBm, HS, HP, hon⟩ := hrel
        rcases k with _ | j
        · rw [show ((0 : Nat) : Int) - 1 = -1 by omega] at ht
          subst ht
          go_wp2
          go_end0
          rw [HBB.out]
          refine ⟨m, rfl, hBm, HS.out, ?_, hon⟩
          have := HP.out.rise
          rw [Nat.add_zero] at this
          exact this
        · rw [show ((j + 1 : Nat) : Int) - 1 = (j : Int) by omega] at ht
          subst ht
          have HML : Hid (m.length = n) := HS.out.length.trans HL.out
          obtain ⟨pd, hpd⟩ : ∃ pd, pd = a + j := ⟨_, rfl⟩
          have e5 : (a : Int) + (j : Int) = (pd : Int) := by omega
          have bpd : pd < n := by omega
          have bpa : a < n := by omega
          have HPD := Lib.hid hpd
          have ca := (hBm.cell a).trans (runeBlk_get m tl (by rw [HML.out]; omega))
          have cd := (hBm.cell pd).trans (runeBlk_get m tl (by rw [HML.out]; omega))
          obtain ⟨XR, hXR⟩ : ∃ X, m.getD a 0 = X := ⟨_, rfl⟩
          obtain ⟨XD, hXD⟩ : ∃ X, m.getD pd 0 = X := ⟨_, rfl⟩
          rw [hXR] at ca
          rw [hXD] at cd
          have f1 := hBm.free a
          have hB6 := hBm.set_ a (.int .i32 (XD : Int))
          rw [runeBlk_set _ _ _ _ (show a < m.length by rw [HML.out]; omega)] at hB6
          have cd6 := (hB6.cell pd).trans (runeBlk_get _ tl (by rw [List.length_set, HML.out]; omega))
          obtain ⟨Y, hY⟩ : ∃ Y, (m.set a XD).getD pd 0 = Y := ⟨_, rfl⟩
          rw [hY] at cd6
          have f2 := hB6.free pd
          have hB7 := hB6.set_ pd (.int .i32 (XR : Int))
          rw [runeBlk_set _ _ _ _ (show pd < (m.set a XD).length by rw [List.length_set, HML.out]; omega)] at hB7
          have hsw : (m.set a XD).set pd XR = swapAt m a pd := by rw [swapAt, hXR, hXD]
          rw [hsw] at hB7
          have HSW : Hid (Sub a (a + N) (swapAt m a pd) l) := HS.out.trans (Sub.swap (by omega) (by omega) (by omega) (by omega) (by rw [HML.out]; omega))
          have on7 := ((hon.set_ a (.int .i32 (XD : Int))).set_ pd (.int .i32 (XR : Int)))
          clear hsw hY hXR hXD hpd hBm hon hB6
          go_wp2_with fail
          go_region
          have S3 := Lib.hid (SF.out _ _ hB7.drew HSW.out 0 j (Nat.zero_le _) (by omega) (by rw [HPD.out]; exact HP.out.sift (by omega) (by rw [HML.out]; omega)))
          rw [show ((0 : Nat) : Int) = 0 from rfl] at S3
          go_wp2_with fail
          refine S3.out.mono ?_
          rintro e w2 ⟨m2, rfl, hB2, hs2, hh2, on2⟩
          have on3 := on7.drew.trans on2
          have HS3 : Hid (Sub a (a + N) m2 l) := HSW.out.trans (hs2.wide (Nat.le_refl _) (by omega))
          have HH3 : Hid (Half a N j m2) := HP.out.step (by omega) (by rw [HML.out]; omega) (by rw [← HPD.out]; rw [← HPD.out] at hs2; exact hs2) hh2
          clear S3 hs2 hh2 on2 on7 HSW HP HS
          go_wp2
          go_roundw
          case rel => exact ⟨j, m2, by omega, by go_num, hB2, HS3.out, HH3.out, on3⟩
          case measure => simp [intOf]
    · rw [show ((j + 1 : Nat) : Int) - 1 = (j : Int) by omega] at ht
      subst ht
      have S2 := Lib.hid (SF.out m wr hBm HS.out j N (by omega) (Nat.le_refl _) HP.out)
      clear hBm HP
      go_wp2_with fail
      refine S2.out.mono ?_
      rintro e w2 ⟨m2, rfl, hB2, hs2, hh2, on2⟩
      have on3 := hon.trans on2
      have HS3 : Hid (Sub a (a + N) m2 l) := HS.out.trans hs2
      have HH3 := Lib.hid hh2
      clear S2 HS hs2 hh2 on2
      go_wp2
      go_roundw
      case rel => exact ⟨j, m2, by omega, by go_num, hB2, HS3.out, HH3.out, on3⟩
      case measure => simp [intOf]
end Go.Proofs.YtccbofaefpbhlaaDoor
