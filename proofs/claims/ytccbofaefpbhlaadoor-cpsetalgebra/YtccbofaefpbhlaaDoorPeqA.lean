/-
  The sort's partition by what is the least, at runes.
-/
import Derived.Test.YtccbofaefpbhlaaDoorSortM
import Derived.Test.YtccbofaefpbhlaaDoorHeapA
import Derived.Deep.CutRange
namespace Go.Proofs.YtccbofaefpbhlaaDoor
set_option linter.unusedVariables false
set_option maxRecDepth 20000
open Go.RowKit Go.Lib

def RetPeq (a b g X : Nat) (l : List Nat) (tl : List Value) (w : World) (e : Ending) (w' : World) : Prop :=
  ∃ (r : Nat) (m : List Nat), e = .returned (.int .i64 (r : Int)) ∧ a < r ∧ r ≤ b ∧ Blk w' g 21 (runeBlk m tl) ∧ Sub a b m l ∧ PeqAt a b r X m ∧ Only g w w'

set_option maxHeartbeats 8000000 in
theorem peq_any (g n c a b p : Nat) (l : List Nat) (tl : List Value) (w : World) (hB : Blk w g 21 (runeBlk l tl)) (hl : l.length = n) (hb : ∀ x ∈ l, x < 2147483648) (hn : n ≤ 1000000000) (hap : a ≤ p) (hpb : p < b) (hbn : b ≤ n) :
    Calls Tryd.prog 154 #[.slice (some ⟨g, 0, none⟩) n c, .int .i64 a, .int .i64 b, .int .i64 p] w (RetPeq a b g (l.getD p 0) l tl w) := by
  have HB := Lib.hid hb
  have HL := Lib.hid hl
  have hon := Only.refl g w
  have han : a < n := by omega
  have hpn : p < n := by omega
  obtain ⟨j0, hj0⟩ : ∃ j0, j0 = b - 1 := ⟨_, rfl⟩
  have e1 : (b : Int) - 1 = (j0 : Int) := by omega
  obtain ⟨i0, hi0⟩ : ∃ i0, i0 = a + 1 := ⟨_, rfl⟩
  have e2 : (a : Int) + 1 = (i0 : Int) := by omega
  have hij0 : i0 ≤ j0 + 1 := by omega
  have hj0b : j0 < b := by omega
  have hbn' : b ≤ 1000000000 := by omega
  have HIZ := Lib.hid hi0
  have HJZ := Lib.hid hj0
  clear hb hl hi0 hj0
  go_enter Tryd.func154, Tryd.ntmps154
  have ci := (hB.cell a).trans (runeBlk_get l tl (by rw [HL.out]; omega))
  have cj := (hB.cell p).trans (runeBlk_get l tl (by rw [HL.out]; omega))
  obtain ⟨XI, hXI⟩ : ∃ X, l.getD a 0 = X := ⟨_, rfl⟩
  obtain ⟨XJ, hXJ⟩ : ∃ X, l.getD p 0 = X := ⟨_, rfl⟩
  rw [hXI] at ci
  rw [hXJ] at cj
  have f1 := hB.free a
  have hB6 := hB.set_ a (.int .i32 (XJ : Int))
  rw [runeBlk_set _ _ _ _ (show a < l.length by rw [HL.out]; omega)] at hB6
  have cj6 := (hB6.cell p).trans (runeBlk_get _ tl (by rw [List.length_set, HL.out]; omega))
  obtain ⟨Y, hY⟩ : ∃ Y, (l.set a XJ).getD p 0 = Y := ⟨_, rfl⟩
  rw [hY] at cj6
  have f2 := hB6.free p
  have hB7 := hB6.set_ p (.int .i32 (XI : Int))
  rw [runeBlk_set _ _ _ _ (show p < (l.set a XJ).length by rw [List.length_set, HL.out]; omega)] at hB7
  have hsw : (l.set a XJ).set p XI = swapAt l a p := by rw [swapAt, hXI, hXJ]
  rw [hsw] at hB7
  have on7 := ((hon.set_ a (.int .i32 (XJ : Int))).set_ p (.int .i32 (XI : Int))).drew
  have HS : Hid (Sub a b (swapAt l a p) l) := Sub.swap (Nat.le_refl _) (by omega) hap hpb (by rw [HL.out]; omega)
  clear hsw hY hXI hXJ hB hon hB6
  go_wp2_with fail
  go_region
  have hBm := hB7.drew
  have hXp : (swapAt l a p).getD a 0 = l.getD p 0 := swap_first l a p (by rw [HL.out]; omega) (by rw [HL.out]; omega)
  generalize swapAt l a p = m at *
  have hon := on7
  clear hB7 on7
  have HML : Hid (m.length = n) := HS.out.length.trans HL.out
  have HMB : Hid (∀ x ∈ m, x < 2147483648) := fun x hx => HB.out x (HS.out.1.mem_iff.1 hx)
  obtain ⟨X, hX⟩ : ∃ X, m.getD a 0 = X := ⟨_, rfl⟩
  have xX := lt_of_mem_getD' HMB.out (show a < m.length by rw [HML.out]; omega)
  rw [hX] at xX hXp
  have HXP := Lib.hid hXp
  clear hXp
  have HP : Hid (PeqInv a b i0 j0 X m) := by rw [HIZ.out, HJZ.out, ← hX]; exact PeqInv.start
  have hia : a < i0 := by have := HIZ.out; omega
  clear hX
  go_wp2
  go_loopw [9, 10] (fun t u wr => ∃ (i j : Nat) (m : List Nat), a < i ∧ i ≤ j + 1 ∧ j < b ∧ t = .int .i64 (i : Int) ∧ u = .int .i64 (j : Int) ∧ Hid (PeqInv a b i j X m) ∧ Blk wr g 21 (runeBlk m tl) ∧ Hid (Sub a b m l) ∧ Only g w wr) (fun t u _ => (intOf u + 1 - intOf t).toNat)
  case atStart => exact ⟨i0, j0, m, hia, hij0, hj0b, rfl, rfl, HP.out, hBm, HS.out, hon⟩
  case round =>
    clear hBm HP HS hon HML HMB hia hij0 hj0b
    obtain ⟨i0, j0, m, hia, hij0, hj0b, rfl, rfl, HP, hBm, HS, hon⟩ := hrel
    have HML : Hid (m.length = n) := HS.out.length.trans HL.out
    have HMB : Hid (∀ x ∈ m, x < 2147483648) := fun x hx => HB.out x (HS.out.1.mem_iff.1 hx)
    generalize wr = W3 at *
    go_wp2
    go_loopw [9] (fun t wr => ∃ i : Nat, i0 ≤ i ∧ i ≤ j0 + 1 ∧ t = .int .i64 (i : Int) ∧ Hid (PeqInv a b i j0 X m) ∧ Blk wr g 21 (runeBlk m tl) ∧ Only g w wr) (fun t _ => b - (intOf t).toNat)
    case atStart => exact ⟨i0, Nat.le_refl _, hij0, by go_num, HP.out, hBm, hon⟩
    case round =>
      clear HP hBm hon
      obtain ⟨i, hi0, hij1, rfl, HP, hBm, hon⟩ := hrel
      have cX := (hBm.cell a).trans (runeBlk_get m tl (by rw [HML.out]; omega))
      rw [HP.out.1] at cX
      go_upto_region 3 with fail
      go_cut [43] from 29 to 45 (fun c wx => c = .bool (decide (i ≤ j0 ∧ ¬ X < m.getD i 0)) ∧ Blk wx g 21 (runeBlk m tl) ∧ Only g w wx)
      case first =>
        by_cases hij : i ≤ j0
        · have gij : decide ((i : Int) ≤ (j0 : Int)) = true := by simp; omega
          have bi : i < n := by omega
          have ci := (hBm.cell i).trans (runeBlk_get m tl (by rw [HML.out]; omega))
          have xi := lt_of_mem_getD' HMB.out (show i < m.length by rw [HML.out]; omega)
          obtain ⟨Y, hY⟩ : ∃ Y, m.getD i 0 = Y := ⟨_, rfl⟩
          rw [hY] at ci xi
          have HY := Lib.hid hY
          clear hY
          by_cases hx : X < Y
          · have hd : decide (X < Y) = true := by simpa using hx
            have LQ := fun W => less_q X Y true W xX xi hd
            go_quiet ((go_at_call 153; exact Calls.quiet_of_same (LQ _)))
            go_wp2
            go_meet
            exact ⟨by rw [HY.out, show decide (i ≤ j0 ∧ ¬ X < Y) = false by simp [hij, hx]], hBm, hon.drewN _⟩
          · have hd : decide (X < Y) = false := by simpa using hx
            have LQ := fun W => less_q X Y false W xX xi hd
            go_quiet ((go_at_call 153; exact Calls.quiet_of_same (LQ _)))
            go_wp2
            go_meet
            exact ⟨by rw [HY.out, show decide (i ≤ j0 ∧ ¬ X < Y) = true by simp [hij, hx]], hBm, hon.drewN _⟩
        · have gij : decide ((i : Int) ≤ (j0 : Int)) = false := by simp; omega
          go_quiet (fail)
          go_wp2
          go_meet
          exact ⟨by rw [show decide (i ≤ j0 ∧ ¬ X < m.getD i 0) = false by simp [hij]], hBm, hon.drewN _⟩
      case rest =>
        obtain ⟨rfl, hBc, honc⟩ := hcut
        clear hBm hon cX
        by_cases hc : i ≤ j0 ∧ ¬ X < m.getD i 0
        · have hcd : decide (i ≤ j0 ∧ ¬ X < m.getD i 0) = true := decide_eq_true hc
          rw [hcd]
          have HP2 : Hid (PeqInv a b (i + 1) j0 X m) := HP.out.up hc.2
          have hij2 := hc.1
          clear hcd HP hc
          go_wp2
          go_roundw
          case rel => first | exact ⟨i + 1, by omega, by omega, by go_num, HP2.out, hBc, honc⟩ | ((repeat apply Exists.intro); exact ⟨⟨i + 1, by omega, by omega, by go_num, HP2.out, hBc, honc⟩, rfl⟩)
          case measure => simp [intOf]; omega
        · have hcd : decide (i ≤ j0 ∧ ¬ X < m.getD i 0) = false := by simp only [decide_eq_false_iff_not]; exact hc
          rw [hcd]
          have HU : Hid (¬ (i ≤ j0 ∧ ¬ X < m.getD i 0)) := hc
          clear hcd hc
          go_wp2
          generalize wc = W1 at *
          go_loopw [10] (fun t wr => ∃ j : Nat, i ≤ j + 1 ∧ j ≤ j0 ∧ t = .int .i64 (j : Int) ∧ Hid (PeqInv a b i j X m) ∧ Blk wr g 21 (runeBlk m tl) ∧ Only g w wr) (fun t _ => (intOf t).toNat)
          case atStart => exact ⟨j0, by omega, Nat.le_refl _, by go_num, HP.out, hBc, honc⟩
          case round =>
            clear HP hBc honc
            obtain ⟨j, hij1, hjj0, rfl, HP, hBm, hon⟩ := hrel
            have cX := (hBm.cell a).trans (runeBlk_get m tl (by rw [HML.out]; omega))
            rw [HP.out.1] at cX
            go_upto_region 5 with fail
            go_cut [59] from 46 to 61 (fun c wx => c = .bool (decide (i ≤ j ∧ X < m.getD j 0)) ∧ Blk wx g 21 (runeBlk m tl) ∧ Only g w wx)
            case first =>
              by_cases hij : i ≤ j
              · have gij : decide ((i : Int) ≤ (j : Int)) = true := by simp; omega
                have bj : j < n := by omega
                have cj := (hBm.cell j).trans (runeBlk_get m tl (by rw [HML.out]; omega))
                have xj := lt_of_mem_getD' HMB.out (show j < m.length by rw [HML.out]; omega)
                obtain ⟨Y, hY⟩ : ∃ Y, m.getD j 0 = Y := ⟨_, rfl⟩
                rw [hY] at cj xj
                have HY := Lib.hid hY
                clear hY
                by_cases hx : X < Y
                · have hd : decide (X < Y) = true := by simpa using hx
                  have LQ := fun W => less_q X Y true W xX xj hd
                  go_quiet ((go_at_call 153; exact Calls.quiet_of_same (LQ _)))
                  go_wp2
                  go_meet
                  exact ⟨by rw [HY.out, show decide (i ≤ j ∧ X < Y) = true by simp [hij, hx]], hBm, hon.drewN _⟩
                · have hd : decide (X < Y) = false := by simpa using hx
                  have LQ := fun W => less_q X Y false W xX xj hd
                  go_quiet ((go_at_call 153; exact Calls.quiet_of_same (LQ _)))
                  go_wp2
                  go_meet
                  exact ⟨by rw [HY.out, show decide (i ≤ j ∧ X < Y) = false by simp [hx]], hBm, hon.drewN _⟩
              · have gij : decide ((i : Int) ≤ (j : Int)) = false := by simp; omega
                go_quiet (fail)
                go_wp2
                go_meet
                exact ⟨by rw [show decide (i ≤ j ∧ X < m.getD j 0) = false by simp [hij]], hBm, hon.drewN _⟩
            case rest =>
              obtain ⟨rfl, hBc, honc⟩ := hcut
              clear hBm hon cX
              by_cases hc : i ≤ j ∧ X < m.getD j 0
              · have hcd : decide (i ≤ j ∧ X < m.getD j 0) = true := by simp only [decide_eq_true_eq]; exact hc
                rw [hcd]
                have HP2 : Hid (PeqInv a b i (j - 1) X m) := HP.out.down (by omega) (by omega)
                have hij2 := hc.1
                have hjm : (j : Int) - 1 = ((j - 1 : Nat) : Int) := by omega
                clear hcd HP hc
                go_wp2
                go_roundw
                case rel => first | exact ⟨j - 1, by omega, by omega, by first | rfl | rw [hjm] | go_num, HP2.out, hBc, honc⟩ | ((repeat apply Exists.intro); exact ⟨⟨j - 1, by omega, by omega, by first | rfl | rw [hjm] | go_num, HP2.out, hBc, honc⟩, rfl⟩)
                case measure => simp [intOf]; omega
              · have hcd : decide (i ≤ j ∧ X < m.getD j 0) = false := by simp only [decide_eq_false_iff_not]; exact hc
                rw [hcd]
                have HD : Hid (¬ (i ≤ j ∧ X < m.getD j 0)) := hc
                clear hcd hc
                by_cases hgt : j < i
                · have hji : i = j + 1 := by omega
                  have gd : decide ((j : Int) < (i : Int)) = true := by simp; omega
                  have HF := Lib.hid (HP.out.final hji)
                  clear HP HU HD
                  go_wp2
                  go_ret
                  exact ⟨i, m, rfl, by omega, by omega, hBc, HS.out, by rw [← HXP.out]; exact HF.out, honc⟩
                · have hx2 : ¬ X < m.getD j 0 := fun h => HD.out ⟨by omega, h⟩
                  have hx1 : X < m.getD i 0 := Classical.byContradiction fun h => HU.out ⟨by omega, h⟩
                  have hlt : i < j := by
                    rcases Nat.lt_or_ge i j with h | h
                    · exact h
                    · have : i = j := by omega
                      rw [this] at hx1
                      exact absurd hx1 hx2
                  have gd : decide ((j : Int) < (i : Int)) = false := by simp; omega
                  have bi : i < n := by omega
                  have bj : j < n := by omega
                  have ci := (hBc.cell i).trans (runeBlk_get m tl (by rw [HML.out]; omega))
                  have cj := (hBc.cell j).trans (runeBlk_get m tl (by rw [HML.out]; omega))
                  obtain ⟨XI, hXI⟩ : ∃ X, m.getD i 0 = X := ⟨_, rfl⟩
                  obtain ⟨XJ, hXJ⟩ : ∃ X, m.getD j 0 = X := ⟨_, rfl⟩
                  rw [hXI] at ci
                  rw [hXJ] at cj
                  have f1 := hBc.free i
                  have hB6 := hBc.set_ i (.int .i32 (XJ : Int))
                  rw [runeBlk_set _ _ _ _ (show i < m.length by rw [HML.out]; omega)] at hB6
                  have cj6 := (hB6.cell j).trans (runeBlk_get _ tl (by rw [List.length_set, HML.out]; omega))
                  obtain ⟨Y, hY⟩ : ∃ Y, (m.set i XJ).getD j 0 = Y := ⟨_, rfl⟩
                  rw [hY] at cj6
                  have f2 := hB6.free j
                  have hB7 := hB6.set_ j (.int .i32 (XI : Int))
                  rw [runeBlk_set _ _ _ _ (show j < (m.set i XJ).length by rw [List.length_set, HML.out]; omega)] at hB7
                  have hsw : (m.set i XJ).set j XI = swapAt m i j := by rw [swapAt, hXI, hXJ]
                  rw [hsw] at hB7
                  have on9 := ((honc.set_ i (.int .i32 (XJ : Int))).set_ j (.int .i32 (XI : Int))).drew
                  have HS2 : Hid (Sub a b (swapAt m i j) l) := HS.out.trans (Sub.swap (by omega) (by omega) (by omega) (by omega) (by rw [HML.out]; omega))
                  have HP2 : Hid (PeqInv a b (i + 1) (j - 1) X (swapAt m i j)) := HP.out.swap (by omega) hlt (by omega) (by rw [HML.out]; omega) hx1 hx2
                  clear HP HU HD hx1 hx2
                  clear hsw hY hXI hXJ hBc honc hB6
                  go_wp2_with fail
                  go_region
                  have hBn := hB7.drew
                  generalize swapAt m i j = m2 at *
                  go_wp2
                  go_roundw
                  case rel => first | exact ⟨i + 1, j - 1, m2, by omega, by omega, by omega, by go_num, by rw [show ((j - 1 : Nat) : Int) = (j : Int) - 1 by omega], HP2.out, hBn, HS2.out, on9⟩ | ((repeat apply Exists.intro); exact ⟨⟨i + 1, j - 1, m2, by omega, by omega, by omega, by go_num, by rw [show ((j - 1 : Nat) : Int) = (j : Int) - 1 by omega], HP2.out, hBn, HS2.out, on9⟩, rfl⟩)
                  case measure => simp [intOf]; omega
end Go.Proofs.YtccbofaefpbhlaaDoor
