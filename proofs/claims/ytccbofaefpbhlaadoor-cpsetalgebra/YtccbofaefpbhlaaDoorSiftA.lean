/-
  A heap's sift at runes.
-/
import Derived.Test.YtccbofaefpbhlaaDoorSortM
import Derived.Test.YtccbofaefpbhlaaDoorSortA
namespace Go.Proofs.YtccbofaefpbhlaaDoor
set_option linter.unusedVariables false
set_option maxRecDepth 20000
open Go.RowKit Go.Lib

/-- What a helper of the sort leaves. -/
def RetSub (P : List Nat → Prop) (a b g : Nat) (l : List Nat) (tl : List Value) (w : World) (e : Ending) (w' : World) : Prop :=
  ∃ m : List Nat, e = .returned (.tuple #[]) ∧ Blk w' g 21 (runeBlk m tl) ∧ Sub a b m l ∧ P m ∧ Only g w w'

set_option maxHeartbeats 4000000 in
theorem sift_any (g n c lo hi f : Nat) (l : List Nat) (tl : List Value) (w : World) (hB : Blk w g 21 (runeBlk l tl)) (hl : l.length = n) (hb : ∀ x ∈ l, x < 2147483648) (hn : n ≤ 1000000000) (hlo : lo ≤ hi) (hf : f + hi ≤ n) (hh : HeapIn f (lo + 1) hi l) :
    Calls Tryd.prog 180 #[.slice (some ⟨g, 0, none⟩) n c, .int .i64 lo, .int .i64 hi, .int .i64 f] w (RetSub (HeapIn f lo hi) f (f + hi) g l tl w) := by
  have HB := Lib.hid hb
  have HL := Lib.hid hl
  have HH0 := Lib.hid hh.but
  clear hb hl hh
  go_enter Tryd.func180, Tryd.ntmps180
  go_wp2
  go_loopw [8] (fun t wr => ∃ (r : Nat) (m : List Nat), lo ≤ r ∧ r ≤ hi ∧ t = .int .i64 (r : Int) ∧ Blk wr g 21 (runeBlk m tl) ∧ Hid (Sub f (f + hi) m l) ∧ Hid (HeapBut f lo hi r m) ∧ Only g w wr) (fun t _ => hi - (intOf t).toNat)
  case atStart => exact ⟨lo, l, Nat.le_refl _, hlo, rfl, hB, Sub.refl _ _ _, HH0.out, Only.refl _ _⟩
  case round =>
    clear hB HH0
    obtain ⟨r, m, hlr, hrh, rfl, hBm, HS, HH, hon⟩ := hrel
    have HML : Hid (m.length = n) := HS.out.length.trans HL.out
    have HMB : Hid (∀ x ∈ m, x < 2147483648) := fun x hx => HB.out x (HS.out.1.mem_iff.1 hx)
    obtain ⟨d1, hd1⟩ : ∃ d1, d1 = 2 * r + 1 := ⟨_, rfl⟩
    have e1 : (2 : Int) * (r : Int) + 1 = (d1 : Int) := by omega
    have bd1 : d1 ≤ 2000000001 := by omega
    have hrd : r < d1 := by omega
    by_cases h1 : d1 < hi
    · have hg1 : decide ((hi : Int) ≤ (d1 : Int)) = false := by simp; omega
      obtain ⟨d2, hd2⟩ : ∃ d2, d2 = d1 + 1 := ⟨_, rfl⟩
      obtain ⟨p1, hp1⟩ : ∃ p1, p1 = f + d1 := ⟨_, rfl⟩
      obtain ⟨p2, hp2⟩ : ∃ p2, p2 = f + d2 := ⟨_, rfl⟩
      obtain ⟨pr, hpr⟩ : ∃ pr, pr = f + r := ⟨_, rfl⟩
      have e2 : (d1 : Int) + 1 = (d2 : Int) := by omega
      have e3 : (f : Int) + (d1 : Int) = (p1 : Int) := by omega
      have e4 : (p1 : Int) + 1 = (p2 : Int) := by omega
      have e5 : (f : Int) + (d2 : Int) = (p2 : Int) := by omega
      have e6 : (f : Int) + (r : Int) = (pr : Int) := by omega
      have HDd1 : Hid (d1 = 2 * r + 1 ∨ d1 = 2 * r + 2) := Or.inl hd1
      have HDd2 : Hid (d2 = 2 * r + 1 ∨ d2 = 2 * r + 2) := Or.inr (by omega)
      have HPd1 := Lib.hid hp1
      have HPd2 := Lib.hid hp2
      have HPR := Lib.hid hpr
      have bp1 : p1 < n := by omega
      have bpr : pr < n := by omega
      have hp1r : pr < p1 := by omega
      have hp2r : pr < p2 := by omega
      have bd2 : d2 ≤ hi := by omega
      have cr := (hBm.cell pr).trans (runeBlk_get m tl (by rw [HML.out]; omega))
      have xr := lt_of_mem_getD' HMB.out (show pr < m.length by rw [HML.out]; omega)
      obtain ⟨XR, hXR⟩ : ∃ X, m.getD pr 0 = X := ⟨_, rfl⟩
      rw [hXR] at cr xr
      have HXR := Lib.hid hXR
      have c1 := (hBm.cell p1).trans (runeBlk_get m tl (by rw [HML.out]; omega))
      have x1 := lt_of_mem_getD' HMB.out (show p1 < m.length by rw [HML.out]; omega)
      obtain ⟨X1, hX1⟩ : ∃ X, m.getD p1 0 = X := ⟨_, rfl⟩
      rw [hX1] at c1 x1
      have HX1 := Lib.hid hX1
      have HDA := Lib.hid hd1
      have HDB := Lib.hid hd2
      clear hd1 hp1 hp2 hpr hXR hX1
      by_cases h2 : d2 < hi
      · have hg2 : decide ((d2 : Int) < (hi : Int)) = true := by simp; omega
        have bp2 : p2 < n := by have := HPd2.out; omega
        have c2 := (hBm.cell p2).trans (runeBlk_get m tl (by rw [HML.out]; omega))
        have x2 := lt_of_mem_getD' HMB.out (show p2 < m.length by rw [HML.out]; omega)
        obtain ⟨X2, hX2⟩ : ∃ X, m.getD p2 0 = X := ⟨_, rfl⟩
        rw [hX2] at c2 x2
        have HX2 := Lib.hid hX2
        clear hX2 hd2
        by_cases hx12 : X1 < X2
        · have hd3 : decide (X1 < X2) = true := by simpa using hx12
          have LQ := fun W => less_q X1 X2 true W x1 x2 hd3
          have HMAX : Hid (∀ c, (c = 2 * r + 1 ∨ c = 2 * r + 2) → c < hi → m.getD (f + c) 0 ≤ X2) := fun c hc _ => by
            rcases hc with hc | hc
            · rw [show f + c = p1 by have := HPd1.out; have := HDA.out; omega, HX1.out]; omega
            · rw [show f + c = p2 by have := HPd2.out; have := HDA.out; have := HDB.out; omega, HX2.out]; exact Nat.le_refl _
          go_wp2_with fail
          go_quiet ((go_at_call 153; exact Calls.quiet_of_same (LQ _)))
          have hBq : Blk (wr.drewN nq) g 21 (runeBlk m tl) := hBm
          have crq : (wr.drewN nq).cell? ⟨g, pr, none⟩ = some (.int .i32 (XR : Int)) := cr
          have c2q : (wr.drewN nq).cell? ⟨g, p2, none⟩ = some (.int .i32 (X2 : Int)) := c2
          have honq : Only g w (wr.drewN nq) := hon.drewN nq
          clear hBm c1 c2 cr hon LQ hd3
          generalize wr.drewN nq = W at *
          have cr := crq
          clear crq
          by_cases hx : XR < X2
          · have hd5 : decide (XR < X2) = true := by simpa using hx
            have LR := fun W => less_q XR X2 true W xr x2 hd5
            go_wp2_with fail
            go_quiet ((go_at_call 153; exact Calls.quiet_of_same (LR _)))
            have hB5 : Blk (W.drewN nq) g 21 (runeBlk m tl) := hBq
            have cr5 : (W.drewN nq).cell? ⟨g, pr, none⟩ = some (.int .i32 (XR : Int)) := cr
            have cd5 : (W.drewN nq).cell? ⟨g, p2, none⟩ = some (.int .i32 (X2 : Int)) := c2q
            have hon5 : Only g w (W.drewN nq) := honq.drewN nq
            clear hBq honq cr
            generalize W.drewN nq = V at *
            have f1 := hB5.free pr
            have hB6 := hB5.set_ pr (.int .i32 (X2 : Int))
            rw [runeBlk_set _ _ _ _ (show pr < m.length by rw [HML.out]; omega)] at hB6
            have cd6 := (hB6.cell p2).trans (runeBlk_get _ tl (by rw [List.length_set, HML.out]; omega))
            rw [getD_set _ _ _ _ (show pr < m.length by rw [HML.out]; omega), if_neg (by omega), HX2.out] at cd6
            have f2 := hB6.free p2
            have hB7 := hB6.set_ p2 (.int .i32 (XR : Int))
            rw [runeBlk_set _ _ _ _ (show p2 < (m.set pr X2).length by rw [List.length_set, HML.out]; omega)] at hB7
            have hsw : (m.set pr X2).set p2 XR = swapAt m pr p2 := by rw [swapAt, HXR.out, HX2.out]
            rw [hsw] at hB7
            clear hsw hd5 LR
            go_wp2_with fail
            go_region
            go_wp2
            go_roundw
            case rel =>
              have hprf : pr = f + r := HPR.out
              have hpdf : p2 = f + d2 := HPd2.out
              have hdd := HDd2.out
              refine ⟨d2, swapAt m pr p2, by omega, by omega, by go_num, hB7, HS.out.trans (Sub.swap (by omega) (by omega) (by omega) (by omega) (by rw [HML.out]; omega)), ?_, ((hon5.set_ _ _).set_ _ _).drew⟩
              have h5 := HXR.out
              have h6 := HX2.out
              rw [hprf, hpdf] at *
              exact HH.out.step hlr (by omega) (by omega) (by rw [HML.out]; omega) (by rw [h6]; exact HMAX.out) (by rw [h5, h6]; exact hx)
            case measure => have := HDd2.out; simp [intOf]; omega
          · have hd5 : decide (XR < X2) = false := by simpa using hx
            have LR := fun W => less_q XR X2 false W xr x2 hd5
            go_wp2_with fail
            go_quiet ((go_at_call 153; exact Calls.quiet_of_same (LR _)))
            go_wp2
            go_end0
            exact ⟨m, rfl, hBq, HS.out, HH.out.done (fun c h1 h2 => by
              have := HMAX.out c h1 h2
              rw [← HPR.out, HXR.out]
              omega), honq.drewN _⟩
        · have hd3 : decide (X1 < X2) = false := by simpa using hx12
          have LQ := fun W => less_q X1 X2 false W x1 x2 hd3
          have HMAX : Hid (∀ c, (c = 2 * r + 1 ∨ c = 2 * r + 2) → c < hi → m.getD (f + c) 0 ≤ X1) := fun c hc _ => by
            rcases hc with hc | hc
            · rw [show f + c = p1 by have := HPd1.out; have := HDA.out; omega, HX1.out]; exact Nat.le_refl _
            · rw [show f + c = p2 by have := HPd2.out; have := HDA.out; have := HDB.out; omega, HX2.out]; omega
          go_wp2_with fail
          go_quiet ((go_at_call 153; exact Calls.quiet_of_same (LQ _)))
          have hBq : Blk (wr.drewN nq) g 21 (runeBlk m tl) := hBm
          have crq : (wr.drewN nq).cell? ⟨g, pr, none⟩ = some (.int .i32 (XR : Int)) := cr
          have c1q : (wr.drewN nq).cell? ⟨g, p1, none⟩ = some (.int .i32 (X1 : Int)) := c1
          have honq : Only g w (wr.drewN nq) := hon.drewN nq
          clear hBm c1 c2 cr hon LQ hd3
          generalize wr.drewN nq = W at *
          have cr := crq
          clear crq
          by_cases hx : XR < X1
          · have hd5 : decide (XR < X1) = true := by simpa using hx
            have LR := fun W => less_q XR X1 true W xr x1 hd5
            go_wp2_with fail
            go_quiet ((go_at_call 153; exact Calls.quiet_of_same (LR _)))
            have hB5 : Blk (W.drewN nq) g 21 (runeBlk m tl) := hBq
            have cr5 : (W.drewN nq).cell? ⟨g, pr, none⟩ = some (.int .i32 (XR : Int)) := cr
            have cd5 : (W.drewN nq).cell? ⟨g, p1, none⟩ = some (.int .i32 (X1 : Int)) := c1q
            have hon5 : Only g w (W.drewN nq) := honq.drewN nq
            clear hBq honq cr
            generalize W.drewN nq = V at *
            have f1 := hB5.free pr
            have hB6 := hB5.set_ pr (.int .i32 (X1 : Int))
            rw [runeBlk_set _ _ _ _ (show pr < m.length by rw [HML.out]; omega)] at hB6
            have cd6 := (hB6.cell p1).trans (runeBlk_get _ tl (by rw [List.length_set, HML.out]; omega))
            rw [getD_set _ _ _ _ (show pr < m.length by rw [HML.out]; omega), if_neg (by omega), HX1.out] at cd6
            have f2 := hB6.free p1
            have hB7 := hB6.set_ p1 (.int .i32 (XR : Int))
            rw [runeBlk_set _ _ _ _ (show p1 < (m.set pr X1).length by rw [List.length_set, HML.out]; omega)] at hB7
            have hsw : (m.set pr X1).set p1 XR = swapAt m pr p1 := by rw [swapAt, HXR.out, HX1.out]
            rw [hsw] at hB7
            clear hsw hd5 LR
            go_wp2_with fail
            go_region
            go_wp2
            go_roundw
            case rel =>
              have hprf : pr = f + r := HPR.out
              have hpdf : p1 = f + d1 := HPd1.out
              have hdd := HDd1.out
              refine ⟨d1, swapAt m pr p1, by omega, by omega, by go_num, hB7, HS.out.trans (Sub.swap (by omega) (by omega) (by omega) (by omega) (by rw [HML.out]; omega)), ?_, ((hon5.set_ _ _).set_ _ _).drew⟩
              have h5 := HXR.out
              have h6 := HX1.out
              rw [hprf, hpdf] at *
              exact HH.out.step hlr (by omega) (by omega) (by rw [HML.out]; omega) (by rw [h6]; exact HMAX.out) (by rw [h5, h6]; exact hx)
            case measure => have := HDd1.out; simp [intOf]; omega
          · have hd5 : decide (XR < X1) = false := by simpa using hx
            have LR := fun W => less_q XR X1 false W xr x1 hd5
            go_wp2_with fail
            go_quiet ((go_at_call 153; exact Calls.quiet_of_same (LR _)))
            go_wp2
            go_end0
            exact ⟨m, rfl, hBq, HS.out, HH.out.done (fun c h1 h2 => by
              have := HMAX.out c h1 h2
              rw [← HPR.out, HXR.out]
              omega), honq.drewN _⟩
      · have hg2 : decide ((d2 : Int) < (hi : Int)) = false := by simp; omega
        have HMAX : Hid (∀ c, (c = 2 * r + 1 ∨ c = 2 * r + 2) → c < hi → m.getD (f + c) 0 ≤ X1) := fun c hc hc2 => by
          rw [show f + c = p1 by have := HPd1.out; have := HDA.out; omega, HX1.out]; exact Nat.le_refl _
        clear hd2
        go_wp2_with fail
        go_quiet (fail)
        have hBq : Blk (wr.drewN nq) g 21 (runeBlk m tl) := hBm
        have crq : (wr.drewN nq).cell? ⟨g, pr, none⟩ = some (.int .i32 (XR : Int)) := cr
        have c1q : (wr.drewN nq).cell? ⟨g, p1, none⟩ = some (.int .i32 (X1 : Int)) := c1
        have honq : Only g w (wr.drewN nq) := hon.drewN nq
        clear hBm c1 cr hon
        generalize wr.drewN nq = W at *
        have cr := crq
        clear crq
        by_cases hx : XR < X1
        · have hd5 : decide (XR < X1) = true := by simpa using hx
          have LR := fun W => less_q XR X1 true W xr x1 hd5
          go_wp2_with fail
          go_quiet ((go_at_call 153; exact Calls.quiet_of_same (LR _)))
          have hB5 : Blk (W.drewN nq) g 21 (runeBlk m tl) := hBq
          have cr5 : (W.drewN nq).cell? ⟨g, pr, none⟩ = some (.int .i32 (XR : Int)) := cr
          have cd5 : (W.drewN nq).cell? ⟨g, p1, none⟩ = some (.int .i32 (X1 : Int)) := c1q
          have hon5 : Only g w (W.drewN nq) := honq.drewN nq
          clear hBq honq cr
          generalize W.drewN nq = V at *
          have f1 := hB5.free pr
          have hB6 := hB5.set_ pr (.int .i32 (X1 : Int))
          rw [runeBlk_set _ _ _ _ (show pr < m.length by rw [HML.out]; omega)] at hB6
          have cd6 := (hB6.cell p1).trans (runeBlk_get _ tl (by rw [List.length_set, HML.out]; omega))
          rw [getD_set _ _ _ _ (show pr < m.length by rw [HML.out]; omega), if_neg (by omega), HX1.out] at cd6
          have f2 := hB6.free p1
          have hB7 := hB6.set_ p1 (.int .i32 (XR : Int))
          rw [runeBlk_set _ _ _ _ (show p1 < (m.set pr X1).length by rw [List.length_set, HML.out]; omega)] at hB7
          have hsw : (m.set pr X1).set p1 XR = swapAt m pr p1 := by rw [swapAt, HXR.out, HX1.out]
          rw [hsw] at hB7
          clear hsw hd5 LR
          go_wp2_with fail
          go_region
          go_wp2
          go_roundw
          case rel =>
            have hprf : pr = f + r := HPR.out
            have hpdf : p1 = f + d1 := HPd1.out
            have hdd := HDd1.out
            refine ⟨d1, swapAt m pr p1, by omega, by omega, by go_num, hB7, HS.out.trans (Sub.swap (by omega) (by omega) (by omega) (by omega) (by rw [HML.out]; omega)), ?_, ((hon5.set_ _ _).set_ _ _).drew⟩
            have h5 := HXR.out
            have h6 := HX1.out
            rw [hprf, hpdf] at *
            exact HH.out.step hlr (by omega) (by omega) (by rw [HML.out]; omega) (by rw [h6]; exact HMAX.out) (by rw [h5, h6]; exact hx)
          case measure => have := HDd1.out; simp [intOf]; omega
        · have hd5 : decide (XR < X1) = false := by simpa using hx
          have LR := fun W => less_q XR X1 false W xr x1 hd5
          go_wp2_with fail
          go_quiet ((go_at_call 153; exact Calls.quiet_of_same (LR _)))
          go_wp2
          go_end0
          exact ⟨m, rfl, hBq, HS.out, HH.out.done (fun c h1 h2 => by
            have := HMAX.out c h1 h2
            rw [← HPR.out, HXR.out]
            omega), honq.drewN _⟩
    · have hg1 : decide ((hi : Int) ≤ (d1 : Int)) = true := by simp; omega
      clear hd1
      go_wp2
      go_end0
      exact ⟨m, rfl, hBm, HS.out, HH.out.done (fun c h1 h2 => by omega), hon⟩
end Go.Proofs.YtccbofaefpbhlaaDoor
