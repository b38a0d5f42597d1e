/-
  A partial insertion sort at runes.
-/
import Derived.Test.YtccbofaefpbhlaaDoorInsA
import Derived.Test.YtccbofaefpbhlaaDoorHeapA
namespace Go.Proofs.YtccbofaefpbhlaaDoor
set_option linter.unusedVariables false
set_option maxRecDepth 20000
open Go.RowKit Go.Lib

/-- What stands ahead of a is no greater than all between a and b: and stays so. -/
def LeastAt (a b : Nat) (l : List Nat) : Prop := 0 < a → ∀ p, a ≤ p → p < b → l.getD (a - 1) 0 ≤ l.getD p 0
theorem Sub.least {a b : Nat} {l m : List Nat} (h : Sub a b m l) (hl : LeastAt a b l) (ha : 0 < a) (p : Nat) (h1 : a ≤ p) (h2 : p < b) : m.getD (a - 1) 0 ≤ m.getD p 0 := by
  obtain ⟨q, q1, q2, q3⟩ := h.2.2 p h1 h2
  rw [q3, h.2.1 (a - 1) (.inl (by omega))]
  exact hl ha q q1 q2
theorem OrdIn.above {a i j jm : Nat} {m : List Nat} (h : OrdIn a i m) (h1 : i ≤ j) (h2 : i ≤ jm) (hj : j < m.length) (hjm : jm < m.length) : OrdIn a i (swapAt m j jm) := fun p q h0 hp hq => by
  rw [swapAt_getD _ _ _ _ hj hjm, swapAt_getD _ _ _ _ hj hjm, if_neg (by omega), if_neg (by omega), if_neg (by omega), if_neg (by omega)]
  exact h p q h0 hp hq
theorem OrdIn.snoc {a i : Nat} {m : List Nat} (h : OrdIn a i m) (hx : m.getD (i - 1) 0 ≤ m.getD i 0) : OrdIn a (i + 1) m := fun p q h0 hp hq => by
  by_cases e : q = i
  · subst e
    by_cases e2 : p = q - 1
    · rw [e2]; exact hx
    · exact Nat.le_trans (h p (q - 1) h0 (by omega) (by omega)) hx
  · exact h p q h0 hp (by omega)
def RetPins (a b g : Nat) (l : List Nat) (tl : List Value) (w : World) (e : Ending) (w' : World) : Prop :=
  ∃ (bb : Bool) (m : List Nat), e = .returned (.bool bb) ∧ Blk w' g 21 (runeBlk m tl) ∧ Sub a b m l ∧ (bb = true → OrdIn a b m) ∧ Only g w w'

set_option maxHeartbeats 8000000 in
theorem pins_any (g n c a b : Nat) (l : List Nat) (tl : List Value) (w : World) (hB : Blk w g 21 (runeBlk l tl)) (hl : l.length = n) (hb : ∀ x ∈ l, x < 2147483648) (hn : n ≤ 1000000000) (hab : a < b) (hbn : b ≤ n) (hpre : LeastAt a b l) :
    Calls Tryd.prog 152 #[.slice (some ⟨g, 0, none⟩) n c, .int .i64 a, .int .i64 b] w (RetPins a b g l tl w) := by
  have HB := Lib.hid hb
  have HL := Lib.hid hl
  have HPRE := Lib.hid hpre
  obtain ⟨M, hM⟩ : ∃ M, M = b - a := ⟨_, rfl⟩
  have e0 : (b : Int) - (a : Int) = (M : Int) := by omega
  obtain ⟨i0, hi0⟩ : ∃ i0, i0 = a + 1 := ⟨_, rfl⟩
  have e1 : (a : Int) + 1 = (i0 : Int) := by omega
  have hi0b : i0 ≤ b := by omega
  have hai0 : a < i0 := by omega
  have hbb : b ≤ 1000000000 := by omega
  have HIZ := Lib.hid hi0
  clear hb hl hpre hM hi0
  go_enter Tryd.func152, Tryd.ntmps152
  go_wp2
  go_loopw [7, 8] (fun t u wr => ∃ (i k : Nat) (m : List Nat), a < i ∧ i ≤ b ∧ k ≤ 5 ∧ t = .int .i64 (i : Int) ∧ u = .int .i64 (k : Int) ∧ Blk wr g 21 (runeBlk m tl) ∧ Hid (Sub a b m l) ∧ Hid (OrdIn a i m) ∧ Only g w wr) (fun _ u _ => 5 - (intOf u).toNat)
  case atStart => exact ⟨i0, 0, l, hai0, hi0b, by omega, rfl, rfl, hB, Sub.refl _ _ _, fun p q h0 hp hq => by have := HIZ.out; omega, Only.refl _ _⟩
  case round =>
    clear hB e1 hi0b hai0 HIZ
    obtain ⟨i, k, m, hai, hib, hk5, rfl, rfl, hBm, HS, HO, hon⟩ := hrel
    by_cases hk : k < 5
    · have HML : Hid (m.length = n) := HS.out.length.trans HL.out
      have HMB : Hid (∀ x ∈ m, x < 2147483648) := fun x hx => HB.out x (HS.out.1.mem_iff.1 hx)
      generalize wr = W1 at *
      go_wp2
      go_loopw [7] (fun t wr => ∃ i : Nat, a < i ∧ i ≤ b ∧ t = .int .i64 (i : Int) ∧ Blk wr g 21 (runeBlk m tl) ∧ Hid (OrdIn a i m) ∧ Only g w wr) (fun t _ => b - (intOf t).toNat)
      case atStart => exact ⟨i, hai, hib, rfl, hBm, HO.out, hon⟩
      case round =>
        clear hBm HO hon hai hib
        obtain ⟨i, hai, hib, rfl, hBm, HO, hon⟩ := hrel
        by_cases hlt : i < b
        · have gib : decide ((i : Int) < (b : Int)) = true := by simp; omega
          have gne : ((i : Int) == (b : Int)) = false := by simp; omega
          obtain ⟨q, hq⟩ : ∃ q, q = i - 1 := ⟨_, rfl⟩
          have e2 : (i : Int) - 1 = (q : Int) := by omega
          have HQ : Hid (i = q + 1) := by rw [Hid]; omega
          have hqi : q < i := by omega
          have haq : a ≤ q := by omega
          have bi : i < n := by omega
          clear hq
          have c1 := (hBm.cell i).trans (runeBlk_get m tl (by rw [HML.out]; omega))
          have c0 := (hBm.cell q).trans (runeBlk_get m tl (by rw [HML.out]; omega))
          have x1 := lt_of_mem_getD' HMB.out (show i < m.length by rw [HML.out]; omega)
          have x0 := lt_of_mem_getD' HMB.out (show q < m.length by rw [HML.out]; omega)
          obtain ⟨X1, hX1⟩ : ∃ X, m.getD i 0 = X := ⟨_, rfl⟩
          obtain ⟨X0, hX0⟩ : ∃ X, m.getD q 0 = X := ⟨_, rfl⟩
          rw [hX1] at c1 x1
          rw [hX0] at c0 x0
          have H1 := Lib.hid hX1
          have H0 := Lib.hid hX0
          clear hX1 hX0
          by_cases hx : X1 < X0
          · have hd : decide (X1 < X0) = true := by simpa using hx
            have LQ := fun W => less_q X1 X0 true W x1 x0 hd
            go_wp2_with fail
            go_quiet ((go_at_call 153; exact Calls.quiet_of_same (LQ _)))
            have hBq : Blk (wr.drewN nq) g 21 (runeBlk m tl) := hBm
            have c1q : (wr.drewN nq).cell? ⟨g, i, none⟩ = some (.int .i32 (X1 : Int)) := c1
            have c0q : (wr.drewN nq).cell? ⟨g, q, none⟩ = some (.int .i32 (X0 : Int)) := c0
            have honq : Only g w (wr.drewN nq) := hon.drewN nq
            clear hBm c1 c0 hon LQ hd
            generalize wr.drewN nq = W at *
            by_cases h50 : M < 50
            · go_wp2
              go_ret
              exact ⟨false, m, rfl, hBq, HS.out, (fun h => by cases h), honq⟩
            · have f1 := hBq.free i
              have hB1 := hBq.set_ i (.int .i32 (X0 : Int))
              rw [runeBlk_set _ _ _ _ (show i < m.length by rw [HML.out]; omega)] at hB1
              have c0' := (hB1.cell q).trans (runeBlk_get _ tl (by rw [List.length_set, HML.out]; omega))
              rw [getD_set _ _ _ _ (show i < m.length by rw [HML.out]; omega), if_neg (by omega), H0.out] at c0'
              have f0' := hB1.free q
              have hB2 := hB1.set_ q (.int .i32 (X1 : Int))
              rw [runeBlk_set _ _ _ _ (show q < (m.set i X0).length by rw [List.length_set, HML.out]; omega)] at hB2
              have hsw : (m.set i X0).set q X1 = swapAt m i q := by rw [swapAt, H1.out, H0.out]
              rw [hsw] at hB2
              have on2 := ((honq.set_ i (.int .i32 (X0 : Int))).set_ q (.int .i32 (X1 : Int))).drew
              have HS2 : Hid (Sub a b (swapAt m i q) l) := HS.out.trans (Sub.swap (by omega) (by omega) (by omega) (by omega) (by rw [HML.out]; omega))
              have HU2 : Hid (OrdBu a q q (swapAt m i q)) := fun p p2 h0 hp hp2 hne => by
                have := HQ.out
                rw [swapAt_getD _ _ _ _ (by rw [HML.out]; omega) (by rw [HML.out]; omega), swapAt_getD _ _ _ _ (by rw [HML.out]; omega) (by rw [HML.out]; omega), if_neg (by omega), if_neg (by omega), if_neg (by omega), if_neg (by omega)]
                exact HO.out p p2 h0 hp (by omega)
              clear HS HO
              clear hsw
              go_wp2_with fail
              go_region
              have hBn := hB2.drew
              clear hB2 hB1 hBq honq c1q c0q f1 f0' c0'
              generalize ((W.setCell ⟨g, i, none⟩ (.int .i32 (X0 : Int))).setCell ⟨g, q, none⟩ (.int .i32 (X1 : Int))).drew = W2 at *
              generalize swapAt m i q = m2 at *
              clear HML HMB H1 H0 hx x1 x0
              by_cases hai : a + 2 ≤ i
              · obtain ⟨da, hda⟩ : ∃ da, da = i - a := ⟨_, rfl⟩
                have e5 : (i : Int) - (a : Int) = (da : Int) := by omega
                have hda2 : 2 ≤ da := by omega
                clear hda
                go_wp2
                go_loopw [9] (fun t wr => ∃ (j : Nat) (m : List Nat), a ≤ j ∧ j ≤ q ∧ t = .int .i64 (j : Int) ∧ Blk wr g 21 (runeBlk m tl) ∧ Hid (Sub a b m l) ∧ Hid (OrdBu a q j m) ∧ Only g w wr) (fun t _ => (intOf t).toNat)
                case atStart => exact ⟨q, m2, by omega, Nat.le_refl _, by go_num, hBn, HS2.out, HU2.out, on2⟩
                case round =>
                  clear hBn HS2 HU2 on2
                  obtain ⟨j, m, haj, hjq, rfl, hBm, HS, HO, hon⟩ := hrel
                  by_cases hj0 : j = 0
                  · have HO2 : Hid (OrdIn a i m) := by
                      have := HO.out
                      rw [show j = a by omega] at this
                      rw [HQ.out]; exact this.first
                    have hj1 : ¬ (1 : Int) ≤ (j : Int) := by omega
                    have HS2 := HS
                    have on2 := hon
                    have hBn := hBm
                    obtain ⟨m2, hm2⟩ : ∃ m2, m2 = m := ⟨_, rfl⟩
                    rw [← hm2] at HS2 HO2 hBn
                    clear hm2 HS hon hBm HO

                    by_cases hbi : i + 2 ≤ b
                    · obtain ⟨db, hdb⟩ : ∃ db, db = b - i := ⟨_, rfl⟩
                      have e7 : (b : Int) - (i : Int) = (db : Int) := by omega
                      have hdb2 : 2 ≤ db := by omega
                      clear hdb
                      go_wp2
                      go_loopw [10] (fun t wr => ∃ (j : Nat) (m : List Nat), i < j ∧ j ≤ b ∧ t = .int .i64 (j : Int) ∧ Blk wr g 21 (runeBlk m tl) ∧ Hid (Sub a b m l) ∧ Hid (OrdIn a i m) ∧ Only g w wr) (fun t _ => b - (intOf t).toNat)
                      case atStart => exact ⟨i + 1, m2, by omega, by omega, by go_num, hBn, HS2.out, HO2.out, on2⟩
                      case round =>
                        clear hBn HS2 HO2 on2
                        obtain ⟨j, m, hij, hjb, rfl, hBm, HS, HO, hon⟩ := hrel
                        by_cases hjb2 : j < b
                        · have HML : Hid (m.length = n) := HS.out.length.trans HL.out
                          have HMB : Hid (∀ x ∈ m, x < 2147483648) := fun x hx => HB.out x (HS.out.1.mem_iff.1 hx)
                          obtain ⟨jm, hjm⟩ : ∃ jm, jm = j - 1 := ⟨_, rfl⟩
                          have e8 : (j : Int) - 1 = (jm : Int) := by omega
                          have hjmj : jm < j := by omega
                          have hijm : i ≤ jm := by omega
                          have bj : j < n := by omega
                          clear hjm
                          have c1 := (hBm.cell j).trans (runeBlk_get m tl (by rw [HML.out]; omega))
                          have c0 := (hBm.cell jm).trans (runeBlk_get m tl (by rw [HML.out]; omega))
                          have x1 := lt_of_mem_getD' HMB.out (show j < m.length by rw [HML.out]; omega)
                          have x0 := lt_of_mem_getD' HMB.out (show jm < m.length by rw [HML.out]; omega)
                          obtain ⟨X1, hX1⟩ : ∃ X, m.getD j 0 = X := ⟨_, rfl⟩
                          obtain ⟨X0, hX0⟩ : ∃ X, m.getD jm 0 = X := ⟨_, rfl⟩
                          rw [hX1] at c1 x1
                          rw [hX0] at c0 x0
                          have H1 := Lib.hid hX1
                          have H0 := Lib.hid hX0
                          clear hX1 hX0
                          by_cases hx : X1 < X0
                          · have hd : decide (X1 < X0) = true := by simpa using hx
                            have LQ := fun W => less_q X1 X0 true W x1 x0 hd
                            go_wp2_with fail
                            go_quiet ((go_at_call 153; exact Calls.quiet_of_same (LQ _)))
                            have hBq : Blk (wr.drewN nq) g 21 (runeBlk m tl) := hBm
                            have c1q : (wr.drewN nq).cell? ⟨g, j, none⟩ = some (.int .i32 (X1 : Int)) := c1
                            have c0q : (wr.drewN nq).cell? ⟨g, jm, none⟩ = some (.int .i32 (X0 : Int)) := c0
                            have honq : Only g w (wr.drewN nq) := hon.drewN nq
                            clear hBm c1 c0 hon LQ hd
                            generalize wr.drewN nq = W at *
                            have f1 := hBq.free j
                            have hB1 := hBq.set_ j (.int .i32 (X0 : Int))
                            rw [runeBlk_set _ _ _ _ (show j < m.length by rw [HML.out]; omega)] at hB1
                            have c0' := (hB1.cell jm).trans (runeBlk_get _ tl (by rw [List.length_set, HML.out]; omega))
                            rw [getD_set _ _ _ _ (show j < m.length by rw [HML.out]; omega), if_neg (by omega), H0.out] at c0'
                            have f0' := hB1.free jm
                            have hB2 := hB1.set_ jm (.int .i32 (X1 : Int))
                            rw [runeBlk_set _ _ _ _ (show jm < (m.set j X0).length by rw [List.length_set, HML.out]; omega)] at hB2
                            have hsw : (m.set j X0).set jm X1 = swapAt m j jm := by rw [swapAt, H1.out, H0.out]
                            rw [hsw] at hB2
                            have on2 := ((honq.set_ j (.int .i32 (X0 : Int))).set_ jm (.int .i32 (X1 : Int))).drew
                            have HS2 : Hid (Sub a b (swapAt m j jm) l) := HS.out.trans (Sub.swap (by omega) (by omega) (by omega) (by omega) (by rw [HML.out]; omega))
                            have HO2 : Hid (OrdIn a i (swapAt m j jm)) := HO.out.above (by omega) (by omega) (by rw [HML.out]; omega) (by rw [HML.out]; omega)
                            clear hsw
                            go_wp2_with fail
                            go_region
                            have hBn := hB2.drew
                            clear hB2 hB1 hBq honq c1q c0q f1 f0' c0'
                            generalize ((W.setCell ⟨g, j, none⟩ (.int .i32 (X0 : Int))).setCell ⟨g, jm, none⟩ (.int .i32 (X1 : Int))).drew = W2 at *
                            go_wp2
                            go_roundw
                            case rel => first | exact ⟨j + 1, _, by omega, by omega, by go_num, hBn, HS2.out, HO2.out, on2⟩ | ((repeat apply Exists.intro); exact ⟨⟨j + 1, _, by omega, by omega, by go_num, hBn, HS2.out, HO2.out, on2⟩, rfl⟩)
                            case measure => simp [intOf]; omega
                          · have hd : decide (X1 < X0) = false := by simpa using hx
                            have LQ := fun W => less_q X1 X0 false W x1 x0 hd
                            go_wp2_with fail
                            go_quiet ((go_at_call 153; exact Calls.quiet_of_same (LQ _)))
                            have hBq : Blk (wr.drewN nq) g 21 (runeBlk m tl) := hBm
                            have c1q : (wr.drewN nq).cell? ⟨g, j, none⟩ = some (.int .i32 (X1 : Int)) := c1
                            have c0q : (wr.drewN nq).cell? ⟨g, jm, none⟩ = some (.int .i32 (X0 : Int)) := c0
                            have honq : Only g w (wr.drewN nq) := hon.drewN nq
                            clear hBm c1 c0 hon LQ hd
                            generalize wr.drewN nq = W at *
                            clear c1q c0q
                            go_wp2
                            go_roundw
                            case rel => first | exact ⟨i, k + 1, m, by omega, by omega, by omega, rfl, by go_num, hBq, HS.out, HO.out, honq⟩ | ((repeat apply Exists.intro); exact ⟨⟨i, k + 1, m, by omega, by omega, by omega, rfl, by go_num, hBq, HS.out, HO.out, honq⟩, rfl⟩)
                            case measure => simp [intOf]; omega
                        · go_wp2
                          go_roundw
                          case rel => first | exact ⟨i, k + 1, m, by omega, by omega, by omega, rfl, by go_num, hBm, HS.out, HO.out, hon⟩ | ((repeat apply Exists.intro); exact ⟨⟨i, k + 1, m, by omega, by omega, by omega, rfl, by go_num, hBm, HS.out, HO.out, hon⟩, rfl⟩)
                          case measure => simp [intOf]; omega
                    · obtain ⟨db, hdb⟩ : ∃ db, db = b - i := ⟨_, rfl⟩
                      have e7 : (b : Int) - (i : Int) = (db : Int) := by omega
                      have hdb2 : db < 2 := by omega
                      clear hdb
                      go_wp2
                      go_roundw
                      case rel => first | exact ⟨i, k + 1, m2, by omega, by omega, by omega, rfl, by go_num, hBn, HS2.out, HO2.out, on2⟩ | ((repeat apply Exists.intro); exact ⟨⟨i, k + 1, m2, by omega, by omega, by omega, rfl, by go_num, hBn, HS2.out, HO2.out, on2⟩, rfl⟩)
                      case measure => simp [intOf]; omega
                  · have HML : Hid (m.length = n) := HS.out.length.trans HL.out
                    have HMB : Hid (∀ x ∈ m, x < 2147483648) := fun x hx => HB.out x (HS.out.1.mem_iff.1 hx)
                    obtain ⟨jm, hjm⟩ : ∃ jm, jm = j - 1 := ⟨_, rfl⟩
                    have e8 : (j : Int) - 1 = (jm : Int) := by omega
                    have HJM : Hid (j = jm + 1) := by rw [Hid]; omega
                    have hjmj : jm < j := by omega
                    have bj : j < n := by omega
                    have hj1 : (1 : Int) ≤ (j : Int) := by omega
                    clear hjm
                    have c1 := (hBm.cell j).trans (runeBlk_get m tl (by rw [HML.out]; omega))
                    have c0 := (hBm.cell jm).trans (runeBlk_get m tl (by rw [HML.out]; omega))
                    have x1 := lt_of_mem_getD' HMB.out (show j < m.length by rw [HML.out]; omega)
                    have x0 := lt_of_mem_getD' HMB.out (show jm < m.length by rw [HML.out]; omega)
                    obtain ⟨X1, hX1⟩ : ∃ X, m.getD j 0 = X := ⟨_, rfl⟩
                    obtain ⟨X0, hX0⟩ : ∃ X, m.getD jm 0 = X := ⟨_, rfl⟩
                    rw [hX1] at c1 x1
                    rw [hX0] at c0 x0
                    have H1 := Lib.hid hX1
                    have H0 := Lib.hid hX0
                    clear hX1 hX0
                    by_cases hx : X1 < X0
                    · have hajm : a ≤ jm := by
                        rcases Nat.lt_or_ge jm a with h | h
                        · have hja : j = a := by have := HJM.out; omega
                          have := HS.out.least (HPRE.out) (by omega) j (by omega) (by omega)
                          rw [show a - 1 = jm by have := HJM.out; omega, H0.out, H1.out] at this
                          omega
                        · exact h
                      have hd : decide (X1 < X0) = true := by simpa using hx
                      have LQ := fun W => less_q X1 X0 true W x1 x0 hd
                      go_wp2_with fail
                      go_quiet ((go_at_call 153; exact Calls.quiet_of_same (LQ _)))
                      have hBq : Blk (wr.drewN nq) g 21 (runeBlk m tl) := hBm
                      have c1q : (wr.drewN nq).cell? ⟨g, j, none⟩ = some (.int .i32 (X1 : Int)) := c1
                      have c0q : (wr.drewN nq).cell? ⟨g, jm, none⟩ = some (.int .i32 (X0 : Int)) := c0
                      have honq : Only g w (wr.drewN nq) := hon.drewN nq
                      clear hBm c1 c0 hon LQ hd
                      generalize wr.drewN nq = W at *
                      have f1 := hBq.free j
                      have hB1 := hBq.set_ j (.int .i32 (X0 : Int))
                      rw [runeBlk_set _ _ _ _ (show j < m.length by rw [HML.out]; omega)] at hB1
                      have c0' := (hB1.cell jm).trans (runeBlk_get _ tl (by rw [List.length_set, HML.out]; omega))
                      rw [getD_set _ _ _ _ (show j < m.length by rw [HML.out]; omega), if_neg (by omega), H0.out] at c0'
                      have f0' := hB1.free jm
                      have hB2 := hB1.set_ jm (.int .i32 (X1 : Int))
                      rw [runeBlk_set _ _ _ _ (show jm < (m.set j X0).length by rw [List.length_set, HML.out]; omega)] at hB2
                      have hsw : (m.set j X0).set jm X1 = swapAt m j jm := by rw [swapAt, H1.out, H0.out]
                      rw [hsw] at hB2
                      have on2 := ((honq.set_ j (.int .i32 (X0 : Int))).set_ jm (.int .i32 (X1 : Int))).drew
                      have HS2 : Hid (Sub a b (swapAt m j jm) l) := HS.out.trans (Sub.swap (by omega) (by omega) (by omega) (by omega) (by rw [HML.out]; omega))
                      have HU2 : Hid (OrdBu a q jm (swapAt m j jm)) := by
                        have h0 := HO.out
                        have h1 := H1.out
                        have hjj := HJM.out
                        rw [hjj] at h0 h1 ⊢
                        exact h0.swap (by rw [h1, H0.out]; exact hx) hajm (by omega) (by rw [HML.out]; omega)
                      clear hsw
                      go_wp2_with fail
                      go_region
                      have hBn := hB2.drew
                      clear hB2 hB1 hBq honq c1q c0q f1 f0' c0'
                      generalize ((W.setCell ⟨g, j, none⟩ (.int .i32 (X0 : Int))).setCell ⟨g, jm, none⟩ (.int .i32 (X1 : Int))).drew = W2 at *
                      go_wp2
                      go_roundw
                      case rel => first | exact ⟨jm, _, hajm, by omega, by go_num, hBn, HS2.out, HU2.out, on2⟩ | ((repeat apply Exists.intro); exact ⟨⟨jm, _, hajm, by omega, by go_num, hBn, HS2.out, HU2.out, on2⟩, rfl⟩)
                      case measure => simp [intOf]; omega
                    · have HO2 : Hid (OrdIn a i m) := by
                        have h0 := HO.out
                        rw [HQ.out]
                        by_cases hja : j = a
                        · rw [hja] at h0
                          exact h0.first
                        · have h1 := H1.out
                          have hjj := HJM.out
                          rw [hjj] at h0 h1
                          exact h0.ord (by rw [h1, H0.out]; omega)
                      have hd : decide (X1 < X0) = false := by simpa using hx
                      have LQ := fun W => less_q X1 X0 false W x1 x0 hd
                      go_wp2_with fail
                      go_quiet ((go_at_call 153; exact Calls.quiet_of_same (LQ _)))
                      have hBq : Blk (wr.drewN nq) g 21 (runeBlk m tl) := hBm
                      have c1q : (wr.drewN nq).cell? ⟨g, j, none⟩ = some (.int .i32 (X1 : Int)) := c1
                      have c0q : (wr.drewN nq).cell? ⟨g, jm, none⟩ = some (.int .i32 (X0 : Int)) := c0
                      have honq : Only g w (wr.drewN nq) := hon.drewN nq
                      clear hBm c1 c0 hon LQ hd
                      generalize wr.drewN nq = W at *
                      clear c1q c0q
                      have hBm := hBq
                      have hon := honq
                      clear hBq honq
                      have HS2 := HS
                      have on2 := hon
                      have hBn := hBm
                      obtain ⟨m2, hm2⟩ : ∃ m2, m2 = m := ⟨_, rfl⟩
                      rw [← hm2] at HS2 HO2 hBn
                      clear hm2 HS hon hBm HO

                      by_cases hbi : i + 2 ≤ b
                      · obtain ⟨db, hdb⟩ : ∃ db, db = b - i := ⟨_, rfl⟩
                        have e7 : (b : Int) - (i : Int) = (db : Int) := by omega
                        have hdb2 : 2 ≤ db := by omega
                        clear hdb
                        go_wp2
                        go_loopw [10] (fun t wr => ∃ (j : Nat) (m : List Nat), i < j ∧ j ≤ b ∧ t = .int .i64 (j : Int) ∧ Blk wr g 21 (runeBlk m tl) ∧ Hid (Sub a b m l) ∧ Hid (OrdIn a i m) ∧ Only g w wr) (fun t _ => b - (intOf t).toNat)
                        case atStart => exact ⟨i + 1, m2, by omega, by omega, by go_num, hBn, HS2.out, HO2.out, on2⟩
                        case round =>
                          clear hBn HS2 HO2 on2
                          obtain ⟨j, m, hij, hjb, rfl, hBm, HS, HO, hon⟩ := hrel
                          by_cases hjb2 : j < b
                          · have HML : Hid (m.length = n) := HS.out.length.trans HL.out
                            have HMB : Hid (∀ x ∈ m, x < 2147483648) := fun x hx => HB.out x (HS.out.1.mem_iff.1 hx)
                            obtain ⟨jm, hjm⟩ : ∃ jm, jm = j - 1 := ⟨_, rfl⟩
                            have e8 : (j : Int) - 1 = (jm : Int) := by omega
                            have hjmj : jm < j := by omega
                            have hijm : i ≤ jm := by omega
                            have bj : j < n := by omega
                            clear hjm
                            have c1 := (hBm.cell j).trans (runeBlk_get m tl (by rw [HML.out]; omega))
                            have c0 := (hBm.cell jm).trans (runeBlk_get m tl (by rw [HML.out]; omega))
                            have x1 := lt_of_mem_getD' HMB.out (show j < m.length by rw [HML.out]; omega)
                            have x0 := lt_of_mem_getD' HMB.out (show jm < m.length by rw [HML.out]; omega)
                            obtain ⟨X1, hX1⟩ : ∃ X, m.getD j 0 = X := ⟨_, rfl⟩
                            obtain ⟨X0, hX0⟩ : ∃ X, m.getD jm 0 = X := ⟨_, rfl⟩
                            rw [hX1] at c1 x1
                            rw [hX0] at c0 x0
                            have H1 := Lib.hid hX1
                            have H0 := Lib.hid hX0
                            clear hX1 hX0
                            by_cases hx : X1 < X0
                            · have hd : decide (X1 < X0) = true := by simpa using hx
                              have LQ := fun W => less_q X1 X0 true W x1 x0 hd
                              go_wp2_with fail
                              go_quiet ((go_at_call 153; exact Calls.quiet_of_same (LQ _)))
                              have hBq : Blk (wr.drewN nq) g 21 (runeBlk m tl) := hBm
                              have c1q : (wr.drewN nq).cell? ⟨g, j, none⟩ = some (.int .i32 (X1 : Int)) := c1
                              have c0q : (wr.drewN nq).cell? ⟨g, jm, none⟩ = some (.int .i32 (X0 : Int)) := c0
                              have honq : Only g w (wr.drewN nq) := hon.drewN nq
                              clear hBm c1 c0 hon LQ hd
                              generalize wr.drewN nq = W at *
                              have f1 := hBq.free j
                              have hB1 := hBq.set_ j (.int .i32 (X0 : Int))
                              rw [runeBlk_set _ _ _ _ (show j < m.length by rw [HML.out]; omega)] at hB1
                              have c0' := (hB1.cell jm).trans (runeBlk_get _ tl (by rw [List.length_set, HML.out]; omega))
                              rw [getD_set _ _ _ _ (show j < m.length by rw [HML.out]; omega), if_neg (by omega), H0.out] at c0'
                              have f0' := hB1.free jm
                              have hB2 := hB1.set_ jm (.int .i32 (X1 : Int))
                              rw [runeBlk_set _ _ _ _ (show jm < (m.set j X0).length by rw [List.length_set, HML.out]; omega)] at hB2
                              have hsw : (m.set j X0).set jm X1 = swapAt m j jm := by rw [swapAt, H1.out, H0.out]
                              rw [hsw] at hB2
                              have on2 := ((honq.set_ j (.int .i32 (X0 : Int))).set_ jm (.int .i32 (X1 : Int))).drew
                              have HS2 : Hid (Sub a b (swapAt m j jm) l) := HS.out.trans (Sub.swap (by omega) (by omega) (by omega) (by omega) (by rw [HML.out]; omega))
                              have HO2 : Hid (OrdIn a i (swapAt m j jm)) := HO.out.above (by omega) (by omega) (by rw [HML.out]; omega) (by rw [HML.out]; omega)
                              clear hsw
                              go_wp2_with fail
                              go_region
                              have hBn := hB2.drew
                              clear hB2 hB1 hBq honq c1q c0q f1 f0' c0'
                              generalize ((W.setCell ⟨g, j, none⟩ (.int .i32 (X0 : Int))).setCell ⟨g, jm, none⟩ (.int .i32 (X1 : Int))).drew = W2 at *
                              go_wp2
                              go_roundw
                              case rel => first | exact ⟨j + 1, _, by omega, by omega, by go_num, hBn, HS2.out, HO2.out, on2⟩ | ((repeat apply Exists.intro); exact ⟨⟨j + 1, _, by omega, by omega, by go_num, hBn, HS2.out, HO2.out, on2⟩, rfl⟩)
                              case measure => simp [intOf]; omega
                            · have hd : decide (X1 < X0) = false := by simpa using hx
                              have LQ := fun W => less_q X1 X0 false W x1 x0 hd
                              go_wp2_with fail
                              go_quiet ((go_at_call 153; exact Calls.quiet_of_same (LQ _)))
                              have hBq : Blk (wr.drewN nq) g 21 (runeBlk m tl) := hBm
                              have c1q : (wr.drewN nq).cell? ⟨g, j, none⟩ = some (.int .i32 (X1 : Int)) := c1
                              have c0q : (wr.drewN nq).cell? ⟨g, jm, none⟩ = some (.int .i32 (X0 : Int)) := c0
                              have honq : Only g w (wr.drewN nq) := hon.drewN nq
                              clear hBm c1 c0 hon LQ hd
                              generalize wr.drewN nq = W at *
                              clear c1q c0q
                              go_wp2
                              go_roundw
                              case rel => first | exact ⟨i, k + 1, m, by omega, by omega, by omega, rfl, by go_num, hBq, HS.out, HO.out, honq⟩ | ((repeat apply Exists.intro); exact ⟨⟨i, k + 1, m, by omega, by omega, by omega, rfl, by go_num, hBq, HS.out, HO.out, honq⟩, rfl⟩)
                              case measure => simp [intOf]; omega
                          · go_wp2
                            go_roundw
                            case rel => first | exact ⟨i, k + 1, m, by omega, by omega, by omega, rfl, by go_num, hBm, HS.out, HO.out, hon⟩ | ((repeat apply Exists.intro); exact ⟨⟨i, k + 1, m, by omega, by omega, by omega, rfl, by go_num, hBm, HS.out, HO.out, hon⟩, rfl⟩)
                            case measure => simp [intOf]; omega
                      · obtain ⟨db, hdb⟩ : ∃ db, db = b - i := ⟨_, rfl⟩
                        have e7 : (b : Int) - (i : Int) = (db : Int) := by omega
                        have hdb2 : db < 2 := by omega
                        clear hdb
                        go_wp2
                        go_roundw
                        case rel => first | exact ⟨i, k + 1, m2, by omega, by omega, by omega, rfl, by go_num, hBn, HS2.out, HO2.out, on2⟩ | ((repeat apply Exists.intro); exact ⟨⟨i, k + 1, m2, by omega, by omega, by omega, rfl, by go_num, hBn, HS2.out, HO2.out, on2⟩, rfl⟩)
                        case measure => simp [intOf]; omega
              · obtain ⟨da, hda⟩ : ∃ da, da = i - a := ⟨_, rfl⟩
                have e5 : (i : Int) - (a : Int) = (da : Int) := by omega
                have hda2 : da < 2 := by omega
                have HO2 : Hid (OrdIn a i m2) := fun p p' h0 hp hp' => by omega
                clear hda HU2
                by_cases hbi : i + 2 ≤ b
                · obtain ⟨db, hdb⟩ : ∃ db, db = b - i := ⟨_, rfl⟩
                  have e7 : (b : Int) - (i : Int) = (db : Int) := by omega
                  have hdb2 : 2 ≤ db := by omega
                  clear hdb
                  go_wp2
                  go_loopw [10] (fun t wr => ∃ (j : Nat) (m : List Nat), i < j ∧ j ≤ b ∧ t = .int .i64 (j : Int) ∧ Blk wr g 21 (runeBlk m tl) ∧ Hid (Sub a b m l) ∧ Hid (OrdIn a i m) ∧ Only g w wr) (fun t _ => b - (intOf t).toNat)
                  case atStart => exact ⟨i + 1, m2, by omega, by omega, by go_num, hBn, HS2.out, HO2.out, on2⟩
                  case round =>
                    clear hBn HS2 HO2 on2
                    obtain ⟨j, m, hij, hjb, rfl, hBm, HS, HO, hon⟩ := hrel
                    by_cases hjb2 : j < b
                    · have HML : Hid (m.length = n) := HS.out.length.trans HL.out
                      have HMB : Hid (∀ x ∈ m, x < 2147483648) := fun x hx => HB.out x (HS.out.1.mem_iff.1 hx)
                      obtain ⟨jm, hjm⟩ : ∃ jm, jm = j - 1 := ⟨_, rfl⟩
                      have e8 : (j : Int) - 1 = (jm : Int) := by omega
                      have hjmj : jm < j := by omega
                      have hijm : i ≤ jm := by omega
                      have bj : j < n := by omega
                      clear hjm
                      have c1 := (hBm.cell j).trans (runeBlk_get m tl (by rw [HML.out]; omega))
                      have c0 := (hBm.cell jm).trans (runeBlk_get m tl (by rw [HML.out]; omega))
                      have x1 := lt_of_mem_getD' HMB.out (show j < m.length by rw [HML.out]; omega)
                      have x0 := lt_of_mem_getD' HMB.out (show jm < m.length by rw [HML.out]; omega)
                      obtain ⟨X1, hX1⟩ : ∃ X, m.getD j 0 = X := ⟨_, rfl⟩
                      obtain ⟨X0, hX0⟩ : ∃ X, m.getD jm 0 = X := ⟨_, rfl⟩
                      rw [hX1] at c1 x1
                      rw [hX0] at c0 x0
                      have H1 := Lib.hid hX1
                      have H0 := Lib.hid hX0
                      clear hX1 hX0
                      by_cases hx : X1 < X0
                      · have hd : decide (X1 < X0) = true := by simpa using hx
                        have LQ := fun W => less_q X1 X0 true W x1 x0 hd
                        go_wp2_with fail
                        go_quiet ((go_at_call 153; exact Calls.quiet_of_same (LQ _)))
                        have hBq : Blk (wr.drewN nq) g 21 (runeBlk m tl) := hBm
                        have c1q : (wr.drewN nq).cell? ⟨g, j, none⟩ = some (.int .i32 (X1 : Int)) := c1
                        have c0q : (wr.drewN nq).cell? ⟨g, jm, none⟩ = some (.int .i32 (X0 : Int)) := c0
                        have honq : Only g w (wr.drewN nq) := hon.drewN nq
                        clear hBm c1 c0 hon LQ hd
                        generalize wr.drewN nq = W at *
                        have f1 := hBq.free j
                        have hB1 := hBq.set_ j (.int .i32 (X0 : Int))
                        rw [runeBlk_set _ _ _ _ (show j < m.length by rw [HML.out]; omega)] at hB1
                        have c0' := (hB1.cell jm).trans (runeBlk_get _ tl (by rw [List.length_set, HML.out]; omega))
                        rw [getD_set _ _ _ _ (show j < m.length by rw [HML.out]; omega), if_neg (by omega), H0.out] at c0'
                        have f0' := hB1.free jm
                        have hB2 := hB1.set_ jm (.int .i32 (X1 : Int))
                        rw [runeBlk_set _ _ _ _ (show jm < (m.set j X0).length by rw [List.length_set, HML.out]; omega)] at hB2
                        have hsw : (m.set j X0).set jm X1 = swapAt m j jm := by rw [swapAt, H1.out, H0.out]
                        rw [hsw] at hB2
                        have on2 := ((honq.set_ j (.int .i32 (X0 : Int))).set_ jm (.int .i32 (X1 : Int))).drew
                        have HS2 : Hid (Sub a b (swapAt m j jm) l) := HS.out.trans (Sub.swap (by omega) (by omega) (by omega) (by omega) (by rw [HML.out]; omega))
                        have HO2 : Hid (OrdIn a i (swapAt m j jm)) := HO.out.above (by omega) (by omega) (by rw [HML.out]; omega) (by rw [HML.out]; omega)
                        clear hsw
                        go_wp2_with fail
                        go_region
                        have hBn := hB2.drew
                        clear hB2 hB1 hBq honq c1q c0q f1 f0' c0'
                        generalize ((W.setCell ⟨g, j, none⟩ (.int .i32 (X0 : Int))).setCell ⟨g, jm, none⟩ (.int .i32 (X1 : Int))).drew = W2 at *
                        go_wp2
                        go_roundw
                        case rel => first | exact ⟨j + 1, _, by omega, by omega, by go_num, hBn, HS2.out, HO2.out, on2⟩ | ((repeat apply Exists.intro); exact ⟨⟨j + 1, _, by omega, by omega, by go_num, hBn, HS2.out, HO2.out, on2⟩, rfl⟩)
                        case measure => simp [intOf]; omega
                      · have hd : decide (X1 < X0) = false := by simpa using hx
                        have LQ := fun W => less_q X1 X0 false W x1 x0 hd
                        go_wp2_with fail
                        go_quiet ((go_at_call 153; exact Calls.quiet_of_same (LQ _)))
                        have hBq : Blk (wr.drewN nq) g 21 (runeBlk m tl) := hBm
                        have c1q : (wr.drewN nq).cell? ⟨g, j, none⟩ = some (.int .i32 (X1 : Int)) := c1
                        have c0q : (wr.drewN nq).cell? ⟨g, jm, none⟩ = some (.int .i32 (X0 : Int)) := c0
                        have honq : Only g w (wr.drewN nq) := hon.drewN nq
                        clear hBm c1 c0 hon LQ hd
                        generalize wr.drewN nq = W at *
                        clear c1q c0q
                        go_wp2
                        go_roundw
                        case rel => first | exact ⟨i, k + 1, m, by omega, by omega, by omega, rfl, by go_num, hBq, HS.out, HO.out, honq⟩ | ((repeat apply Exists.intro); exact ⟨⟨i, k + 1, m, by omega, by omega, by omega, rfl, by go_num, hBq, HS.out, HO.out, honq⟩, rfl⟩)
                        case measure => simp [intOf]; omega
                    · go_wp2
                      go_roundw
                      case rel => first | exact ⟨i, k + 1, m, by omega, by omega, by omega, rfl, by go_num, hBm, HS.out, HO.out, hon⟩ | ((repeat apply Exists.intro); exact ⟨⟨i, k + 1, m, by omega, by omega, by omega, rfl, by go_num, hBm, HS.out, HO.out, hon⟩, rfl⟩)
                      case measure => simp [intOf]; omega
                · exfalso; omega
          · have hd : decide (X1 < X0) = false := by simpa using hx
            have LQ := fun W => less_q X1 X0 false W x1 x0 hd
            go_wp2_with fail
            go_quiet ((go_at_call 153; exact Calls.quiet_of_same (LQ _)))
            have hBq : Blk (wr.drewN nq) g 21 (runeBlk m tl) := hBm
            have c1q : (wr.drewN nq).cell? ⟨g, i, none⟩ = some (.int .i32 (X1 : Int)) := c1
            have c0q : (wr.drewN nq).cell? ⟨g, q, none⟩ = some (.int .i32 (X0 : Int)) := c0
            have honq : Only g w (wr.drewN nq) := hon.drewN nq
            clear hBm c1 c0 hon LQ hd
            generalize wr.drewN nq = W at *
            have HO2 : Hid (OrdIn a (i + 1) m) := HO.out.snoc (by rw [H1.out, show i - 1 = q by have := HQ.out; omega, H0.out]; omega)
            go_wp2
            go_roundw
            case rel => exact ⟨i + 1, by omega, by omega, by go_num, hBq, HO2.out, honq⟩
            case measure => simp [intOf]; omega
        · obtain rfl : i = b := by omega
          have gib : decide ((i : Int) < (i : Int)) = false := by simp
          go_wp2_with fail
          go_quiet (fail)
          go_wp2
          go_ret
          exact ⟨true, m, rfl, hBm, HS.out, (fun _ => HO.out), hon.drewN _⟩
    · obtain rfl : k = 5 := by omega
      go_wp2
      go_ret
      exact ⟨false, m, rfl, hBm, HS.out, (fun h => by cases h), hon⟩
end Go.Proofs.YtccbofaefpbhlaaDoor
