/-
  Insertion sort at runes, between two places.
-/
import Derived.Test.YtccbofaefpbhlaaDoorSiftA
namespace Go.Proofs.YtccbofaefpbhlaaDoor
set_option linter.unusedVariables false
set_option maxRecDepth 20000
open Go.RowKit Go.Lib

/-- In order from a up to place i, place j left out as the later one. -/
def OrdBu (a i j : Nat) (l : List Nat) : Prop := ∀ p q, a ≤ p → p < q → q ≤ i → q ≠ j → l.getD p 0 ≤ l.getD q 0
theorem OrdBu.first {a i : Nat} {l : List Nat} (h : OrdBu a i a l) : OrdIn a (i + 1) l := fun p q h1 hp hq => h p q h1 hp (by omega) (by omega)
theorem OrdBu.ord {a i j : Nat} {l : List Nat} (h : OrdBu a i (j + 1) l) (hx : l.getD j 0 ≤ l.getD (j + 1) 0) : OrdIn a (i + 1) l := fun p q h0 hp hq => by
  by_cases hqj : q = j + 1
  · subst hqj
    rcases Nat.lt_or_ge p j with h1 | h1
    · exact Nat.le_trans (h p j h0 h1 (by omega) (by omega)) hx
    · obtain rfl : p = j := by omega
      exact hx
  · exact h p q h0 hp (by omega) hqj
theorem OrdBu.swap {a i j : Nat} {l : List Nat} (h : OrdBu a i (j + 1) l) (hx : l.getD (j + 1) 0 < l.getD j 0) (ha : a ≤ j) (hj : j + 1 ≤ i) (hl : i < l.length) : OrdBu a i j (swapAt l (j + 1) j) := by
  intro p q h0 hp hq hn
  rw [swapAt_getD _ _ _ _ (by omega) (by omega), swapAt_getD _ _ _ _ (by omega) (by omega)]
  by_cases h1 : j = p
  · subst h1
    by_cases h2 : j + 1 = q
    · subst h2
      rw [if_pos rfl, if_neg (by omega), if_pos rfl]
      omega
    · have := h (j + 1) q (by omega) (by omega) hq (by omega)
      rw [if_pos rfl, if_neg (by omega), if_neg h2]
      exact this
  · by_cases h2 : j + 1 = p
    · subst h2
      have := h j q (by omega) (by omega) hq (by omega)
      rw [if_neg h1, if_pos rfl, if_neg (by omega), if_neg (by omega)]
      exact this
    · rw [if_neg h1, if_neg h2, if_neg (by omega)]
      by_cases h3 : j + 1 = q
      · subst h3
        rw [if_pos rfl]
        exact h p j h0 (by omega) (by omega) (by omega)
      · rw [if_neg h3]
        exact h p q h0 hp hq (by omega)

set_option maxHeartbeats 4000000 in
theorem ins_any (g n c a b : Nat) (l : List Nat) (tl : List Value) (w : World) (hB : Blk w g 21 (runeBlk l tl)) (hl : l.length = n) (hb : ∀ x ∈ l, x < 2147483648) (hn : n ≤ 1000000000) (hab : a < b) (hbn : b ≤ n) :
    Calls Tryd.prog 147 #[.slice (some ⟨g, 0, none⟩) n c, .int .i64 a, .int .i64 b] w (RetSub (OrdIn a b) a b g l tl w) := by
  have HB := Lib.hid hb
  have HL := Lib.hid hl
  clear hb hl
  go_enter Tryd.func147, Tryd.ntmps147
  go_wp2
  go_loopw [6] (fun t wr => ∃ (i : Nat) (m : List Nat), a + 1 ≤ i ∧ i ≤ b ∧ t = .int .i64 (i : Int) ∧ Blk wr g 21 (runeBlk m tl) ∧ Hid (Sub a b m l) ∧ Hid (OrdIn a i m) ∧ Only g w wr) (fun t _ => b - (intOf t).toNat)
  case atStart => exact ⟨a + 1, l, Nat.le_refl _, hab, by go_num, hB, Sub.refl _ _ _, fun p q h0 hp hq => by omega, Only.refl _ _⟩
  case round =>
    obtain ⟨i, m, hi1, hin, rfl, hBm, HS, HO, hon⟩ := hrel
    by_cases hlt : i < b
    · go_wp2
      go_loopw [7] (fun t wr => ∃ (j : Nat) (m : List Nat), a ≤ j ∧ j ≤ i ∧ t = .int .i64 (j : Int) ∧ Blk wr g 21 (runeBlk m tl) ∧ Hid (Sub a b m l) ∧ Hid (OrdBu a i j m) ∧ Only g w wr) (fun t _ => (intOf t).toNat)
      case atStart => exact ⟨i, m, by omega, Nat.le_refl _, rfl, hBm, HS.out, fun p q h0 hp hq hn => HO.out p q h0 hp (by omega), hon⟩
      case round =>
        clear hBm HS HO hon
        obtain ⟨j, m, haj, hji, rfl, hBm, HS, HO, hon⟩ := hrel
        have HML : Hid (m.length = n) := HS.out.length.trans HL.out
        have HMB : Hid (∀ x ∈ m, x < 2147483648) := fun x hx => HB.out x (HS.out.1.mem_iff.1 hx)
        by_cases hj0 : j = a
        · subst hj0
          have hd : decide ((j : Int) < (j : Int)) = false := by simp
          go_wp2_with fail
          go_quiet (fail)
          go_wp2
          go_roundw
          case rel => exact ⟨i + 1, m, by omega, by omega, by go_num, hBm, HS.out, HO.out.first, hon.drewN _⟩
          case measure => simp [intOf]; omega
        · obtain ⟨k, rfl⟩ : ∃ k, j = k + 1 := ⟨j - 1, by omega⟩
          have c1 := (hBm.cell (k + 1)).trans (runeBlk_get m tl (by rw [HML.out]; omega))
          have c0 := (hBm.cell k).trans (runeBlk_get m tl (by rw [HML.out]; omega))
          have x1 := lt_of_mem_getD' HMB.out (show k + 1 < m.length by rw [HML.out]; omega)
          have x0 := lt_of_mem_getD' HMB.out (show k < m.length by rw [HML.out]; omega)
          obtain ⟨X1, hX1⟩ : ∃ X, m.getD (k + 1) 0 = X := ⟨_, rfl⟩
          obtain ⟨X0, hX0⟩ : ∃ X, m.getD k 0 = X := ⟨_, rfl⟩
          rw [hX1] at c1 x1
          rw [hX0] at c0 x0
          have H1 := Lib.hid hX1
          have H0 := Lib.hid hX0
          have hsub : ((k + 1 : Nat) : Int) - 1 = (k : Int) := by omega
          have hk0 : (a : Int) < ((k + 1 : Nat) : Int) := by omega
          have hkd : decide ((a : Int) < ((k + 1 : Nat) : Int)) = true := by simp; omega
          have hkd2 : decide ((a : Int) < (k : Int) + 1) = true := by simp; omega
          have hkn : k + 1 < n := by omega
          have hka : a ≤ k := by omega
          clear hX1 hX0 hj0
          by_cases hx : X1 < X0
          · have hd : decide (X1 < X0) = true := by simpa using hx
            have LQ := fun W => less_q X1 X0 true W x1 x0 hd
            go_wp2_with fail
            go_quiet ((go_at_call 153; exact Calls.quiet_of_same (LQ _)))
            have hBq : Blk (wr.drewN nq) g 21 (runeBlk m tl) := hBm
            have c1q : (wr.drewN nq).cell? ⟨g, k + 1, none⟩ = some (.int .i32 (X1 : Int)) := c1
            have c0q : (wr.drewN nq).cell? ⟨g, k, none⟩ = some (.int .i32 (X0 : Int)) := c0
            have honq : Only g w (wr.drewN nq) := hon.drewN nq
            clear hBm c1 c0 hon
            generalize wr.drewN nq = W at *
            have f1 := hBq.free (k + 1)
            have hB1 := hBq.set_ (k + 1) (.int .i32 (X0 : Int))
            rw [runeBlk_set _ _ _ _ (show k + 1 < m.length by rw [HML.out]; exact hkn)] at hB1
            have c0' := (hB1.cell k).trans (runeBlk_get _ tl (by rw [List.length_set, HML.out]; omega))
            rw [getD_set _ _ _ _ (show k + 1 < m.length by rw [HML.out]; exact hkn), if_neg (by omega), H0.out] at c0'
            have f0' := hB1.free k
            have hB2 := hB1.set_ k (.int .i32 (X1 : Int))
            rw [runeBlk_set _ _ _ _ (show k < (m.set (k + 1) X0).length by rw [List.length_set, HML.out]; omega)] at hB2
            have hsw : (m.set (k + 1) X0).set k X1 = swapAt m (k + 1) k := by rw [swapAt, H1.out, H0.out]
            rw [hsw] at hB2
            clear hsw hd LQ
            go_wp2_with fail
            go_region
            go_wp2
            go_roundw
            case rel => exact ⟨k, swapAt m (k + 1) k, hka, by omega, by go_num, hB2, HS.out.trans (Sub.swap (by omega) (by omega) (by omega) (by omega) (by rw [HML.out]; omega)), HO.out.swap (by rw [H1.out, H0.out]; exact hx) hka (by omega) (by rw [HML.out]; omega), ((honq.set_ _ _).set_ _ _).drew⟩
            case measure => simp [intOf]
          · have hd : decide (X1 < X0) = false := by simpa using hx
            have LQ := fun W => less_q X1 X0 false W x1 x0 hd
            go_wp2_with fail
            go_quiet ((go_at_call 153; exact Calls.quiet_of_same (LQ _)))
            go_wp2
            go_roundw
            case rel => exact ⟨i + 1, m, by omega, by omega, by go_num, hBm, HS.out, HO.out.ord (by rw [H1.out, H0.out]; omega), hon.drewN _⟩
            case measure => simp [intOf]; omega
    · obtain rfl : i = b := by omega
      go_wp2
      go_end0
      exact ⟨m, rfl, hBm, HS.out, HO.out, hon⟩
end Go.Proofs.YtccbofaefpbhlaaDoor
