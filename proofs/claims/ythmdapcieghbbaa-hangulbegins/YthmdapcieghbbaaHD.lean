/-
  The document's Parts, and Begins: their contracts.
-/
import Derived.Test.YthmdapcieghbbaaHB
namespace Go.Proofs.Ythmdapcieghbbaa
set_option linter.unusedVariables false
set_option maxRecDepth 20000
open Go.RowKit

set_option maxHeartbeats 1000000 in
theorem parts_low (c : Int) (w : World) (hl : -2147483648 ≤ c) (h : c < 44032) :
    Calls Try.prog 10 #[.int .i64 c] w fun e w' => e = .returned (.slice none 0 0) ∧ w = w' := by
  go_enter Try.func10, Try.ntmps10
  go_wp2
  go_loop [3, 4] (fun n l => n = .int .i64 44032 ∧ l = .int .i64 4352) (fun _ l => 0)
  case atStart => exact ⟨rfl, rfl⟩
  case round =>
    obtain ⟨rfl, rfl⟩ := hrel
    go_wp2
    go_loop [3, 5] (fun n l => n = .int .i64 44032 ∧ l = .int .i64 4449) (fun _ l => 0)
    case atStart => exact ⟨rfl, rfl⟩
    case round =>
      obtain ⟨rfl, rfl⟩ := hrel
      have h1 : ¬ c > 44032 := by omega
      go_wp2
      go_ret
      exact ⟨rfl, rfl⟩

set_option maxHeartbeats 1000000 in
theorem parts_high (c : Int) (w : World) (hl : c ≤ 2147483647) (h : 55203 < c) :
    Calls Try.prog 10 #[.int .i64 c] w fun e w' => e = .returned (.slice none 0 0) ∧ w = w' := by
  go_enter Try.func10, Try.ntmps10
  go_wp2
  go_loop [3, 4] (fun n l => ∃ i : Nat, i ≤ 19 ∧ n = .int .i64 (44032 + 588 * (i : Int)) ∧ l = .int .i64 (4352 + (i : Int))) (fun _ l => (5000 - intOf l).toNat)
  case atStart => exact ⟨0, by omega, rfl, rfl⟩
  case round =>
    obtain ⟨i, hi, rfl, rfl⟩ := hrel
    by_cases h1 : i < 19
    · go_wp2
      go_round
      case rel => exact ⟨i + 1, by omega, by congr 1, by congr 1⟩
      case measure => simp [intOf]; omega
    · obtain rfl : i = 19 := by omega
      go_wp2
      go_ret
      exact ⟨rfl, rfl⟩

/-- The parts of a syllable, as values. -/
def partsV (k j t : Nat) : List Value := if t = 0 then [.int .i64 (4352 + (k : Int)), .int .i64 (4449 + (j : Int))] else [.int .i64 (4352 + (k : Int)), .int .i64 (4449 + (j : Int)), .int .i64 (4519 + (t : Int))]

set_option maxHeartbeats 4000000 in
theorem parts_syl (c : Int) (k j t : Nat) (w : World) (h : Syl c k j t) :
    Calls Try.prog 10 #[.int .i64 c] w (RetC 3 (partsV k j t) w) := by
  obtain ⟨hc, hk, hj, ht⟩ := h
  have hc1 : c ≤ 44032 + 588 * (k : Int) + 28 * (j : Int) + (t : Int) := by omega
  have hc2 : 44032 + 588 * (k : Int) + 28 * (j : Int) + (t : Int) ≤ c := by omega
  clear hc
  go_enter Try.func10, Try.ntmps10
  go_wp2
  go_loop [3, 4] (fun n l => ∃ i : Nat, i ≤ k ∧ n = .int .i64 (44032 + 588 * (i : Int)) ∧ l = .int .i64 (4352 + (i : Int))) (fun _ l => (5000 - intOf l).toNat)
  case atStart => exact ⟨0, by omega, rfl, rfl⟩
  case round =>
    obtain ⟨i, hi, rfl, rfl⟩ := hrel
    by_cases h1 : i < k
    · go_wp2
      go_round
      case rel => exact ⟨i + 1, by omega, by congr 1, by congr 1⟩
      case measure => simp [intOf]; omega
    · obtain rfl : i = k := by omega
      clear h1
      go_wp2
      go_loop [3, 5] (fun n l => ∃ m : Nat, m ≤ j ∧ n = .int .i64 (44032 + 588 * (i : Int) + 28 * (m : Int)) ∧ l = .int .i64 (4449 + (m : Int))) (fun _ l => (5000 - intOf l).toNat)
      case atStart => exact ⟨0, by omega, by congr 1, rfl⟩
      case round =>
        obtain ⟨m, hm, rfl, rfl⟩ := hrel
        by_cases h1 : m < j
        · go_wp2
          go_round
          case rel => exact ⟨m + 1, by omega, by congr 1, by congr 1⟩
          case measure => simp [intOf]; omega
        · obtain rfl : m = j := by omega
          clear h1
          by_cases h0 : t = 0
          · subst h0
            have he : (c == 44032 + 588 * (i : Int) + 28 * (m : Int)) = true := by rw [beq_iff_eq]; omega
            go_wp2
            go_ret
            exact ⟨_, rfl, own_fresh _ _ _ _ (Nat.le_refl _) 2 rfl (by decide), below_new _ _⟩
          · have he : (c == 44032 + 588 * (i : Int) + 28 * (m : Int)) = false := by rw [beq_eq_false_iff_ne]; omega
            have e1 : Hid (4519 + c - (44032 + 588 * (i : Int) + 28 * (m : Int)) = 4519 + (t : Int)) := Lib.hid (by omega)
            go_wp2
            go_ret
            refine ⟨_, rfl, ?_, below_new _ _⟩
            have := own_fresh w w.heap.size 3 (partsV i m t) (Nat.le_refl _) 3 (by rw [partsV, if_neg h0]; rfl) (by decide)
            rw [partsV, if_neg h0] at this ⊢
            rw [e1.out]
            exact this

set_option maxHeartbeats 4000000 in
theorem begins_any (c : Int) (w : World) (h1 : 4352 ≤ c) (h2 : c ≤ 4370) :
    Calls Try.prog 13 #[.int .i32 c] w fun e w' => ∃ g cs, e = .returned (.slice (some ⟨g, 0, none⟩) 588 588) ∧ Blk w' g 21 cs ∧ (∀ m : Nat, m < 588 → cs[m]? = some (.int .i32 (44032 + (c - 4352) * 588 + (m : Int)))) ∧ Below w.heap.size w w' := by
  have hk : kindI c = 1 := by rcases kind_ways c with ⟨e, a, b⟩ | ⟨e, a, b⟩ | ⟨e, a, b⟩ | ⟨e, a, b, d, k⟩ | ⟨e, a, b, d⟩ | ⟨e, a, b, d⟩ <;> omega
  have HO := Lib.hid fun W => of_val hk W (by omega) (by omega)
  clear hk
  obtain ⟨i0, hi0, hz0, hz1, hz2⟩ := info_parts rune_info
  obtain ⟨W1, hmk, hown, hgr⟩ := run_make_full (P := Try.prog) w w.heap.size 26 21 i0 (.int .i32 0) 1 Try.underlying26 hi0 hz0 hz1 .i64 .i64 588 (by rw [hz2]; decide) (by decide) (Nat.le_refl _)
  have hbW : Below w.heap.size w W1 := (Below.refl _ _).grown hgr (Nat.le_refl _) (fun k hk => by cases hk)
  obtain ⟨cs0, hB0, hs0⟩ : ∃ cs, Blk W1 w.heap.size 21 cs ∧ cs.size = 588 := by
    obtain ⟨_, ⟨hv, _⟩ | ⟨g, cap, cur, hv, hb, hh, hnc, hm, hs, hx⟩⟩ := hown
    · cases hv
    · injection hv with hv1 hv2 hv3
      injection hv1 with hv1
      injection hv1 with hv1
      subst hv1
      subst hv3
      exact ⟨cur, hh, by omega⟩
  clear hown hgr hi0 hz0 hz1 hz2
  have hmk2 : (Instr.makeSlice 26 (.int .i64 588) (.int .i64 588)).run Try.prog w = .ok (.slice (some ⟨w.heap.size, 0, none⟩) 588 588) W1 := hmk
  clear hmk
  go_enter Try.func13, Try.ntmps13
  go_wp2_with fail
  refine (HO.out _).mono ?_
  rintro e w' ⟨rfl, rfl⟩
  go_wp2
  clear hmk2
  go_loopw [11] (fun u wr => ∃ i cs, i ≤ 588 ∧ u = .int .i64 (i : Nat) ∧ Blk wr w.heap.size 21 cs ∧ cs.size = 588 ∧ (∀ m : Nat, m < i → cs[m]? = some (.int .i32 (44032 + (c - 4352) * 588 + (m : Int)))) ∧ Below w.heap.size w wr) (fun u _ => 588 - (intOf u).toNat)
  case atStart => exact ⟨0, cs0, by omega, rfl, hB0, hs0, fun m hm => absurd hm (Nat.not_lt_zero _), hbW⟩
  case round =>
    obtain ⟨i, cs, hi, rfl, hB, hs, hc, hb⟩ := hrel
    have cX := hB.cell i
    have fX := hB.free i
    have HC := Lib.hid hc
    have HS := Lib.hid hs
    clear hc hs
    by_cases h3 : i < 588
    · obtain ⟨u, hu⟩ : ∃ u, cs[i]? = some u := ⟨_, Array.getElem?_eq_getElem (by rw [HS.out]; exact h3)⟩
      rw [hu] at cX
      clear hu
      have hn1 : 0 ≤ c - 4352 := by omega
      have hn2 : c - 4352 ≤ 18 := by omega
      go_wp2
      go_roundw
      case rel =>
        refine ⟨i + 1, _, by omega, by go_num, hB.set_ i _, by simp [HS.out], fun m hm => ?_, hb.setCell (Nat.le_refl _) _⟩
        by_cases hmi : m = i
        · subst hmi
          rw [Array.getElem?_setIfInBounds_self_of_lt (by rw [HS.out]; exact h3)]
        · rw [Array.getElem?_setIfInBounds_ne (by omega)]
          exact HC.out m (by omega)
      case measure => simp [intOf]; omega
    · obtain rfl : i = 588 := by omega
      clear cX fX
      go_wp2
      go_ret
      exact ⟨_, cs, rfl, hB, HC.out, hb⟩

theorem begins_none (c : Int) (w : World) (hl : -2147483648 ≤ c) (hc : c ≤ 2147483647) (h : ¬ (4352 ≤ c ∧ c ≤ 4370)) :
    Calls Try.prog 13 #[.int .i32 c] w fun e w' => e = .returned (.slice none 0 0) ∧ w = w' := by
  obtain ⟨x, hx⟩ : ∃ x, kindI c = x := ⟨_, rfl⟩
  have hb : x = 0 ∨ x = 2 ∨ x = 3 ∨ x = 4 ∨ x = 5 := by
    rcases kind_ways c with ⟨e, a, b⟩ | ⟨e, a, b⟩ | ⟨e, a, b⟩ | ⟨e, a, b, d, k⟩ | ⟨e, a, b, d⟩ | ⟨e, a, b, d⟩ <;> omega
  have HO := Lib.hid fun W => of_val hx W hl hc
  clear hx h
  rcases hb with rfl | rfl | rfl | rfl | rfl
  all_goals
    go_enter Try.func13, Try.ntmps13
    go_wp2_with fail
    refine (HO.out _).mono ?_
    rintro e w' ⟨rfl, rfl⟩
    go_wp2
    go_ret
    exact ⟨rfl, rfl⟩
end Go.Proofs.Ythmdapcieghbbaa
