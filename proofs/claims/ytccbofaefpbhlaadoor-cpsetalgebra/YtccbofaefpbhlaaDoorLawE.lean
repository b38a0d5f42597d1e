/-
  The laws of cpset: the document's Is, Has, Good.
-/
import Derived.Test.YtccbofaefpbhlaaDoorLawC
namespace Go.Proofs.YtccbofaefpbhlaaDoor
set_option linter.unusedVariables false
set_option maxRecDepth 20000
open Go.RowKit

theorem refIs_any (c : Int) (w : World) : Calls Tryd.prog 68 #[.int .i64 c] w (RetV (.bool (isI c)) w) := by
  have hr : (c < 0 ∧ isI c = false) ∨ (0 ≤ c ∧ 1114111 < c ∧ isI c = false) ∨ (0 ≤ c ∧ c ≤ 1114111 ∧ c < 55296 ∧ isI c = true) ∨ (0 ≤ c ∧ c ≤ 1114111 ∧ 55296 ≤ c ∧ c ≤ 57343 ∧ isI c = false) ∨ (0 ≤ c ∧ c ≤ 1114111 ∧ 55296 ≤ c ∧ 57343 < c ∧ isI c = true) := by
    unfold isI
    simp only [decide_eq_true_iff, decide_eq_false_iff_not]
    omega
  go_enter Tryd.func68, Tryd.ntmps68
  rcases hr with ⟨h1, e⟩ | ⟨h1, h2, e⟩ | ⟨h1, h2, h3, e⟩ | ⟨h1, h2, h3, h4, e⟩ | ⟨h1, h2, h3, h4, e⟩ <;> rw [e]
  all_goals
    go_wp2
    go_ret
    refine ⟨?_, Below.refl _ _⟩
    first
      | rfl
      | (simp; omega)

/-- The document's Has. -/
def hasR (L : List (Int × Int)) (x : Int) : Bool := L.any fun r => decide (r.1 ≤ x) && decide (x ≤ r.2) && isI x
theorem hasR_inR (L : List (Int × Int)) (c : Nat) : hasR L (c : Int) = inR L c := by
  rw [Bool.eq_iff_iff]
  simp only [hasR, inR, List.any_eq_true, Bool.and_eq_true, decide_eq_true_eq, isI]
  constructor
  · rintro ⟨r, hr, ⟨h1, h2⟩, h3⟩
    exact ⟨r, hr, by omega⟩
  · rintro ⟨r, hr, h⟩
    exact ⟨r, hr, ⟨by omega, by omega⟩, by omega⟩
theorem hasR_step (L : List (Int × Int)) (x : Int) (i : Nat) (h : i < L.length) : hasR (L.drop i) x = ((decide ((L.getD i (0, 0)).1 ≤ x) && decide (x ≤ (L.getD i (0, 0)).2) && isI x) || hasR (L.drop (i + 1)) x) := by
  have e : L.getD i (0, 0) = L[i] := by simp [List.getD, h]
  rw [e, List.drop_eq_getElem_cons h, hasR, List.any_cons, ← hasR]

set_option maxHeartbeats 4000000 in
theorem refHas_any (A : Option Addr) (n c : Nat) (L : List (Int × Int)) (x : Int) (b : Bool) (w : World) (hL : L.length = n) (hr : PairAt w A L) (hn : n ≤ 1000000) (hb : hasR L x = b) : Calls Tryd.prog 22 #[.slice A n c, .int .i64 x] w (RetV (.bool b) w) := by
  have HL := Lib.hid hL
  have HB : Hid (hasR (L.drop 0) x = b) := by rw [Hid, List.drop_zero]; exact hb
  have HI := Lib.hid (fun W => refIs_any x W)
  clear hL hb
  go_enter Tryd.func22, Tryd.ntmps22
  go_wp2
  go_loopw [9] (fun t wr => ∃ i : Nat, i ≤ n ∧ t = .int .i64 (i : Int) ∧ Hid (hasR (L.drop i) x = b) ∧ Below w.heap.size w wr) (fun t _ => n - (intOf t).toNat)
  case atStart => exact ⟨0, by omega, rfl, HB.out, Below.refl _ _⟩
  case round =>
    obtain ⟨i, hi, rfl, HB, hbw⟩ := hrel
    by_cases hil : i < n
    · obtain ⟨g, rfl, hl, c0, c1⟩ := (hr.below hbw).at_ (i := i) (by rw [HL.out]; exact hil)
      have hst := hasR_step L x i (by rw [HL.out]; exact hil)
      rw [HB.out] at hst
      generalize L.getD i (0, 0) = r at *
      obtain ⟨p, q⟩ := r
      simp only at c0 c1 hst
      have hb1 := below_step hbw (below_new wr (.cells #[.int .i64 p, .int .i64 q] 26))
      by_cases h1 : p ≤ x
      · have d1 : decide (p ≤ x) = true := by simpa using h1
        by_cases h2 : x ≤ q
        · have d2 : decide (x ≤ q) = true := by simpa using h2
          rw [d1, d2, Bool.true_and, Bool.true_and] at hst
          obtain ⟨y, hy⟩ : ∃ y, isI x = y := ⟨_, rfl⟩
          rw [hy] at HI hst
          have HST := Lib.hid hst
          clear hy hst
          go_wp2_with fail
          refine (HI.out _).mono ?_
          rintro e w1 ⟨rfl, y1⟩
          have hb2 := below_step hb1 y1
          cases y with
          | true =>
            have hbt : b = true := by rw [HST.out]; rfl
            subst hbt
            go_wp2
            go_ret
            exact ⟨rfl, hb2⟩
          | false =>
            have hbt : Hid (hasR (L.drop (i + 1)) x = b) := by rw [Hid, HST.out]; rfl
            go_wp2
            go_roundw
            case rel => exact ⟨i + 1, by omega, by go_num, hbt.out, hb2⟩
            case measure => simp [intOf]; omega
        · have d2 : decide (x ≤ q) = false := by simpa using h2
          rw [d1, d2] at hst
          have hbt : Hid (hasR (L.drop (i + 1)) x = b) := by rw [Hid, hst]; rfl
          clear hst
          go_wp2
          go_roundw
          case rel => exact ⟨i + 1, by omega, by go_num, hbt.out, hb1⟩
          case measure => simp [intOf]; omega
      · have d1 : decide (p ≤ x) = false := by simpa using h1
        rw [d1] at hst
        have hbt : Hid (hasR (L.drop (i + 1)) x = b) := by rw [Hid, hst]; rfl
        clear hst
        go_wp2
        go_roundw
        case rel => exact ⟨i + 1, by omega, by go_num, hbt.out, hb1⟩
        case measure => simp [intOf]; omega
    · obtain rfl : i = n := by omega
      have hbf : b = false := by
        rw [← HB.out, List.drop_of_length_le (by rw [HL.out]; exact Nat.le_refl _)]; rfl
      subst hbf
      go_wp2
      go_ret
      exact ⟨rfl, hbw⟩

/-- The document's Good. -/
def goodR (L : List (Int × Int)) : Bool := L.all fun r => !decide (r.1 < 0) && !decide (1114111 < r.2) && !decide (r.2 < r.1)
theorem goodR_step (L : List (Int × Int)) (i : Nat) (h : i < L.length) : goodR (L.drop i) = ((!decide ((L.getD i (0, 0)).1 < 0) && !decide (1114111 < (L.getD i (0, 0)).2) && !decide ((L.getD i (0, 0)).2 < (L.getD i (0, 0)).1)) && goodR (L.drop (i + 1))) := by
  have e : L.getD i (0, 0) = L[i] := by simp [List.getD, h]
  rw [e, List.drop_eq_getElem_cons h, goodR, List.all_cons, ← goodR]
theorem goodR_iff (L : List (Int × Int)) : goodR L = true ↔ ∀ r ∈ L, OkR r := by
  simp only [goodR, List.all_eq_true, Bool.and_eq_true, Bool.not_eq_true', decide_eq_false_iff_not, OkR]
  constructor
  · intro h r hr
    have := h r hr
    omega
  · intro h r hr
    have := h r hr
    omega

set_option maxHeartbeats 4000000 in
theorem refGood_any (A : Option Addr) (n c : Nat) (L : List (Int × Int)) (b : Bool) (w : World) (hL : L.length = n) (hr : PairAt w A L) (hn : n ≤ 1000000) (hb : goodR L = b) : Calls Tryd.prog 17 #[.slice A n c] w (RetV (.bool b) w) := by
  have HL := Lib.hid hL
  have HB : Hid (goodR (L.drop 0) = b) := by rw [Hid, List.drop_zero]; exact hb
  clear hL hb
  go_enter Tryd.func17, Tryd.ntmps17
  go_wp2
  go_loopw [7] (fun t wr => ∃ i : Nat, i ≤ n ∧ t = .int .i64 (i : Int) ∧ Hid (goodR (L.drop i) = b) ∧ Below w.heap.size w wr) (fun t _ => n - (intOf t).toNat)
  case atStart => exact ⟨0, by omega, rfl, HB.out, Below.refl _ _⟩
  case round =>
    obtain ⟨i, hi, rfl, HB, hbw⟩ := hrel
    by_cases hil : i < n
    · obtain ⟨g, rfl, hl, c0, c1⟩ := (hr.below hbw).at_ (i := i) (by rw [HL.out]; exact hil)
      have hst := goodR_step L i (by rw [HL.out]; exact hil)
      rw [HB.out] at hst
      generalize L.getD i (0, 0) = r at *
      obtain ⟨p, q⟩ := r
      simp only at c0 c1 hst
      have hb1 := below_step hbw (below_new wr (.cells #[.int .i64 p, .int .i64 q] 26))
      by_cases h1 : p < 0
      · have d1 : decide (p < 0) = true := by simpa using h1
        rw [d1] at hst
        obtain rfl : b = false := hst
        go_wp2
        go_ret
        exact ⟨rfl, hb1⟩
      · have d1 : decide (p < 0) = false := by simpa using h1
        by_cases h2 : 1114111 < q
        · have d2 : decide (1114111 < q) = true := by simpa using h2
          rw [d1, d2] at hst
          obtain rfl : b = false := hst
          go_wp2
          go_ret
          exact ⟨rfl, hb1⟩
        · have d2 : decide (1114111 < q) = false := by simpa using h2
          by_cases h3 : q < p
          · have d3 : decide (q < p) = true := by simpa using h3
            rw [d1, d2, d3] at hst
            obtain rfl : b = false := hst
            go_wp2
            go_ret
            exact ⟨rfl, hb1⟩
          · have d3 : decide (q < p) = false := by simpa using h3
            rw [d1, d2, d3] at hst
            have hbt : Hid (goodR (L.drop (i + 1)) = b) := by rw [Hid, hst]; rfl
            clear hst
            go_wp2
            go_roundw
            case rel => exact ⟨i + 1, by omega, by go_num, hbt.out, hb1⟩
            case measure => simp [intOf]; omega
    · obtain rfl : i = n := by omega
      have hbf : b = true := by
        rw [← HB.out, List.drop_of_length_le (by rw [HL.out]; exact Nat.le_refl _)]; rfl
      subst hbf
      go_wp2
      go_ret
      exact ⟨rfl, hbw⟩
end Go.Proofs.YtccbofaefpbhlaaDoor
