/-
  Which character stands where; it speaks of no program.
-/
import Derived.Test.YtccbofaefpbhlaaDoorCutsA
namespace Go.Proofs.YtccbofaefpbhlaaDoor
set_option linter.unusedVariables false

theorem charsS_cons (a b : Nat) (r : List (Nat × Nat)) : charsS ((a, b) :: r) = List.range' a (b - a + 1) ++ charsS r := by simp [charsS]
theorem charsS_mem : ∀ (S : List (Nat × Nat)) {lo : Nat}, Good lo S → ∀ c, c ∈ charsS S ↔ memS S c = true
  | [], _, _, c => by simp [charsS, memS]
  | (a, b) :: r, lo, ⟨h1, h2, h3, h4, h5⟩, c => by
    rw [charsS_cons, List.mem_append, charsS_mem r h5, memS_cons, List.mem_range'_1]
    constructor
    · rintro (h | h)
      · exact .inl (by omega)
      · exact .inr h
    · rintro (h | h)
      · exact .inl (by omega)
      · exact .inr h
theorem charsS_rise : ∀ (S : List (Nat × Nat)) {lo : Nat}, Good lo S → (charsS S).Pairwise (· < ·)
  | [], _, _ => List.Pairwise.nil
  | (a, b) :: r, lo, ⟨h1, h2, h3, h4, h5⟩ => by
    rw [charsS_cons]
    refine List.pairwise_append.2 ⟨List.pairwise_lt_range', charsS_rise r h5, fun x hx y hy => ?_⟩
    rw [List.mem_range'_1] at hx
    have := h5.ge ((charsS_mem r h5 y).1 hy)
    omega
/-- The character at a place. -/
theorem charAt_get : ∀ (S : List (Nat × Nat)) {lo : Nat}, Good lo S → ∀ (i k : Nat), k < S.length → cnt (S.take k) ≤ i → i < cnt (S.take (k + 1)) → charAt S i k = (charsS S).getD i 0
  | [], _, _, i, k, hk, _, _ => by simp at hk
  | (a, b) :: r, lo, ⟨h1, h2, h3, h4, h5⟩, i, 0, hk, hi1, hi2 => by
    simp only [Nat.zero_add, List.take_succ_cons, List.take_zero, cnt, Nat.add_zero] at hi2
    rw [charsS_cons, List.getD_eq_getElem?_getD, List.getElem?_append_left (by rw [List.length_range']; exact hi2), List.getElem?_range' hi2]
    simp [charAt, cnt]
  | (a, b) :: r, lo, ⟨h1, h2, h3, h4, h5⟩, i, k + 1, hk, hi1, hi2 => by
    simp only [List.take_succ_cons, cnt] at hi1 hi2
    have ih := charAt_get r h5 (i - (b - a + 1)) k (by simpa using hk) (by omega) (by omega)
    rw [charsS_cons, List.getD_eq_getElem?_getD, List.getElem?_append_right (by rw [List.length_range']; omega), List.length_range', ← List.getD_eq_getElem?_getD, ← ih]
    simp only [charAt, List.getD_cons_succ, List.take_succ_cons, cnt]
    omega
/-- How many are less. -/
theorem cntB_count : ∀ (S : List (Nat × Nat)) (c : Int), cntB S c = (charsS S).countP fun x : Nat => decide ((x : Int) < c)
  | [], c => rfl
  | (a, b) :: r, c => by
    rw [charsS_cons, List.countP_append, cntB, cntB_count r c]
    congr 1
    have key : ∀ n a, (List.range' a n).countP (fun x : Nat => decide ((x : Int) < c)) = min (c - (a : Int)).toNat n := by
      intro n
      induction n with
      | zero => intro a; simp
      | succ n ih =>
        intro a
        rw [List.range'_succ, List.countP_cons, ih (a + 1)]
        by_cases h : (a : Int) < c
        · rw [if_pos (by simpa using h)]; omega
        · rw [if_neg (by simpa using h)]; omega
    rw [key]
/-- In a rising list those that are less stand first. -/
theorem rise_count : ∀ {L : List Nat}, L.Pairwise (· < ·) → ∀ (c : Int) (j : Nat), j < L.length → ((L.getD j 0 : Int) < c ↔ j < L.countP fun x : Nat => decide ((x : Int) < c))
  | [], _, c, j, hj => by simp at hj
  | x :: L, h, c, j, hj => by
    rw [List.pairwise_cons] at h
    rw [List.countP_cons]
    by_cases hx : (x : Int) < c
    · rw [if_pos (by simpa using hx)]
      rcases j with _ | j
      · simpa using hx
      · have ih := rise_count h.2 c j (by simpa using hj)
        rw [List.getD_cons_succ, ih]
        omega
    · rw [if_neg (by simpa using hx)]
      have h0 : L.countP (fun x : Nat => decide ((x : Int) < c)) = 0 := by
        rw [List.countP_eq_zero]
        intro y hy
        have := h.1 y hy
        simp; omega
      rw [h0]
      rcases j with _ | j
      · simpa using hx
      · have hm : L.getD j 0 ∈ L := getD_memL (by simpa using hj)
        have := h.1 _ hm
        rw [List.getD_cons_succ]
        omega
end Go.Proofs.YtccbofaefpbhlaaDoor
