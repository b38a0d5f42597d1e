/-
  Which character stands where; it speaks of no program.
  A set in its two parts on both sides of a character; ranges turned round; plain.
-/
import Derived.Test.YtccbofaefpbhlaaDoorCutsB
import Derived.Test.YtccbofaefpbhlaaDoorOfC
namespace Go.Proofs.YtccbofaefpbhlaaDoor
set_option linter.unusedVariables false

theorem charsS_cons (a b : Nat) (r : List (Nat × Nat)) : charsS ((a, b) :: r) = List.range' a (b - a + 1) ++ charsS r := by simp [charsS]
theorem charsS_mem : ∀ (S : List (Nat × Nat)) {lo : Nat}, Good lo S → ∀ c, c ∈ charsS S ↔ memS S c = true
  | [], _, _, c => by simp [charsS, memS]
  | (a, b) :: r, lo, ⟨h1, h2, h3, h4, h5⟩, c => by
    rw [charsS_cons, List.mem_append, charsS_mem r h5, memS_cons, List.mem_range'_1]
    constructor
    · rintro (h | h)
      · exact .inl (by omega)
      · exact .inr h
    · rintro (h | h)
      · exact .inl (by omega)
      · exact .inr h
theorem charsS_rise : ∀ (S : List (Nat × Nat)) {lo : Nat}, Good lo S → (charsS S).Pairwise (· < ·)
  | [], _, _ => List.Pairwise.nil
  | (a, b) :: r, lo, ⟨h1, h2, h3, h4, h5⟩ => by
    rw [charsS_cons]
    refine List.pairwise_append.2 ⟨List.pairwise_lt_range', charsS_rise r h5, fun x hx y hy => ?_⟩
    rw [List.mem_range'_1] at hx
    have := h5.ge ((charsS_mem r h5 y).1 hy)
    omega
/-- The character at a place. -/
theorem charAt_get : ∀ (S : List (Nat × Nat)) {lo : Nat}, Good lo S → ∀ (i k : Nat), k < S.length → cnt (S.take k) ≤ i → i < cnt (S.take (k + 1)) → charAt S i k = (charsS S).getD i 0
  | [], _, _, i, k, hk, _, _ => by simp at hk
  | (a, b) :: r, lo, ⟨h1, h2, h3, h4, h5⟩, i, 0, hk, hi1, hi2 => by
    simp only [Nat.zero_add, List.take_succ_cons, List.take_zero, cnt, Nat.add_zero] at hi2
    rw [charsS_cons, List.getD_eq_getElem?_getD, List.getElem?_append_left (by rw [List.length_range']; exact hi2), List.getElem?_range' hi2]
    simp [charAt, cnt]
  | (a, b) :: r, lo, ⟨h1, h2, h3, h4, h5⟩, i, k + 1, hk, hi1, hi2 => by
    simp only [List.take_succ_cons, cnt] at hi1 hi2
    have ih := charAt_get r h5 (i - (b - a + 1)) k (by simpa using hk) (by omega) (by omega)
    rw [charsS_cons, List.getD_eq_getElem?_getD, List.getElem?_append_right (by rw [List.length_range']; omega), List.length_range', ← List.getD_eq_getElem?_getD, ← ih]
    simp only [charAt, List.getD_cons_succ, List.take_succ_cons, cnt]
    omega
/-- How many are less. -/
theorem cntB_count : ∀ (S : List (Nat × Nat)) (c : Int), cntB S c = (charsS S).countP fun x : Nat => decide ((x : Int) < c)
  | [], c => rfl
  | (a, b) :: r, c => by
    rw [charsS_cons, List.countP_append, cntB, cntB_count r c]
    congr 1
    have key : ∀ n a, (List.range' a n).countP (fun x : Nat => decide ((x : Int) < c)) = min (c - (a : Int)).toNat n := by
      intro n
      induction n with
      | zero => intro a; simp
      | succ n ih =>
        intro a
        rw [List.range'_succ, List.countP_cons, ih (a + 1)]
        by_cases h : (a : Int) < c
        · rw [if_pos (by simpa using h)]; omega
        · rw [if_neg (by simpa using h)]; omega
    rw [key]
/-- In a rising list those that are less stand first. -/
theorem rise_count : ∀ {L : List Nat}, L.Pairwise (· < ·) → ∀ (c : Int) (j : Nat), j < L.length → ((L.getD j 0 : Int) < c ↔ j < L.countP fun x : Nat => decide ((x : Int) < c))
  | [], _, c, j, hj => by simp at hj
  | x :: L, h, c, j, hj => by
    rw [List.pairwise_cons] at h
    rw [List.countP_cons]
    by_cases hx : (x : Int) < c
    · rw [if_pos (by simpa using hx)]
      rcases j with _ | j
      · simpa using hx
      · have ih := rise_count h.2 c j (by simpa using hj)
        rw [List.getD_cons_succ, ih]
        omega
    · rw [if_neg (by simpa using hx)]
      have h0 : L.countP (fun x : Nat => decide ((x : Int) < c)) = 0 := by
        rw [List.countP_eq_zero]
        intro y hy
        have := h.1 y hy
        simp; omega
      rw [h0]
      rcases j with _ | j
      · simpa using hx
      · have hm : L.getD j 0 ∈ L := getD_memL (by simpa using hj)
        have := h.1 _ hm
        rw [List.getD_cons_succ]
        omega
end Go.Proofs.YtccbofaefpbhlaaDoor

namespace Go.Proofs.YtccbofaefpbhlaaDoor
set_option linter.unusedVariables false

theorem charsS_nodup {S : List (Nat × Nat)} (h : Good 0 S) : (charsS S).Nodup := (charsS_rise S h).imp (fun hlt => Nat.ne_of_lt hlt)
/-- The characters of a set by what is said of them: their number. -/
theorem cnt_filter {S A : List (Nat × Nat)} (hS : Good 0 S) (hA : Good 0 A) (p : Nat → Bool) (hm : ∀ x, memS A x = (memS S x && p x)) : cnt A = (charsS S).countP p := by
  rw [List.countP_eq_length_filter, ← charsS_length]
  apply List.Perm.length_eq
  rw [List.perm_ext_iff_of_nodup (charsS_nodup hA) ((charsS_nodup hS).filter _)]
  intro x
  rw [charsS_mem A hA, List.mem_filter, charsS_mem S hS, hm, Bool.and_eq_true]
theorem count_not (l : List Nat) (p : Nat → Bool) : l.countP p + l.countP (fun x => !p x) = l.length := by
  induction l with
  | nil => rfl
  | cons x r ih =>
    rw [List.countP_cons, List.countP_cons, List.length_cons]
    cases p x <;> simp <;> omega
theorem part_counts {S L A B : List (Nat × Nat)} {c : Nat} (hS : Good 0 S) (hA : Good 0 A) (hB : Good 0 B) (hL : ∀ x, memS S x = true → memS L x = decide (x ≤ c))
    (ha : ∀ x, memS A x = (memS S x && memS L x)) (hb : ∀ x, memS B x = (memS S x && !memS L x)) : cnt A + cnt B = cnt S ∧ cntB S ((c : Int) + 1) = cnt A := by
  have h1 := cnt_filter hS hA (fun x => decide (x ≤ c)) (fun x => by
    rw [ha]
    cases hs : memS S x with
    | true => rw [hL x hs]
    | false => rfl)
  have h2 := cnt_filter hS hB (fun x => !decide (x ≤ c)) (fun x => by
    rw [hb]
    cases hs : memS S x with
    | true => rw [hL x hs]
    | false => rfl)
  refine ⟨by rw [h1, h2, count_not, charsS_length], ?_⟩
  rw [cntB_count, h1]
  congr 1
  funext x
  simp only [decide_eq_decide]
  omega

/-- What stands at a place where the first i and the last i have changed their places. -/
def turnAt (L : List (Int × Int)) (i p : Nat) : Int × Int := if p < i ∨ L.length ≤ p + i then L.getD (L.length - 1 - p) (0, 0) else L.getD p (0, 0)
theorem turnAt_zero (L : List (Int × Int)) (p : Nat) (hp : p < L.length) : turnAt L 0 p = L.getD p (0, 0) := by rw [turnAt, if_neg (by omega)]
theorem turnAt_last (L : List (Int × Int)) (i p : Nat) (hp : p < L.length) (hi : L.length ≤ 2 * i + 1) : turnAt L i p = L.reverse.getD p (0, 0) := by
  have hr : L.reverse.getD p (0, 0) = L.getD (L.length - 1 - p) (0, 0) := by
    simp [List.getD, List.getElem?_reverse hp]
  rw [hr, turnAt]
  split
  · rfl
  · rw [show L.length - 1 - p = p by omega]
theorem turnAt_step (L : List (Int × Int)) (i p : Nat) (hp : p < L.length) (hi : 2 * i + 1 < L.length) : turnAt L (i + 1) p = if p = L.length - 1 - i then turnAt L i i else if p = i then turnAt L i (L.length - 1 - i) else turnAt L i p := by
  have e1 : turnAt L i i = L.getD i (0, 0) := by rw [turnAt, if_neg (by omega)]
  have e2 : turnAt L i (L.length - 1 - i) = L.getD (L.length - 1 - i) (0, 0) := by rw [turnAt, if_neg (by omega)]
  rw [e1, e2]
  by_cases h1 : p = L.length - 1 - i
  · rw [if_pos h1, turnAt, if_pos (by omega), show L.length - 1 - p = i by omega]
  · rw [if_neg h1]
    by_cases h2 : p = i
    · rw [if_pos h2, turnAt, if_pos (by omega), h2]
    · rw [if_neg h2, turnAt, turnAt]
      by_cases h3 : p < i ∨ L.length ≤ p + i
      · rw [if_pos h3, if_pos (by omega)]
      · rw [if_neg h3, if_neg (by omega)]
theorem inR_reverse (L : List (Int × Int)) (x : Nat) : inR L.reverse x = inR L x := by simp [inR]
theorem intR_ok {S : List (Nat × Nat)} (hS : Good 0 S) : ∀ r ∈ intR S, OkR r := by
  intro r hr
  obtain ⟨s, hs, rfl⟩ := List.mem_map.1 hr
  obtain ⟨i, hi, e⟩ := List.getElem_of_mem hs
  have h := hS.at_ hi
  have e2 : S.getD i (0, 0) = s := by rw [← e]; simp [List.getD, hi]
  rw [e2] at h
  obtain ⟨h1, h2, h3, h4⟩ := h
  exact ⟨by simp only; omega, by simp only; omega, by simp only; omega⟩
theorem inR_intR {S : List (Nat × Nat)} (hS : Good 0 S) (x : Nat) : inR (intR S) x = memS S x := by
  rw [Bool.eq_iff_iff]
  constructor
  · intro h
    simp only [inR, intR, List.any_map, List.any_eq_true, Function.comp, decide_eq_true_eq] at h
    obtain ⟨s, hs, h1, h2, _⟩ := h
    rw [memS, List.any_eq_true]
    exact ⟨s, hs, by simp; omega⟩
  · intro h
    obtain ⟨g1, g2⟩ := hS.le h
    rw [memS, List.any_eq_true] at h
    obtain ⟨s, hs, h1⟩ := h
    simp at h1
    simp only [inR, intR, List.any_map, List.any_eq_true, Function.comp, decide_eq_true_eq]
    exact ⟨s, hs, by omega, by omega, g2, g1⟩
theorem low_mem (c x : Nat) : inR [((0 : Int), (c : Int))] x = true ↔ x ≤ c ∧ (x < 55296 ∨ 57344 ≤ x) ∧ x ≤ 1114111 := by
  simp only [inR, List.any_cons, List.any_nil, Bool.or_false, decide_eq_true_eq]
  omega
theorem low_in {S L : List (Nat × Nat)} (hS : Good 0 S) {c : Nat} (hL : ∀ x, memS L x = inR [((0 : Int), (c : Int))] x) : ∀ x, memS S x = true → memS L x = decide (x ≤ c) := fun x hx => by
  obtain ⟨g1, g2⟩ := hS.le hx
  rw [hL, Bool.eq_iff_iff, low_mem, decide_eq_true_eq]
  omega
end Go.Proofs.YtccbofaefpbhlaaDoor
