/-
  Insertion, step by step: lists of numbers, their order; it speaks of no program.
-/
import Derived.Test.YtccbofaefpbhlaaDoorWords
namespace Go.Proofs.YtccbofaefpbhlaaDoor
set_option linter.unusedVariables false

/-- Two places exchanged. -/
def swapAt (l : List Nat) (i j : Nat) : List Nat := (l.set i (l.getD j 0)).set j (l.getD i 0)
theorem swapAt_length (l : List Nat) (i j : Nat) : (swapAt l i j).length = l.length := by simp [swapAt]
theorem getD_set (l : List Nat) (i j x : Nat) (hi : i < l.length) : (l.set i x).getD j 0 = if i = j then x else l.getD j 0 := by
  simp only [List.getD_eq_getElem?_getD, List.getElem?_set]
  split
  · simp [*]
  · rfl
theorem swapAt_getD (l : List Nat) (i j p : Nat) (hi : i < l.length) (hj : j < l.length) : (swapAt l i j).getD p 0 = if j = p then l.getD i 0 else if i = p then l.getD j 0 else l.getD p 0 := by
  rw [swapAt, getD_set _ _ _ _ (by simpa using hj)]
  split
  · rfl
  · rw [getD_set _ _ _ _ hi]
theorem swapAt_perm (l : List Nat) (i j : Nat) (hi : i < l.length) (hj : j < l.length) : (swapAt l i j).Perm l := by
  unfold swapAt
  rw [List.getD_eq_getElem?_getD, List.getD_eq_getElem?_getD, List.getElem?_eq_getElem hi, List.getElem?_eq_getElem hj]
  simp only [Option.getD_some]
  exact List.set_set_perm hi hj

/-- In order up to place i, place j left out as the later one. -/
def OrdBut (i j : Nat) (l : List Nat) : Prop := ∀ p q, p < q → q ≤ i → q ≠ j → l.getD p 0 ≤ l.getD q 0
/-- The first n are in order. -/
def Ord (n : Nat) (l : List Nat) : Prop := ∀ p q, p < q → q < n → l.getD p 0 ≤ l.getD q 0

theorem Ord.but {n : Nat} {l : List Nat} (h : Ord n l) : OrdBut n n l := fun p q hp hq hn => h p q hp (by omega)
theorem OrdBut.ord_zero {i : Nat} {l : List Nat} (h : OrdBut i 0 l) : Ord (i + 1) l := fun p q hp hq => h p q hp (by omega) (by omega)
theorem OrdBut.ord {i j : Nat} {l : List Nat} (h : OrdBut i (j + 1) l) (hx : l.getD j 0 ≤ l.getD (j + 1) 0) : Ord (i + 1) l := fun p q hp hq => by
  by_cases hqj : q = j + 1
  · subst hqj
    rcases Nat.lt_or_ge p j with h1 | h1
    · exact Nat.le_trans (h p j h1 (by omega) (by omega)) hx
    · obtain rfl : p = j := by omega
      exact hx
  · exact h p q hp (by omega) hqj
theorem OrdBut.swap {i j : Nat} {l : List Nat} (h : OrdBut i (j + 1) l) (hx : l.getD (j + 1) 0 < l.getD j 0) (hj : j + 1 ≤ i) (hl : i < l.length) : OrdBut i j (swapAt l (j + 1) j) := by
  intro p q hp hq hn
  rw [swapAt_getD _ _ _ _ (by omega) (by omega), swapAt_getD _ _ _ _ (by omega) (by omega)]
  by_cases h1 : j = p
  · subst h1
    by_cases h2 : j + 1 = q
    · subst h2
      rw [if_pos rfl, if_neg (by omega), if_pos rfl]
      omega
    · have := h (j + 1) q (by omega) hq (by omega)
      rw [if_pos rfl, if_neg (by omega), if_neg h2]
      exact this
  · by_cases h2 : j + 1 = p
    · subst h2
      have := h j q (by omega) hq (by omega)
      rw [if_neg h1, if_pos rfl, if_neg (by omega), if_neg (by omega)]
      exact this
    · rw [if_neg h1, if_neg h2, if_neg (by omega)]
      by_cases h3 : j + 1 = q
      · subst h3
        rw [if_pos rfl]
        exact h p j (by omega) (by omega) (by omega)
      · rw [if_neg h3]
        exact h p q hp hq (by omega)
end Go.Proofs.YtccbofaefpbhlaaDoor
