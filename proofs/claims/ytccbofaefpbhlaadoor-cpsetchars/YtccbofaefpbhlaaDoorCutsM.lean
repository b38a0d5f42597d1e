/-
  A list in order, each once; it speaks of no program.
-/
import Derived.Test.YtccbofaefpbhlaaDoorMergeM
import Derived.Lib.SlicesCompact
namespace Go.Proofs.YtccbofaefpbhlaaDoor
set_option linter.unusedVariables false
open Go.Lib

theorem rise_of_pairwise {C : List Nat} (h : C.Pairwise (· < ·)) : RiseL C := by
  intro i j hij hj
  have := List.pairwise_iff_getElem.1 h i j (by omega) hj hij
  simpa [List.getD, hj, show i < C.length by omega] using this
theorem arr_get (m : List Nat) (i : Nat) (h : i < m.length) : m.toArray[i]! = m.getD i 0 := by
  rw [getElem!_pos m.toArray i (by simpa using h)]
  simp [List.getD, h]
theorem compact_step (m : List Nat) (ho : Ord m.length m) : ∀ k, 1 ≤ k → k ≤ m.length →
    (compactUpTo m.toArray k).Pairwise (· < ·) ∧ ∀ x, x ∈ compactUpTo m.toArray k ↔ ∃ j, j < k ∧ m.getD j 0 = x
  | 0, h, _ => by omega
  | 1, _, h => by
    have e : compactUpTo m.toArray 1 = [m.getD 0 0] := by
      rw [compactUpTo_succ, keeps_lt_one _ 0 (by omega), if_pos rfl, arr_get m 0 (by omega)]
      simp [compactUpTo]
    rw [e]
    refine ⟨List.pairwise_singleton _ _, fun x => ?_⟩
    rw [List.mem_singleton]
    constructor
    · rintro rfl; exact ⟨0, by omega, rfl⟩
    · rintro ⟨j, hj, rfl⟩
      obtain rfl : j = 0 := by omega
      rfl
  | k + 2, _, h => by
    obtain ⟨h1, h2⟩ := compact_step m ho (k + 1) (by omega) (by omega)
    have hle := ho k (k + 1) (by omega) (by omega)
    have e1 := arr_get m (k + 1) (by omega)
    have e0 := arr_get m k (by omega)
    rw [compactUpTo_succ]
    by_cases heq : m.getD (k + 1) 0 = m.getD k 0
    · rw [keeps_neg (by omega) (by rw [e1, Nat.add_sub_cancel, e0, heq]), if_neg (by simp), List.append_nil]
      refine ⟨h1, fun x => ?_⟩
      rw [h2]
      constructor
      · rintro ⟨j, hj, hx⟩; exact ⟨j, by omega, hx⟩
      · rintro ⟨j, hj, hx⟩
        by_cases hjk : j = k + 1
        · subst hjk; exact ⟨k, by omega, by rw [← heq]; exact hx⟩
        · exact ⟨j, by omega, hx⟩
    · rw [keeps_pos (by rw [e1, Nat.add_sub_cancel, e0]; exact heq), if_pos rfl, e1]
      refine ⟨List.pairwise_append.2 ⟨h1, List.pairwise_singleton _ _, fun a ha b hb => ?_⟩, fun x => ?_⟩
      · rw [List.mem_singleton] at hb
        subst hb
        obtain ⟨j, hj, rfl⟩ := (h2 a).1 ha
        by_cases hjk : j = k
        · subst hjk; omega
        · have := ho j k (by omega) (by omega); omega
      · rw [List.mem_append, h2, List.mem_singleton]
        constructor
        · rintro (⟨j, hj, hx⟩ | rfl)
          · exact ⟨j, by omega, hx⟩
          · exact ⟨k + 1, by omega, rfl⟩
        · rintro ⟨j, hj, hx⟩
          by_cases hjk : j = k + 1
          · subst hjk; exact .inr hx.symm
          · exact .inl ⟨j, by omega, hx⟩
/-- In order, each once: the same numbers. -/
theorem compact_spec (m : List Nat) (ho : Ord m.length m) (hp : 1 ≤ m.length) : RiseL (compactUpTo m.toArray m.length) ∧ (∀ x, x ∈ compactUpTo m.toArray m.length ↔ x ∈ m) ∧ (compactUpTo m.toArray m.length).length ≤ m.length := by
  obtain ⟨h1, h2⟩ := compact_step m ho m.length hp (Nat.le_refl _)
  refine ⟨rise_of_pairwise h1, fun x => ?_, ?_⟩
  · rw [h2]
    constructor
    · rintro ⟨j, hj, rfl⟩; exact getD_memL hj
    · intro hx
      obtain ⟨i, hi, e⟩ := mem_getD hx
      exact ⟨i, hi, e⟩
  · unfold compactUpTo
    rw [List.length_map]
    have := List.length_filter_le (keeps m.toArray) (List.range m.length)
    rw [List.length_range] at this
    exact this
end Go.Proofs.YtccbofaefpbhlaaDoor
