/-
  Two sets gone through cut by cut; it speaks of no program.
-/
import Derived.Test.YtccbofaefpbhlaaDoorJoinB
import Derived.Test.YtccbofaefpbhlaaDoorSortM
namespace Go.Proofs.YtccbofaefpbhlaaDoor
set_option linter.unusedVariables false

/-- Where characters begin to be in a set, or not to be any more. -/
def cutsS (S : List (Nat × Nat)) : List Nat := S.flatMap fun r => [r.1, r.2 + 1]
theorem cutsS_mem {S : List (Nat × Nat)} {r : Nat × Nat} (h : r ∈ S) : r.1 ∈ cutsS S ∧ r.2 + 1 ∈ cutsS S := by
  simp only [cutsS, List.mem_flatMap]
  exact ⟨⟨r, h, by simp⟩, ⟨r, h, by simp⟩⟩
theorem cutsS_length (S : List (Nat × Nat)) : (cutsS S).length = 2 * S.length := by
  induction S with
  | nil => rfl
  | cons x r ih => simp only [cutsS, List.flatMap_cons, List.length_append, List.length_cons, List.length_nil] at ih ⊢; omega
theorem cutsS_snoc (S : List (Nat × Nat)) (r : Nat × Nat) : cutsS (S ++ [r]) = cutsS S ++ [r.1, r.2 + 1] := by simp [cutsS]
theorem cutsS_le {S : List (Nat × Nat)} {lo : Nat} (hg : Good lo S) : ∀ x ∈ cutsS S, x ≤ 1114112 := by
  intro x hx
  simp only [cutsS, List.mem_flatMap] at hx
  obtain ⟨r, hr, hx⟩ := hx
  obtain ⟨i, hi, rfl⟩ := List.getElem_of_mem hr
  have := hg.at_ hi
  simp only [List.getD_eq_getElem?_getD, List.getElem?_eq_getElem hi, Option.getD_some] at this
  simp at hx
  omega
theorem memS_ex (S : List (Nat × Nat)) (c : Nat) : memS S c = true ↔ ∃ r, r ∈ S ∧ r.1 ≤ c ∧ c ≤ r.2 := by
  simp only [memS, List.any_eq_true, Bool.and_eq_true, decide_eq_true_eq]

/-- Between two cuts all characters are in the set, or none. -/
theorem memS_const (S : List (Nat × Nat)) (a c : Nat) (hac : a ≤ c) (h : ∀ x ∈ cutsS S, ¬ (a < x ∧ x ≤ c)) : memS S c = memS S a := by
  rw [Bool.eq_iff_iff, memS_ex, memS_ex]
  constructor
  · rintro ⟨r, hr, h1, h2⟩
    have := h _ (cutsS_mem hr).1
    exact ⟨r, hr, by omega, by omega⟩
  · rintro ⟨r, hr, h1, h2⟩
    have := h _ (cutsS_mem hr).2
    exact ⟨r, hr, by omega, by omega⟩

/-- The pieces between the first n + 1 cuts that f takes. -/
def keptI (f : Nat → Bool) (C : List Nat) : Nat → List (Nat × Nat)
  | 0 => []
  | j + 1 => keptI f C j ++ if f (C.getD j 0) then [(C.getD j 0, C.getD (j + 1) 0 - 1)] else []
theorem keptI_len (f : Nat → Bool) (C : List Nat) : ∀ n, (keptI f C n).length ≤ n
  | 0 => Nat.le_refl _
  | j + 1 => by
    have := keptI_len f C j
    rw [keptI, List.length_append]
    split
    · simp; omega
    · simp; omega
theorem keptI_mem (f : Nat → Bool) (C : List Nat) : ∀ (n : Nat) (r : Nat × Nat), r ∈ keptI f C n ↔ ∃ j, j < n ∧ f (C.getD j 0) = true ∧ r = (C.getD j 0, C.getD (j + 1) 0 - 1)
  | 0, r => by simp [keptI]
  | n + 1, r => by
    rw [keptI, List.mem_append, keptI_mem f C n]
    constructor
    · rintro (⟨j, h1, h2, h3⟩ | h)
      · exact ⟨j, by omega, h2, h3⟩
      · split at h
        · rename_i hf
          exact ⟨n, by omega, hf, by simpa using h⟩
        · simp at h
    · rintro ⟨j, h1, h2, h3⟩
      rcases Nat.lt_or_ge j n with h4 | h4
      · exact .inl ⟨j, h4, h2, h3⟩
      · obtain rfl : j = n := by omega
        right
        rw [if_pos h2]
        simpa using h3

/-- In order, each once. -/
def RiseL (C : List Nat) : Prop := ∀ i j, i < j → j < C.length → C.getD i 0 < C.getD j 0
theorem mem_getD {C : List Nat} {x : Nat} (h : x ∈ C) : ∃ i, i < C.length ∧ C.getD i 0 = x := by
  obtain ⟨i, hi, rfl⟩ := List.getElem_of_mem h
  exact ⟨i, hi, by simp [List.getD, hi]⟩
theorem getD_memL {C : List Nat} {i : Nat} (h : i < C.length) : C.getD i 0 ∈ C := by simp [List.getD, h]
/-- No cut lies inside of a piece. -/
theorem RiseL.gap {C : List Nat} (hC : RiseL C) {j : Nat} (hj : j + 1 < C.length) {x : Nat} (hx : x ∈ C) : ¬ (C.getD j 0 < x ∧ x < C.getD (j + 1) 0) := by
  obtain ⟨i, hi, rfl⟩ := mem_getD hx
  rintro ⟨h1, h2⟩
  rcases Nat.lt_trichotomy i j with h | h | h
  · have := hC i j h (by omega); omega
  · subst h; omega
  · rcases Nat.lt_or_ge (j + 1) i with h3 | h3
    · have := hC (j + 1) i h3 hi; omega
    · obtain rfl : i = j + 1 := by omega
      omega
theorem RiseL.find {C : List Nat} (hC : RiseL C) {c : Nat} : ∀ n, n < C.length → C.getD 0 0 ≤ c → c < C.getD n 0 → ∃ j, j < n ∧ C.getD j 0 ≤ c ∧ c < C.getD (j + 1) 0
  | 0, hn, h1, h2 => by omega
  | n + 1, hn, h1, h2 => by
    rcases Nat.lt_or_ge c (C.getD n 0) with h | h
    · obtain ⟨j, h3, h4, h5⟩ := hC.find n (by omega) h1 h
      exact ⟨j, by omega, h4, h5⟩
    · exact ⟨n, by omega, h, h2⟩

/-- Of two sets: what the pieces hold that K takes. -/
theorem kept_spec {S T : List (Nat × Nat)} {C : List Nat} (K : Bool → Bool → Bool) (hK : K false false = false) (hC : RiseL C) (hm : ∀ x, x ∈ C ↔ x ∈ cutsS S ∨ x ∈ cutsS T) (c : Nat) :
    memS (keptI (fun a => K (memS S a) (memS T a)) C (C.length - 1)) c = K (memS S c) (memS T c) := by
  have hcst : ∀ j, j + 1 < C.length → C.getD j 0 ≤ c → c < C.getD (j + 1) 0 → memS S c = memS S (C.getD j 0) ∧ memS T c = memS T (C.getD j 0) := fun j hj h1 h2 =>
    ⟨memS_const S _ c h1 (fun x hx => by have := hC.gap hj ((hm x).2 (.inl hx)); omega), memS_const T _ c h1 (fun x hx => by have := hC.gap hj ((hm x).2 (.inr hx)); omega)⟩
  rw [Bool.eq_iff_iff, memS_ex]
  constructor
  · rintro ⟨r, hr, h1, h2⟩
    obtain ⟨j, h3, h4, rfl⟩ := (keptI_mem _ _ _ _).1 hr
    simp only at h1 h2
    have hr := hC j (j + 1) (by omega) (by omega)
    obtain ⟨e1, e2⟩ := hcst j (by omega) h1 (by omega)
    rw [e1, e2]
    exact h4
  · intro h
    have hin : memS S c = true ∨ memS T c = true := by
      cases h1 : memS S c with
      | true => exact .inl rfl
      | false =>
        cases h2 : memS T c with
        | true => exact .inr rfl
        | false => rw [h1, h2, hK] at h; cases h
    have hpq : ∃ p q, p ∈ C ∧ q ∈ C ∧ p ≤ c ∧ c < q := by
      rcases hin with h1 | h1
      · obtain ⟨r, hr, h2, h3⟩ := (memS_ex S c).1 h1
        exact ⟨_, _, (hm _).2 (.inl (cutsS_mem hr).1), (hm _).2 (.inl (cutsS_mem hr).2), h2, by omega⟩
      · obtain ⟨r, hr, h2, h3⟩ := (memS_ex T c).1 h1
        exact ⟨_, _, (hm _).2 (.inr (cutsS_mem hr).1), (hm _).2 (.inr (cutsS_mem hr).2), h2, by omega⟩
    obtain ⟨p, q, hp, hq, h2, h3⟩ := hpq
    obtain ⟨i, hi, rfl⟩ := mem_getD hp
    obtain ⟨k, hk, rfl⟩ := mem_getD hq
    have h0 : C.getD 0 0 ≤ c := by
      rcases Nat.eq_zero_or_pos i with h4 | h4
      · subst h4; exact h2
      · have := hC 0 i h4 hi; omega
    obtain ⟨j, h4, h5, h6⟩ := hC.find k hk h0 h3
    obtain ⟨e1, e2⟩ := hcst j (by omega) h5 h6
    refine ⟨(C.getD j 0, C.getD (j + 1) 0 - 1), (keptI_mem _ _ _ _).2 ⟨j, by omega, ?_, rfl⟩, h5, by simp only; omega⟩
    show K (memS S (C.getD j 0)) (memS T (C.getD j 0)) = true
    rw [← e1, ← e2]
    exact h
/-- Each piece may be a part of a set. -/
theorem kept_part {S T : List (Nat × Nat)} {C : List Nat} (K : Bool → Bool → Bool) (hK : K false false = false) (hC : RiseL C) (hm : ∀ x, x ∈ C ↔ x ∈ cutsS S ∨ x ∈ cutsS T) (hS : Good 0 S) (hT : Good 0 T) :
    ∀ r ∈ keptI (fun a => K (memS S a) (memS T a)) C (C.length - 1), Part r := by
  intro r hr
  obtain ⟨j, h3, h4, rfl⟩ := (keptI_mem _ _ _ _).1 hr
  have hr := hC j (j + 1) (by omega) (by omega)
  have key : ∀ (S : List (Nat × Nat)), Good 0 S → (∀ x ∈ cutsS S, x ∈ C) → memS S (C.getD j 0) = true → Part (C.getD j 0, C.getD (j + 1) 0 - 1) := by
    intro S hS hm h
    obtain ⟨i, hi, h1, h2⟩ := (memS_iff S _).1 h
    obtain ⟨_, g2, g3, g4⟩ := hS.at_ hi
    have hin : S.getD i (0, 0) ∈ S := by simp [List.getD, hi]
    have := hC.gap (j := j) (by omega) (hm _ (cutsS_mem hin).2)
    exact ⟨by simp only; omega, by simp only; omega, by simp only; omega⟩
  cases h1 : memS S (C.getD j 0) with
  | true => exact key S hS (fun x hx => (hm x).2 (.inl hx)) h1
  | false =>
    cases h2 : memS T (C.getD j 0) with
    | true => exact key T hT (fun x hx => (hm x).2 (.inr hx)) h2
    | false => simp only [h1, h2, hK] at h4; cases h4
end Go.Proofs.YtccbofaefpbhlaaDoor
