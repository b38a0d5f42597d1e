/-
  Sets of characters as ranges: one form, how many, which; it speaks of no program.
-/
import Derived.Test.YtccbofaefpbhlaaDoorWords
namespace Go.Proofs.YtccbofaefpbhlaaDoor
set_option linter.unusedVariables false

/-- Ranges of characters that rise, none of which goes on where the one ahead ends; all from lo on. -/
def Good : Nat → List (Nat × Nat) → Prop
  | _, [] => True
  | lo, (a, b) :: r => lo ≤ a ∧ a ≤ b ∧ b ≤ 1114111 ∧ (b < 55296 ∨ 57344 ≤ a) ∧ Good (b + 2) r
/-- Is c one of them? -/
def memS (S : List (Nat × Nat)) (c : Nat) : Bool := S.any fun r => decide (r.1 ≤ c) && decide (c ≤ r.2)
/-- How many there are. -/
def cnt : List (Nat × Nat) → Nat
  | [] => 0
  | (a, b) :: r => (b - a + 1) + cnt r

theorem memS_cons (a b c : Nat) (r : List (Nat × Nat)) : memS ((a, b) :: r) c = true ↔ (a ≤ c ∧ c ≤ b) ∨ memS r c = true := by
  simp [memS]
theorem memS_nil (c : Nat) : memS [] c = false := rfl
theorem cnt_append : ∀ S T, cnt (S ++ T) = cnt S + cnt T
  | [], T => by simp [cnt]
  | (a, b) :: S, T => by simp only [List.cons_append, cnt, cnt_append S T]; omega

theorem Good.weaken : ∀ {lo lo' : Nat} {S : List (Nat × Nat)}, Good lo S → lo' ≤ lo → Good lo' S
  | _, _, [], _, _ => trivial
  | lo, lo', (a, b) :: r, ⟨h1, h2⟩, h => ⟨by omega, h2⟩
theorem Good.ge : ∀ {lo : Nat} {S : List (Nat × Nat)}, Good lo S → ∀ {c : Nat}, memS S c = true → lo ≤ c
  | _, [], _, c, hc => by simp [memS] at hc
  | lo, (a, b) :: r, ⟨h1, h2, h3, h4, h5⟩, c, hc => by
    rcases (memS_cons a b c r).1 hc with h | h
    · omega
    · have := h5.ge h; omega
theorem Good.le : ∀ {lo : Nat} {S : List (Nat × Nat)}, Good lo S → ∀ {c : Nat}, memS S c = true → c ≤ 1114111 ∧ (c < 55296 ∨ 57344 ≤ c)
  | _, [], _, c, hc => by simp [memS] at hc
  | lo, (a, b) :: r, ⟨h1, h2, h3, h4, h5⟩, c, hc => by
    rcases (memS_cons a b c r).1 hc with h | h
    · omega
    · exact h5.le h

/-- The same characters: the same ranges. -/
theorem Good.unique : ∀ {S T : List (Nat × Nat)} {lo lo' : Nat}, Good lo S → Good lo' T → (∀ c, memS S c = memS T c) → S = T
  | [], [], _, _, _, _, _ => rfl
  | [], (a, b) :: r, _, _, _, ⟨_, h2, _⟩, h => by
    have := h a
    rw [memS_nil, (memS_cons a b a r).2 (.inl ⟨Nat.le_refl _, h2⟩)] at this
    cases this
  | (a, b) :: r, [], _, _, ⟨_, h2, _⟩, _, h => by
    have := h a
    rw [memS_nil, (memS_cons a b a r).2 (.inl ⟨Nat.le_refl _, h2⟩)] at this
    cases this
  | (a, b) :: r, (a', b') :: r', lo, lo', ⟨h1, h2, h3, h4, h5⟩, ⟨g1, g2, g3, g4, g5⟩, h => by
    have key : ∀ c, ((a ≤ c ∧ c ≤ b) ∨ memS r c = true) ↔ ((a' ≤ c ∧ c ≤ b') ∨ memS r' c = true) := fun c => by
      rw [← memS_cons, ← memS_cons, h c]
    have ea : a = a' := by
      have k1 := (key a).1 (.inl ⟨Nat.le_refl _, h2⟩)
      have k2 := (key a').2 (.inl ⟨Nat.le_refl _, g2⟩)
      rcases k1 with k1 | k1
      · rcases k2 with k2 | k2
        · omega
        · have := h5.ge k2; omega
      · have := g5.ge k1
        rcases k2 with k2 | k2
        · omega
        · have := h5.ge k2; omega
    subst ea
    have eb : b = b' := by
      rcases Nat.lt_trichotomy b b' with hb | hb | hb
      · rcases (key (b + 1)).2 (.inl (by omega)) with k | k
        · omega
        · have := h5.ge k; omega
      · exact hb
      · rcases (key (b' + 1)).1 (.inl (by omega)) with k | k
        · omega
        · have := g5.ge k; omega
    subst eb
    have er : r = r' := Good.unique h5 g5 (fun c => by
      rw [Bool.eq_iff_iff]
      have k := key c
      constructor
      · intro hc
        have := h5.ge hc
        rcases k.1 (.inr hc) with k1 | k1
        · omega
        · exact k1
      · intro hc
        have := g5.ge hc
        rcases k.2 (.inr hc) with k1 | k1
        · omega
        · exact k1)
    rw [er]

/-- Place by place. -/
theorem Good.at_ : ∀ {S : List (Nat × Nat)} {lo : Nat}, Good lo S → ∀ {i : Nat} (hi : i < S.length), lo ≤ (S.getD i (0, 0)).1 ∧ (S.getD i (0, 0)).1 ≤ (S.getD i (0, 0)).2 ∧ (S.getD i (0, 0)).2 ≤ 1114111 ∧ ((S.getD i (0, 0)).2 < 55296 ∨ 57344 ≤ (S.getD i (0, 0)).1)
  | [], _, _, i, hi => by simp at hi
  | (a, b) :: r, lo, ⟨h1, h2, h3, h4, h5⟩, 0, _ => ⟨h1, h2, h3, h4⟩
  | (a, b) :: r, lo, ⟨h1, h2, h3, h4, h5⟩, i + 1, hi => by
    have := h5.at_ (i := i) (by simpa using hi)
    simp only [List.getD_cons_succ]
    omega
theorem Good.next : ∀ {S : List (Nat × Nat)} {lo : Nat}, Good lo S → ∀ {i j : Nat}, i < j → j < S.length → (S.getD i (0, 0)).2 + 2 ≤ (S.getD j (0, 0)).1
  | [], _, _, i, j, _, hj => by simp at hj
  | (a, b) :: r, lo, ⟨h1, h2, h3, h4, h5⟩, 0, j + 1, _, hj => by
    have := (h5.at_ (i := j) (by simpa using hj)).1
    simpa using this
  | (a, b) :: r, lo, ⟨h1, h2, h3, h4, h5⟩, i + 1, j + 1, hij, hj => by
    have := h5.next (i := i) (j := j) (by omega) (by simpa using hj)
    simpa using this
theorem memS_iff (S : List (Nat × Nat)) (c : Nat) : memS S c = true ↔ ∃ i, i < S.length ∧ (S.getD i (0, 0)).1 ≤ c ∧ c ≤ (S.getD i (0, 0)).2 := by
  simp only [memS, List.any_eq_true, Bool.and_eq_true, decide_eq_true_eq]
  constructor
  · rintro ⟨x, hx, h⟩
    obtain ⟨i, hi, rfl⟩ := List.getElem_of_mem hx
    exact ⟨i, hi, by simpa [List.getD, hi] using h⟩
  · rintro ⟨i, hi, h⟩
    exact ⟨S[i], List.getElem_mem hi, by simpa [List.getD, hi] using h⟩
theorem cnt_take_succ (S : List (Nat × Nat)) (i : Nat) (hi : i < S.length) : cnt (S.take (i + 1)) = cnt (S.take i) + ((S.getD i (0, 0)).2 - (S.getD i (0, 0)).1 + 1) := by
  rw [List.take_succ_eq_append_getElem hi, cnt_append]
  simp [cnt, List.getD, hi]
theorem Good.cnt_le : ∀ {S : List (Nat × Nat)} {lo : Nat}, Good lo S → lo ≤ 1114112 + 1 → cnt S + lo ≤ 1114112 + 1
  | [], lo, _, h => by simp [cnt]; omega
  | (a, b) :: r, lo, ⟨h1, h2, h3, h4, h5⟩, h => by
    have := h5.cnt_le (by omega)
    simp only [cnt]
    omega
end Go.Proofs.YtccbofaefpbhlaaDoor
