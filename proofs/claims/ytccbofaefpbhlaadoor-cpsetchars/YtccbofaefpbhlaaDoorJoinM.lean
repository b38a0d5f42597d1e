/-
  Ranges in order of their beginnings, joined; it speaks of no program.
-/
import Derived.Test.YtccbofaefpbhlaaDoorSetM
namespace Go.Proofs.YtccbofaefpbhlaaDoor
set_option linter.unusedVariables false

theorem memS_append (S T : List (Nat × Nat)) (c : Nat) : memS (S ++ T) c = (memS S c || memS T c) := by simp [memS]
theorem memS_one (a b c : Nat) : memS [(a, b)] c = true ↔ a ≤ c ∧ c ≤ b := by simp [memS]

theorem Good.snoc : ∀ {S : List (Nat × Nat)} {lo a b : Nat}, Good lo S → (∀ p q, S.getLast? = some (p, q) → q + 2 ≤ a) → lo ≤ a → a ≤ b → b ≤ 1114111 → (b < 55296 ∨ 57344 ≤ a) → Good lo (S ++ [(a, b)])
  | [], lo, a, b, _, _, h1, h2, h3, h4 => ⟨h1, h2, h3, h4, trivial⟩
  | [(p, q)], lo, a, b, ⟨g1, g2, g3, g4, _⟩, hl, h1, h2, h3, h4 => ⟨g1, g2, g3, g4, hl p q rfl, h2, h3, h4, trivial⟩
  | (p, q) :: r :: S, lo, a, b, ⟨g1, g2, g3, g4, g5⟩, hl, h1, h2, h3, h4 => by
    refine ⟨g1, g2, g3, g4, ?_⟩
    have hl' : ∀ p' q', (r :: S).getLast? = some (p', q') → q' + 2 ≤ a := fun p' q' h => hl p' q' (by rw [List.getLast?_cons_cons]; exact h)
    have hq : q + 2 ≤ a := by
      obtain ⟨x, hx⟩ : ∃ x, (r :: S).getLast? = some x := ⟨_, List.getLast?_eq_some_getLast (by simp)⟩
      have h5 := hl' x.1 x.2 hx
      have hm : x ∈ r :: S := List.mem_of_getLast? hx
      obtain ⟨i, hi, rfl⟩ := List.getElem_of_mem hm
      have := g5.at_ hi
      simp only [List.getD_eq_getElem?_getD, List.getElem?_eq_getElem hi, Option.getD_some] at this
      omega
    exact g5.snoc hl' hq h2 h3 h4
theorem Good.init : ∀ {S : List (Nat × Nat)} {lo : Nat} {x : Nat × Nat}, Good lo (S ++ [x]) → Good lo S
  | [], lo, x, _ => trivial
  | (p, q) :: S, lo, x, ⟨g1, g2, g3, g4, g5⟩ => ⟨g1, g2, g3, g4, g5.init⟩
theorem Good.setLast : ∀ {S : List (Nat × Nat)} {lo p q q' : Nat}, Good lo (S ++ [(p, q)]) → q ≤ q' → q' ≤ 1114111 → (q' < 55296 ∨ 57344 ≤ p) → Good lo (S ++ [(p, q')])
  | [], lo, p, q, q', ⟨g1, g2, g3, g4, _⟩, h1, h2, h3 => ⟨g1, by omega, h2, h3, trivial⟩
  | (x, y) :: S, lo, p, q, q', ⟨g1, g2, g3, g4, g5⟩, h1, h2, h3 => ⟨g1, g2, g3, g4, g5.setLast h1 h2 h3⟩

/-- A range that may be a part of a set. -/
def Part (r : Nat × Nat) : Prop := r.1 ≤ r.2 ∧ r.2 ≤ 1114111 ∧ (r.2 < 55296 ∨ 57344 ≤ r.1)
/-- One range more. -/
def joinStep (S : List (Nat × Nat)) (r : Nat × Nat) : List (Nat × Nat) :=
  match S.getLast? with
  | some x => if r.1 ≤ x.2 + 1 then S.dropLast ++ [(x.1, max x.2 r.2)] else S ++ [r]
  | none => [r]
/-- All of them. -/
def joinAll (L : List (Nat × Nat)) : List (Nat × Nat) := L.foldl joinStep []

theorem joinStep_spec {S : List (Nat × Nat)} {r : Nat × Nat} (hg : Good 0 S) (hr : Part r) (hl : ∀ x, S.getLast? = some x → x.1 ≤ r.1) :
    Good 0 (joinStep S r) ∧ (∀ c, memS (joinStep S r) c = (memS S c || memS [r] c)) ∧ ∀ x, (joinStep S r).getLast? = some x → x.1 ≤ r.1 := by
  obtain ⟨a, b⟩ := r
  obtain ⟨h1, h2, h3⟩ := hr
  unfold joinStep
  cases hS : S.getLast? with
  | none =>
    have : S = [] := List.getLast?_eq_none_iff.1 hS
    subst this
    refine ⟨⟨Nat.zero_le _, h1, h2, h3, trivial⟩, fun c => by simp [memS], fun x hx => ?_⟩
    simp at hx
    subst hx
    exact Nat.le_refl _
  | some x =>
    obtain ⟨p, q⟩ := x
    obtain ⟨T, rfl⟩ : ∃ T, S = T ++ [(p, q)] := List.getLast?_eq_some_iff.1 hS
    have hp : p ≤ a := hl (p, q) hS
    have hlast := hg.at_ (i := T.length) (by simp)
    simp at hlast
    simp only [List.dropLast_concat]
    by_cases hc : a ≤ q + 1
    · rw [if_pos hc]
      refine ⟨hg.setLast (by omega) (by omega) (by omega), fun c => ?_, fun x hx => ?_⟩
      · rw [memS_append, memS_append, Bool.eq_iff_iff, Bool.or_eq_true, Bool.or_eq_true, Bool.or_eq_true, memS_one, memS_one, memS_one]
        constructor
        · rintro (h | h)
          · exact .inl (.inl h)
          · rcases Nat.lt_or_ge q c with h4 | h4
            · exact .inr (by omega)
            · exact .inl (.inr (by omega))
        · rintro ((h | h) | h)
          · exact .inl h
          · exact .inr (by omega)
          · exact .inr (by omega)
      · simp at hx
        subst hx
        exact hp
    · rw [if_neg hc]
      refine ⟨hg.snoc (fun p' q' h => ?_) (Nat.zero_le _) h1 h2 h3, fun c => by rw [memS_append], fun x hx => ?_⟩
      · rw [hS] at h
        injection h with h
        injection h with h4 h5
        omega
      · simp at hx
        subst hx
        exact Nat.le_refl _

theorem joinAll_spec : ∀ (L S : List (Nat × Nat)), Good 0 S → (∀ r ∈ L, Part r) → (L.map (·.1)).Pairwise (· ≤ ·) → (∀ x, S.getLast? = some x → ∀ r ∈ L, x.1 ≤ r.1) →
    Good 0 (L.foldl joinStep S) ∧ ∀ c, memS (L.foldl joinStep S) c = (memS S c || memS L c)
  | [], S, hg, _, _, _ => ⟨hg, fun c => by simp [memS]⟩
  | r :: L, S, hg, hp, hs, hl => by
    obtain ⟨g1, g2, g3⟩ := joinStep_spec hg (hp r (by simp)) (fun x hx => hl x hx r (by simp))
    rw [List.map_cons, List.pairwise_cons] at hs
    obtain ⟨k1, k2⟩ := joinAll_spec L (joinStep S r) g1 (fun x hx => hp x (by simp [hx])) hs.2 (fun x hx y hy => Nat.le_trans (g3 x hx) (hs.1 y.1 (List.mem_map.2 ⟨y, hy, rfl⟩)))
    refine ⟨k1, fun c => ?_⟩
    rw [List.foldl_cons, k2 c, g2 c, show r :: L = [r] ++ L from rfl, memS_append, Bool.or_assoc]
end Go.Proofs.YtccbofaefpbhlaaDoor
