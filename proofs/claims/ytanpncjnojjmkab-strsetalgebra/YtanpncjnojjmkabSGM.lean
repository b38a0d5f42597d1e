/-
  A text put into a rising list, step by step; kinds; plain.
-/
import Derived.Test.YtanpncjnojjmkabSMath
namespace Go.Proofs.Ytanpncjnojjmkab
set_option linter.unusedVariables false

/-- What the walk over the list has made so far: N, of the first j of O; d: s is in it. -/
def Put (s : Tx) (O N : List Tx) (j : Nat) (d : Bool) : Prop :=
  Rise N ∧ (∀ x ∈ N, ∀ t ∈ O.drop j, lt x t = true) ∧ (∀ x, x ∈ N ↔ x ∈ O.take j ∨ (d = true ∧ x = s)) ∧ (d = false → ∀ t ∈ O.take j, lt t s = true) ∧ N.length ≤ j + 1 ∧ (d = false → N.length ≤ j)
theorem put_start (s : Tx) (O : List Tx) : Put s O [] 0 false := ⟨List.Pairwise.nil, by simp, by simp, by simp, by simp, by simp⟩
theorem drop_getD {l : List Tx} {j : Nat} (h : j < l.length) : l.drop j = l.getD j [] :: l.drop (j + 1) := by
  rw [List.drop_eq_getElem_cons h]; simp [List.getD, h]
theorem take_getD {l : List Tx} {j : Nat} (h : j < l.length) : l.take (j + 1) = l.take j ++ [l.getD j []] := by
  rw [List.take_succ_eq_append_getElem h]; simp [List.getD, h]
theorem getD_mem {l : List Tx} {j : Nat} (h : j < l.length) : l.getD j [] ∈ l := by
  simp only [List.getD_eq_getElem?_getD, List.getElem?_eq_getElem h, Option.getD_some]
  exact List.getElem_mem h
theorem rise_snoc {N : List Tx} {t : Tx} (h : Rise N) (h1 : ∀ x ∈ N, lt x t = true) : Rise (N ++ [t]) := by
  unfold Rise at h ⊢
  rw [List.pairwise_append]
  exact ⟨h, by simp, fun x hx y hy => by rw [List.mem_singleton] at hy; rw [hy]; exact h1 x hx⟩
theorem Rise.drop' {O : List Tx} (h : Rise O) (j : Nat) {a : Tx} {r : List Tx} (hd : O.drop j = a :: r) : ∀ t ∈ r, lt a t = true := by
  have h1 : (O.drop j).Pairwise fun a b => lt a b = true := List.Pairwise.drop h
  rw [hd, List.pairwise_cons] at h1
  exact h1.1
/-- The next one stays behind what is there. -/
theorem put_next {s : Tx} {O N : List Tx} {j : Nat} {d : Bool} (h : Put s O N j d) (hO : Rise O) (hj : j < O.length) (hs : s ∉ O) (hn : d = true ∨ lt s (O.getD j []) = false) : Put s O (N ++ [O.getD j []]) (j + 1) d := by
  obtain ⟨h1, h2, h3, h4, h5, h6⟩ := h
  have hd := drop_getD hj
  have hrest : ∀ t ∈ O.drop (j + 1), lt (O.getD j []) t = true := by
    have := hO.drop' j hd
    exact this
  refine ⟨rise_snoc h1 fun x hx => h2 x hx _ (by rw [hd]; simp), fun x hx t ht => ?_, fun x => ?_, fun hf t ht => ?_, by simp; omega, fun hf => by simp; exact h6 hf⟩
  · rw [List.mem_append, List.mem_singleton] at hx
    rcases hx with hx | rfl
    · exact h2 x hx t (by rw [hd]; exact List.mem_cons_of_mem _ ht)
    · exact hrest t ht
  · rw [take_getD hj, List.mem_append, List.mem_append, List.mem_singleton, h3 x]
    constructor
    · rintro ((h | h) | h)
      · exact .inl (.inl h)
      · exact .inr h
      · exact .inl (.inr h)
    · rintro ((h | h) | h)
      · exact .inl (.inl h)
      · exact .inr h
      · exact .inl (.inr h)
  · rw [take_getD hj, List.mem_append, List.mem_singleton] at ht
    rcases ht with ht | rfl
    · exact h4 hf t ht
    · cases hc : lt (O.getD j []) s with
      | true => rfl
      | false =>
        rcases hn with h7 | h7
        · rw [hf] at h7; cases h7
        · exact absurd (lt_total _ _ h7 hc ▸ getD_mem hj) hs
/-- s goes ahead of the next one. -/
theorem put_here {s : Tx} {O N : List Tx} {j : Nat} (h : Put s O N j false) (hO : Rise O) (hj : j < O.length) (hl : lt s (O.getD j []) = true) : Put s O (N ++ [s]) j true := by
  obtain ⟨h1, h2, h3, h4, h5, h6⟩ := h
  have hd := drop_getD hj
  refine ⟨rise_snoc h1 fun x hx => h4 rfl x (((h3 x).1 hx).resolve_right fun h => by cases h.1), fun x hx t ht => ?_, fun x => ?_, (fun hf => by cases hf), by simp; have := h6 rfl; omega, (fun hf => by cases hf)⟩
  · rw [List.mem_append, List.mem_singleton] at hx
    rcases hx with hx | rfl
    · exact h2 x hx t ht
    · rw [hd, List.mem_cons] at ht
      rcases ht with rfl | ht
      · exact hl
      · exact lt_trans hl (hO.drop' j hd t ht)
  · rw [List.mem_append, List.mem_singleton, h3 x]
    simp
/-- At the end. -/
theorem put_end {s : Tx} {O N : List Tx} (h : Put s O N O.length true) : Rise N ∧ (∀ x, x ∈ N ↔ x ∈ O ∨ x = s) ∧ N.length ≤ O.length + 1 := by
  obtain ⟨h1, h2, h3, h4, h5, h6⟩ := h
  rw [List.take_length] at h3
  exact ⟨h1, fun x => by rw [h3 x]; simp, h5⟩
theorem put_last {s : Tx} {O N : List Tx} (h : Put s O N O.length false) : Rise (N ++ [s]) ∧ (∀ x, x ∈ N ++ [s] ↔ x ∈ O ∨ x = s) ∧ (N ++ [s]).length ≤ O.length + 1 := by
  obtain ⟨h1, h2, h3, h4, h5, h6⟩ := h
  rw [List.take_length] at h3 h4
  refine ⟨rise_snoc h1 fun x hx => h4 rfl x (((h3 x).1 hx).resolve_right fun h => by cases h.1), fun x => ?_, by simp; exact h6 rfl⟩
  rw [List.mem_append, List.mem_singleton, h3 x]
  simp

/-- 1: in the first alone; 2: in the second alone; 3: in both. -/
def kindOf (a b : List Tx) (x : Tx) : Nat := (if isIn a x then 1 else 0) + if isIn b x then 2 else 0
def wanted (a b : List Tx) (ks : List Nat) (x : Tx) : Bool := decide (kindOf a b x ∈ ks)
/-- The texts of both, of which the kind is wanted, of the first i: O. -/
def Upto (a b : List Tx) (ks : List Nat) (i : Nat) (O : List Tx) : Prop := Rise O ∧ (∀ x, x ∈ O ↔ x ∈ (a ++ b).take i ∧ wanted a b ks x = true) ∧ O.length ≤ i
theorem upto_start (a b : List Tx) (ks : List Nat) : Upto a b ks 0 [] := ⟨List.Pairwise.nil, by simp, by simp⟩
theorem upto_skip {a b : List Tx} {ks : List Nat} {i : Nat} {O : List Tx} (h : Upto a b ks i O) (hi : i < (a ++ b).length) (hw : wanted a b ks ((a ++ b).getD i []) = false ∨ isIn O ((a ++ b).getD i []) = true) : Upto a b ks (i + 1) O := by
  obtain ⟨h1, h2, h3⟩ := h
  refine ⟨h1, fun x => ?_, by omega⟩
  rw [take_getD hi, List.mem_append, List.mem_singleton, h2 x]
  constructor
  · rintro ⟨h4, h5⟩; exact ⟨.inl h4, h5⟩
  · rintro ⟨h4 | rfl, h5⟩
    · exact ⟨h4, h5⟩
    · rcases hw with hw | hw
      · rw [hw] at h5; cases h5
      · exact (h2 _).1 (by simpa [isIn] using hw)
theorem upto_more {a b : List Tx} {ks : List Nat} {i : Nat} {O N : List Tx} (h : Upto a b ks i O) (hi : i < (a ++ b).length) (hw : wanted a b ks ((a ++ b).getD i []) = true) (hN : Rise N ∧ (∀ x, x ∈ N ↔ x ∈ O ∨ x = (a ++ b).getD i []) ∧ N.length ≤ O.length + 1) : Upto a b ks (i + 1) N := by
  obtain ⟨h1, h2, h3⟩ := h
  obtain ⟨h4, h5, h6⟩ := hN
  refine ⟨h4, fun x => ?_, by omega⟩
  rw [take_getD hi, List.mem_append, List.mem_singleton, h5 x, h2 x]
  constructor
  · rintro (⟨h7, h8⟩ | rfl)
    · exact ⟨.inl h7, h8⟩
    · exact ⟨.inr rfl, hw⟩
  · rintro ⟨h7 | rfl, h8⟩
    · exact .inl ⟨h7, h8⟩
    · exact .inr rfl
/-- What is answered: rising, and just those of both whose kind is wanted. -/
def Right (a b : List Tx) (ks : List Nat) (O : List Tx) : Prop := Rise O ∧ ∀ x, x ∈ O ↔ (x ∈ a ∨ x ∈ b) ∧ wanted a b ks x = true
theorem upto_end {a b : List Tx} {ks : List Nat} {O : List Tx} {i : Nat} (h : Upto a b ks i O) (hi : (a ++ b).length ≤ i) : Right a b ks O := by
  obtain ⟨h1, h2, h3⟩ := h
  refine ⟨h1, fun x => ?_⟩
  rw [h2 x, List.take_of_length_le hi, List.mem_append]
theorem Right.unique {a b : List Tx} {ks : List Nat} {O N : List Tx} (h : Right a b ks O) (h' : Right a b ks N) : O = N := h.1.unique h'.1 fun x => (h.2 x).trans (h'.2 x).symm
end Go.Proofs.Ytanpncjnojjmkab
