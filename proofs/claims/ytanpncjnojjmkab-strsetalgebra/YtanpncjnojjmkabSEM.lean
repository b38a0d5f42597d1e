/-
  Texts that begin with another one, in a rising list; plain.
-/
import Derived.Test.YtanpncjnojjmkabSMath
import Derived.Lib.Strings
namespace Go.Proofs.Ytanpncjnojjmkab
set_option linter.unusedVariables false

/-- y begins with x. -/
def beg (x y : Tx) : Bool := Lib.hasPrefix y x
theorem beg_nil (y : Tx) : beg [] y = true := by simp [beg, Lib.hasPrefix]
theorem beg_cons (a b : UInt8) (x y : Tx) : beg (a :: x) (b :: y) = (a == b && beg x y) := rfl
theorem beg_cons_nil (a : UInt8) (x : Tx) : beg (a :: x) [] = false := by simp [beg, Lib.hasPrefix]
theorem lt_cons (a b : UInt8) (x y : Tx) : lt (a :: x) (b :: y) = (decide (a < b) || (a == b && lt x y)) := by simp [lt, Op.bytesLess]
theorem lt_nil (x : Tx) : lt x [] = false := by cases x <;> simp [lt, Op.bytesLess]
/-- What is less than x doesn't begin with it. -/
theorem beg_of_lt : ∀ {x y : Tx}, lt y x = true → beg x y = false
  | [], y, h => by rw [lt_nil] at h; cases h
  | a :: x, [], h => beg_cons_nil a x
  | a :: x, b :: y, h => by
    rw [lt_cons] at h
    rw [beg_cons]
    simp only [Bool.or_eq_true, Bool.and_eq_true, decide_eq_true_eq, beq_iff_eq] at h
    rcases h with h | ⟨rfl, h⟩
    · have : (a == b) = false := by rw [beq_eq_false_iff_ne]; rintro rfl; exact absurd h (UInt8.lt_irrefl _)
      rw [this]; rfl
    · rw [beg_of_lt h]; simp
/-- What is greater than one that isn't less than x, and doesn't begin with x, doesn't either. -/
theorem beg_behind : ∀ {x y z : Tx}, lt y x = false → beg x y = false → lt y z = true → beg x z = false
  | [], y, z, _, h, _ => by rw [beg_nil] at h; cases h
  | a :: x, [], z, h, _, _ => by simp [lt, Op.bytesLess] at h
  | a :: x, b :: y, [], _, _, h => by rw [lt_nil] at h; cases h
  | a :: x, b :: y, c :: z, h1, h2, h3 => by
    rw [lt_cons] at h1 h3
    rw [beg_cons] at h2 ⊢
    simp only [Bool.or_eq_false_iff, Bool.and_eq_false_iff, decide_eq_false_iff_not, beq_eq_false_iff_ne] at h1 h2 ⊢
    simp only [Bool.or_eq_true, Bool.and_eq_true, decide_eq_true_eq, beq_iff_eq] at h3
    by_cases hac : a = c
    · subst hac
      rcases h3 with h3 | ⟨rfl, h3⟩
      · exact absurd h3 h1.1
      · refine .inr (beg_behind (h1.2.resolve_left fun h => h rfl) (h2.resolve_left fun h => h rfl) h3)
    · exact .inl hac
/-- Those that begin with x. -/
def begOf (l : List Tx) (x : Tx) : List Tx := l.filter fun y => beg x y
theorem Rise.tail {a : Tx} {l : List Tx} (h : Rise (a :: l)) : Rise l := (List.pairwise_cons.1 h).2
theorem Rise.drop {l : List Tx} (h : Rise l) (k : Nat) : Rise (l.drop k) := List.Pairwise.drop h
theorem Rise.take {l : List Tx} (h : Rise l) (k : Nat) : Rise (l.take k) := List.Pairwise.take h
theorem Rise.filter {l : List Tx} (h : Rise l) (p : Tx → Bool) : Rise (l.filter p) := List.Pairwise.filter p h
/-- How many begin with x, of those that aren't less. -/
def runOf (l : List Tx) (x : Tx) : Nat := (l.takeWhile fun y => beg x y).length
theorem begOf_none {l : List Tx} {x : Tx} (h : ∀ y ∈ l, beg x y = false) : begOf l x = [] := by
  unfold begOf
  rw [List.filter_eq_nil_iff]
  intro y hy
  rw [h y hy]; simp
theorem behind_none : ∀ {a : Tx} {l : List Tx}, Rise (a :: l) → ∀ {x : Tx}, lt a x = false → beg x a = false → ∀ y ∈ l, beg x y = false := by
  intro a l h x h1 h2 y hy
  exact beg_behind h1 h2 ((List.pairwise_cons.1 h).1 y hy)
theorem lt_back {a b x : Tx} (h : lt a b = true) (ha : lt a x = false) : lt b x = false := by
  cases hb : lt b x with
  | false => rfl
  | true => have := lt_trans h hb; rw [ha] at this; cases this
theorem begOf_take : ∀ {l : List Tx}, Rise l → ∀ {x : Tx}, (∀ y ∈ l, lt y x = false) → begOf l x = l.take (runOf l x) ∧ runOf l x ≤ l.length ∧ ∀ i, i < l.length → (beg x (l.getD i []) = true ↔ i < runOf l x)
  | [], _, x, _ => by simp [begOf, runOf]
  | a :: l, h, x, hx => by
    have ih := begOf_take h.tail (x := x) fun y hy => hx y (List.mem_cons_of_mem _ hy)
    cases hb : beg x a with
    | true =>
      have hr : runOf (a :: l) x = runOf l x + 1 := by simp [runOf, List.takeWhile_cons, hb]
      rw [hr]
      refine ⟨?_, by simp; exact ih.2.1, fun i hi => ?_⟩
      · rw [List.take_succ_cons, ← ih.1]; simp [begOf, List.filter_cons, hb]
      · rcases i with _ | i
        · simp [hb]
        · simp only [List.getD_cons_succ]
          rw [ih.2.2 i (by simpa using hi)]
          omega
    | false =>
      have hr : runOf (a :: l) x = 0 := by simp [runOf, List.takeWhile_cons, hb]
      have hn := behind_none h (hx a (by simp)) hb
      rw [hr]
      refine ⟨?_, Nat.zero_le _, fun i hi => ?_⟩
      · rw [List.take_zero]
        refine begOf_none fun y hy => ?_
        rw [List.mem_cons] at hy
        rcases hy with rfl | hy
        · exact hb
        · exact hn y hy
      · rcases i with _ | i
        · simp [hb]
        · simp only [List.getD_cons_succ, Nat.not_lt_zero, iff_false, Bool.not_eq_true]
          have hi' : i < l.length := by simpa using hi
          refine hn _ ?_
          simp only [List.getD_eq_getElem?_getD, List.getElem?_eq_getElem hi', Option.getD_some]
          exact List.getElem_mem hi'
theorem begOf_drop {l : List Tx} (h : Rise l) (x : Tx) : begOf (l.drop (less l x)) x = begOf l x := by
  conv => rhs; rw [← List.take_append_drop (less l x) l]
  unfold begOf
  rw [List.filter_append]
  have : (l.take (less l x)).filter (fun y => beg x y) = [] := by
    rw [List.filter_eq_nil_iff]
    intro y hy
    obtain ⟨i, hi, rfl⟩ := List.getElem_of_mem hy
    rw [List.length_take] at hi
    have h1 := (h.less_iff x (i := i) (by omega)).1 (by omega)
    rw [List.getElem_take]
    have h2 : l.getD i [] = l[i] := by simp [List.getD, show i < l.length by omega]
    rw [h2] at h1
    rw [beg_of_lt h1]; simp
  rw [this, List.nil_append]
theorem drop_less {l : List Tx} (h : Rise l) (x : Tx) : ∀ y ∈ l.drop (less l x), lt y x = false := by
  intro y hy
  obtain ⟨i, hi, rfl⟩ := List.getElem_of_mem hy
  rw [List.length_drop] at hi
  have h1 := h.less_iff x (i := less l x + i) (by omega)
  rw [List.getElem_drop]
  have h2 : l.getD (less l x + i) [] = l[less l x + i] := by simp [List.getD, show less l x + i < l.length by omega]
  rw [h2] at h1
  cases hc : lt l[less l x + i] x with
  | false => rfl
  | true => have := h1.2 hc; omega
/-- Those between two. -/
def midOf (l : List Tx) (x y : Tx) : List Tx := l.filter fun z => !lt z x && lt z y
theorem midOf_eq {l : List Tx} (h : Rise l) (x y : Tx) : midOf l x y = (l.drop (less l x)).take (max (less l x) (less l y) - less l x) := by
  refine Rise.unique (h.filter _) ((h.drop _).take _) fun z => ?_
  have hlx := less_le l x
  have hly := less_le l y
  unfold midOf
  rw [List.mem_filter]
  constructor
  · rintro ⟨hm, hz⟩
    obtain ⟨i, hi, rfl⟩ := List.getElem_of_mem hm
    have h2 : l.getD i [] = l[i] := by simp [List.getD, hi]
    have h3 := h.less_iff x hi
    have h4 := h.less_iff y hi
    rw [h2] at h3 h4
    simp only [Bool.and_eq_true, Bool.not_eq_true'] at hz
    have h5 : less l x ≤ i := by
      rcases Nat.lt_or_ge i (less l x) with h6 | h6
      · have := h3.1 h6; rw [hz.1] at this; cases this
      · exact h6
    have h6 := h4.2 hz.2
    rw [List.mem_take_iff_getElem]
    refine ⟨i - less l x, by simp; omega, ?_⟩
    rw [List.getElem_drop]
    congr 1
    omega
  · intro hm
    rw [List.mem_take_iff_getElem] at hm
    obtain ⟨i, hi, rfl⟩ := hm
    rw [List.length_drop] at hi
    rw [List.getElem_drop]
    have hi' : less l x + i < l.length := by omega
    have h2 : l.getD (less l x + i) [] = l[less l x + i] := by simp [List.getD, hi']
    have h3 := h.less_iff x hi'
    have h4 := h.less_iff y hi'
    rw [h2] at h3 h4
    refine ⟨List.getElem_mem hi', ?_⟩
    have h5 : lt l[less l x + i] x = false := by
      cases hc : lt l[less l x + i] x with
      | false => rfl
      | true => have := h3.2 hc; omega
    rw [h5, h4.1 (by omega)]
    rfl
end Go.Proofs.Ytanpncjnojjmkab
