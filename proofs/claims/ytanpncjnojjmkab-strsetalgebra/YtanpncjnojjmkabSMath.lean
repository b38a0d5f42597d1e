/-
  The order of texts, rising lists of texts, what is in them; plain.
-/
import Derived.Lib.Bytealg
import Derived.Lib.SlicesCompact
import Derived.Sort.LotA
import Derived.Shelf.SlSortCmp.Kit1
namespace Go.Proofs.Ytanpncjnojjmkab
set_option linter.unusedVariables false

abbrev Tx := List UInt8
/-- One text is less than another. -/
def lt (a b : Tx) : Bool := Op.bytesLess a b
theorem lt_self : ∀ a : Tx, lt a a = false
  | [] => rfl
  | x :: r => by have := lt_self r; unfold lt at this ⊢; simp [Op.bytesLess, this, UInt8.lt_irrefl]
theorem lt_trans : ∀ {a b c : Tx}, lt a b = true → lt b c = true → lt a c = true
  | [], [], _, h, _ => by simp [lt, Op.bytesLess] at h
  | [], _ :: _, [], _, h => by simp [lt, Op.bytesLess] at h
  | [], _ :: _, _ :: _, _, _ => by simp [lt, Op.bytesLess]
  | _ :: _, [], _, h, _ => by simp [lt, Op.bytesLess] at h
  | _ :: _, _ :: _, [], _, h => by simp [lt, Op.bytesLess] at h
  | x :: a, y :: b, z :: c, h1, h2 => by
    simp only [lt, Op.bytesLess, Bool.or_eq_true, Bool.and_eq_true, decide_eq_true_eq, beq_iff_eq] at h1 h2 ⊢
    rcases h1 with h1 | ⟨rfl, h1⟩
    · rcases h2 with h2 | ⟨rfl, h2⟩
      · exact .inl (UInt8.lt_trans h1 h2)
      · exact .inl h1
    · rcases h2 with h2 | ⟨rfl, h2⟩
      · exact .inl h2
      · exact .inr ⟨rfl, lt_trans h1 h2⟩
theorem lt_total : ∀ (a b : Tx), lt a b = false → lt b a = false → a = b
  | [], [], _, _ => rfl
  | [], _ :: _, h, _ => by simp [lt, Op.bytesLess] at h
  | _ :: _, [], _, h => by simp [lt, Op.bytesLess] at h
  | x :: a, y :: b, h1, h2 => by
    simp only [lt, Op.bytesLess, Bool.or_eq_false_iff, Bool.and_eq_false_iff, decide_eq_false_iff_not, beq_eq_false_iff_ne] at h1 h2
    have hxy : x = y := by
      have h3 := h1.1; have h4 := h2.1
      rw [UInt8.lt_iff_toNat_lt] at h3 h4
      exact UInt8.toNat_inj.1 (by omega)
    subst hxy
    rw [lt_total a b (h1.2.resolve_left fun h => h rfl) (h2.2.resolve_left fun h => h rfl)]
theorem lt_asymm {a b : Tx} (h : lt a b = true) : lt b a = false := by
  cases hb : lt b a with
  | false => rfl
  | true => have := lt_trans h hb; rw [lt_self] at this; cases this
theorem lt_cmp : ∀ (a b : Tx), (decide (Lib.compareBytes a b < 0)) = lt a b
  | [], [] => by simp [Lib.compareBytes, lt, Op.bytesLess]
  | [], _ :: _ => by simp [Lib.compareBytes, lt, Op.bytesLess]
  | _ :: _, [] => by simp [Lib.compareBytes, lt, Op.bytesLess]
  | x :: a, y :: b => by
    have ih := lt_cmp a b
    unfold lt at ih ⊢
    unfold Lib.compareBytes
    by_cases h : x < y
    · simp [h, Op.bytesLess]
    · by_cases h2 : y < x
      · have hne : x ≠ y := by rintro rfl; exact absurd h2 (UInt8.lt_irrefl _)
        simp [h, h2, Op.bytesLess, hne]
      · have hxy : x = y := by
          rw [UInt8.lt_iff_toNat_lt] at h h2
          exact UInt8.toNat_inj.1 (by omega)
        subst hxy
        rw [if_neg h, if_neg h, ih]
        simp [Op.bytesLess, UInt8.lt_irrefl]
theorem cmp_self : ∀ a : Tx, Lib.compareBytes a a = 0
  | [] => by simp [Lib.compareBytes]
  | x :: a => by simp [Lib.compareBytes, UInt8.lt_irrefl, cmp_self a]
theorem cmp_zero : ∀ (a b : Tx), Lib.compareBytes a b = 0 → a = b
  | [], [], _ => rfl
  | [], _ :: _, h => by simp [Lib.compareBytes] at h
  | _ :: _, [], h => by simp [Lib.compareBytes] at h
  | x :: a, y :: b, h => by
    unfold Lib.compareBytes at h
    by_cases h1 : x < y
    · simp [h1] at h
    · by_cases h2 : y < x
      · simp [h1, h2] at h
      · rw [if_neg h1, if_neg h2] at h
        have hxy : x = y := by
          rw [UInt8.lt_iff_toNat_lt] at h1 h2
          exact UInt8.toNat_inj.1 (by omega)
        rw [hxy, cmp_zero a b h]
theorem ltOf_cmp (a b : Tx) : ltOf Lib.compareBytes a b = lt a b := by unfold ltOf; exact lt_cmp a b
theorem cmp_swo : Sort.SWO (ltOf Lib.compareBytes) where
  irrefl x := by rw [ltOf_cmp, lt_self]
  trans x y z h1 h2 := by rw [ltOf_cmp] at *; exact lt_trans h1 h2
  ntrans x y z h1 h2 := by
    rw [ltOf_cmp] at *
    cases h : lt x z with
    | false => rfl
    | true =>
      cases h3 : lt y x with
      | true => have := lt_trans h3 h; rw [this] at h2; cases h2
      | false => have := lt_total x y h1 h3; subst this; rw [h] at h2; cases h2

/-- The texts rise, each once. -/
def Rise (l : List Tx) : Prop := l.Pairwise fun a b => lt a b = true
theorem Rise.unique : ∀ {l m : List Tx}, Rise l → Rise m → (∀ x, x ∈ l ↔ x ∈ m) → l = m
  | [], [], _, _, _ => rfl
  | [], y :: m, _, _, h => by have := (h y).2 (by simp); simp at this
  | x :: l, [], _, _, h => by have := (h x).1 (by simp); simp at this
  | x :: l, y :: m, h1, h2, h => by
    unfold Rise at h1 h2
    rw [List.pairwise_cons] at h1 h2
    have hxy : x = y := by
      have hx := (h x).1 (by simp)
      have hy := (h y).2 (by simp)
      rw [List.mem_cons] at hx hy
      rcases hx with hx | hx
      · exact hx
      · rcases hy with hy | hy
        · exact hy.symm
        · have := h2.1 x hx
          have h4 := h1.1 y hy
          rw [lt_asymm this] at h4
          cases h4
    subst hxy
    congr 1
    refine Rise.unique h1.2 h2.2 fun z => ?_
    have hz := h z
    rw [List.mem_cons, List.mem_cons] at hz
    constructor
    · intro hm
      rcases hz.1 (.inr hm) with rfl | h5
      · have := h1.1 z hm; rw [lt_self] at this; cases this
      · exact h5
    · intro hm
      rcases hz.2 (.inr hm) with rfl | h5
      · have := h2.1 z hm; rw [lt_self] at this; cases this
      · exact h5
theorem Rise.get {l : List Tx} (h : Rise l) {i j : Nat} (hij : i < j) (hj : j < l.length) : lt (l.getD i []) (l.getD j []) = true := by
  have := List.pairwise_iff_getElem.1 h i j (by omega) hj hij
  simpa [List.getD, show i < l.length by omega, hj] using this
/-- How many are less than x. -/
def less (l : List Tx) (x : Tx) : Nat := l.countP fun y => lt y x
theorem less_le (l : List Tx) (x : Tx) : less l x ≤ l.length := List.countP_le_length
theorem less_cons (a : Tx) (l : List Tx) (x : Tx) : less (a :: l) x = less l x + if lt a x = true then 1 else 0 := List.countP_cons
theorem less_zero {l : List Tx} {x : Tx} (h : ∀ y ∈ l, lt y x = false) : less l x = 0 := by
  unfold less; rw [List.countP_eq_zero]; intro y hy; rw [h y hy]; simp
theorem Rise.less_iff : ∀ {l : List Tx}, Rise l → ∀ (x : Tx) {i : Nat}, i < l.length → (i < less l x ↔ lt (l.getD i []) x = true)
  | [], _, x, i, hi => by simp at hi
  | a :: l, h, x, i, hi => by
    unfold Rise at h
    rw [List.pairwise_cons] at h
    rw [less_cons]
    cases ha : lt a x with
    | true =>
      rw [if_pos rfl]
      rcases i with _ | i
      · simp [ha]
      · have := Rise.less_iff h.2 x (i := i) (by simpa using hi)
        simp only [List.getD_cons_succ]
        rw [← this]
        omega
    | false =>
      rw [if_neg (by simp)]
      have hz : less l x = 0 := less_zero fun y hy => by
        cases hyx : lt y x with
        | false => rfl
        | true => have := lt_trans (h.1 y hy) hyx; rw [ha] at this; cases this
      rw [hz]
      rcases i with _ | i
      · simp [ha]
      · simp only [List.getD_cons_succ, Nat.add_zero, Nat.not_lt_zero, false_iff, Bool.not_eq_true]
        have hm : l.getD i [] ∈ l := by
          have hi' : i < l.length := by simpa using hi
          simp only [List.getD_eq_getElem?_getD, List.getElem?_eq_getElem hi', Option.getD_some]
          exact List.getElem_mem hi'
        cases hyx : lt (l.getD i []) x with
        | false => rfl
        | true => have := lt_trans (h.1 _ hm) hyx; rw [ha] at this; cases this
theorem Rise.less_at {l : List Tx} (h : Rise l) {i : Nat} (hi : i < l.length) : less l (l.getD i []) = i := by
  have h1 := h.less_iff (l.getD i []) hi
  rw [lt_self] at h1
  rcases Nat.lt_or_ge (less l (l.getD i [])) i with h2 | h2
  · have h3 := (h.less_iff (l.getD i []) (i := less l (l.getD i [])) (by omega))
    have h4 := h.get h2 hi
    have := h3.2 h4
    omega
  · have : ¬ i < less l (l.getD i []) := fun h5 => by have := h1.1 h5; cases this
    omega
theorem Rise.mem_iff {l : List Tx} (h : Rise l) (x : Tx) : x ∈ l ↔ less l x < l.length ∧ l.getD (less l x) [] = x := by
  constructor
  · intro hm
    obtain ⟨i, hi, rfl⟩ := List.getElem_of_mem hm
    have h1 := h.less_at hi
    have h2 : l.getD i [] = l[i] := by simp [List.getD, hi]
    rw [h2] at h1
    rw [h1]
    exact ⟨hi, h2⟩
  · rintro ⟨h1, h2⟩
    rw [← h2]
    simp only [List.getD_eq_getElem?_getD, List.getElem?_eq_getElem h1, Option.getD_some]
    exact List.getElem_mem h1
/-- Whether it is one of them. -/
def isIn (l : List Tx) (x : Tx) : Bool := decide (x ∈ l)

/-- A place from which one with the same text is kept by slices.Compact. -/
theorem kept_at (l : List Tx) : ∀ n, n < l.length → ∃ m, m ≤ n ∧ Lib.keeps l.toArray m = true ∧ l.getD m [] = l.getD n []
  | 0, h => ⟨0, Nat.le_refl _, by simp [Lib.keeps], rfl⟩
  | n + 1, h => by
    cases hk : Lib.keeps l.toArray (n + 1) with
    | true => exact ⟨n + 1, Nat.le_refl _, hk, rfl⟩
    | false =>
      obtain ⟨m, h1, h2, h3⟩ := kept_at l n (by omega)
      refine ⟨m, by omega, h2, h3.trans ?_⟩
      unfold Lib.keeps at hk
      rw [decide_eq_false_iff_not] at hk
      have h4 : l.toArray[n + 1]! = l.toArray[n + 1 - 1]! := Classical.byContradiction fun h5 => hk (.inr h5)
      rw [getElem!_pos l.toArray (n + 1) (by simpa using h), getElem!_pos l.toArray (n + 1 - 1) (by simp; omega)] at h4
      simp at h4
      simp [List.getD, h, show n < l.length by omega, h4]
theorem toArray_get (l : List Tx) {i : Nat} (h : i < l.length) : l.toArray[i]! = l.getD i [] := by
  rw [getElem!_pos l.toArray i (by simpa using h)]
  simp [List.getD, h]
theorem compact_mem (l : List Tx) (x : Tx) : x ∈ Lib.compact l ↔ x ∈ l := by
  unfold Lib.compact Lib.compactUpTo
  simp only [List.mem_map, List.mem_filter, List.mem_range]
  constructor
  · rintro ⟨i, ⟨hi, _⟩, rfl⟩
    rw [getElem!_pos l.toArray i (by simpa using hi)]
    simp
  · intro hm
    obtain ⟨i, hi, hx⟩ := List.getElem_of_mem hm
    obtain ⟨m, h1, h2, h3⟩ := kept_at l i hi
    refine ⟨m, ⟨by omega, h2⟩, ?_⟩
    rw [toArray_get l (by omega), h3, ← hx]
    simp [List.getD, hi]
/-- What slices.Compact makes of texts that don't fall rises. -/
theorem compact_rise (l : List Tx) (h : ∀ i j, i < j → j < l.length → lt (l.getD j []) (l.getD i []) = false) : Rise (Lib.compact l) := by
  unfold Lib.compact Lib.compactUpTo Rise
  rw [List.pairwise_map]
  have hr : (List.range l.length).Pairwise (· < ·) := List.pairwise_lt_range
  have hf := hr.filter (Lib.keeps l.toArray)
  refine List.Pairwise.imp_of_mem ?_ hf
  intro i j hi hj hij
  rw [List.mem_filter, List.mem_range] at hi hj
  obtain ⟨hj1, hj2⟩ := hj
  rw [toArray_get l hi.1, toArray_get l hj1]
  unfold Lib.keeps at hj2
  rw [decide_eq_true_eq] at hj2
  have hne := hj2.resolve_left (by omega)
  rw [toArray_get l hj1, toArray_get l (by omega)] at hne
  have hlast : lt (l.getD (j - 1) []) (l.getD j []) = true := by
    cases hc : lt (l.getD (j - 1) []) (l.getD j []) with
    | true => rfl
    | false => exact absurd (lt_total _ _ (h (j - 1) j (by omega) hj1) hc) hne
  rcases Nat.lt_or_ge i (j - 1) with h1 | h1
  · have h2 := h i (j - 1) h1 (by omega)
    cases hc : lt (l.getD i []) (l.getD (j - 1) []) with
    | true => exact lt_trans hc hlast
    | false => rw [lt_total _ _ hc h2]; exact hlast
  · obtain rfl : i = j - 1 := by omega
    exact hlast
end Go.Proofs.Ytanpncjnojjmkab
