/-
  Insertion, step by step: lists of numbers, their order; it speaks of no program.
  Heaps in a part of a list of numbers, plain: it speaks of no program.
  A partition's state, plain: it speaks of no program.
  A partition by what is the least, plain: it speaks of no program.
  The length of a number in bits, and the power of two above it; plain.
-/
import Derived.Test.YtccbofaefpbhlaaDoorWords
import Derived.Lib.BitFns
namespace Go.Proofs.YtccbofaefpbhlaaDoor
set_option linter.unusedVariables false

/-- Two places exchanged. -/
def swapAt (l : List Nat) (i j : Nat) : List Nat := (l.set i (l.getD j 0)).set j (l.getD i 0)
theorem swapAt_length (l : List Nat) (i j : Nat) : (swapAt l i j).length = l.length := by simp [swapAt]
theorem getD_set (l : List Nat) (i j x : Nat) (hi : i < l.length) : (l.set i x).getD j 0 = if i = j then x else l.getD j 0 := by
  simp only [List.getD_eq_getElem?_getD, List.getElem?_set]
  split
  · simp [*]
  · rfl
theorem swapAt_getD (l : List Nat) (i j p : Nat) (hi : i < l.length) (hj : j < l.length) : (swapAt l i j).getD p 0 = if j = p then l.getD i 0 else if i = p then l.getD j 0 else l.getD p 0 := by
  rw [swapAt, getD_set _ _ _ _ (by simpa using hj)]
  split
  · rfl
  · rw [getD_set _ _ _ _ hi]
theorem swapAt_perm (l : List Nat) (i j : Nat) (hi : i < l.length) (hj : j < l.length) : (swapAt l i j).Perm l := by
  unfold swapAt
  rw [List.getD_eq_getElem?_getD, List.getD_eq_getElem?_getD, List.getElem?_eq_getElem hi, List.getElem?_eq_getElem hj]
  simp only [Option.getD_some]
  exact List.set_set_perm hi hj

/-- In order up to place i, place j left out as the later one. -/
def OrdBut (i j : Nat) (l : List Nat) : Prop := ∀ p q, p < q → q ≤ i → q ≠ j → l.getD p 0 ≤ l.getD q 0
/-- The first n are in order. -/
def Ord (n : Nat) (l : List Nat) : Prop := ∀ p q, p < q → q < n → l.getD p 0 ≤ l.getD q 0

theorem Ord.but {n : Nat} {l : List Nat} (h : Ord n l) : OrdBut n n l := fun p q hp hq hn => h p q hp (by omega)
theorem OrdBut.ord_zero {i : Nat} {l : List Nat} (h : OrdBut i 0 l) : Ord (i + 1) l := fun p q hp hq => h p q hp (by omega) (by omega)
theorem OrdBut.ord {i j : Nat} {l : List Nat} (h : OrdBut i (j + 1) l) (hx : l.getD j 0 ≤ l.getD (j + 1) 0) : Ord (i + 1) l := fun p q hp hq => by
  by_cases hqj : q = j + 1
  · subst hqj
    rcases Nat.lt_or_ge p j with h1 | h1
    · exact Nat.le_trans (h p j h1 (by omega) (by omega)) hx
    · obtain rfl : p = j := by omega
      exact hx
  · exact h p q hp (by omega) hqj
theorem OrdBut.swap {i j : Nat} {l : List Nat} (h : OrdBut i (j + 1) l) (hx : l.getD (j + 1) 0 < l.getD j 0) (hj : j + 1 ≤ i) (hl : i < l.length) : OrdBut i j (swapAt l (j + 1) j) := by
  intro p q hp hq hn
  rw [swapAt_getD _ _ _ _ (by omega) (by omega), swapAt_getD _ _ _ _ (by omega) (by omega)]
  by_cases h1 : j = p
  · subst h1
    by_cases h2 : j + 1 = q
    · subst h2
      rw [if_pos rfl, if_neg (by omega), if_pos rfl]
      omega
    · have := h (j + 1) q (by omega) hq (by omega)
      rw [if_pos rfl, if_neg (by omega), if_neg h2]
      exact this
  · by_cases h2 : j + 1 = p
    · subst h2
      have := h j q (by omega) hq (by omega)
      rw [if_neg h1, if_pos rfl, if_neg (by omega), if_neg (by omega)]
      exact this
    · rw [if_neg h1, if_neg h2, if_neg (by omega)]
      by_cases h3 : j + 1 = q
      · subst h3
        rw [if_pos rfl]
        exact h p j (by omega) (by omega) (by omega)
      · rw [if_neg h3]
        exact h p q hp hq (by omega)
end Go.Proofs.YtccbofaefpbhlaaDoor

namespace Go.Proofs.YtccbofaefpbhlaaDoor
set_option linter.unusedVariables false

/-- The same numbers; outside of a .. b the same places; inside none but those that were inside. -/
def Sub (a b : Nat) (m l : List Nat) : Prop := m.Perm l ∧ (∀ p, p < a ∨ b ≤ p → m.getD p 0 = l.getD p 0) ∧ ∀ p, a ≤ p → p < b → ∃ q, a ≤ q ∧ q < b ∧ m.getD p 0 = l.getD q 0
theorem Sub.refl (a b : Nat) (l : List Nat) : Sub a b l l := ⟨List.Perm.refl _, fun _ _ => rfl, fun p h1 h2 => ⟨p, h1, h2, rfl⟩⟩
theorem Sub.trans {a b : Nat} {l m k : List Nat} (h : Sub a b m l) (h2 : Sub a b k m) : Sub a b k l :=
  ⟨h2.1.trans h.1, fun p hp => (h2.2.1 p hp).trans (h.2.1 p hp), fun p h3 h4 => by
    obtain ⟨q, q1, q2, q3⟩ := h2.2.2 p h3 h4
    obtain ⟨r, r1, r2, r3⟩ := h.2.2 q q1 q2
    exact ⟨r, r1, r2, q3.trans r3⟩⟩
theorem Sub.wide {a b a' b' : Nat} {l m : List Nat} (h : Sub a b m l) (ha : a' ≤ a) (hb : b ≤ b') : Sub a' b' m l :=
  ⟨h.1, fun p hp => h.2.1 p (by omega), fun p h3 h4 => by
    by_cases hp : a ≤ p ∧ p < b
    · obtain ⟨q, q1, q2, q3⟩ := h.2.2 p hp.1 hp.2
      exact ⟨q, by omega, by omega, q3⟩
    · exact ⟨p, h3, h4, h.2.1 p (by omega)⟩⟩
theorem Sub.swap {a b i j : Nat} {l : List Nat} (hi : a ≤ i) (hi2 : i < b) (hj : a ≤ j) (hj2 : j < b) (hb : b ≤ l.length) : Sub a b (swapAt l i j) l := by
  refine ⟨swapAt_perm l i j (by omega) (by omega), fun p hp => ?_, fun p h1 h2 => ?_⟩
  · rw [swapAt_getD _ _ _ _ (by omega) (by omega), if_neg (by omega), if_neg (by omega)]
  · rw [swapAt_getD _ _ _ _ (by omega) (by omega)]
    by_cases e1 : j = p
    · exact ⟨i, hi, hi2, by rw [if_pos e1]⟩
    · by_cases e2 : i = p
      · exact ⟨j, hj, hj2, by rw [if_neg e1, if_pos e2]⟩
      · exact ⟨p, h1, h2, by rw [if_neg e1, if_neg e2]⟩
theorem Sub.length {a b : Nat} {l m : List Nat} (h : Sub a b m l) : m.length = l.length := h.1.length_eq

/-- In order between a and b. -/
def OrdIn (a b : Nat) (l : List Nat) : Prop := ∀ p q, a ≤ p → p < q → q < b → l.getD p 0 ≤ l.getD q 0

/-- From lo on, no one is less than what hangs on it (places counted from f, up to hi). -/
def HeapIn (f lo hi : Nat) (l : List Nat) : Prop := ∀ k c, lo ≤ k → (c = 2 * k + 1 ∨ c = 2 * k + 2) → c < hi → l.getD (f + c) 0 ≤ l.getD (f + k) 0
/-- The same, but for the place r, which may be too small. -/
def HeapBut (f lo hi r : Nat) (l : List Nat) : Prop :=
  (∀ k c, lo ≤ k → k ≠ r → (c = 2 * k + 1 ∨ c = 2 * k + 2) → c < hi → l.getD (f + c) 0 ≤ l.getD (f + k) 0) ∧
  (∀ k c, lo ≤ k → (r = 2 * k + 1 ∨ r = 2 * k + 2) → (c = 2 * r + 1 ∨ c = 2 * r + 2) → c < hi → l.getD (f + c) 0 ≤ l.getD (f + k) 0)
theorem HeapIn.but {f lo hi : Nat} {l : List Nat} (h : HeapIn f (lo + 1) hi l) : HeapBut f lo hi lo l :=
  ⟨fun k c h1 h2 h3 h4 => h k c (by omega) h3 h4, fun k c h1 h2 h3 h4 => by omega⟩
theorem HeapBut.done {f lo hi r : Nat} {l : List Nat} (h : HeapBut f lo hi r l) (h2 : ∀ c, (c = 2 * r + 1 ∨ c = 2 * r + 2) → c < hi → l.getD (f + c) 0 ≤ l.getD (f + r) 0) : HeapIn f lo hi l := fun k c h1 h3 h4 => by
  by_cases hk : k = r
  · subst hk
    exact h2 c h3 h4
  · exact h.1 k c h1 hk h3 h4
theorem HeapBut.step {f lo hi r d : Nat} {l : List Nat} (h : HeapBut f lo hi r l) (hr : lo ≤ r) (hd : d = 2 * r + 1 ∨ d = 2 * r + 2) (hd2 : d < hi) (hl : f + hi ≤ l.length)
    (hmax : ∀ c, (c = 2 * r + 1 ∨ c = 2 * r + 2) → c < hi → l.getD (f + c) 0 ≤ l.getD (f + d) 0) (hlt : l.getD (f + r) 0 < l.getD (f + d) 0) : HeapBut f lo hi d (swapAt l (f + r) (f + d)) := by
  have key : ∀ p, (swapAt l (f + r) (f + d)).getD (f + p) 0 = if d = p then l.getD (f + r) 0 else if r = p then l.getD (f + d) 0 else l.getD (f + p) 0 := fun p => by
    rw [swapAt_getD _ _ _ _ (by omega) (by omega)]
    simp only [Nat.add_left_cancel_iff]
  constructor
  · intro k c h1 h2 h3 h4
    rw [key, key, if_neg (show ¬ d = k by omega)]
    by_cases hk : k = r
    · subst hk
      rw [if_pos rfl]
      by_cases hc : d = c
      · rw [if_pos hc]; omega
      · rw [if_neg hc, if_neg (show ¬ k = c by omega)]
        exact hmax c h3 h4
    · rw [if_neg (show ¬ r = k by omega), if_neg (show ¬ d = c by omega)]
      by_cases hc : r = c
      · rw [if_pos hc]
        exact h.2 k d h1 (by omega) hd hd2
      · rw [if_neg hc]
        exact h.1 k c h1 hk h3 h4
  · intro k c h1 h2 h3 h4
    obtain rfl : k = r := by omega
    rw [key, key, if_neg (show ¬ d = c by omega), if_neg (show ¬ k = c by omega), if_neg (show ¬ d = k by omega), if_pos rfl]
    exact h.1 d c (by omega) (by omega) h3 h4
/-- The first is the greatest. -/
theorem HeapIn.top {f hi : Nat} {l : List Nat} (h : HeapIn f 0 hi l) (k : Nat) : k < hi → l.getD (f + k) 0 ≤ l.getD f 0 := by
  induction k using Nat.strongRecOn with
  | ind k ih =>
    intro hk
    by_cases h0 : k = 0
    · subst h0; exact Nat.le_refl _
    · have h1 := h ((k - 1) / 2) k (Nat.zero_le _) (by omega) hk
      have h2 := ih ((k - 1) / 2) (by omega) (by omega)
      omega
/-- Nothing hangs on the later half. -/
theorem HeapIn.leaves {f lo hi : Nat} {l : List Nat} (h : hi ≤ 2 * lo + 1) : HeapIn f lo hi l := fun k c h1 h2 h3 => by omega

/-- A heap sort's state: a heap up to i, and behind it the greatest, in order. -/
structure Half (f n i : Nat) (l : List Nat) : Prop where
  heap : HeapIn f 0 i l
  rise : OrdIn (f + i) (f + n) l
  above : ∀ p q, f ≤ p → p < f + i → f + i ≤ q → q < f + n → l.getD p 0 ≤ l.getD q 0
theorem Half.step {f n i : Nat} {l m : List Nat} (h : Half f n (i + 1) l) (hin : i < n) (hl : f + n ≤ l.length) (hm : Sub f (f + i) m (swapAt l f (f + i))) (hh : HeapIn f 0 i m) : Half f n i m := by
  have key : ∀ p, (swapAt l f (f + i)).getD p 0 = if f + i = p then l.getD f 0 else if f = p then l.getD (f + i) 0 else l.getD p 0 := fun p => swapAt_getD _ _ _ _ (by omega) (by omega)
  have hout : ∀ q, f + i ≤ q → m.getD q 0 = if f + i = q then l.getD f 0 else l.getD q 0 := fun q hq => by
    rw [hm.2.1 q (.inr hq), key]
    by_cases e : f + i = q
    · rw [if_pos e, if_pos e]
    · rw [if_neg e, if_neg e, if_neg (by omega)]
  have hin' : ∀ p, f ≤ p → p < f + i → ∃ q, f ≤ q ∧ q < f + (i + 1) ∧ m.getD p 0 = l.getD q 0 := fun p h1 h2 => by
    obtain ⟨q, q1, q2, q3⟩ := hm.2.2 p h1 h2
    rw [key, if_neg (by omega)] at q3
    by_cases e : f = q
    · rw [if_pos e] at q3
      exact ⟨f + i, by omega, by omega, q3⟩
    · rw [if_neg e] at q3
      exact ⟨q, q1, by omega, q3⟩
  refine ⟨hh, fun p q h1 h2 h3 => ?_, fun p q h1 h2 h3 h4 => ?_⟩
  · rw [hout p h1, hout q (by omega), if_neg (show ¬ f + i = q by omega)]
    by_cases e : f + i = p
    · rw [if_pos e]
      exact h.above f q (Nat.le_refl _) (by omega) (by omega) h3
    · rw [if_neg e]
      exact h.rise p q (by omega) h2 h3
  · obtain ⟨r, r1, r2, r3⟩ := hin' p h1 h2
    rw [r3, hout q h3]
    by_cases e : f + i = q
    · rw [if_pos e]
      obtain ⟨k, rfl⟩ : ∃ k, r = f + k := ⟨r - f, by omega⟩
      exact h.heap.top k (by omega)
    · rw [if_neg e]
      exact h.above r q r1 r2 (by omega) h4
end Go.Proofs.YtccbofaefpbhlaaDoor

namespace Go.Proofs.YtccbofaefpbhlaaDoor
set_option linter.unusedVariables false

/-- X stands first; up to i they are less, behind j they are not. -/
def PartInv (a b i j X : Nat) (m : List Nat) : Prop := m.getD a 0 = X ∧ (∀ q, a < q → q < i → m.getD q 0 < X) ∧ ∀ q, j < q → q < b → X ≤ m.getD q 0
/-- A place with no greater ahead of it and no less behind it. -/
def PartAt (a b r : Nat) (m : List Nat) : Prop := (∀ p, a ≤ p → p < r → m.getD p 0 ≤ m.getD r 0) ∧ ∀ p, r < p → p < b → m.getD r 0 ≤ m.getD p 0
theorem PartInv.start {a b : Nat} {m : List Nat} : PartInv a b (a + 1) (b - 1) (m.getD a 0) m := ⟨rfl, fun q h1 h2 => by omega, fun q h1 h2 => by omega⟩
theorem PartInv.up {a b i j X : Nat} {m : List Nat} (h : PartInv a b i j X m) (hx : m.getD i 0 < X) : PartInv a b (i + 1) j X m := ⟨h.1, fun q h1 h2 => by
  by_cases e : q = i
  · subst e; exact hx
  · exact h.2.1 q h1 (by omega), h.2.2⟩
theorem PartInv.down {a b i j X : Nat} {m : List Nat} (h : PartInv a b i j X m) (hx : ¬ m.getD j 0 < X) (hj : 1 ≤ j) : PartInv a b i (j - 1) X m := ⟨h.1, h.2.1, fun q h1 h2 => by
  by_cases e : q = j
  · subst e; omega
  · exact h.2.2 q (by omega) h2⟩
theorem PartInv.swap {a b i j X : Nat} {m : List Nat} (h : PartInv a b i j X m) (hi : a < i) (hij : i < j) (hj : j < b) (hb : b ≤ m.length) (h1 : ¬ m.getD i 0 < X) (h2 : m.getD j 0 < X) : PartInv a b (i + 1) (j - 1) X (swapAt m i j) := by
  have key : ∀ p, (swapAt m i j).getD p 0 = if j = p then m.getD i 0 else if i = p then m.getD j 0 else m.getD p 0 := fun p => swapAt_getD _ _ _ _ (by omega) (by omega)
  refine ⟨by rw [key, if_neg (by omega), if_neg (by omega)]; exact h.1, fun q q1 q2 => ?_, fun q q1 q2 => ?_⟩
  · rw [key, if_neg (by omega)]
    by_cases e : i = q
    · rw [if_pos e]; exact h2
    · rw [if_neg e]; exact h.2.1 q q1 (by omega)
  · rw [key]
    by_cases e : j = q
    · rw [if_pos e]; omega
    · rw [if_neg e, if_neg (by omega)]; exact h.2.2 q (by omega) q2
theorem PartInv.final {a b i j X : Nat} {m : List Nat} (h : PartInv a b i j X m) (hij : i = j + 1) (ha : a ≤ j) (hj : j < b) (hb : b ≤ m.length) : PartAt a b j (swapAt m j a) := by
  have key : ∀ p, (swapAt m j a).getD p 0 = if a = p then m.getD j 0 else if j = p then m.getD a 0 else m.getD p 0 := fun p => swapAt_getD _ _ _ _ (by omega) (by omega)
  by_cases haj : a = j
  · subst haj
    have key2 : ∀ p, (swapAt m a a).getD p 0 = m.getD p 0 := fun p => by
      rw [key]
      by_cases e : a = p
      · rw [if_pos e, e]
      · rw [if_neg e, if_neg e]
    refine ⟨fun p p1 p2 => by omega, fun p p1 p2 => ?_⟩
    rw [key2, key2, h.1]
    exact h.2.2 p p1 p2
  · have hjv : (swapAt m j a).getD j 0 = X := by rw [key, if_neg haj, if_pos rfl, h.1]
    rw [PartAt, hjv]
    refine ⟨fun p p1 p2 => ?_, fun p p1 p2 => ?_⟩
    · rw [key]
      by_cases e : a = p
      · rw [if_pos e]
        exact Nat.le_of_lt (h.2.1 j (by omega) (by omega))
      · rw [if_neg e, if_neg (by omega)]
        exact Nat.le_of_lt (h.2.1 p (by omega) (by omega))
    · rw [key, if_neg (by omega), if_neg (by omega)]
      exact h.2.2 p p1 p2
end Go.Proofs.YtccbofaefpbhlaaDoor

namespace Go.Proofs.YtccbofaefpbhlaaDoor
set_option linter.unusedVariables false

/-- X stands first; up to i they are not greater, behind j they are. -/
def PeqInv (a b i j X : Nat) (m : List Nat) : Prop := m.getD a 0 = X ∧ (∀ q, a ≤ q → q < i → m.getD q 0 ≤ X) ∧ ∀ q, j < q → q < b → X < m.getD q 0
def PeqAt (a b r X : Nat) (m : List Nat) : Prop := (∀ q, a ≤ q → q < r → m.getD q 0 ≤ X) ∧ ∀ q, r ≤ q → q < b → X < m.getD q 0
theorem PeqInv.start {a b : Nat} {m : List Nat} : PeqInv a b (a + 1) (b - 1) (m.getD a 0) m := ⟨rfl, fun q h1 h2 => by
  obtain rfl : q = a := by omega
  exact Nat.le_refl _, fun q h1 h2 => by omega⟩
theorem PeqInv.up {a b i j X : Nat} {m : List Nat} (h : PeqInv a b i j X m) (hx : ¬ X < m.getD i 0) : PeqInv a b (i + 1) j X m := ⟨h.1, fun q h1 h2 => by
  by_cases e : q = i
  · subst e; omega
  · exact h.2.1 q h1 (by omega), h.2.2⟩
theorem PeqInv.down {a b i j X : Nat} {m : List Nat} (h : PeqInv a b i j X m) (hx : X < m.getD j 0) (hj : 1 ≤ j) : PeqInv a b i (j - 1) X m := ⟨h.1, h.2.1, fun q h1 h2 => by
  by_cases e : q = j
  · subst e; exact hx
  · exact h.2.2 q (by omega) h2⟩
theorem PeqInv.swap {a b i j X : Nat} {m : List Nat} (h : PeqInv a b i j X m) (hi : a < i) (hij : i < j) (hj : j < b) (hb : b ≤ m.length) (h1 : X < m.getD i 0) (h2 : ¬ X < m.getD j 0) : PeqInv a b (i + 1) (j - 1) X (swapAt m i j) := by
  have key : ∀ p, (swapAt m i j).getD p 0 = if j = p then m.getD i 0 else if i = p then m.getD j 0 else m.getD p 0 := fun p => swapAt_getD _ _ _ _ (by omega) (by omega)
  refine ⟨by rw [key, if_neg (by omega), if_neg (by omega)]; exact h.1, fun q q1 q2 => ?_, fun q q1 q2 => ?_⟩
  · rw [key, if_neg (by omega)]
    by_cases e : i = q
    · rw [if_pos e]; omega
    · rw [if_neg e]; exact h.2.1 q q1 (by omega)
  · rw [key]
    by_cases e : j = q
    · rw [if_pos e]; exact h1
    · rw [if_neg e, if_neg (by omega)]; exact h.2.2 q (by omega) q2
theorem PeqInv.final {a b i j X : Nat} {m : List Nat} (h : PeqInv a b i j X m) (hij : i = j + 1) : PeqAt a b i X m := ⟨h.2.1, fun q h1 h2 => h.2.2 q (by omega) h2⟩
theorem swap_first (l : List Nat) (a p : Nat) (ha : a < l.length) (hp : p < l.length) : (swapAt l a p).getD a 0 = l.getD p 0 := by
  rw [swapAt_getD _ _ _ _ ha hp]
  by_cases e : p = a
  · rw [if_pos e, e]
  · rw [if_neg e, if_pos rfl]
end Go.Proofs.YtccbofaefpbhlaaDoor

namespace Go.Proofs.YtccbofaefpbhlaaDoor
set_option linter.unusedVariables false

/-- The power of two above N is more than N, and at most twice it. -/
theorem pow_bits : ∀ (N : Nat), 1 ≤ N → N < 2 ^ 64 → 1 ≤ Lib.bitLen N ∧ N < 2 ^ Lib.bitLen N ∧ 2 ^ Lib.bitLen N ≤ 2 * N := by
  intro N
  induction N using Nat.strongRecOn with
  | ind N ih =>
    intro h1 h2
    rw [Lib.bitLen_half N (by omega) h2]
    by_cases h : N = 1
    · subst h
      decide
    · obtain ⟨a1, a2, a3⟩ := ih (N / 2) (by omega) (by omega) (by omega)
      rw [Nat.pow_add]
      omega
end Go.Proofs.YtccbofaefpbhlaaDoor
