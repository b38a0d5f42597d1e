/-
  pages, plainly: what a table of pages is of; how many blocks it keeps; the cells that are not nought.
-/
import Derived.WalkKit
namespace Go.Proofs.Ytblakfpacommfaa
set_option linter.unusedVariables false
set_option maxRecDepth 20000
open Go.RowKit

/-- n blocks K, unlike one another, the first of noughts; each of the 4352 is one of them; each but the first is one of these. -/
structure PagesOf (f : Nat → Nat) (n : Nat) (K : Nat → Nat → Nat) (W : Nat → Nat) : Prop where
  pos : 0 < n
  val : ∀ a i, a < 4352 → i < 256 → K (W a) i = f (a * 256 + i)
  lt : ∀ a, a < 4352 → W a < n
  zero : ∀ i, i < 256 → K 0 i = 0
  one : ∀ j, j < n → j ≠ 0 → ∃ a, a < 4352 ∧ W a = j
  apart : ∀ j j', j < n → j' < n → (∀ i, i < 256 → K j i = K j' i) → j = j'

theorem range_nodup_le : ∀ (n m : Nat) (p : Nat → Nat), (∀ j, j < n → p j < m) → (∀ j j', j < n → j' < n → p j = p j' → j = j') → n ≤ m
  | 0, _, _, _, _ => Nat.zero_le _
  | n + 1, 0, p, h, _ => by have := h 0 (by omega); omega
  | n + 1, m + 1, p, h, hi => by
    have := range_nodup_le n m (fun j => if p j = m then p n else p j) (fun j hj => by
      have h1 := h j (by omega)
      have h2 := h n (by omega)
      by_cases e : p j = m
      · rw [if_pos e]
        have : p n ≠ m := fun e' => by have := hi j n (by omega) (by omega) (e.trans e'.symm); omega
        omega
      · rw [if_neg e]; omega) (fun j j' hj hj' he => by
      by_cases e : p j = m <;> by_cases e' : p j' = m
      · exact hi j j' (by omega) (by omega) (e.trans e'.symm)
      · rw [if_pos e, if_neg e'] at he
        have := hi n j' (by omega) (by omega) he
        omega
      · rw [if_neg e, if_pos e'] at he
        have := hi j n (by omega) (by omega) he
        omega
      · rw [if_neg e, if_neg e'] at he
        exact hi j j' (by omega) (by omega) he)
    omega

theorem PagesOf.le {f : Nat → Nat} {n n' : Nat} {K K' : Nat → Nat → Nat} {W W' : Nat → Nat} (h : PagesOf f n K W) (h' : PagesOf f n' K' W') : n ≤ n' := by
  have hw : ∀ j, ∃ q, j < n → q < n' ∧ ∀ i, i < 256 → K' q i = K j i := by
    intro j
    by_cases hj : j < n
    · by_cases h0 : j = 0
      · subst h0
        exact ⟨0, fun _ => ⟨h'.pos, fun i hi => by rw [h'.zero i hi, h.zero i hi]⟩⟩
      · obtain ⟨a, ha, e⟩ := h.one j hj h0
        exact ⟨W' a, fun _ => ⟨h'.lt a ha, fun i hi => by rw [h'.val a i ha hi, ← h.val a i ha hi, e]⟩⟩
    · exact ⟨0, fun h => absurd h hj⟩
  refine range_nodup_le n n' (fun j => (hw j).choose) (fun j hj => ((hw j).choose_spec hj).1) fun j j' hj hj' e => ?_
  refine h.apart j j' hj hj' fun i hi => ?_
  rw [← ((hw j).choose_spec hj).2 i hi, ← ((hw j').choose_spec hj').2 i hi]
  have e' : (hw j).choose = (hw j').choose := e
  rw [e']
/-- The same numbers are kept in as many blocks. -/
theorem PagesOf.count {f : Nat → Nat} {n n' : Nat} {K K' : Nat → Nat → Nat} {W W' : Nat → Nat} (h : PagesOf f n K W) (h' : PagesOf f n' K' W') : n = n' := Nat.le_antisymm (h.le h') (h'.le h)
theorem PagesOf.congr {f g : Nat → Nat} {n : Nat} {K : Nat → Nat → Nat} {W : Nat → Nat} (h : PagesOf f n K W) (e : ∀ c, c < 1114112 → f c = g c) : PagesOf g n K W :=
  ⟨h.pos, fun a i ha hi => by rw [h.val a i ha hi]; exact e _ (by omega), h.lt, h.zero, h.one, h.apart⟩

/-- The cells below m that are not nought, rising. -/
def cellsTo (f : Nat → Nat) : Nat → List (Nat × Nat)
  | 0 => []
  | m + 1 => if f m = 0 then cellsTo f m else cellsTo f m ++ [(m, f m)]
theorem cellsTo_mem (f : Nat → Nat) : ∀ (m c v : Nat), (c, v) ∈ cellsTo f m ↔ c < m ∧ v = f c ∧ f c ≠ 0
  | 0, c, v => by simp [cellsTo]
  | m + 1, c, v => by
    unfold cellsTo
    have ih := cellsTo_mem f m c v
    by_cases h : f m = 0
    · rw [if_pos h, ih]
      constructor
      · rintro ⟨h1, h2, h3⟩
        exact ⟨by omega, h2, h3⟩
      · rintro ⟨h1, h2, h3⟩
        have : c ≠ m := by rintro rfl; exact h3 h
        exact ⟨by omega, h2, h3⟩
    · rw [if_neg h, List.mem_append, ih, List.mem_singleton]
      constructor
      · rintro (⟨h1, h2, h3⟩ | h1)
        · exact ⟨by omega, h2, h3⟩
        · injection h1 with h1 h2
          subst h1 h2
          exact ⟨by omega, rfl, h⟩
      · rintro ⟨h1, h2, h3⟩
        by_cases e : c = m
        · subst e
          exact .inr (by rw [h2])
        · exact .inl ⟨by omega, h2, h3⟩
theorem cellsTo_le (f : Nat → Nat) : ∀ m, (cellsTo f m).length ≤ m
  | 0 => by simp [cellsTo]
  | m + 1 => by
    have := cellsTo_le f m
    unfold cellsTo
    split
    · omega
    · simp; omega
theorem cellsTo_rise (f : Nat → Nat) : ∀ m, (cellsTo f m).Pairwise fun x y => x.1 < y.1
  | 0 => by simp [cellsTo]
  | m + 1 => by
    have ih := cellsTo_rise f m
    unfold cellsTo
    split
    · exact ih
    · refine List.pairwise_append.2 ⟨ih, by simp, fun x hx y hy => ?_⟩
      rw [List.mem_singleton] at hy
      subst hy
      have := (cellsTo_mem f m x.1 x.2).1 hx
      exact this.1
theorem cellsTo_congr {f g : Nat → Nat} : ∀ m, (∀ c, c < m → f c = g c) → cellsTo f m = cellsTo g m
  | 0, _ => rfl
  | m + 1, h => by
    unfold cellsTo
    rw [cellsTo_congr m fun c hc => h c (by omega), h m (by omega)]
/-- A row that rises, of cells that are not nought, is that of its numbers. -/
theorem rise_getD {l : List (Nat × Nat)} (h : l.Pairwise fun x y => x.1 < y.1) {i j : Nat} (hij : i < j) (hj : j < l.length) : (l.getD i (0, 0)).1 < (l.getD j (0, 0)).1 := by
  have h1 : l.getD i (0, 0) = l[i] := by simp [List.getD, show i < l.length by omega]
  have h2 : l.getD j (0, 0) = l[j] := by simp [List.getD, hj]
  rw [h1, h2]
  exact List.pairwise_iff_getElem.1 h i j (by omega) hj hij
end Go.Proofs.Ytblakfpacommfaa
