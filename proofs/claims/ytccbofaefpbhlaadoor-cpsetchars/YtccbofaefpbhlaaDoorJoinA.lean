/-
  cpset: rows of spans of one's own.
-/
import Derived.Test.YtccbofaefpbhlaaDoorSetF
import Derived.Test.YtccbofaefpbhlaaDoorJoinM
namespace Go.Proofs.YtccbofaefpbhlaaDoor
set_option linter.unusedVariables false
set_option maxRecDepth 20000
open Go.RowKit

/-- The cells of spans, k characters ahead of the first one. -/
def spC (k : Nat) : List (Nat × Nat) → List Value
  | [] => []
  | (a, b) :: r => [.int .i32 (a : Nat), .int .i32 (b : Nat), .int .i64 (k : Nat)] ++ spC (k + (b - a + 1)) r
theorem spC_length : ∀ (S : List (Nat × Nat)) (k : Nat), (spC k S).length = 3 * S.length
  | [], k => rfl
  | (a, b) :: r, k => by rw [spC, List.length_append, spC_length r, List.length_cons]; simp; omega
theorem spC_snoc : ∀ (S : List (Nat × Nat)) (k a b : Nat), spC k (S ++ [(a, b)]) = spC k S ++ [.int .i32 (a : Nat), .int .i32 (b : Nat), .int .i64 (k + cnt S : Nat)]
  | [], k, a, b => by simp [spC, cnt]
  | (p, q) :: S, k, a, b => by
    rw [List.cons_append, spC, spC_snoc S, spC, List.append_assoc, cnt, Nat.add_assoc]
theorem spC_setLast : ∀ (T : List (Nat × Nat)) (k p q q' : Nat), (spC k (T ++ [(p, q)])).set (T.length * 3 + 1) (.int .i32 (q' : Nat)) = spC k (T ++ [(p, q')])
  | [], k, p, q, q' => by simp [spC]
  | (x, y) :: T, k, p, q, q' => by
    have ih := spC_setLast T (k + (y - x + 1)) p q q'
    have e1 : spC k ((x, y) :: T ++ [(p, q)]) = [.int .i32 (x : Nat), .int .i32 (y : Nat), .int .i64 (k : Nat)] ++ spC (k + (y - x + 1)) (T ++ [(p, q)]) := rfl
    have e2 : spC k ((x, y) :: T ++ [(p, q')]) = [.int .i32 (x : Nat), .int .i32 (y : Nat), .int .i64 (k : Nat)] ++ spC (k + (y - x + 1)) (T ++ [(p, q')]) := rfl
    rw [e1, e2, ← ih, List.length_cons, List.set_append_right _ _ (by simp; omega)]
    congr 2
    simp; omega
theorem spC_get : ∀ (S : List (Nat × Nat)) (k i : Nat), i < S.length → (spC k S)[i * 3]? = some (.int .i32 ((S.getD i (0, 0)).1 : Nat)) ∧ (spC k S)[i * 3 + 1]? = some (.int .i32 ((S.getD i (0, 0)).2 : Nat)) ∧ (spC k S)[i * 3 + 2]? = some (.int .i64 (k + cnt (S.take i) : Nat))
  | [], k, i, h => by simp at h
  | (a, b) :: r, k, 0, _ => by simp [spC, cnt]
  | (a, b) :: r, k, i + 1, h => by
    obtain ⟨h1, h2, h3⟩ := spC_get r (k + (b - a + 1)) i (by simpa using h)
    rw [spC]
    refine ⟨?_, ?_, ?_⟩
    · rw [List.getElem?_append_right (by simp; omega)]
      simpa [show (i + 1) * 3 - 3 = i * 3 by omega] using h1
    · rw [List.getElem?_append_right (by simp; omega)]
      simpa [show (i + 1) * 3 + 1 - 3 = i * 3 + 1 by omega] using h2
    · rw [List.getElem?_append_right (by simp; omega)]
      have : (i + 1) * 3 + 2 - 3 = i * 3 + 2 := by omega
      simp only [List.length_cons, List.length_nil, Nat.zero_add, Nat.reduceAdd, this, h3, List.take_succ_cons, cnt]
      congr 3
      omega

/-- A set whose spans lie in a row of one's own. -/
theorem own_set {w : World} {B : Nat} {u : Value} {S : List (Nat × Nat)} (h : w.ownsRow B 95 3 u S.length (spC 0 S)) (hg : Good 0 S) : IsSet w (.agg #[u]) S := by
  obtain ⟨ao, cap, rfl⟩ := own_form2 h
  refine ⟨ao, cap, rfl, fun hne => ?_, hg⟩
  rcases h.2 with ⟨_, h0⟩ | ⟨g, cap', cur, e, _, hh, _⟩
  · exact absurd (List.length_eq_zero_iff.1 h0) hne
  · injection e with e1 e2 e3
    subst e1
    refine ⟨g, rfl, (Array.getElem?_eq_some_iff.1 hh).1, fun i hi => ?_⟩
    obtain ⟨h1, h2, h3⟩ := spC_get S 0 i hi
    have c1 := h.cells (g := g) rfl _ _ h1
    have c2 := h.cells (g := g) rfl _ _ h2
    have c3 := h.cells (g := g) rfl _ _ h3
    rw [add_zero_block] at c1 c2 c3
    rw [Nat.zero_add] at c3
    exact ⟨c1, c2, c3⟩
/-- A store into a row of one's own. -/
theorem own_set_cell {w : World} {B n s g cap i : Nat} {e : TypeId} {xs : List Value} (h : w.ownsRow B e s (.slice (some ⟨g, 0, none⟩) n cap) n xs) (hi : i < xs.length) (v : Value) :
    (w.setCell ⟨g, i, none⟩ v).ownsRow B e s (.slice (some ⟨g, 0, none⟩) n cap) n (xs.set i v) := by
  refine ⟨by rw [List.length_set]; exact h.1, ?_⟩
  rcases h.2 with ⟨e1, _⟩ | ⟨g', cap', cur, e1, hB, hh, hnc, hm, hs, hx⟩
  · cases e1
  · injection e1 with e2 e3 e4
    injection e2 with e2
    injection e2 with e2
    subst e2
    subst e4
    refine .inr ⟨g, cap, cur.setIfInBounds i v, rfl, hB, (show Blk w g e cur from hh).set_ i v, hnc, hm, by simpa using hs, ?_⟩
    rw [← hx]
    simp [Array.toList_setIfInBounds, List.take_set]
/-- A row of one's own stays while one of another type grows. -/
theorem own_other {w w' : World} {B B' n n' s s' : Nat} {e e' : TypeId} {u u' : Value} {xs xs' : List Value} (h : w.ownsRow B e s u n xs) (h' : w.ownsRow B' e' s' u' n' xs') (hne : e ≠ e') (hg : w.grownBy w' u'.ownBlock) : w'.ownsRow B e s u n xs := by
  refine h.kept hg ?_
  rcases h.2 with ⟨rfl, _⟩ | ⟨g, cap, cur, rfl, _, hh, _⟩
  · exact .inl rfl
  · right
    intro e1
    rcases h'.2 with ⟨rfl, _⟩ | ⟨g', cap', cur', rfl, _, hh', _⟩
    · simp [Value.ownBlock] at e1
    · simp [Value.ownBlock] at e1
      subst e1
      rw [hh] at hh'
      injection hh' with hh'
      injection hh' with _ hh'
      exact hne hh'
/-- A row of one's own stays over a store into a block of another type. -/
theorem own_far {w : World} {B n s g i : Nat} {e t : TypeId} {u : Value} {xs : List Value} {cs : Array Value} (h : w.ownsRow B e s u n xs) (hb : Blk w g t cs) (hne : e ≠ t) (v : Value) : (w.setCell ⟨g, i, none⟩ v).ownsRow B e s u n xs := by
  refine ⟨h.1, ?_⟩
  rcases h.2 with h0 | ⟨g', cap, cur, hv, hB, hh, r⟩
  · exact .inl h0
  · refine .inr ⟨g', cap, cur, hv, hB, ?_, r⟩
    have hgg : g' ≠ g := Blk.ne_ (show Blk w g' e cur from hh) hb hne
    exact (show Blk w g' e cur from hh).far (p := ⟨g, i, none⟩) hgg v
theorem sp_info : (Tryd.prog.info? 95).map (fun i => (i.zero, i.size, i.bytes)) = some (some (.agg #[.int .i32 0, .int .i32 0, .int .i64 0]), 3, 16) := by kernel_rfl
/-- A block of another type stays while a row of one's own grows. -/
theorem blk_grown {w w' : World} {B n s g : Nat} {e t : TypeId} {u : Value} {xs : List Value} {cs : Array Value} (h : Blk w g t cs) (hown : w.ownsRow B e s u n xs) (hg : w.grownBy w' u.ownBlock) (ht : t ≠ e) : Blk w' g t cs := by
  refine (hg.block g h.lt ?_).trans h
  rcases hown.2 with ⟨rfl, _⟩ | ⟨g', cap, cur, rfl, _, hh, _⟩
  · simp [Value.ownBlock]
  · have := Blk.ne_ h (hh : Blk w g' e cur) ht
    simp [Value.ownBlock, this]
end Go.Proofs.YtccbofaefpbhlaaDoor
