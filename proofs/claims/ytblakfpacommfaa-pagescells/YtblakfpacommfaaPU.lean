/-
  The law PagesOrder: plainly, cells of unlike characters in any order; a swap in a row of one's own.
-/
import Derived.Test.YtblakfpacommfaaPT
import Derived.Test.YtblakfpacommfaaPS
namespace Go.Proofs.Ytblakfpacommfaa
set_option linter.unusedVariables false
set_option maxRecDepth 20000
open Go.RowKit

/-- No two of these cells are of one character. -/
def Dist (S : List (Int × Nat)) : Prop := S.Pairwise fun a b => a.1 ≠ b.1
theorem valAt_none_of {S : List (Int × Nat)} {c : Nat} (h : ∀ x ∈ S, x.1 ≠ (c : Int)) : valAt S c = 0 := by
  suffices H : ∀ (l : List (Int × Nat)) (v : Nat), (∀ x ∈ l, x.1 ≠ (c : Int)) → l.foldl (fun v x => if x.1 = (c : Int) then x.2 else v) v = v from H S 0 h
  intro l
  induction l with
  | nil => intro v _; rfl
  | cons y t ih =>
    intro v hv
    rw [List.foldl_cons, if_neg (hv y (List.mem_cons_self ..))]
    exact ih v fun x hx => hv x (List.mem_cons_of_mem _ hx)
theorem valAt_of {S : List (Int × Nat)} (hd : Dist S) {x : Int × Nat} (hx : x ∈ S) {c : Nat} (hc : x.1 = (c : Int)) : valAt S c = x.2 := by
  suffices H : ∀ (l : List (Int × Nat)) (v : Nat), Dist l → x ∈ l → l.foldl (fun v x => if x.1 = (c : Int) then x.2 else v) v = x.2 from H S 0 hd hx
  intro l
  induction l with
  | nil => intro v _ h; cases h
  | cons y t ih =>
    intro v hd hm
    obtain ⟨h1, h2⟩ := List.pairwise_cons.1 hd
    rw [List.foldl_cons]
    rcases List.mem_cons.1 hm with rfl | hm
    · rw [if_pos hc]
      suffices H : ∀ (l : List (Int × Nat)) (v : Nat), (∀ z ∈ l, z.1 ≠ (c : Int)) → l.foldl (fun v x => if x.1 = (c : Int) then x.2 else v) v = v from H t _ fun z hz e => h1 z hz (hc.trans e.symm)
      intro l
      induction l with
      | nil => intro v _; rfl
      | cons y t ih =>
        intro v hv
        rw [List.foldl_cons, if_neg (hv y (List.mem_cons_self ..))]
        exact ih v fun x hx => hv x (List.mem_cons_of_mem _ hx)
    · exact ih _ h2 hm
theorem Dist.perm {S T : List (Int × Nat)} (h : Dist S) (p : S.Perm T) : Dist T := (p.pairwise_iff (fun hab => Ne.symm hab)).1 h
theorem valAt_perm {S T : List (Int × Nat)} (h : Dist S) (p : S.Perm T) (c : Nat) : valAt S c = valAt T c := by
  rcases Classical.em (∃ x ∈ S, x.1 = (c : Int)) with ⟨x, hx, hc⟩ | hn
  · rw [valAt_of h hx hc, valAt_of (h.perm p) (p.mem_iff.1 hx) hc]
  · rw [valAt_none_of (fun x hx e => hn ⟨x, hx, e⟩), valAt_none_of (fun x hx e => hn ⟨x, p.mem_iff.2 hx, e⟩)]

/-- Two cells exchanged. -/
def swapL (S : List (Int × Nat)) (i k : Nat) : List (Int × Nat) := (S.set i (S.getD k (0, 0))).set k (S.getD i (0, 0))
theorem swapL_perm {S : List (Int × Nat)} {i k : Nat} (hi : i < S.length) (hk : k < S.length) : S.Perm (swapL S i k) := by
  have e1 : S.getD k (0, 0) = S[k] := by simp [List.getD, hk]
  have e2 : S.getD i (0, 0) = S[i] := by simp [List.getD, hi]
  unfold swapL
  rw [e1, e2]
  exact (List.set_set_perm hi hk).symm
theorem owC_set : ∀ (L : List (Int × Nat)) (i : Nat) (r : Int × Nat), i < L.length → ((owC L).set (i * 2) (.int .i32 r.1)).set (i * 2 + 1) (.int .u16 (r.2 : Int)) = owC (L.set i r)
  | [], i, r, h => by simp at h
  | (a, b) :: l, 0, r, _ => by simp [owC]
  | (a, b) :: l, i + 1, r, h => by
    have ih := owC_set l i r (by simpa using h)
    have e : ∀ (x : Int × Nat) m, owC (x :: m) = [.int .i32 x.1, .int .u16 (x.2 : Int)] ++ owC m := fun x m => by simp [owC]
    rw [List.set_cons_succ, e, e, ← ih, List.set_append_right _ _ (by simp; omega), List.set_append_right _ _ (by simp; omega)]
    congr 2 <;> simp <;> congr 1 <;> omega
theorem owC_length (L : List (Int × Nat)) : (owC L).length = 2 * L.length := by
  induction L with
  | nil => rfl
  | cons x r ih => simp only [owC, List.flatMap_cons, List.length_append, List.length_cons, List.length_nil] at ih ⊢; omega
theorem own_set_cell {w : World} {B n s g cap i : Nat} {e : TypeId} {xs : List Value} (h : w.ownsRow B e s (.slice (some ⟨g, 0, none⟩) n cap) n xs) (hi : i < xs.length) (v : Value) :
    (w.setCell ⟨g, i, none⟩ v).ownsRow B e s (.slice (some ⟨g, 0, none⟩) n cap) n (xs.set i v) := by
  refine ⟨by rw [List.length_set]; exact h.1, ?_⟩
  rcases h.2 with ⟨e1, _⟩ | ⟨g', cap', cur, e1, hB, hh, hnc, hm, hs, hx⟩
  · cases e1
  · injection e1 with e2 e3 e4
    injection e2 with e2
    injection e2 with e2
    subst e2
    subst e4
    refine .inr ⟨g, cap, cur.setIfInBounds i v, rfl, hB, (show Blk w g e cur from hh).set_ i v, hnc, hm, by simpa using hs, ?_⟩
    rw [← hx]
    simp [Array.toList_setIfInBounds, List.take_set]
theorem own_set_two {w : World} {B n g cap i : Nat} {L : List (Int × Nat)} (h : w.ownsRow B 38 2 (.slice (some ⟨g, 0, none⟩) n cap) n (owC L)) (hi : i < L.length) (r : Int × Nat) :
    ((w.setCell ⟨g, i * 2, none⟩ (.int .i32 r.1)).setCell ⟨g, i * 2 + 1, none⟩ (.int .u16 (r.2 : Int))).ownsRow B 38 2 (.slice (some ⟨g, 0, none⟩) n cap) n (owC (L.set i r)) := by
  have h1 := own_set_cell h (i := i * 2) (by rw [owC_length]; omega) (.int .i32 r.1)
  have h2 := own_set_cell h1 (i := i * 2 + 1) (by rw [List.length_set, owC_length]; omega) (.int .u16 (r.2 : Int))
  rw [owC_set L i r hi] at h2
  exact h2
theorem own_swap {w : World} {B n g cap i k : Nat} {L : List (Int × Nat)} (h : w.ownsRow B 38 2 (.slice (some ⟨g, 0, none⟩) n cap) n (owC L)) (hi : i < L.length) (hk : k < L.length) :
    ((((w.setCell ⟨g, i * 2, none⟩ (.int .i32 (L.getD k (0, 0)).1)).setCell ⟨g, i * 2 + 1, none⟩ (.int .u16 ((L.getD k (0, 0)).2 : Int))).setCell ⟨g, k * 2, none⟩ (.int .i32 (L.getD i (0, 0)).1)).setCell ⟨g, k * 2 + 1, none⟩ (.int .u16 ((L.getD i (0, 0)).2 : Int))).ownsRow B 38 2 (.slice (some ⟨g, 0, none⟩) n cap) n (owC (swapL L i k)) :=
  own_set_two (own_set_two h hi _) (by rw [List.length_set]; exact hk) _
/-- The cells of a row of one's own, one by one, where it has some. -/
theorem own_at {w : World} {B : Nat} {v : Value} {n : Nat} {L : List (Int × Nat)} (h : w.ownsRow B 38 2 v n (owC L)) (hl : L.length = n) (hn : 0 < n) : ∃ g cap, v = .slice (some ⟨g, 0, none⟩) n cap ∧ B ≤ g ∧ g < w.heap.size ∧ (∀ i, i < n → w.cell? ⟨g, i * 2, none⟩ = some (.int .i32 (L.getD i (0, 0)).1) ∧ w.cell? ⟨g, i * 2 + 1, none⟩ = some (.int .u16 ((L.getD i (0, 0)).2 : Nat))) ∧ ∀ i, w.frozen? ⟨g, i, none⟩ = false := by
  rcases h.2 with ⟨rfl, h0⟩ | ⟨g, cap, cur, rfl, hB, hh, hnc, _⟩
  · omega
  · refine ⟨g, cap, rfl, hB, (Array.getElem?_eq_some_iff.1 hh).1, fun i hi => ?_, fun i => (show Blk w g 38 cur from hh).free i⟩
    obtain ⟨h1, h2⟩ := owC_get L i (by omega)
    have c1 := h.cells (g := g) rfl _ _ h1
    have c2 := h.cells (g := g) rfl _ _ h2
    rw [add_zero_block] at c1 c2
    exact ⟨c1, c2⟩
end Go.Proofs.Ytblakfpacommfaa
