/-
  Ranges in order of their beginnings, joined; it speaks of no program.
  cpset: rows of spans of one's own.
  cpset: join.
-/
import Derived.Test.YtccbofaefpbhlaaDoorSetM
import Derived.Test.YtccbofaefpbhlaaDoorSetF
import Derived.Test.YtccbofaefpbhlaaDoorKept
import Derived.Deep.DeepCutAuto
import Derived.Deep.CutRange
namespace Go.Proofs.YtccbofaefpbhlaaDoor
set_option linter.unusedVariables false

theorem memS_append (S T : List (Nat × Nat)) (c : Nat) : memS (S ++ T) c = (memS S c || memS T c) := by simp [memS]
theorem memS_one (a b c : Nat) : memS [(a, b)] c = true ↔ a ≤ c ∧ c ≤ b := by simp [memS]

theorem Good.snoc : ∀ {S : List (Nat × Nat)} {lo a b : Nat}, Good lo S → (∀ p q, S.getLast? = some (p, q) → q + 2 ≤ a) → lo ≤ a → a ≤ b → b ≤ 1114111 → (b < 55296 ∨ 57344 ≤ a) → Good lo (S ++ [(a, b)])
  | [], lo, a, b, _, _, h1, h2, h3, h4 => ⟨h1, h2, h3, h4, trivial⟩
  | [(p, q)], lo, a, b, ⟨g1, g2, g3, g4, _⟩, hl, h1, h2, h3, h4 => ⟨g1, g2, g3, g4, hl p q rfl, h2, h3, h4, trivial⟩
  | (p, q) :: r :: S, lo, a, b, ⟨g1, g2, g3, g4, g5⟩, hl, h1, h2, h3, h4 => by
    refine ⟨g1, g2, g3, g4, ?_⟩
    have hl' : ∀ p' q', (r :: S).getLast? = some (p', q') → q' + 2 ≤ a := fun p' q' h => hl p' q' (by rw [List.getLast?_cons_cons]; exact h)
    have hq : q + 2 ≤ a := by
      obtain ⟨x, hx⟩ : ∃ x, (r :: S).getLast? = some x := ⟨_, List.getLast?_eq_some_getLast (by simp)⟩
      have h5 := hl' x.1 x.2 hx
      have hm : x ∈ r :: S := List.mem_of_getLast? hx
      obtain ⟨i, hi, rfl⟩ := List.getElem_of_mem hm
      have := g5.at_ hi
      simp only [List.getD_eq_getElem?_getD, List.getElem?_eq_getElem hi, Option.getD_some] at this
      omega
    exact g5.snoc hl' hq h2 h3 h4
theorem Good.init : ∀ {S : List (Nat × Nat)} {lo : Nat} {x : Nat × Nat}, Good lo (S ++ [x]) → Good lo S
  | [], lo, x, _ => trivial
  | (p, q) :: S, lo, x, ⟨g1, g2, g3, g4, g5⟩ => ⟨g1, g2, g3, g4, g5.init⟩
theorem Good.setLast : ∀ {S : List (Nat × Nat)} {lo p q q' : Nat}, Good lo (S ++ [(p, q)]) → q ≤ q' → q' ≤ 1114111 → (q' < 55296 ∨ 57344 ≤ p) → Good lo (S ++ [(p, q')])
  | [], lo, p, q, q', ⟨g1, g2, g3, g4, _⟩, h1, h2, h3 => ⟨g1, by omega, h2, h3, trivial⟩
  | (x, y) :: S, lo, p, q, q', ⟨g1, g2, g3, g4, g5⟩, h1, h2, h3 => ⟨g1, g2, g3, g4, g5.setLast h1 h2 h3⟩

/-- A range that may be a part of a set. -/
def Part (r : Nat × Nat) : Prop := r.1 ≤ r.2 ∧ r.2 ≤ 1114111 ∧ (r.2 < 55296 ∨ 57344 ≤ r.1)
/-- One range more. -/
def joinStep (S : List (Nat × Nat)) (r : Nat × Nat) : List (Nat × Nat) :=
  match S.getLast? with
  | some x => if r.1 ≤ x.2 + 1 then S.dropLast ++ [(x.1, max x.2 r.2)] else S ++ [r]
  | none => [r]
/-- All of them. -/
def joinAll (L : List (Nat × Nat)) : List (Nat × Nat) := L.foldl joinStep []

theorem joinStep_spec {S : List (Nat × Nat)} {r : Nat × Nat} (hg : Good 0 S) (hr : Part r) (hl : ∀ x, S.getLast? = some x → x.1 ≤ r.1) :
    Good 0 (joinStep S r) ∧ (∀ c, memS (joinStep S r) c = (memS S c || memS [r] c)) ∧ ∀ x, (joinStep S r).getLast? = some x → x.1 ≤ r.1 := by
  obtain ⟨a, b⟩ := r
  obtain ⟨h1, h2, h3⟩ := hr
  unfold joinStep
  cases hS : S.getLast? with
  | none =>
    have : S = [] := List.getLast?_eq_none_iff.1 hS
    subst this
    refine ⟨⟨Nat.zero_le _, h1, h2, h3, trivial⟩, fun c => by simp [memS], fun x hx => ?_⟩
    simp at hx
    subst hx
    exact Nat.le_refl _
  | some x =>
    obtain ⟨p, q⟩ := x
    obtain ⟨T, rfl⟩ : ∃ T, S = T ++ [(p, q)] := List.getLast?_eq_some_iff.1 hS
    have hp : p ≤ a := hl (p, q) hS
    have hlast := hg.at_ (i := T.length) (by simp)
    simp at hlast
    simp only [List.dropLast_concat]
    by_cases hc : a ≤ q + 1
    · rw [if_pos hc]
      refine ⟨hg.setLast (by omega) (by omega) (by omega), fun c => ?_, fun x hx => ?_⟩
      · rw [memS_append, memS_append, Bool.eq_iff_iff, Bool.or_eq_true, Bool.or_eq_true, Bool.or_eq_true, memS_one, memS_one, memS_one]
        constructor
        · rintro (h | h)
          · exact .inl (.inl h)
          · rcases Nat.lt_or_ge q c with h4 | h4
            · exact .inr (by omega)
            · exact .inl (.inr (by omega))
        · rintro ((h | h) | h)
          · exact .inl h
          · exact .inr (by omega)
          · exact .inr (by omega)
      · simp at hx
        subst hx
        exact hp
    · rw [if_neg hc]
      refine ⟨hg.snoc (fun p' q' h => ?_) (Nat.zero_le _) h1 h2 h3, fun c => by rw [memS_append], fun x hx => ?_⟩
      · rw [hS] at h
        injection h with h
        injection h with h4 h5
        omega
      · simp at hx
        subst hx
        exact Nat.le_refl _

theorem joinAll_spec : ∀ (L S : List (Nat × Nat)), Good 0 S → (∀ r ∈ L, Part r) → (L.map (·.1)).Pairwise (· ≤ ·) → (∀ x, S.getLast? = some x → ∀ r ∈ L, x.1 ≤ r.1) →
    Good 0 (L.foldl joinStep S) ∧ ∀ c, memS (L.foldl joinStep S) c = (memS S c || memS L c)
  | [], S, hg, _, _, _ => ⟨hg, fun c => by simp [memS]⟩
  | r :: L, S, hg, hp, hs, hl => by
    obtain ⟨g1, g2, g3⟩ := joinStep_spec hg (hp r (by simp)) (fun x hx => hl x hx r (by simp))
    rw [List.map_cons, List.pairwise_cons] at hs
    obtain ⟨k1, k2⟩ := joinAll_spec L (joinStep S r) g1 (fun x hx => hp x (by simp [hx])) hs.2 (fun x hx y hy => Nat.le_trans (g3 x hx) (hs.1 y.1 (List.mem_map.2 ⟨y, hy, rfl⟩)))
    refine ⟨k1, fun c => ?_⟩
    rw [List.foldl_cons, k2 c, g2 c, show r :: L = [r] ++ L from rfl, memS_append, Bool.or_assoc]
end Go.Proofs.YtccbofaefpbhlaaDoor

namespace Go.Proofs.YtccbofaefpbhlaaDoor
set_option linter.unusedVariables false
set_option maxRecDepth 20000
open Go.RowKit

/-- The cells of spans, k characters ahead of the first one. -/
def spC (k : Nat) : List (Nat × Nat) → List Value
  | [] => []
  | (a, b) :: r => [.int .i32 (a : Nat), .int .i32 (b : Nat), .int .i64 (k : Nat)] ++ spC (k + (b - a + 1)) r
theorem spC_length : ∀ (S : List (Nat × Nat)) (k : Nat), (spC k S).length = 3 * S.length
  | [], k => rfl
  | (a, b) :: r, k => by rw [spC, List.length_append, spC_length r, List.length_cons]; simp; omega
theorem spC_snoc : ∀ (S : List (Nat × Nat)) (k a b : Nat), spC k (S ++ [(a, b)]) = spC k S ++ [.int .i32 (a : Nat), .int .i32 (b : Nat), .int .i64 (k + cnt S : Nat)]
  | [], k, a, b => by simp [spC, cnt]
  | (p, q) :: S, k, a, b => by
    rw [List.cons_append, spC, spC_snoc S, spC, List.append_assoc, cnt, Nat.add_assoc]
theorem spC_setLast : ∀ (T : List (Nat × Nat)) (k p q q' : Nat), (spC k (T ++ [(p, q)])).set (T.length * 3 + 1) (.int .i32 (q' : Nat)) = spC k (T ++ [(p, q')])
  | [], k, p, q, q' => by simp [spC]
  | (x, y) :: T, k, p, q, q' => by
    have ih := spC_setLast T (k + (y - x + 1)) p q q'
    have e1 : spC k ((x, y) :: T ++ [(p, q)]) = [.int .i32 (x : Nat), .int .i32 (y : Nat), .int .i64 (k : Nat)] ++ spC (k + (y - x + 1)) (T ++ [(p, q)]) := rfl
    have e2 : spC k ((x, y) :: T ++ [(p, q')]) = [.int .i32 (x : Nat), .int .i32 (y : Nat), .int .i64 (k : Nat)] ++ spC (k + (y - x + 1)) (T ++ [(p, q')]) := rfl
    rw [e1, e2, ← ih, List.length_cons, List.set_append_right _ _ (by simp; omega)]
    congr 2
    simp; omega
theorem spC_get : ∀ (S : List (Nat × Nat)) (k i : Nat), i < S.length → (spC k S)[i * 3]? = some (.int .i32 ((S.getD i (0, 0)).1 : Nat)) ∧ (spC k S)[i * 3 + 1]? = some (.int .i32 ((S.getD i (0, 0)).2 : Nat)) ∧ (spC k S)[i * 3 + 2]? = some (.int .i64 (k + cnt (S.take i) : Nat))
  | [], k, i, h => by simp at h
  | (a, b) :: r, k, 0, _ => by simp [spC, cnt]
  | (a, b) :: r, k, i + 1, h => by
    obtain ⟨h1, h2, h3⟩ := spC_get r (k + (b - a + 1)) i (by simpa using h)
    rw [spC]
    refine ⟨?_, ?_, ?_⟩
    · rw [List.getElem?_append_right (by simp; omega)]
      simpa [show (i + 1) * 3 - 3 = i * 3 by omega] using h1
    · rw [List.getElem?_append_right (by simp; omega)]
      simpa [show (i + 1) * 3 + 1 - 3 = i * 3 + 1 by omega] using h2
    · rw [List.getElem?_append_right (by simp; omega)]
      have : (i + 1) * 3 + 2 - 3 = i * 3 + 2 := by omega
      simp only [List.length_cons, List.length_nil, Nat.zero_add, Nat.reduceAdd, this, h3, List.take_succ_cons, cnt]
      congr 3
      omega

/-- A set whose spans lie in a row of one's own. -/
theorem own_set {w : World} {B : Nat} {u : Value} {S : List (Nat × Nat)} (h : w.ownsRow B 95 3 u S.length (spC 0 S)) (hg : Good 0 S) : IsSet w (.agg #[u]) S := by
  obtain ⟨ao, cap, rfl⟩ := own_form2 h
  refine ⟨ao, cap, rfl, fun hne => ?_, hg⟩
  rcases h.2 with ⟨_, h0⟩ | ⟨g, cap', cur, e, _, hh, _⟩
  · exact absurd (List.length_eq_zero_iff.1 h0) hne
  · injection e with e1 e2 e3
    subst e1
    refine ⟨g, rfl, (Array.getElem?_eq_some_iff.1 hh).1, fun i hi => ?_⟩
    obtain ⟨h1, h2, h3⟩ := spC_get S 0 i hi
    have c1 := h.cells (g := g) rfl _ _ h1
    have c2 := h.cells (g := g) rfl _ _ h2
    have c3 := h.cells (g := g) rfl _ _ h3
    rw [add_zero_block] at c1 c2 c3
    rw [Nat.zero_add] at c3
    exact ⟨c1, c2, c3⟩
/-- A store into a row of one's own. -/
theorem own_set_cell {w : World} {B n s g cap i : Nat} {e : TypeId} {xs : List Value} (h : w.ownsRow B e s (.slice (some ⟨g, 0, none⟩) n cap) n xs) (hi : i < xs.length) (v : Value) :
    (w.setCell ⟨g, i, none⟩ v).ownsRow B e s (.slice (some ⟨g, 0, none⟩) n cap) n (xs.set i v) := by
  refine ⟨by rw [List.length_set]; exact h.1, ?_⟩
  rcases h.2 with ⟨e1, _⟩ | ⟨g', cap', cur, e1, hB, hh, hnc, hm, hs, hx⟩
  · cases e1
  · injection e1 with e2 e3 e4
    injection e2 with e2
    injection e2 with e2
    subst e2
    subst e4
    refine .inr ⟨g, cap, cur.setIfInBounds i v, rfl, hB, (show Blk w g e cur from hh).set_ i v, hnc, hm, by simpa using hs, ?_⟩
    rw [← hx]
    simp [Array.toList_setIfInBounds, List.take_set]
/-- A row of one's own stays while one of another type grows. -/
theorem own_other {w w' : World} {B B' n n' s s' : Nat} {e e' : TypeId} {u u' : Value} {xs xs' : List Value} (h : w.ownsRow B e s u n xs) (h' : w.ownsRow B' e' s' u' n' xs') (hne : e ≠ e') (hg : w.grownBy w' u'.ownBlock) : w'.ownsRow B e s u n xs := by
  refine h.kept hg ?_
  rcases h.2 with ⟨rfl, _⟩ | ⟨g, cap, cur, rfl, _, hh, _⟩
  · exact .inl rfl
  · right
    intro e1
    rcases h'.2 with ⟨rfl, _⟩ | ⟨g', cap', cur', rfl, _, hh', _⟩
    · simp [Value.ownBlock] at e1
    · simp [Value.ownBlock] at e1
      subst e1
      rw [hh] at hh'
      injection hh' with hh'
      injection hh' with _ hh'
      exact hne hh'
/-- A row of one's own stays over a store into a block of another type. -/
theorem own_far {w : World} {B n s g i : Nat} {e t : TypeId} {u : Value} {xs : List Value} {cs : Array Value} (h : w.ownsRow B e s u n xs) (hb : Blk w g t cs) (hne : e ≠ t) (v : Value) : (w.setCell ⟨g, i, none⟩ v).ownsRow B e s u n xs := by
  refine ⟨h.1, ?_⟩
  rcases h.2 with h0 | ⟨g', cap, cur, hv, hB, hh, r⟩
  · exact .inl h0
  · refine .inr ⟨g', cap, cur, hv, hB, ?_, r⟩
    have hgg : g' ≠ g := Blk.ne_ (show Blk w g' e cur from hh) hb hne
    exact (show Blk w g' e cur from hh).far (p := ⟨g, i, none⟩) hgg v
theorem sp_info : (Tryd.prog.info? 95).map (fun i => (i.zero, i.size, i.bytes)) = some (some (.agg #[.int .i32 0, .int .i32 0, .int .i64 0]), 3, 16) := by kernel_rfl
/-- A block of another type stays while a row of one's own grows. -/
theorem blk_grown {w w' : World} {B n s g : Nat} {e t : TypeId} {u : Value} {xs : List Value} {cs : Array Value} (h : Blk w g t cs) (hown : w.ownsRow B e s u n xs) (hg : w.grownBy w' u.ownBlock) (ht : t ≠ e) : Blk w' g t cs := by
  refine (hg.block g h.lt ?_).trans h
  rcases hown.2 with ⟨rfl, _⟩ | ⟨g', cap, cur, rfl, _, hh, _⟩
  · simp [Value.ownBlock]
  · have := Blk.ne_ h (hh : Blk w g' e cur) ht
    simp [Value.ownBlock, this]
end Go.Proofs.YtccbofaefpbhlaaDoor

namespace Go.Proofs.YtccbofaefpbhlaaDoor
set_option linter.unusedVariables false
set_option maxRecDepth 20000
open Go.RowKit

/-- What the sort of ranges by their beginnings answers. -/
def RetSorted (L : List (Nat × Nat)) (B : Nat) (u : Value) (w : World) (e : Ending) (w' : World) : Prop :=
  ∃ L' : List (Nat × Nat), e = .returned (.tuple #[]) ∧ L'.Perm L ∧ (L'.map (·.1)).Pairwise (· ≤ ·) ∧ w'.ownsRow B 59 2 u L.length (rgCells (intR L')) ∧ w.grownBy w' u.ownBlock
/-- It answers the set of the characters that p says. -/
def RetSet (p : Nat → Bool) (B : Nat) (w : World) (e : Ending) (w' : World) : Prop := ∃ v S, e = .returned v ∧ IsSet w' v S ∧ (∀ c, memS S c = p c) ∧ Below B w w'

theorem rgCells_get : ∀ (L : List (Nat × Nat)) (i : Nat), i < L.length → (rgCells (intR L))[i * 2]? = some (.int .i32 ((L.getD i (0, 0)).1 : Nat)) ∧ (rgCells (intR L))[i * 2 + 1]? = some (.int .i32 ((L.getD i (0, 0)).2 : Nat))
  | [], i, h => by simp at h
  | (a, b) :: r, 0, _ => by simp [rgCells, intR]
  | (a, b) :: r, i + 1, h => by
    obtain ⟨h1, h2⟩ := rgCells_get r i (by simpa using h)
    have e : rgCells (intR ((a, b) :: r)) = [.int .i32 (a : Int), .int .i32 (b : Int)] ++ rgCells (intR r) := by simp [rgCells, intR]
    rw [e, List.getElem?_append_right (by simp; omega), List.getElem?_append_right (by simp; omega)]
    simp only [List.length_cons, List.length_nil, Nat.zero_add, Nat.reduceAdd, show (i + 1) * 2 - 2 = i * 2 by omega, show (i + 1) * 2 + 1 - 2 = i * 2 + 1 by omega, List.getD_cons_succ]
    exact ⟨h1, h2⟩
/-- A range of a row of one's own. -/
theorem own_rg {w : World} {B n : Nat} {u : Value} {L : List (Nat × Nat)} (h : w.ownsRow B 59 2 u n (rgCells (intR L))) (hL : L.length = n) {i : Nat} (hi : i < n) :
    ∃ g cap, u = .slice (some ⟨g, 0, none⟩) n cap ∧ g < w.heap.size ∧ w.cell? ⟨g, i * 2, none⟩ = some (.int .i32 ((L.getD i (0, 0)).1 : Nat)) ∧ w.cell? ⟨g, i * 2 + 1, none⟩ = some (.int .i32 ((L.getD i (0, 0)).2 : Nat)) := by
  rcases h.2 with ⟨_, h0⟩ | ⟨g, cap, cur, rfl, _, hh, _⟩
  · omega
  · obtain ⟨h1, h2⟩ := rgCells_get L i (by omega)
    have c1 := h.cells (g := g) rfl _ _ h1
    have c2 := h.cells (g := g) rfl _ _ h2
    rw [add_zero_block] at c1 c2
    exact ⟨g, cap, rfl, (Array.getElem?_eq_some_iff.1 hh).1, c1, c2⟩
/-- The last span of a row of one's own. -/
theorem own_top {w : World} {B : Nat} {u : Value} {T : List (Nat × Nat)} {p q : Nat} (h : w.ownsRow B 95 3 u (T ++ [(p, q)]).length (spC 0 (T ++ [(p, q)]))) :
    ∃ g cap cur, u = .slice (some ⟨g, 0, none⟩) (T.length + 1) cap ∧ Blk w g 95 cur ∧ w.cell? ⟨g, T.length * 3 + 1, none⟩ = some (.int .i32 (q : Nat)) := by
  rcases h.2 with ⟨_, h0⟩ | ⟨g, cap, cur, rfl, _, hh, _⟩
  · simp at h0
  · obtain ⟨_, h2, _⟩ := spC_get (T ++ [(p, q)]) 0 T.length (by simp)
    have c2 := h.cells (g := g) rfl _ _ h2
    rw [add_zero_block] at c2
    refine ⟨g, cap, cur, by rw [List.length_append]; rfl, hh, ?_⟩
    simpa using c2

/-- The spans of the first i ranges. -/
def Joined (L : List (Nat × Nat)) (i B : Nat) (u : Value) (w : World) : Prop :=
  ∃ S, Hid (S = (L.take i).foldl joinStep []) ∧ Good 0 S ∧ Hid (∀ x, S.getLast? = some x → ∀ r ∈ L.drop i, x.1 ≤ r.1) ∧ w.ownsRow B 95 3 u S.length (spC 0 S)
theorem Joined.nil (L : List (Nat × Nat)) (B : Nat) (w : World) : Joined L 0 B (.slice none 0 0) w := ⟨[], rfl, trivial, (fun x hx => by simp at hx), World.ownsRow_nil _ _ _ _⟩

theorem Joined.step {L : List (Nat × Nat)} {i B : Nat} {S : List (Nat × Nat)} {u : Value} {w : World} (hS : S = (L.take i).foldl joinStep []) (hg : Good 0 S) (hlast : ∀ x, S.getLast? = some x → ∀ r ∈ L.drop i, x.1 ≤ r.1) (hi : i < L.length) (hp : ∀ r ∈ L, Part r) (hs : (L.map (·.1)).Pairwise (· ≤ ·))
    {a b : Nat} (hab : L.getD i (0, 0) = (a, b)) (hown : w.ownsRow B 95 3 u (joinStep S (a, b)).length (spC 0 (joinStep S (a, b)))) : Joined L (i + 1) B u w := by
  have hr : L[i] = (a, b) := by simpa [List.getD, hi] using hab
  have hd : L.drop i = (a, b) :: L.drop (i + 1) := by rw [List.drop_eq_getElem_cons hi, hr]
  obtain ⟨g1, g2, g3⟩ := joinStep_spec hg (hr ▸ hp _ (List.getElem_mem hi)) (fun x hx => hlast x hx (a, b) (by rw [hd]; simp))
  refine ⟨joinStep S (a, b), ?_, g1, fun x hx r hr' => ?_, hown⟩
  · rw [Hid, List.take_succ_eq_append_getElem hi, List.foldl_append, ← hS, hr]
    rfl
  · have h1 := g3 x hx
    have h2 : (L.drop i).map (·.1) = (L.map (·.1)).drop i := List.map_drop
    have h3 : ((L.drop i).map (·.1)).Pairwise (· ≤ ·) := by rw [h2]; exact hs.sublist (List.drop_sublist _ _)
    rw [hd, List.map_cons, List.pairwise_cons] at h3
    exact Nat.le_trans h1 (h3.1 r.1 (List.mem_map.2 ⟨r, hr', rfl⟩))

set_option maxHeartbeats 8000000 in
theorem join_any (L : List (Nat × Nat)) (u : Value) (B n : Nat) (w : World) (hown : w.ownsRow B 59 2 u n (rgCells (intR L))) (hL : L.length = n) (hB : B ≤ w.heap.size) (hn : n ≤ 3000000) (hp : ∀ r ∈ L, Part r)
    (HS : Hid (∀ W, W.ownsRow B 59 2 u n (rgCells (intR L)) → B ≤ W.heap.size → Calls Tryd.prog 95 #[u, .func (.func 96) #[] #[]] W (RetSorted L B u W))) :
    Calls Tryd.prog 66 #[u] w (RetSet (memS L) B w) := by
  obtain ⟨i0, hi0, hz0, hz1, hz2⟩ := info_parts sp_info
  have hX2 := Blk.new w 29 #[.slice none 0 0]
  have hku : ∀ k, u.ownBlock = some k → B ≤ k ∧ k < w.heap.size := hown.lt
  have hown := hown.alloc (.cells #[.slice none 0 0] 29)
  have b0 : Below B w (w.alloc (.cells #[.slice none 0 0] 29)) := (Below.refl _ _).alloc hB _
  obtain ⟨ao, cpo, rfl⟩ := own_form2 hown
  have HP := Lib.hid hp
  have HL := Lib.hid hL
  have HKU := Lib.hid hku
  clear hp hL hku
  go_enter Tryd.func66, Tryd.ntmps66
  go_wp2_with fail
  refine (HS.out _ hown (by simp; omega)).mono ?_
  rintro e w1 ⟨L', rfl, hperm, hsort, hown1, hgr⟩
  have hX2 : Blk w1 w.heap.size 29 #[.slice none 0 0] := (hgr.block w.heap.size hX2.lt (fun e => by have := (HKU.out _ e.symm).2; omega)).trans hX2
  have b1 : Below B w w1 := b0.grown hgr (by simp; omega) (fun k hk => (HKU.out k hk).1)
  have hs1 := b1.size
  have hL' : L'.length = n := hperm.length_eq.trans HL.out
  rw [HL.out] at hown1
  have HP' : Hid (∀ r ∈ L', Part r) := fun r hr => HP.out r (hperm.mem_iff.1 hr)
  have HSO := Lib.hid hsort
  have HL' := Lib.hid hL'
  have HM : Hid (∀ c, memS L' c = memS L c) := fun c => by
    rw [Bool.eq_iff_iff]
    simp only [memS, List.any_eq_true]
    constructor
    · rintro ⟨x, hx, h⟩; exact ⟨x, hperm.mem_iff.1 hx, h⟩
    · rintro ⟨x, hx, h⟩; exact ⟨x, hperm.mem_iff.2 hx, h⟩
  clear hgr HKU hown b0 hperm hsort hL' HP HS
  have hlw : w.heap.size < w1.heap.size := hX2.lt
  go_wp2
  go_loopw [3, 11] (fun u t wr => ∃ i : Nat, i ≤ n ∧ t = .int .i64 (i : Int) ∧ Joined L' i B u wr ∧ wr.ownsRow B 59 2 (.slice ao n cpo) n (rgCells (intR L')) ∧ Blk wr w.heap.size 29 #[.slice none 0 0] ∧ Below B w wr) (fun _ t _ => n - (intOf t).toNat)
  case atStart => exact ⟨0, by omega, rfl, Joined.nil L' B w1, hown1, hX2, b1⟩
  case round =>
    obtain ⟨i, hi, rfl, ⟨S, hSe, hg, hlast, hsp⟩, hown, hX, hbw⟩ := hrel
    by_cases hil : i < n
    · obtain ⟨g0, cp0, e0, hl0, c0, c1⟩ := own_rg hown HL'.out hil
      injection e0 with e1 e2 e3
      subst e1
      subst e3
      clear e2
      obtain ⟨⟨a, b⟩, hab⟩ : ∃ r, L'.getD i (0, 0) = r := ⟨_, rfl⟩
      have hpart : Part (a, b) := by
        have h1 : i < L'.length := by rw [HL'.out]; exact hil
        have h2 := HP'.out _ (List.getElem_mem h1)
        rw [show L'[i] = (a, b) by simpa [List.getD, h1] using hab] at h2
        exact h2
      obtain ⟨hp1, hp2, hp3⟩ := hpart
      rw [hab] at c0 c1
      have ST := Lib.hid (fun u w hown => Joined.step (B := B) (u := u) (w := w) hSe.out hg hlast.out (by rw [HL'.out]; exact hil) HP'.out HSO.out hab hown)
      have hlen := hg.len (by decide)
      have hbs := hbw.size
      have hX5 := Blk.new wr 59 #[.int .i32 (a : Nat), .int .i32 (b : Nat)]
      have hXn := hX.alloc (.cells #[.int .i32 (a : Nat), .int .i32 (b : Nat)] 59)
      have hon := hown.alloc (.cells #[.int .i32 (a : Nat), .int .i32 (b : Nat)] 59)
      have hsn := hsp.alloc (.cells #[.int .i32 (a : Nat), .int .i32 (b : Nat)] 59)
      have hbn : Below B w (wr.alloc (.cells #[.int .i32 (a : Nat), .int .i32 (b : Nat)] 59)) := hbw.alloc (by omega) _
      clear hSe hlast hab
      cases hgl : S.getLast? with
      | none =>
        have : S = [] := List.getLast?_eq_none_iff.1 hgl
        subst this
        have hst : joinStep [] (a, b) = [] ++ [(a, b)] := rfl
        rw [hst] at ST
        have hset0 := own_set hsn hg
        have hcn := hg.cnt_le (by decide)
        obtain ⟨ao3, cp3, rfl⟩ := own_form2 hsn
        have hd0 : decide ((0 : Int) ≤ -1) = false := by decide
        clear hst hgl hsp hX hown hbw
        go_wp2_with fail
        obtain ⟨g5, hg5⟩ : ∃ g5, g5 = wr.heap.size := ⟨_, rfl⟩
        rw [← hg5] at hX5 ⊢
        have hg5B : B ≤ g5 := by omega
        clear hg5
        generalize wr.alloc (.cells #[.int .i32 (a : Nat), .int .i32 (b : Nat)] 59) = V at *
        go_quiet (fail)
        have q3 : IsSet (V.drewN nq) (.agg #[.slice ao3 ([] : List (Nat × Nat)).length cp3]) [] := hset0
        have q5 : Blk (V.drewN nq) g5 59 #[.int .i32 (a : Nat), .int .i32 (b : Nat)] := hX5
        have q6 : Blk (V.drewN nq) w.heap.size 29 #[.slice none 0 0] := hXn
        have q7 : (V.drewN nq).ownsRow B 59 2 (.slice (some ⟨g0, 0, none⟩) n cpo) n (rgCells (intR L')) := hon
        have q8 : (V.drewN nq).ownsRow B 95 3 (.slice ao3 ([] : List (Nat × Nat)).length cp3) ([] : List (Nat × Nat)).length (spC 0 []) := hsn
        have q9 : Below B w (V.drewN nq) := below_drewN hbn nq
        clear hXn hon hbn hX5 c0 c1 hset0 hsn
        generalize V.drewN nq = W at *
        have CNT := Lib.hid (fun W' (hW : Below W.heap.size W W') => count_any _ _ W' (q3.below hW))
        obtain ⟨k0, hk0⟩ : ∃ k0, cnt [] = k0 := ⟨_, rfl⟩
        rw [hk0] at CNT
        have HK0 : Hid (k0 = 0) := hk0.symm
        clear q3 hg hlen hd0 hk0
        go_wp2_with fail
        refine wp_region_kept (fun w' => w'.cell? ⟨g5, 0, none⟩ = some (.int .i32 (a : Nat)) ∧ w'.cell? ⟨g5, 1, none⟩ = some (.int .i32 (b : Nat))) (fun i => decide (7 ≤ i)) (by kernel_rfl) ⟨((q5.on (below_drew _)).cell 0).trans rfl, ((q5.on (below_drew _)).cell 1).trans rfl⟩ (fun hH => ?_)
        refine wpAnyK_take (i := 0) (v := .slice ao3 0 cp3) rfl (by kernel_rfl) (by kernel_rfl) (by kernel_rfl) (by kernel_rfl) (by kernel_rfl) (fun _ _ _ h => h) (Or.inl ⟨by rfl, ?_⟩) hH ?_
        · rintro w' ⟨k1, k2⟩; go_simp
        simp only [Act.put, List.setIfInBounds_toArray]
        refine wpAnyK_take (i := 1) (v := .agg #[.int .i32 (a : Nat), .int .i32 (b : Nat)]) rfl (by kernel_rfl) (by kernel_rfl) (by kernel_rfl) (by kernel_rfl) (by kernel_rfl) (fun _ _ _ h => h) (Or.inl ⟨by rfl, ?_⟩) hH ?_
        · rintro w' ⟨k1, k2⟩; go_simp
        simp only [Act.put]
        refine wpAnyK_take (i := 2) (v := .slice ao3 0 cp3) rfl (by kernel_rfl) (by kernel_rfl) (by kernel_rfl) (by kernel_rfl) (by kernel_rfl) (fun _ _ _ h => h) (Or.inl ⟨by rfl, ?_⟩) hH ?_
        · rintro w' ⟨k1, k2⟩; go_simp
        simp only [Act.put]
        refine wpAnyK_take (i := 3) (v := .agg #[.slice ao3 0 cp3]) rfl (by kernel_rfl) (by kernel_rfl) (by kernel_rfl) (by kernel_rfl) (by kernel_rfl) (fun _ _ _ h => h) (Or.inl ⟨by rfl, ?_⟩) hH ?_
        · rintro w' ⟨k1, k2⟩; go_simp
        simp only [Act.put]
        refine wpAnyK_one (i := 4) (by kernel_rfl) rfl (fun Kk hKk => ?_)
        go_simp
        refine (CNT.out _ (below_drew _)).mono ?_
        rintro e z1 ⟨rfl, y1⟩
        have hz : Below W.heap.size W z1 := below_step (below_drew _) y1
        go_wp2_with fail
        refine hKk.out _ _ ⟨((q5.on hz).cell 0).trans rfl, ((q5.on hz).cell 1).trans rfl⟩ (fun _ => ?_)
        clear hKk Kk
        refine wpAnyK_one (i := 5) (by kernel_rfl) rfl (fun Kk hKk => ?_)
        go_simp
        refine hKk.out _ _ ⟨((q5.on hz).cell 0).trans rfl, ((q5.on hz).cell 1).trans rfl⟩ (fun _ => ?_)
        clear hKk Kk
        refine wpAnyK_one (i := 6) (by kernel_rfl) rfl (fun Kk hKk => ?_)
        go_simp
        have hza := hz.alloc hz.size (.cells #[.int .i32 (a : Nat), .int .i32 (b : Nat), .int .i64 (k0 : Nat)] 95)
        refine hKk.out _ _ ⟨((q5.on hza).cell 0).trans rfl, ((q5.on hza).cell 1).trans rfl⟩ (fun _ => ?_)
        clear hKk Kk
        have hrow := (own_kept q8 hz).alloc (.cells #[.int .i32 (a : Nat), .int .i32 (b : Nat), .int .i64 (k0 : Nat)] 95)
        have hB1 : B ≤ (z1.alloc (.cells #[.int .i32 (a : Nat), .int .i32 (b : Nat), .int .i64 (k0 : Nat)] 95)).heap.size := by have := hza.size; have := q9.size; omega
        refine wpAnyK_last (i := 7) (by kernel_rfl) rfl rfl (fun Kk hKk => ?_)
        rw [if_pos (by rfl)]
        refine wp_append_own _ (.tmp 46) (.tmp 52) 27 rfl B 95 i0 (.agg #[.int .i32 0, .int .i32 0, .int .i64 0]) 3 16 Tryd.underlying27 hi0 hz0 hz1 hz2 rfl (by decide) (.slice ao3 0 cp3) 0 _ rfl hrow ⟨z1.heap.size, 0, none⟩ 1 1 [.int .i32 (a : Nat), .int .i32 (b : Nat), .int .i64 (k0 : Nat)] rfl rfl ?c1 (by simp [Value.oneCell']) (by unfold maxLen; omega) (by omega) hB1 ?_
        case c1 =>
          intro j v hv
          rw [add_off, (Blk.new z1 95 _).cell, Nat.zero_add]
          rcases j with _ | _ | _ | j
          · simpa using hv
          · simpa using hv
          · simpa using hv
          · simp at hv
        intro v6 w6 hown6 hgrow _
        have hX6 := blk_grown (q6.on hza) hrow hgrow (by decide)
        have hO6 := own_other (own_kept q7 hza) hrow (by decide) hgrow
        have b6 : Below B w w6 := (q9.trans (hza.mono (Nat.le_trans hB q9.size))).grown hgrow hB1 (fun k hk => (hrow.lt k hk).1)
        have hJ := ST.out v6 w6 (by have h9 := hown6; rw [HK0.out] at h9; exact h9)
        have HJ := Lib.hid hJ
        obtain ⟨ao6, cp6, rfl⟩ := own_form2 hown6
        clear hJ hown6 hgrow hrow hza hH
        refine hKk.out _ _ ?_
        clear hKk Kk
        refine wpAnyK_last (i := 8) (by kernel_rfl) rfl rfl (fun Kk hKk => ?_)
        go_simp
        refine hKk.out _ _ ?_
        clear hKk Kk
        refine wpAnyK_done (by kernel_rfl) ?_ _
        go_wp2
        go_roundw
        case rel => exact ⟨i + 1, by omega, by go_num, HJ.out, hO6, hX6, b6⟩
        case measure => simp [intOf]; omega
      | some x =>
        obtain ⟨p, q⟩ := x
        obtain ⟨T, rfl⟩ := List.getLast?_eq_some_iff.1 hgl
        have hlq := hg.at_ (i := T.length) (by simp)
        simp at hlq
        obtain ⟨g3, cp3, cur3, rfl, hB3, ct⟩ := own_top hsn
        have hTl : T.length ≤ 3000000 := by simp at hlen; omega
        have hsn' : (wr.alloc (.cells #[.int .i32 (a : Nat), .int .i32 (b : Nat)] 59)).ownsRow B 95 3 (.slice (some ⟨g3, 0, none⟩) (T.length + 1) cp3) (T.length + 1) (spC 0 (T ++ [(p, q)])) := by
          have := hsn
          rw [List.length_append] at this
          exact this
        have hgB : B ≤ g3 := (hsn'.lt g3 rfl).1
        have hne29 : w.heap.size ≠ g3 := Blk.ne_ hXn hB3 (by decide)
        obtain ⟨ca, cb⟩ : (wr.alloc (.cells #[.int .i32 (a : Nat), .int .i32 (b : Nat)] 59)).cell? ⟨wr.heap.size, 0, none⟩ = some (.int .i32 (a : Nat)) ∧ (wr.alloc (.cells #[.int .i32 (a : Nat), .int .i32 (b : Nat)] 59)).cell? ⟨wr.heap.size, 1, none⟩ = some (.int .i32 (b : Nat)) := ⟨(hX5.cell 0).trans rfl, (hX5.cell 1).trans rfl⟩
        have ft := hB3.free (T.length * 3 + 1)
        have hsub : ((T.length + 1 : Nat) : Int) - 1 = (T.length : Int) := by omega
        have hd0 : decide ((0 : Int) ≤ (T.length : Int)) = true := by simp
        by_cases hc : a ≤ q + 1
        · have hst : joinStep (T ++ [(p, q)]) (a, b) = T ++ [(p, max q b)] := by
            unfold joinStep
            rw [hgl]
            simp [hc]
          rw [hst] at ST
          have hcI : (a : Int) ≤ (q : Int) + 1 := by omega
          have hdc : decide ((a : Int) ≤ (q : Int) + 1) = true := by simpa using hcI
          have hmx : max (q : Int) (b : Int) = ((max q b : Nat) : Int) := by omega
          clear hst hsn hc hgl hsp hX hown hbw
          go_wp2_with fail
          obtain ⟨g5, hg5⟩ : ∃ g5, g5 = wr.heap.size := ⟨_, rfl⟩
          rw [← hg5] at ca cb hX5 ⊢
          have hg5B : B ≤ g5 := by omega
          clear hg5
          generalize wr.alloc (.cells #[.int .i32 (a : Nat), .int .i32 (b : Nat)] 59) = V at *
          go_quiet (fail)
          have q1 : (V.drewN nq).cell? ⟨g3, T.length * 3 + 1, none⟩ = some (.int .i32 (q : Nat)) := ct
          have q2 : (V.drewN nq).frozen? ⟨g3, T.length * 3 + 1, none⟩ = false := ft
          have q3 : (V.drewN nq).cell? ⟨g5, 1, none⟩ = some (.int .i32 (b : Nat)) := cb
          have q4 : Blk (V.drewN nq) g3 95 cur3 := hB3
          have q5 : Blk (V.drewN nq) w.heap.size 29 #[.slice none 0 0] := hXn
          have q6 : (V.drewN nq).ownsRow B 59 2 (.slice (some ⟨g0, 0, none⟩) n cpo) n (rgCells (intR L')) := hon
          have q7 : (V.drewN nq).ownsRow B 95 3 (.slice (some ⟨g3, 0, none⟩) (T.length + 1) cp3) (T.length + 1) (spC 0 (T ++ [(p, q)])) := hsn'
          have q8 : Below B w (V.drewN nq) := below_drewN hbn nq
          clear ct ft cb ca hB3 hXn hon hsn' hbn hX5 c0 c1 hdc
          generalize V.drewN nq = W at *
          have hset := own_set_cell q7 (i := T.length * 3 + 1) (by rw [spC_length]; simp; omega) (.int .i32 (max q b : Nat))
          rw [spC_setLast] at hset
          have hfarX := q5.far (p := ⟨g3, T.length * 3 + 1, none⟩) hne29 (.int .i32 (max q b : Nat))
          have hfarO := own_far (i := T.length * 3 + 1) q6 q4 (by decide) (.int .i32 (max q b : Nat))
          have hbS := q8.setCell (p := ⟨g3, T.length * 3 + 1, none⟩) hgB (.int .i32 (max q b : Nat))
          clear q4 q5 q6 q7 q8
          go_wp2_with fail
          go_region
          go_wp2
          go_roundw
          case rel => exact ⟨i + 1, by omega, by go_num, ST.out _ _ (by rw [List.length_append]; exact hset), hfarO, hfarX, hbS.drew⟩
          case measure => simp [intOf]; omega
        · have hst : joinStep (T ++ [(p, q)]) (a, b) = (T ++ [(p, q)]) ++ [(a, b)] := by
            unfold joinStep
            rw [hgl]
            simp [hc]
          rw [hst] at ST
          have hcI : ¬ (a : Int) ≤ (q : Int) + 1 := by omega
          have hdc : decide ((a : Int) ≤ (q : Int) + 1) = false := by simpa using hcI
          have hcn := hg.cnt_le (by decide)
          have hset0 := own_set hsn hg
          clear hst hsn hc hgl hsp hX hown hbw
          go_wp2_with fail
          obtain ⟨g5, hg5⟩ : ∃ g5, g5 = wr.heap.size := ⟨_, rfl⟩
          rw [← hg5] at ca cb hX5 ⊢
          have hg5B : B ≤ g5 := by omega
          clear hg5
          generalize wr.alloc (.cells #[.int .i32 (a : Nat), .int .i32 (b : Nat)] 59) = V at *
          go_quiet (fail)
          have q3 : IsSet (V.drewN nq) (.agg #[.slice (some ⟨g3, 0, none⟩) (T.length + 1) cp3]) (T ++ [(p, q)]) := hset0
          have q4 : Blk (V.drewN nq) g3 95 cur3 := hB3
          have q5 : Blk (V.drewN nq) g5 59 #[.int .i32 (a : Nat), .int .i32 (b : Nat)] := hX5
          have q6 : Blk (V.drewN nq) w.heap.size 29 #[.slice none 0 0] := hXn
          have q7 : (V.drewN nq).ownsRow B 59 2 (.slice (some ⟨g0, 0, none⟩) n cpo) n (rgCells (intR L')) := hon
          have q8 : (V.drewN nq).ownsRow B 95 3 (.slice (some ⟨g3, 0, none⟩) (T.length + 1) cp3) (T.length + 1) (spC 0 (T ++ [(p, q)])) := hsn'
          have q9 : Below B w (V.drewN nq) := below_drewN hbn nq
          clear ct ft cb ca hB3 hXn hon hsn' hbn hX5 c0 c1 hdc hset0
          generalize V.drewN nq = W at *
          have CNT := Lib.hid (fun W' (hW : Below W.heap.size W W') => count_any _ _ W' (q3.below hW))
          have hSl : (T ++ [(p, q)]).length = T.length + 1 := by simp
          have HSL := Lib.hid hSl
          clear hSl q3 hg hlen hlq hcI
          generalize T ++ [(p, q)] = S at *
          obtain ⟨ao3, hao3⟩ : ∃ ao3 : Option Addr, ao3 = some ⟨g3, 0, none⟩ := ⟨_, rfl⟩
          obtain ⟨n3, hn3⟩ : ∃ n3, n3 = T.length + 1 := ⟨_, rfl⟩
          have hnI : (T.length : Int) + 1 = (n3 : Int) := by omega
          rw [← hn3] at q8 CNT HSL
          rw [← hao3] at q8 CNT
          have hn3b : n3 ≤ 3000001 := by omega
          go_wp2_with fail
          rw [← hao3, ← hn3]
          clear hao3 hn3 hnI
          refine wp_region_kept (fun w' => w'.cell? ⟨g5, 0, none⟩ = some (.int .i32 (a : Nat)) ∧ w'.cell? ⟨g5, 1, none⟩ = some (.int .i32 (b : Nat))) (fun i => decide (7 ≤ i)) (by kernel_rfl) ⟨((q5.on (below_drew _)).cell 0).trans rfl, ((q5.on (below_drew _)).cell 1).trans rfl⟩ (fun hH => ?_)
          refine wpAnyK_take (i := 0) (v := .slice ao3 n3 cp3) rfl (by kernel_rfl) (by kernel_rfl) (by kernel_rfl) (by kernel_rfl) (by kernel_rfl) (fun _ _ _ h => h) (Or.inl ⟨by rfl, ?_⟩) hH ?_
          · rintro w' ⟨k1, k2⟩; go_simp
          simp only [Act.put, List.setIfInBounds_toArray]
          refine wpAnyK_take (i := 1) (v := .agg #[.int .i32 (a : Nat), .int .i32 (b : Nat)]) rfl (by kernel_rfl) (by kernel_rfl) (by kernel_rfl) (by kernel_rfl) (by kernel_rfl) (fun _ _ _ h => h) (Or.inl ⟨by rfl, ?_⟩) hH ?_
          · rintro w' ⟨k1, k2⟩; go_simp
          simp only [Act.put]
          refine wpAnyK_take (i := 2) (v := .slice ao3 n3 cp3) rfl (by kernel_rfl) (by kernel_rfl) (by kernel_rfl) (by kernel_rfl) (by kernel_rfl) (fun _ _ _ h => h) (Or.inl ⟨by rfl, ?_⟩) hH ?_
          · rintro w' ⟨k1, k2⟩; go_simp
          simp only [Act.put]
          refine wpAnyK_take (i := 3) (v := .agg #[.slice ao3 n3 cp3]) rfl (by kernel_rfl) (by kernel_rfl) (by kernel_rfl) (by kernel_rfl) (by kernel_rfl) (fun _ _ _ h => h) (Or.inl ⟨by rfl, ?_⟩) hH ?_
          · rintro w' ⟨k1, k2⟩; go_simp
          simp only [Act.put]
          refine wpAnyK_one (i := 4) (by kernel_rfl) rfl (fun Kk hKk => ?_)
          go_simp
          refine (CNT.out _ (below_drew _)).mono ?_
          rintro e z1 ⟨rfl, y1⟩
          have hz : Below W.heap.size W z1 := below_step (below_drew _) y1
          go_wp2_with fail
          refine hKk.out _ _ ⟨((q5.on hz).cell 0).trans rfl, ((q5.on hz).cell 1).trans rfl⟩ (fun _ => ?_)
          clear hKk Kk
          refine wpAnyK_one (i := 5) (by kernel_rfl) rfl (fun Kk hKk => ?_)
          go_simp
          refine hKk.out _ _ ⟨((q5.on hz).cell 0).trans rfl, ((q5.on hz).cell 1).trans rfl⟩ (fun _ => ?_)
          clear hKk Kk
          refine wpAnyK_one (i := 6) (by kernel_rfl) rfl (fun Kk hKk => ?_)
          go_simp
          have hza := hz.alloc hz.size (.cells #[.int .i32 (a : Nat), .int .i32 (b : Nat), .int .i64 (cnt S : Nat)] 95)
          refine hKk.out _ _ ⟨((q5.on hza).cell 0).trans rfl, ((q5.on hza).cell 1).trans rfl⟩ (fun _ => ?_)
          clear hKk Kk
          have hrow := (own_kept q8 hz).alloc (.cells #[.int .i32 (a : Nat), .int .i32 (b : Nat), .int .i64 (cnt S : Nat)] 95)
          have hB1 : B ≤ (z1.alloc (.cells #[.int .i32 (a : Nat), .int .i32 (b : Nat), .int .i64 (cnt S : Nat)] 95)).heap.size := by have := hza.size; have := q9.size; omega
          refine wpAnyK_last (i := 7) (by kernel_rfl) rfl rfl (fun Kk hKk => ?_)
          rw [if_pos (by rfl)]
          refine wp_append_own _ (.tmp 46) (.tmp 52) 27 rfl B 95 i0 (.agg #[.int .i32 0, .int .i32 0, .int .i64 0]) 3 16 Tryd.underlying27 hi0 hz0 hz1 hz2 rfl (by decide) (.slice ao3 n3 cp3) n3 _ rfl hrow ⟨z1.heap.size, 0, none⟩ 1 1 [.int .i32 (a : Nat), .int .i32 (b : Nat), .int .i64 (cnt S : Nat)] rfl rfl ?c1 (by simp [Value.oneCell']) (by unfold maxLen; omega) (by omega) hB1 ?_
          case c1 =>
            intro j v hv
            rw [add_off, (Blk.new z1 95 _).cell, Nat.zero_add]
            rcases j with _ | _ | _ | j
            · simpa using hv
            · simpa using hv
            · simpa using hv
            · simp at hv
          intro v6 w6 hown6 hgrow _
          have hX6 := blk_grown (q6.on hza) hrow hgrow (by decide)
          have hO6 := own_other (own_kept q7 hza) hrow (by decide) hgrow
          have b6 : Below B w w6 := (q9.trans (hza.mono (Nat.le_trans hB q9.size))).grown hgrow hB1 (fun k hk => (hrow.lt k hk).1)
          have hJ := ST.out v6 w6 (by rw [List.length_append, HSL.out, spC_snoc, Nat.zero_add]; exact hown6)
          have HJ := Lib.hid hJ
          obtain ⟨ao6, cp6, rfl⟩ := own_form2 hown6
          clear hJ hown6 hgrow hrow hza hH
          refine hKk.out _ _ ?_
          clear hKk Kk
          refine wpAnyK_last (i := 8) (by kernel_rfl) rfl rfl (fun Kk hKk => ?_)
          go_simp
          refine hKk.out _ _ ?_
          clear hKk Kk
          refine wpAnyK_done (by kernel_rfl) ?_ _
          go_wp2
          go_roundw
          case rel => exact ⟨i + 1, by omega, by go_num, HJ.out, hO6, hX6, b6⟩
          case measure => simp [intOf]; omega
    · obtain rfl : i = n := by omega
      have hset := own_set hsp hg
      have HSET : Hid (∀ c, memS S c = memS L c) := by
        rw [Hid, hSe.out]
        intro c
        rw [List.take_of_length_le (by rw [HL'.out]; exact Nat.le_refl _)]
        have h1 := (joinAll_spec L' [] trivial HP'.out HSO.out (fun x hx => by simp at hx)).2 c
        rw [h1, HM.out]
        simp [memS]
      obtain ⟨ao3, cp3, rfl⟩ := own_form2 hsp
      have cX := hX.cell0
      have fX := hX.free 0
      have hq := (hX.set0 (.slice ao3 S.length cp3)).cell0
      have hset' : IsSet (wr.setCell ⟨w.heap.size, 0, none⟩ (.slice ao3 S.length cp3)) (.agg #[.slice ao3 S.length cp3]) S := own_set (own_far (i := 0) hsp hX (by decide) _) hg
      have hbE := hbw.setCell (p := ⟨w.heap.size, 0, none⟩) hB (.slice ao3 S.length cp3)
      have hSl := hg.len (by decide)
      generalize S.length = sl at *
      go_wp2
      exact bodyPost_ret (v := .agg #[.slice ao3 sl cp3]) (by simp [results, Tryd.results66, go_sem, hq]) rfl ⟨_, S, rfl, hset', HSET.out, hbE⟩
end Go.Proofs.YtccbofaefpbhlaaDoor
