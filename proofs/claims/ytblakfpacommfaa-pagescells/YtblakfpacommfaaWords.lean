/-
  Words for memory: a slice whose cells are naturals, and what keeps it; it speaks of no program.
-/
import Derived.Test.YtblakfpacommfaaMath
import Derived.WalkKit
import Derived.Below
import Derived.Laws.OwnMore
namespace Go.Proofs.Ytblakfpacommfaa
set_option linter.unusedVariables false
set_option maxRecDepth 20000
set_option maxRecDepth 20000
set_option maxRecDepth 20000
open Go.RowKit

theorem add_block (a : Addr) (n : Nat) : (a.add n).block = a.block := by unfold Addr.add; split <;> rfl
theorem add_add (a : Addr) (i j : Nat) : (a.add i).add j = a.add (i + j) := by
  unfold Addr.add
  by_cases hi : i = 0 <;> by_cases hj : j = 0 <;> simp [hi, hj, Nat.add_assoc]

/-- The slice with the address A leads to the numbers l, of the kind k. -/
def Row (k : IntKind) (w : World) (A : Option Addr) (l : List Nat) : Prop :=
  l ≠ [] → ∃ ad, A = some ad ∧ ad.block < w.heap.size ∧ ∀ i, i < l.length → w.cell? (ad.add i) = some (.int k (l.getD i 0 : Nat))

section
variable {k : IntKind} {w w' : World} {A : Option Addr} {l : List Nat}
theorem Row.empty : Row k w A [] := fun h => absurd rfl h
theorem Row.kept (h : Row k w A l) (hs : w.heap.size ≤ w'.heap.size) (hc : ∀ p : Addr, p.block < w.heap.size → w'.cell? p = w.cell? p) : Row k w' A l := fun hn => by
  obtain ⟨ad, e, hb, hcell⟩ := h hn
  exact ⟨ad, e, by omega, fun i hi => (hc _ (by rw [add_block]; exact hb)).trans (hcell i hi)⟩
theorem Row.below (h : Row k w A l) (hb : Below w.heap.size w w') : Row k w' A l := h.kept hb.size fun _ hp => hb.cell hp
theorem Row.at_ (h : Row k w A l) {i : Nat} (hi : i < l.length) : ∃ ad, A = some ad ∧ ad.block < w.heap.size ∧ w.cell? (ad.add i) = some (.int k (l.getD i 0 : Nat)) := by
  obtain ⟨ad, e, hb, hc⟩ := h (by intro e; simp [e] at hi)
  exact ⟨ad, e, hb, hc i hi⟩
theorem Row.take (h : Row k w A l) (n : Nat) : Row k w A (l.take n) := fun hn => by
  obtain ⟨ad, e, hb, hc⟩ := h (by intro e; simp [e] at hn)
  refine ⟨ad, e, hb, fun i hi => ?_⟩
  rw [List.length_take] at hi
  rw [hc i (by omega)]
  simp [List.getD, show i < n by omega]
theorem Row.alloc (h : Row k w A l) (o : Obj) : Row k (w.alloc o) A l := h.below ((Below.refl _ _).alloc (Nat.le_refl _) o)
theorem Row.drew (h : Row k w A l) : Row k w.drew A l := h
end

theorem below_new (w : World) (o : Obj) : Below w.heap.size w (w.alloc o) := (Below.refl _ _).alloc (Nat.le_refl _) o
theorem below_drew (w : World) : Below w.heap.size w w.drew := (Below.refl _ _).drew
theorem below_step {w w1 w2 : World} (h : Below w.heap.size w w1) (h' : Below w1.heap.size w1 w2) : Below w.heap.size w w2 := h.trans (h'.mono h.size)

/-- A block of cells, whole, none of them frozen. -/
def Blk (w : World) (g : Nat) (t : TypeId) (cs : Array Value) : Prop := w.heap[g]? = some (.cells cs t (0, 0))

section
variable {w w' : World} {g : Nat} {t : TypeId} {cs : Array Value}
theorem Blk.lt (h : Blk w g t cs) : g < w.heap.size := by
  rcases Nat.lt_or_ge g w.heap.size with hl | hl
  · exact hl
  · unfold Blk at h; rw [Array.getElem?_eq_none hl] at h; cases h
theorem Blk.cell (h : Blk w g t cs) (i : Nat) : w.cell? ⟨g, i, none⟩ = cs[i]? := cell_of_row w g i cs t (0, 0) h
theorem Blk.free (h : Blk w g t cs) (i : Nat) : w.frozen? ⟨g, i, none⟩ = false := by
  unfold Blk at h; simp [World.frozen?, h]
theorem Blk.below {B : Nat} (h : Blk w g t cs) (hb : Below B w w') (hg : g < B) : Blk w' g t cs := (hb.block g hg).trans h
theorem Blk.alloc (h : Blk w g t cs) (o : Obj) : Blk (w.alloc o) g t cs := (Below.heap_alloc w o g h.lt).trans h
theorem Blk.set_ (h : Blk w g t cs) (i : Nat) (u : Value) : Blk (w.setCell ⟨g, i, none⟩ u) g t (cs.setIfInBounds i u) := by
  unfold Blk at h ⊢
  simp [World.setCell, Array.getElem?_modify, h]
theorem Blk.new (w : World) (t : TypeId) (cs : Array Value) : Blk (w.alloc (.cells cs t)) w.heap.size t cs := heap_alloc_new w _
theorem Blk.far {p : Addr} (h : Blk w g t cs) (hp : g ≠ p.block) (u : Value) : Blk (w.setCell p u) g t cs := (Below.heap_setCell w p u g hp).trans h
theorem Blk.ne_ {g' : Nat} {t' : TypeId} {cs' : Array Value} (h : Blk w g t cs) (h' : Blk w g' t' cs') (ht : t ≠ t') : g ≠ g' := by
  rintro rfl
  unfold Blk at h h'
  rw [h] at h'
  injection h' with h'
  injection h' with _ h'
  exact ht h'
end

theorem Blk.cell0 {w : World} {g : Nat} {t : TypeId} {v : Value} (h : Blk w g t #[v]) : w.cell? ⟨g, 0, none⟩ = some v := by rw [h.cell]; rfl
theorem Blk.set0 {w : World} {g : Nat} {t : TypeId} {v : Value} (h : Blk w g t #[v]) (u : Value) : Blk (w.setCell ⟨g, 0, none⟩ u) g t #[u] := h.set_ 0 u
/-- A new block of one cell stays through two calls that only make memory. -/
theorem Blk.over {w w1 : World} {t : TypeId} {cs : Array Value} (h : Below (w.alloc (.cells cs t)).heap.size (w.alloc (.cells cs t)) w1) : Blk w1 w.heap.size t cs := (Blk.new w t cs).below h (by simp)
theorem Blk.on {w w1 : World} {g : Nat} {t : TypeId} {cs : Array Value} (h : Blk w g t cs) (hb : Below w.heap.size w w1) : Blk w1 g t cs := h.below hb h.lt

/-- A cell that was there stays over a call that only makes memory. -/
theorem cell_on {w w1 : World} {g o : Nat} {v : Value} (hb : Below w.heap.size w w1) (hc : w.cell? ⟨g, o, none⟩ = some v) (hg : g < w.heap.size) : w1.cell? ⟨g, o, none⟩ = some v := (hb.cell hg).trans hc
/-- A cell stays over a store into another block. -/
theorem cell_far {w : World} {g i g' o : Nat} {v u : Value} (hc : w.cell? ⟨g, i, none⟩ = some v) (hg : g ≠ g') : (w.setCell ⟨g', o, none⟩ u).cell? ⟨g, i, none⟩ = some v :=
  (World.cell?_setCell_other w _ _ u (fun e => hg (congrArg Addr.block e).symm)).trans hc

theorem add_zero_block (g i : Nat) : (⟨g, 0, none⟩ : Addr).add i = ⟨g, i, none⟩ := by
  unfold Addr.add
  by_cases h : i = 0 <;> simp [h]
theorem add_off (g o i : Nat) : (⟨g, o, none⟩ : Addr).add i = ⟨g, o + i, none⟩ := by
  unfold Addr.add
  by_cases h : i = 0 <;> simp [h]

/-- The slice with the address A lies in a block of the element type t, and leads there to the numbers l, of the kind k. -/
def Arr (t : TypeId) (k : IntKind) (w : World) (A : Option Addr) (l : List Nat) : Prop :=
  l ≠ [] → ∃ g o cs, A = some ⟨g, o, none⟩ ∧ Blk w g t cs ∧ ∀ i, i < l.length → cs[o + i]? = some (.int k (l.getD i 0 : Nat))

section
variable {t : TypeId} {k : IntKind} {w w' : World} {A : Option Addr} {l : List Nat}
theorem Arr.empty : Arr t k w A [] := fun h => absurd rfl h
theorem Arr.row (h : Arr t k w A l) : Row k w A l := fun hn => by
  obtain ⟨g, o, cs, e, hb, hc⟩ := h hn
  exact ⟨_, e, hb.lt, fun i hi => by rw [add_off, hb.cell, hc i hi]⟩
theorem Arr.below (h : Arr t k w A l) (hb : Below w.heap.size w w') : Arr t k w' A l := fun hn => by
  obtain ⟨g, o, cs, e, h1, hc⟩ := h hn
  exact ⟨g, o, cs, e, h1.below hb h1.lt, hc⟩
theorem Arr.alloc (h : Arr t k w A l) (o : Obj) : Arr t k (w.alloc o) A l := h.below (below_new w o)
theorem Arr.take (h : Arr t k w A l) (n : Nat) : Arr t k w A (l.take n) := fun hn => by
  obtain ⟨g, o, cs, e, h1, hc⟩ := h (by intro e; simp [e] at hn)
  refine ⟨g, o, cs, e, h1, fun i hi => ?_⟩
  rw [List.length_take] at hi
  rw [hc i (by omega)]
  simp [List.getD, show i < n by omega]
theorem Arr.far {g' : Nat} {t' : TypeId} {cs' : Array Value} (h : Arr t k w A l) (h' : Blk w g' t' cs') (ht : t ≠ t') (i : Nat) (u : Value) : Arr t k (w.setCell ⟨g', i, none⟩ u) A l := fun hn => by
  obtain ⟨g, o, cs, e, h1, hc⟩ := h hn
  exact ⟨g, o, cs, e, h1.far (h1.ne_ h' ht) u, hc⟩
end

/-- A number of the program: its limbs lie in memory, normal, at most 'k' of them. -/
def IsN (w : World) (v : Value) (k N : Nat) : Prop :=
  ∃ A c l, v = .agg #[.slice A l.length c] ∧ Arr 43 .u32 w A l ∧ Norm 4294967296 l ∧ val 4294967296 l = N ∧ l.length ≤ k ∧ l.length ≤ c

theorem IsN.below {w w' : World} {v : Value} {k N : Nat} (h : IsN w v k N) (hb : Below w.heap.size w w') : IsN w' v k N := by
  obtain ⟨A, c, l, e, h1, h2, h3, h4, h5⟩ := h
  exact ⟨A, c, l, e, h1.below hb, h2, h3, h4, h5⟩
theorem IsN.alloc {w : World} {v : Value} {k N : Nat} (h : IsN w v k N) (o : Obj) : IsN (w.alloc o) v k N := h.below (below_new w o)
theorem IsN.more {w : World} {v : Value} {k k' N : Nat} (h : IsN w v k N) (hk : k ≤ k') : IsN w v k' N := by
  obtain ⟨A, c, l, e, h1, h2, h3, h4, h5⟩ := h
  exact ⟨A, c, l, e, h1, h2, h3, by omega, h5⟩
theorem IsN.shape {w : World} {v : Value} {k N : Nat} (h : IsN w v k N) : ∃ A n c, v = .agg #[.slice A n c] := by
  obtain ⟨A, c, l, e, _⟩ := h
  exact ⟨A, _, c, e⟩

/-- A slice of the program with the numbers l. -/
def IsL (t : TypeId) (k : IntKind) (w : World) (v : Value) (l : List Nat) : Prop := ∃ A c, v = .slice A l.length c ∧ Arr t k w A l ∧ l.length ≤ c

theorem IsL.below {w w' : World} {v : Value} {t : TypeId} {k : IntKind} {l : List Nat} (h : IsL t k w v l) (hb : Below w.heap.size w w') : IsL t k w' v l := by
  obtain ⟨A, c, e, h1, h2⟩ := h
  exact ⟨A, c, e, h1.below hb, h2⟩

/-- It answers a number N, and nothing that was there has turned. -/
def RetN (k N : Nat) (w : World) (e : Ending) (w' : World) : Prop := ∃ v, e = .returned v ∧ IsN w' v k N ∧ Below w.heap.size w w'
/-- It answers a slice of the numbers l. -/
def RetL (t : TypeId) (k : IntKind) (l : List Nat) (w : World) (e : Ending) (w' : World) : Prop := ∃ v, e = .returned v ∧ IsL t k w' v l ∧ Below w.heap.size w w'
/-- It answers v, and nothing that was there has turned. -/
def RetV (v : Value) (w : World) (e : Ending) (w' : World) : Prop := e = .returned v ∧ Below w.heap.size w w'

/-- The cells of the numbers l. -/
def cellsOf (k : IntKind) (l : List Nat) : List Value := l.map fun (x : Nat) => Value.int k (x : Int)

theorem cellsOf_length (k : IntKind) (l : List Nat) : (cellsOf k l).length = l.length := by simp [cellsOf]
theorem cellsOf_get (k : IntKind) (l : List Nat) {i : Nat} (h : i < l.length) : (cellsOf k l)[i]? = some (.int k (l.getD i 0 : Nat)) := by
  simp [cellsOf, List.getD, h]
theorem cellsOf_append (k : IntKind) (l r : List Nat) : cellsOf k (l ++ r) = cellsOf k l ++ cellsOf k r := by simp [cellsOf]
theorem cellsOf_one (k : IntKind) (l : List Nat) : ∀ u ∈ cellsOf k l, u.oneCell' = true := by
  intro u hu
  simp only [cellsOf, List.mem_map] at hu
  obtain ⟨x, _, rfl⟩ := hu
  rfl

/-- The cells that an append takes from a slice of numbers. -/
theorem Row.src {k : IntKind} {w : World} {ad : Addr} {l : List Nat} (h : Row k w (some ad) l) : ∀ (j : Nat) (u : Value), (cellsOf k l)[j]? = some u → w.cell? (ad.add j) = some u := by
  intro j u hu
  have hj : j < l.length := by
    rcases Nat.lt_or_ge j l.length with h1 | h1
    · exact h1
    · rw [List.getElem?_eq_none (by rw [cellsOf_length]; exact h1)] at hu; cases hu
  rw [cellsOf_get k l hj] at hu
  injection hu with hu
  subst hu
  obtain ⟨ad', e, _, hc⟩ := h.at_ hj
  injection e with e
  subst e
  exact hc
theorem Row.none_ {k : IntKind} {w : World} {l : List Nat} (h : Row k w none l) : l = [] := by
  rcases Classical.em (l = []) with h1 | h1
  · exact h1
  · obtain ⟨ad, e, _⟩ := h h1
    cases e

/-- What is owned as a row of numbers is a slice of these numbers. -/
theorem own_isL {k : IntKind} {w : World} {base : Nat} {e : TypeId} {v : Value} {l : List Nat} (h : w.ownsRow base e 1 v l.length (cellsOf k l)) : IsL e k w v l := by
  rcases h.2 with ⟨rfl, hn⟩ | ⟨g, cap, cur, rfl, hb, hh, hnc, hm, hs, hx⟩
  · have : l = [] := List.eq_nil_of_length_eq_zero hn
    subst this
    exact ⟨none, 0, rfl, Arr.empty, by simp⟩
  · refine ⟨some ⟨g, 0, none⟩, cap, rfl, fun hne => ⟨g, 0, cur, rfl, hh, fun i hi => ?_⟩, hnc⟩
    have h1 := cellsOf_get k l hi
    rw [← hx, List.getElem?_take, if_pos (by omega)] at h1
    simpa using h1
end Go.Proofs.Ytblakfpacommfaa
