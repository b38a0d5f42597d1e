/-
  pages: what New has filled after some cells; plain facts of the last number.
-/
import Derived.Test.YtblakfpacommfaaPA
namespace Go.Proofs.Ytblakfpacommfaa
set_option linter.unusedVariables false
set_option maxRecDepth 20000
open Go.RowKit

/-- The number of a character by these cells: the last one's. -/
def valAt (l : List (Int × Nat)) (c : Nat) : Nat := l.foldl (fun v x => if x.1 = (c : Int) then x.2 else v) 0
/-- Has one of these cells a character of this block? -/
def Touched (l : List (Int × Nat)) (a : Nat) : Prop := ∃ x ∈ l, 0 ≤ x.1 ∧ x.1 ≤ 1114111 ∧ x.1.toNat / 256 = a

theorem valAt_more (l : List (Int × Nat)) (x : Int × Nat) (c : Nat) : valAt (l ++ [x]) c = if x.1 = (c : Int) then x.2 else valAt l c := by
  unfold valAt
  rw [List.foldl_append]
  rfl
theorem valAt_none (c : Nat) : valAt [] c = 0 := rfl
theorem touched_more (l : List (Int × Nat)) (x : Int × Nat) (a : Nat) : Touched (l ++ [x]) a ↔ Touched l a ∨ (0 ≤ x.1 ∧ x.1 ≤ 1114111 ∧ x.1.toNat / 256 = a) := by
  unfold Touched
  constructor
  · rintro ⟨y, hy, h⟩
    rcases List.mem_append.1 hy with h1 | h1
    · exact .inl ⟨y, h1, h⟩
    · rw [List.mem_singleton] at h1
      subst h1
      exact .inr h
  · rintro (⟨y, hy, h⟩ | h)
    · exact ⟨y, List.mem_append_left _ hy, h⟩
    · exact ⟨x, List.mem_append_right _ (List.mem_singleton.2 rfl), h⟩
/-- A block that none of them touches has noughts. -/
theorem valAt_far {l : List (Int × Nat)} {a i : Nat} (h : ¬ Touched l a) (ha : a < 4352) (hi : i < 256) : valAt l (a * 256 + i) = 0 := by
  suffices H : ∀ (l : List (Int × Nat)) (v : Nat), (∀ x ∈ l, x.1 ≠ ((a * 256 + i : Nat) : Int)) → l.foldl (fun v x => if x.1 = ((a * 256 + i : Nat) : Int) then x.2 else v) v = v by
    refine H l 0 fun x hx e => h ⟨x, hx, by omega, by omega, ?_⟩
    rw [e]
    simp only [Int.toNat_natCast]
    omega
  intro l
  induction l with
  | nil => intro v _; rfl
  | cons y t ih =>
    intro v hv
    rw [List.foldl_cons, if_neg (hv y (List.mem_cons_self ..))]
    exact ih v fun x hx => hv x (List.mem_cons_of_mem _ hx)

def noughts : Array Value := Array.replicate 256 (.int .u16 0)
def nones : Array Value := Array.replicate 4352 (.pointer none)
theorem noughts_at {i : Nat} (h : i < 256) : noughts[i]? = some (.int .u16 0) := by
  unfold noughts
  rw [Array.getElem?_replicate, if_pos h]
theorem nones_at {i : Nat} (h : i < 4352) : nones[i]? = some (.pointer none) := by
  unfold nones
  rw [Array.getElem?_replicate, if_pos h]
theorem zero48 (w : World) : Sem.run Try.prog (zeroValue 48) w = Result.ok (Value.agg noughts) w := by kernel_rfl
theorem zero43 (w : World) : Sem.run Try.prog (zeroValue 43) w = Result.ok (Value.agg nones) w := by kernel_rfl

/-- The cells lie at A. -/
def CellsAt (w : World) (A : Option Addr) (l : List (Int × Nat)) : Prop :=
  l ≠ [] → ∃ g o, A = some ⟨g, o, none⟩ ∧ g < w.heap.size ∧ ∀ i, i < l.length → w.cell? ⟨g, o + i * 2, none⟩ = some (.int .i32 (l.getD i (0, 0)).1) ∧ w.cell? ⟨g, o + i * 2 + 1, none⟩ = some (.int .u16 ((l.getD i (0, 0)).2 : Nat))
theorem CellsAt.below {w w' : World} {A : Option Addr} {l : List (Int × Nat)} (h : CellsAt w A l) (hb : Below w.heap.size w w') : CellsAt w' A l := fun hn => by
  obtain ⟨g, o, e, hl, hc⟩ := h hn
  refine ⟨g, o, e, Nat.lt_of_lt_of_le hl hb.size, fun i hi => ?_⟩
  obtain ⟨h1, h2⟩ := hc i hi
  exact ⟨(hb.cell (p := ⟨g, _, none⟩) hl).trans h1, (hb.cell (p := ⟨g, _, none⟩) hl).trans h2⟩
theorem CellsAt.at_ {w : World} {A : Option Addr} {l : List (Int × Nat)} (h : CellsAt w A l) {i : Nat} (hi : i < l.length) : ∃ g o, A = some ⟨g, o, none⟩ ∧ g < w.heap.size ∧ w.cell? ⟨g, o + i * 2, none⟩ = some (.int .i32 (l.getD i (0, 0)).1) ∧ w.cell? ⟨g, o + i * 2 + 1, none⟩ = some (.int .u16 ((l.getD i (0, 0)).2 : Nat)) := by
  obtain ⟨g, o, e, hl, hc⟩ := h (by intro e; simp [e] at hi)
  exact ⟨g, o, e, hl, hc i hi⟩

/-- What New has filled: P says where a block lies, cs are the table's cells. -/
structure Filled (w : World) (base g : Nat) (l : List (Int × Nat)) (P : Nat → Option Nat) (cs : Array Value) : Prop where
  tab : Blk w g 43 cs
  size : cs.size = 4352
  new_ : base ≤ g
  at_ : ∀ a, a < 4352 → cs[a]? = some (.pointer ((P a).map fun b => ⟨b, 0, none⟩))
  some_ : ∀ a, a < 4352 → (P a = none ↔ ¬ Touched l a)
  blk : ∀ a b, a < 4352 → P a = some b → base ≤ b ∧ ∃ ds, Blk w b 48 ds ∧ ds.size = 256 ∧ ∀ i, i < 256 → ds[i]? = some (.int .u16 (valAt l (a * 256 + i) : Nat))
  apart : ∀ a a' b, a < 4352 → a' < 4352 → P a = some b → P a' = some b → a = a'

theorem Filled.start (w : World) : Filled (w.alloc (.cells nones 43)) w.heap.size w.heap.size [] (fun _ => none) nones where
  tab := Blk.new _ _ _
  size := by unfold nones; exact Array.size_replicate
  new_ := Nat.le_refl _
  at_ a ha := nones_at ha
  some_ a ha := by simp [Touched]
  blk a b ha h := by cases h
  apart a a' b _ _ h _ := by cases h

section
variable {w w' : World} {base g : Nat} {l : List (Int × Nat)} {P : Nat → Option Nat} {cs : Array Value}
theorem Filled.on (h : Filled w base g l P cs) (hb : Below w.heap.size w w') : Filled w' base g l P cs where
  tab := h.tab.on hb
  size := h.size
  new_ := h.new_
  at_ := h.at_
  some_ := h.some_
  blk a b ha hp := by
    obtain ⟨h1, ds, h2, h3, h4⟩ := h.blk a b ha hp
    exact ⟨h1, ds, h2.on hb, h3, h4⟩
  apart := h.apart
/-- A cell of no character turns nothing. -/
theorem Filled.skip (h : Filled w base g l P cs) {x : Int × Nat} (hx : ¬ (0 ≤ x.1 ∧ x.1 ≤ 1114111)) : Filled w base g (l ++ [x]) P cs where
  tab := h.tab
  size := h.size
  new_ := h.new_
  at_ := h.at_
  some_ a ha := by
    rw [h.some_ a ha, touched_more]
    exact ⟨fun h1 h2 => h2.elim h1 fun h3 => hx ⟨h3.1, h3.2.1⟩, fun h1 h2 => h1 (.inl h2)⟩
  blk a b ha hp := by
    obtain ⟨h1, ds, h2, h3, h4⟩ := h.blk a b ha hp
    refine ⟨h1, ds, h2, h3, fun i hi => ?_⟩
    rw [h4 i hi, valAt_more, if_neg (fun e => hx ⟨by omega, by omega⟩)]
  apart := h.apart
/-- A cell's number is put into its block, which is there. -/
theorem Filled.put (h : Filled w base g l P cs) {c v b : Nat} (hc : c ≤ 1114111) (hp : P (c / 256) = some b) : Filled (w.setCell ⟨b, c % 256, none⟩ (.int .u16 (v : Nat))) base g (l ++ [((c : Int), v)]) P cs where
  tab := by
    obtain ⟨_, ds, h2, _⟩ := h.blk _ b (by omega) hp
    exact h.tab.far (h.tab.ne_ h2 (by decide)) _
  size := h.size
  new_ := h.new_
  at_ := h.at_
  some_ a ha := by
    rw [h.some_ a ha, touched_more]
    refine ⟨fun h1 h2 => h2.elim h1 fun h3 => h1 ?_, fun h1 h2 => h1 (.inl h2)⟩
    have h4 : c / 256 = a := by have := h3.2.2; simpa using this
    rw [← h4]
    rcases Classical.em (Touched l (c / 256)) with h5 | h5
    · exact h5
    · rw [← h.some_ _ (by omega), hp] at h5
      cases h5
  blk a b' ha hp' := by
    obtain ⟨h1, ds, h2, h3, h4⟩ := h.blk a b' ha hp'
    by_cases e : b = b'
    · subst e
      have ea : c / 256 = a := h.apart _ _ b (by omega) ha hp hp'
      refine ⟨h1, _, h2.set_ _ _, by simpa using h3, fun i hi => ?_⟩
      rw [valAt_more]
      by_cases ei : c % 256 = i
      · subst ei
        rw [Array.getElem?_setIfInBounds_self_of_lt (by omega), if_pos (by simp only; omega)]
      · rw [Array.getElem?_setIfInBounds_ne ei, h4 i hi, if_neg (by simp only; omega)]
    · refine ⟨h1, ds, h2.far (by exact fun e' => e e'.symm) _, h3, fun i hi => ?_⟩
      rw [h4 i hi, valAt_more, if_neg ?_]
      intro e'
      simp only at e'
      have : c / 256 = a := by omega
      subst this
      rw [hp] at hp'
      injection hp' with hp'
      exact e hp'
  apart := h.apart
/-- A new block is laid into the table. -/
theorem Filled.lay (h : Filled w base g l P cs) {c : Nat} (v : Nat) (hc : c ≤ 1114111) (hp : P (c / 256) = none) (hn : base ≤ w.heap.size) :
    ∃ P' cs', P' (c / 256) = some w.heap.size ∧ Filled (((w.alloc (.cells noughts 48)).setCell ⟨g, c / 256, none⟩ (.pointer (some ⟨w.heap.size, 0, none⟩))).setCell ⟨w.heap.size, c % 256, none⟩ (.int .u16 (v : Nat))) base g (l ++ [((c : Int), v)]) P' cs' := by
  have ha : c / 256 < 4352 := by omega
  have hgl := h.tab.lt
  have hold : ∀ a b, a < 4352 → P a = some b → b < w.heap.size := fun a b h1 h2 => by
    obtain ⟨_, ds, h3, _⟩ := h.blk a b h1 h2
    exact h3.lt
  refine ⟨fun a => if a = c / 256 then some w.heap.size else P a, cs.setIfInBounds (c / 256) (.pointer (some ⟨w.heap.size, 0, none⟩)), if_pos rfl, ?_⟩
  constructor
  · exact ((h.tab.alloc _).set_ _ _).far (by simp only; omega) _
  · simpa using h.size
  · exact h.new_
  · intro a hal
    by_cases e : c / 256 = a
    · subst e
      rw [Array.getElem?_setIfInBounds_self_of_lt (by rw [h.size]; omega), if_pos rfl]
      rfl
    · rw [Array.getElem?_setIfInBounds_ne e, h.at_ a hal, if_neg (fun e' => e e'.symm)]
  · intro a hal
    by_cases e : a = c / 256
    · subst e
      rw [if_pos rfl, touched_more]
      exact Iff.intro (fun h1 => by cases h1) (fun h1 => absurd (Or.inr ⟨by simp only; omega, by simp only; omega, by simp⟩) h1)
    · rw [if_neg e, h.some_ a hal, touched_more]
      refine ⟨fun h1 h2 => h2.elim h1 fun h3 => e ?_, fun h1 h2 => h1 (.inl h2)⟩
      have := h3.2.2
      simp at this
      omega
  · intro a b hal hb
    by_cases e : a = c / 256
    · subst e
      rw [if_pos rfl] at hb
      injection hb with hb
      subst hb
      refine ⟨hn, _, ((Blk.new w 48 noughts).far (by simp only; omega) _).set_ _ _, by simp [noughts], fun i hi => ?_⟩
      rw [valAt_more, valAt_far ((h.some_ _ ha).1 hp) ha hi]
      by_cases ei : c % 256 = i
      · subst ei
        rw [Array.getElem?_setIfInBounds_self_of_lt (by simp only [noughts, Array.size_replicate]; omega), if_pos (by simp only; omega)]
      · rw [Array.getElem?_setIfInBounds_ne ei, noughts_at hi, if_neg (by simp only; omega)]
        rfl
    · rw [if_neg e] at hb
      obtain ⟨h1, ds, h2, h3, h4⟩ := h.blk a b hal hb
      have hbl := h2.lt
      refine ⟨h1, ds, ((h2.alloc _).far ?_ _).far (by simp only; omega) _, h3, fun i hi => ?_⟩
      · exact fun e' => (h.tab.ne_ h2 (by decide)) e'.symm
      · rw [h4 i hi, valAt_more, if_neg (by simp only; omega)]
  · intro a a' b h1 h2 h3 h4
    by_cases e : a = c / 256 <;> by_cases e' : a' = c / 256
    · omega
    · rw [if_pos e] at h3
      rw [if_neg e'] at h4
      injection h3 with h3
      have := hold a' b h2 h4
      omega
    · rw [if_neg e] at h3
      rw [if_pos e'] at h4
      injection h4 with h4
      have := hold a b h1 h3
      omega
    · rw [if_neg e] at h3
      rw [if_neg e'] at h4
      exact h.apart a a' b h1 h2 h3 h4
end
end Go.Proofs.Ytblakfpacommfaa
