/-
  Words for memory: blocks, links of a chain, the chain of errors; they speak of no function.
-/
import Derived.WalkKit
import Derived.Below
import Derived.Laws.OwnMore
namespace Go.Proofs.YtpokpkocinhbfabDoor
set_option linter.unusedVariables false
open Go.RowKit

theorem add_block (a : Addr) (n : Nat) : (a.add n).block = a.block := by unfold Addr.add; split <;> rfl
theorem add_add (a : Addr) (i j : Nat) : (a.add i).add j = a.add (i + j) := by
  unfold Addr.add
  by_cases hi : i = 0 <;> by_cases hj : j = 0 <;> simp [hi, hj, Nat.add_assoc]
theorem add_off (g o i : Nat) : (⟨g, o, none⟩ : Addr).add i = ⟨g, o + i, none⟩ := by
  unfold Addr.add
  by_cases h : i = 0 <;> simp [h]

theorem below_new (w : World) (o : Obj) : Below w.heap.size w (w.alloc o) := (Below.refl _ _).alloc (Nat.le_refl _) o
theorem below_drew (w : World) : Below w.heap.size w w.drew := (Below.refl _ _).drew
theorem below_step {w w1 w2 : World} (h : Below w.heap.size w w1) (h' : Below w1.heap.size w1 w2) : Below w.heap.size w w2 := h.trans (h'.mono h.size)
theorem bel_new {V W : World} (h : Below V.heap.size V W) (o : Obj) : Below V.heap.size V (W.alloc o) := h.alloc h.size o

/-- A block of cells, whole, none of them frozen. -/
def Blk (w : World) (g : Nat) (t : TypeId) (cs : Array Value) : Prop := w.heap[g]? = some (.cells cs t (0, 0))

section
variable {w w' : World} {g : Nat} {t : TypeId} {cs : Array Value}
theorem Blk.lt (h : Blk w g t cs) : g < w.heap.size := by
  rcases Nat.lt_or_ge g w.heap.size with hl | hl
  · exact hl
  · unfold Blk at h; rw [Array.getElem?_eq_none hl] at h; cases h
theorem Blk.cell (h : Blk w g t cs) (i : Nat) : w.cell? ⟨g, i, none⟩ = cs[i]? := cell_of_row w g i cs t (0, 0) h
theorem Blk.free (h : Blk w g t cs) (i : Nat) : w.frozen? ⟨g, i, none⟩ = false := by
  unfold Blk at h; simp [World.frozen?, h]
theorem Blk.below {B : Nat} (h : Blk w g t cs) (hb : Below B w w') (hg : g < B) : Blk w' g t cs := (hb.block g hg).trans h
theorem Blk.on (h : Blk w g t cs) (hb : Below w.heap.size w w') : Blk w' g t cs := h.below hb h.lt
theorem Blk.alloc (h : Blk w g t cs) (o : Obj) : Blk (w.alloc o) g t cs := (Below.heap_alloc w o g h.lt).trans h
theorem Blk.set_ (h : Blk w g t cs) (i : Nat) (u : Value) : Blk (w.setCell ⟨g, i, none⟩ u) g t (cs.setIfInBounds i u) := by
  unfold Blk at h ⊢
  simp [World.setCell, Array.getElem?_modify, h]
theorem Blk.new (w : World) (t : TypeId) (cs : Array Value) : Blk (w.alloc (.cells cs t)) w.heap.size t cs := heap_alloc_new w _
theorem Blk.far {p : Addr} (h : Blk w g t cs) (hp : g ≠ p.block) (u : Value) : Blk (w.setCell p u) g t cs := (Below.heap_setCell w p u g hp).trans h
end
theorem Blk.over {w w1 : World} {t : TypeId} {cs : Array Value} (h : Below (w.alloc (.cells cs t)).heap.size (w.alloc (.cells cs t)) w1) : Blk w1 w.heap.size t cs := (Blk.new w t cs).below h (by simp)

/-- A link of a chain. -/
structure Lk where
  code : Int
  line : Int
  note : ByteArray

/-- A slice of links: the address A leads to l. -/
def Links (w : World) (A : Option Addr) (l : List Lk) : Prop :=
  l ≠ [] → ∃ ad, A = some ad ∧ ad.block < w.heap.size ∧ ∀ i x, l[i]? = some x →
    w.cell? (ad.add (i * 3)) = some (.int .i64 x.code) ∧ w.cell? (ad.add (i * 3 + 1)) = some (.int .i64 x.line) ∧ w.cell? (ad.add (i * 3 + 2)) = some (.string x.note)

theorem Links.kept {w w' : World} {A : Option Addr} {l : List Lk} (h : Links w A l) (hb : Below w.heap.size w w') : Links w' A l := fun hn => by
  obtain ⟨ad, e, hlt, hc⟩ := h hn
  have hk : ∀ n, w'.cell? (ad.add n) = w.cell? (ad.add n) := fun n => hb.cell (by rw [add_block]; exact hlt)
  exact ⟨ad, e, Nat.lt_of_lt_of_le hlt hb.size, fun i x hx => by rw [hk, hk, hk]; exact hc i x hx⟩
theorem Links.alloc {w : World} {A : Option Addr} {l : List Lk} (h : Links w A l) (o : Obj) : Links (w.alloc o) A l := h.kept (below_new w o)
theorem Links.at_ {w : World} {A : Option Addr} {l : List Lk} (h : Links w A l) {i : Nat} {x : Lk} (hx : l[i]? = some x) : ∃ ad, A = some ad ∧ ad.block < w.heap.size ∧
    w.cell? (ad.add (i * 3)) = some (.int .i64 x.code) ∧ w.cell? (ad.add (i * 3 + 1)) = some (.int .i64 x.line) ∧ w.cell? (ad.add (i * 3 + 2)) = some (.string x.note) := by
  obtain ⟨ad, e, hlt, hc⟩ := h (by rintro rfl; simp at hx)
  exact ⟨ad, e, hlt, hc i x hx⟩

/-- An error that is a chain of faults. -/
def Chn (w : World) : Value → List Lk → Prop
  | v, [] => v = .nilIface
  | v, x :: r => ∃ g c, v = .iface 36 (.pointer (some ⟨g, 0, none⟩)) ∧ Blk w g 38 #[.int .i64 x.code, .int .i64 x.line, .string x.note, c] ∧ Chn w c r

theorem Chn.kept {w w' : World} (hb : Below w.heap.size w w') : ∀ {l : List Lk} {v : Value}, Chn w v l → Chn w' v l
  | [], _, h => h
  | _ :: _, _, ⟨g, c, e, hk, hr⟩ => ⟨g, c, e, hk.on hb, hr.kept hb⟩
theorem Chn.alloc {w : World} {v : Value} {l : List Lk} (h : Chn w v l) (o : Obj) : Chn (w.alloc o) v l := h.kept (below_new w o)

/-- The blocks gs hold the faults l. -/
def Ats (w : World) : List Nat → List Lk → Prop
  | [], [] => True
  | g :: gs, x :: r => (∃ c, Blk w g 38 #[.int .i64 x.code, .int .i64 x.line, .string x.note, c]) ∧ Ats w gs r
  | _, _ => False
theorem Ats.kept {w w' : World} (hb : Below w.heap.size w w') : ∀ {gs : List Nat} {l : List Lk}, Ats w gs l → Ats w' gs l
  | [], [], h => h
  | _ :: _, _ :: _, ⟨⟨c, hk⟩, hr⟩ => ⟨⟨c, hk.on hb⟩, hr.kept hb⟩
theorem Ats.length {w : World} : ∀ {gs : List Nat} {l : List Lk}, Ats w gs l → gs.length = l.length
  | [], [], _ => rfl
  | _ :: _, _ :: _, ⟨_, hr⟩ => by simp [hr.length]
theorem Ats.snoc {w : World} {g : Nat} {x : Lk} {c : Value} (hk : Blk w g 38 #[.int .i64 x.code, .int .i64 x.line, .string x.note, c]) : ∀ {gs : List Nat} {l : List Lk}, Ats w gs l → Ats w (gs ++ [g]) (l ++ [x])
  | [], [], _ => ⟨⟨c, hk⟩, trivial⟩
  | _ :: _, _ :: _, ⟨h, hr⟩ => ⟨h, hr.snoc hk⟩
theorem Ats.at_ {w : World} : ∀ {gs : List Nat} {l : List Lk}, Ats w gs l → ∀ {i : Nat} {x : Lk}, l[i]? = some x → ∃ g c, gs[i]? = some g ∧ Blk w g 38 #[.int .i64 x.code, .int .i64 x.line, .string x.note, c]
  | [], [], _, i, x, hx => by simp at hx
  | _ :: _, y :: _, ⟨⟨c, hk⟩, _⟩, 0, x, hx => by
    simp at hx; subst hx; exact ⟨_, c, rfl, hk⟩
  | _ :: _, _ :: _, ⟨_, hr⟩, i + 1, x, hx => by
    simp at hx
    obtain ⟨g, c, hg, hk⟩ := hr.at_ hx
    exact ⟨g, c, by simpa using hg, hk⟩

/-- It answers v, and nothing that was there has turned. -/
def RetV (v : Value) (w : World) (e : Ending) (w' : World) : Prop := e = .returned v ∧ Below w.heap.size w w'
/-- It answers an error that is the chain l. -/
def RetC (l : List Lk) (w : World) (e : Ending) (w' : World) : Prop := ∃ v, e = .returned v ∧ Chn w' v l ∧ Below w.heap.size w w'

/-- The number, the line, the notes of a chain. -/
def codeOf : List Lk → Int
  | [] => 0
  | x :: _ => x.code
def lineOf : List Lk → Int
  | [] => 0
  | x :: r => if x.line = 0 then lineOf r else x.line
def notesOf : List Lk → List ByteArray
  | [] => []
  | x :: r => if x.note.size = 0 then notesOf r else x.note :: notesOf r
end Go.Proofs.YtpokpkocinhbfabDoor
