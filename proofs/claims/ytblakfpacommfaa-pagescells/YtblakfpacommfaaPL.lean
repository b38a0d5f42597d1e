/-
  pages: a block by its numbers; a slice of one block, the zero table.
-/
import Derived.Test.YtblakfpacommfaaPK
import Derived.Great.BuildSlice
namespace Go.Proofs.Ytblakfpacommfaa
set_option linter.unusedVariables false
set_option maxRecDepth 20000
open Go.RowKit

/-- A block by its numbers. -/
def blkOf (f : Nat → Nat) : Array Value := ((List.range 256).map fun i => Value.int .u16 (f i : Nat)).toArray
theorem blkOf_size (f : Nat → Nat) : (blkOf f).size = 256 := by simp [blkOf]
theorem blkOf_at (f : Nat → Nat) {i : Nat} (h : i < 256) : (blkOf f)[i]? = some (.int .u16 (f i : Nat)) := by simp [blkOf, h]
theorem blkOf_eq {ds : Array Value} {f : Nat → Nat} (hs : ds.size = 256) (h : ∀ i, i < 256 → ds[i]? = some (.int .u16 (f i : Nat))) : ds = blkOf f := by
  refine Array.ext (by rw [hs, blkOf_size]) fun i h1 h2 => ?_
  have h3 := h i (by omega)
  have h4 := blkOf_at f (i := i) (by omega)
  rw [← h3] at h4
  have e1 := Array.getElem?_eq_getElem h1
  have e2 := Array.getElem?_eq_getElem h2
  rw [e1, e2] at h4
  injection h4 with h4
  exact h4.symm
theorem blkOf_zero : noughts = blkOf fun _ => 0 := blkOf_eq (by simp [noughts]) fun i hi => noughts_at hi
theorem blkOf_is (f : Nat → Nat) (h : ∀ i, i < 256 → f i < 65536) : IsBlock (blkOf f) := ⟨blkOf_size f, fun i hi => ⟨f i, h i hi, blkOf_at f hi⟩⟩
theorem blkOf_inj {f g : Nat → Nat} (h : blkOf f = blkOf g) : ∀ i, i < 256 → f i = g i := fun i hi => by
  have h1 := blkOf_at f hi
  rw [h, blkOf_at g hi] at h1
  injection h1 with h1
  injection h1 with _ h1
  omega

theorem info48 : (Try.prog.info? 48).map (fun i => (i.zero, i.size, i.bytes)) = some (some (.agg noughts), 256, 512) := by kernel_rfl
/-- A slice of one block. -/
theorem slice50 (ds : Array Value) (hs : ds.size = 256) (w : World) : (Instr.buildSlice 50 1 #[(0, .agg ds)]).run Try.prog w = .ok (.slice (some ⟨w.heap.size, 0, none⟩) 1 1) (w.alloc (.cells ds 48)) := by
  obtain ⟨i0, hi, hz0, hz1, hz2⟩ := info_parts info48
  refine run_buildSlice w 50 48 1 _ ds i0 (.agg noughts) Try.underlying50 hi hz0 (by rw [hz1]; decide) (by rw [hz1]; decide) ?_
  rw [hz1]
  have hcs : ((Array.range (1 * 256)).map ((Value.agg noughts).cells[· % (Value.agg noughts).cells.size]!)).size = 256 := by simp
  generalize (Array.range (1 * 256)).map ((Value.agg noughts).cells[· % (Value.agg noughts).cells.size]!) = cs at *
  obtain ⟨r, h1, h2, h3⟩ := Great.fill_dense (s := 256) (by decide) [.agg ds] 0 cs (fun v hv => by simp at hv; subst hv; exact hs) (by simp; omega)
  have e : r = ds := by
    refine Array.ext (by rw [h2, hcs, hs]) fun k k1 k2 => ?_
    have h4 := h3 k
    rw [if_pos (by simp; omega)] at h4
    have e0 : k / 256 = 0 := by omega
    have e1 : k % 256 = k := by omega
    rw [e0, e1] at h4
    have e2 : ([Value.agg ds][0 - 0]?).bind (fun v => v.cells[k]?) = ds[k]? := rfl
    rw [e2, Array.getElem?_eq_getElem k1, Array.getElem?_eq_getElem k2] at h4
    injection h4
  subst e
  exact h1

/-- The zero table's cells. -/
def tab0 : Array Value := Array.mk (.slice none 0 0 :: List.replicate 4352 (.int .u16 0))
theorem info53 : (Try.prog.info? 53).map (fun i => (i.zero, i.size)) = some (some (.agg tab0), 4353) := by kernel_rfl
theorem tab0_size : tab0.size = 4353 := by simp [tab0]
theorem rep_at (x y : Value) {i N : Nat} (h : i < N) : (Array.mk (x :: List.replicate N y))[1 + i]? = some y := by
  rw [List.getElem?_toArray, Nat.add_comm, List.getElem?_cons_succ, List.getElem?_replicate, if_pos h]
theorem tab0_at {i : Nat} (h : i < 4352) : tab0[1 + i]? = some (.int .u16 0) := by
  unfold tab0
  exact rep_at _ _ h
def places53 : List (Nat × Nat) := [(0, 1), (1, 4352)]
theorem build53 (A : Option Addr) (n q : Nat) (w : World) : (Instr.build 53 #[(0, .slice A n q)]).run Try.prog w = .ok (.agg (tab0.setIfInBounds 0 (.slice A n q))) w := by
  have hf : ∀ fields, Try.prog.underlying 53 = some (.struct fields) → fields.toList.mapM (fun f => (Try.prog.info? f.type).map fun i => (f.offset, i.size)) = some places53 := by
    intro fields h
    rw [Try.underlying53] at h
    injection h with h
    injection h with h
    subst h
    kernel_rfl
  refine run_build w 53 _ _ ?_
  unfold Program.built
  have hi := info53
  cases h53 : Try.prog.info? 53 with
  | none => rw [h53] at hi; cases hi
  | some it =>
    rw [h53] at hi
    injection hi with hi
    injection hi with hz hsz
    rw [Try.underlying53]
    have h2 := hf _ Try.underlying53
    simp only [hz, h2]
    have e1 : places53.toArray[0]? = some (0, 1) := rfl
    unfold Instr.fill
    simp only [e1]
    have e2 : (Value.slice A n q).cells = #[.slice A n q] := rfl
    have e3 : (Value.agg tab0).cells = tab0 := rfl
    rw [e2, e3]
    simp only [tab0_size]
    simp [Instr.fill]
end Go.Proofs.Ytblakfpacommfaa
