/-
  cpset.merge: its contract, off that of the sort of the cuts.
-/
import Derived.Test.YtccbofaefpbhlaaDoorCutsB
import Derived.Test.YtccbofaefpbhlaaDoorSortC
namespace Go.Proofs.YtccbofaefpbhlaaDoor
set_option linter.unusedVariables false
set_option maxRecDepth 20000
open Go.RowKit Go.Shelf Go.Lib Go.Sort

/-- A row of one's own, as a block. -/
theorem own_blk {w : World} {B n cap g : Nat} {l : List Nat} (h : w.ownsRow B 21 1 (.slice (some ⟨g, 0, none⟩) n cap) n (cellsOf .i32 l)) : ∃ tl, Blk w g 21 (runeBlk l tl) ∧ B ≤ g ∧ n ≤ cap ∧ l.length = n := by
  rcases h.2 with ⟨e, _⟩ | ⟨g', cap', cur, e, hB, hh, hnc, hm, hs, hx⟩
  · cases e
  · injection e with e1 e2 e3
    injection e1 with e1
    injection e1 with e1
    subst e1
    subst e3
    refine ⟨cur.toList.drop (n * 1), ?_, hB, hnc, by have := h.1; rw [cellsOf_length] at this; omega⟩
    show w.heap[g]? = _
    rw [hh, runeBlk, ← hx, List.take_append_drop]
def encRn (n : Nat) : Value := .int .i32 (n : Int)
theorem encRn_eq : EqlAt Tryd.prog 21 encRn (fun x y => decide (x = y)) := by
  have h := EqlAt.intD Tryd.prog 21 .i32
  refine ⟨fun x y w => ?_, fun op a b x y w => h.2 op a b x y w⟩
  rw [encRn, encRn, h.1 x y w]
  congr 2
  simp
  omega
theorem encRn_ne : NeqAt Tryd.prog 21 encRn (fun x y => decide (x = y)) := by
  have h := NeqAt.intD Tryd.prog 21 .i32
  refine ⟨fun x y w => ?_, fun op a b x y w => h.2 op a b x y w⟩
  rw [encRn, encRn, h.1 x y w]
  congr 2
  simp
  omega
theorem put_heap {w : World} {g n : Nat} {cur : Array Value} {e : TypeId} {fr : Nat × Nat} (F : Array Nat) (hb : w.heap[g]? = some (.cells cur e fr)) :
    (putRow encRn (Sort.ahead w n) g 0 F).heap[g]? = some (.cells (putCells encRn 0 F cur) e fr) := by
  simp [putRow, mapBlock, Sort.ahead, Array.getElem?_modify, hb, onCells]
theorem put_only {w : World} {g n : Nat} (F : Array Nat) : Only g w (putRow encRn (Sort.ahead w n) g 0 F) := by
  refine ⟨rfl, rfl, rfl, by simp [putRow, mapBlock, Sort.ahead], fun k hk => ?_⟩
  have : g ≠ k := fun e => hk e.symm
  simp [putRow, mapBlock, Sort.ahead, Array.getElem?_modify, this]

/-- slices.Compact of runes in order. -/
theorem compact_any (g n cap : Nat) (m : List Nat) (tl : List Value) (w : World) (hB : Blk w g 21 (runeBlk m tl)) (hm : m.length = n) (hcap : n ≤ cap) (hn : n ≤ 10000000) :
    Calls Tryd.prog 101 #[.slice (some ⟨g, 0, none⟩) n cap] w fun e w' => e = .returned (.slice (some ⟨g, 0, none⟩) (compactUpTo m.toArray m.length).length cap) ∧ Only g w w' ∧
      ∀ i, i < (compactUpTo m.toArray m.length).length → w'.cell? ⟨g, i, none⟩ = some (.int .i32 (((compactUpTo m.toArray m.length).getD i 0 : Nat) : Int)) := by
  have hH : Holds encRn w g 0 m.toArray := fun j hj => by
    have hj' : j < m.length := by simpa using hj
    refine ⟨?_, hB.free _⟩
    rw [Nat.zero_add, hB.cell, runeBlk_get m tl hj', ← arr_get m j hj']; rfl
  have hcon := AnyE.slices_Compact Tryd.compactRn encRn (fun _ => rfl) encRn_eq encRn_ne 0 (fun w => by kernel_rfl) g 0 cap m.toArray w hH (by simp; omega) (by simp; omega)
  change Calls Tryd.prog 101 _ _ _ at hcon
  simp only [List.size_toArray, hm] at hcon
  rw [hm]
  refine hcon.mono ?_
  rintro e w' ⟨rfl, q, rfl⟩
  refine ⟨rfl, put_only _, fun i hi => ?_⟩
  rw [cell_of_row _ _ _ _ _ _ (put_heap _ hB)]
  have hle : (compactUpTo m.toArray n).length ≤ n := by
    unfold compactUpTo
    rw [List.length_map]
    have := List.length_filter_le (keeps m.toArray) (List.range n)
    rwa [List.length_range] at this
  have hin : i < (runeBlk m tl).size := by simp [runeBlk, cellsOf_length]; omega
  generalize compactUpTo m.toArray n = C at *
  have hF : (C ++ List.replicate (n - C.length) 0).toArray[i]! = C.getD i 0 := by
    rw [arr_get _ i (by simp; omega)]
    simp [List.getD, List.getElem?_append_left hi]
  have hs : (C ++ List.replicate (n - C.length) 0).toArray.size = n := by simp; omega
  generalize (C ++ List.replicate (n - C.length) 0).toArray = F at *
  simp only [putCells, Array.getElem?_mapIdx, Array.getElem?_eq_getElem hin, Option.map_some]
  rw [if_pos (by omega), Nat.sub_zero, hF]
  rfl

/-- The contract of the sort of n cuts. -/
def HSort (n : Nat) : Prop := ∀ (g c : Nat) (l : List Nat) (tl : List Value) (W : World), Blk W g 21 (runeBlk l tl) → l.length = n → (∀ x ∈ l, x < 2147483648) → Calls Tryd.prog 100 #[.slice (some ⟨g, 0, none⟩) n c] W (RetSortB g n l tl W)
theorem hsort_all (n : Nat) (hn : n ≤ 1000000000) : HSort n := fun g c l tl W hB hl hb => sort_all g n c l tl W hB hl hb hn
end Go.Proofs.YtccbofaefpbhlaaDoor
