/-
  The sort of ranges by their beginnings, on a row of one's own.
-/
import Derived.Test.YtccbofaefpbhlaaDoorSortR
namespace Go.Proofs.YtccbofaefpbhlaaDoor
set_option linter.unusedVariables false
set_option maxRecDepth 20000
open Go.RowKit Go.Shelf Go.Sort

theorem flat_list (L : List (Nat × Nat)) : flatK encR 2 L.toArray = (rgCells (intR L)).toArray := by
  refine ext_get! (by simp [rgCells_length, intR_length]; omega) (fun t ht => ?_)
  have ht' : t < L.length * 2 := by simpa using ht
  rw [get_flatK _ _ _ _ (by simpa using ht')]
  have hi : t / 2 < L.length := by omega
  obtain ⟨h1, h2⟩ := rgCells_get L (t / 2) hi
  have hd : L.toArray[t / 2]! = L.getD (t / 2) (0, 0) := by
    simp [List.getD, hi]
  rw [hd]
  rcases (show t % 2 = 0 ∨ t % 2 = 1 by omega) with hr | hr
  · rw [hr]
    rw [show t / 2 * 2 = t by omega] at h1
    have : (rgCells (intR L)).toArray[t]! = .int .i32 ((L.getD (t / 2) (0, 0)).1 : Nat) := by
      rw [Array.getElem!_eq_getD, Array.getD_eq_getD_getElem?, List.getElem?_toArray, h1]; rfl
    rw [this]; rfl
  · rw [hr]
    rw [show t / 2 * 2 + 1 = t by omega] at h2
    have : (rgCells (intR L)).toArray[t]! = .int .i32 ((L.getD (t / 2) (0, 0)).2 : Nat) := by
      rw [Array.getElem!_eq_getD, Array.getD_eq_getD_getElem?, List.getElem?_toArray, h2]; rfl
    rw [this]; rfl

theorem heapK {w : World} {g n : Nat} {os : Array Obj} {cur : Array Value} {e : TypeId} {fr : Nat × Nat} (F : Array Value) (hb : w.heap[g]? = some (.cells cur e fr)) :
    (grow (putRow id (Sort.ahead w n) g 0 F) os).heap[g]? = some (.cells (putCells id 0 F cur) e fr) := by
  have hg : g < w.heap.size := (Array.getElem?_eq_some_iff.1 hb).1
  rw [heap_grow_old _ _ (by simpa using hg)]
  simp [putRow, mapBlock, Sort.ahead, Array.getElem?_modify, hb, onCells]
theorem grownK {w : World} {g n : Nat} {os : Array Obj} (F : Array Value) : w.grownBy (grow (putRow id (Sort.ahead w n) g 0 F) os) (some g) := by
  refine ⟨rfl, rfl, rfl, by simp, fun k hk hne => ?_⟩
  rw [heap_grow_old _ _ (by simpa using hk)]
  have : g ≠ k := fun e => hne (by rw [e])
  simp [putRow, mapBlock, Sort.ahead, Array.getElem?_modify, this]
theorem takeK (cur : Array Value) (xs : List Value) (h : xs.length ≤ cur.size) : (putCells id 0 xs.toArray cur).toList.take xs.length = xs := by
  apply List.ext_getElem?
  intro j
  by_cases hj : j < xs.length
  · rw [List.getElem?_take_of_lt hj, Array.getElem?_toList]
    simp [putCells, hj, show j < cur.size by omega]
  · rw [List.getElem?_take_eq_none (by omega), List.getElem?_eq_none (by omega)]

theorem pairwise_of_get (L : List (Nat × Nat)) (h : ∀ i j, i < j → j < L.length → (L.getD i (0, 0)).1 ≤ (L.getD j (0, 0)).1) : (L.map (·.1)).Pairwise (· ≤ ·) := by
  rw [List.pairwise_iff_getElem]
  intro i j hi hj hij
  have hi' : i < L.length := by simpa using hi
  have hj' : j < L.length := by simpa using hj
  have := h i j hij hj'
  simpa [List.getD, hi', hj'] using this

/-- slices.SortFunc of ranges, at least one. -/
theorem sortR_any (L : List (Nat × Nat)) (u : Value) (B : Nat) (w : World) (hown : w.ownsRow B 59 2 u L.length (rgCells (intR L))) (hn : L.length ≤ 1000000) (hp : 0 < L.length) :
    Calls Tryd.prog 95 #[u, .func (.func 96) #[] #[]] w (RetSorted L B u w) := by
  rcases hown.2 with ⟨_, h0⟩ | ⟨g, cap, cur, rfl, hB, hh, hnc, hm, hs, hx⟩
  · omega
  have hlen : (rgCells (intR L)).length = 2 * L.length := by rw [rgCells_length, intR_length]
  have hH : HoldsK encR 2 w g 0 L.toArray := by
    show Holds id w g 0 (flatK encR 2 L.toArray)
    rw [flat_list]
    intro j hj
    have hj' : j < (rgCells (intR L)).length := by simpa using hj
    refine ⟨?_, by simp [World.frozen?, hh]⟩
    have h1 := hown.cells (g := g) rfl j _ (List.getElem?_eq_getElem hj')
    rw [add_zero_block] at h1
    rw [Nat.zero_add, h1]
    simp [hj']
  have hcon := AnyQ.slices_SortFunc Tryd.sortR 2 (fun w => by kernel_rfl) (fun w => by kernel_rfl) encR (fun _ => rfl) (fun x v hv => by simp [encR] at hv; rcases hv with rfl | rfl <;> rfl) cmpR cmpR_swo 96 #[] g 0 cap L.toArray w (enters_of Tryd.func96 (by kernel_rfl) rfl) (cmpLays g 0 _ w) hH (Array.getElem?_eq_some_iff.1 hh).1 (by simp; omega)
  change Calls Tryd.prog 95 _ _ _ at hcon
  simp only [List.size_toArray] at hcon
  refine hcon.mono ?_
  rintro e w' ⟨rfl, d', n, os, hperm, hsort, rfl⟩
  obtain ⟨hsz, _, hpm⟩ := hperm
  have hd' : d'.toList.length = L.length := by simpa using hsz
  have hpl : d'.toList.Perm L := by
    have h1 : (d'.extract 0 L.length).toList = d'.toList := by
      rw [Array.toList_extract, List.extract_eq_take_drop, List.drop_zero, Nat.sub_zero, ← hd', List.take_length]
    have h2 : (L.toArray.extract 0 L.length).toList = L := by
      rw [Array.toList_extract, List.extract_eq_take_drop]
      simp
    rw [h1, h2] at hpm
    exact hpm
  have hF : flatK encR 2 d' = (rgCells (intR d'.toList)).toArray := by rw [← flat_list]
  have hlen' : (rgCells (intR d'.toList)).length = 2 * L.length := by rw [rgCells_length, intR_length, hd']
  refine ⟨d'.toList, rfl, hpl, pairwise_of_get _ (fun i j hij hj => ?_), ?_, ?_⟩
  · have h1 := hsort i j (Nat.zero_le _) hij (by omega)
    rw [cmpR_lt, decide_eq_false_iff_not] at h1
    have hi' : i < d'.size := by have : j < d'.size := hj; omega
    have hj' : j < d'.size := hj
    simp only [List.getD_eq_getElem?_getD, Array.getElem?_toList]
    rw [Array.getElem?_eq_getElem hi', Array.getElem?_eq_getElem hj']
    rw [getElem!_pos d' i hi', getElem!_pos d' j hj'] at h1
    simpa using h1
  · show (grow (putRow id (Sort.ahead w n) g 0 (flatK encR 2 d')) os).ownsRow B 59 2 _ _ _
    rw [hF]
    refine ⟨by omega, .inr ⟨g, cap, _, rfl, hB, heapK _ hh, hnc, hm, by simp [putCells, hs], ?_⟩⟩
    have := takeK cur (rgCells (intR d'.toList)) (by rw [hlen', hs]; omega)
    rw [hlen'] at this
    rw [Nat.mul_comm]
    exact this
  · exact grownK _
end Go.Proofs.YtccbofaefpbhlaaDoor
