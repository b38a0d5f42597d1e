/-
  The sort of ranges by their beginnings: its contract.
  The sort of ranges by their beginnings, on a row of one's own.
  The sort of ranges: of none; join, whole.
-/
import Derived.Test.YtccbofaefpbhlaaDoorJoinB
import Derived.Test.YtccbofaefpbhlaaDoorShelfR
namespace Go.Proofs.YtccbofaefpbhlaaDoor
set_option linter.unusedVariables false
set_option maxRecDepth 20000
open Go.RowKit Go.Shelf Go.Sort

/-- A range's two cells. -/
def encR (r : Nat × Nat) : List Value := [.int .i32 (r.1 : Nat), .int .i32 (r.2 : Nat)]
def cmpR (x y : Nat × Nat) : Int := if x.1 < y.1 then -1 else if y.1 < x.1 then 1 else 0
theorem cmpR_lt (x y : Nat × Nat) : ltOf cmpR x y = decide (x.1 < y.1) := by
  unfold ltOf cmpR
  by_cases h1 : x.1 < y.1
  · simp [h1]
  · by_cases h2 : y.1 < x.1 <;> simp [h1, h2]
theorem cmpR_swo : SWO (ltOf cmpR) where
  irrefl x := by rw [cmpR_lt]; simp
  trans x y z h1 h2 := by rw [cmpR_lt] at *; simp at *; omega
  ntrans x y z h1 h2 := by rw [cmpR_lt] at *; simp at *; omega

theorem compareR_any (x y : Nat) (w : World) : Calls Tryd.prog 97 #[.int .i32 x, .int .i32 y] w fun e w' => e = .returned (.int .i64 (cmpR (x, 0) (y, 0))) ∧ w = w' := by
  unfold cmpR
  rcases Nat.lt_trichotomy x y with h | h | h
  · rw [if_pos h]
    go_enter Tryd.func97, Tryd.ntmps97
    go_wp2_with (go_at_call 121; refine (nan_any _ _).mono ?_; rintro e w' ⟨rfl, rfl⟩)
    go_ret
    exact ⟨rfl, rfl⟩
  · subst h
    rw [if_neg (Nat.lt_irrefl _), if_neg (Nat.lt_irrefl _)]
    go_enter Tryd.func97, Tryd.ntmps97
    go_wp2_with (go_at_call 121; refine (nan_any _ _).mono ?_; rintro e w' ⟨rfl, rfl⟩)
    go_ret
    exact ⟨rfl, rfl⟩
  · rw [if_neg (by simpa using Nat.le_of_lt h), if_pos h]
    have h' : ¬ x < y := by omega
    go_enter Tryd.func97, Tryd.ntmps97
    go_wp2_with (go_at_call 121; refine (nan_any _ _).mono ?_; rintro e w' ⟨rfl, rfl⟩)
    go_ret
    exact ⟨rfl, rfl⟩

theorem closure_any (x y : Nat × Nat) (W : World) : Calls Tryd.prog 96 #[.agg #[.int .i32 (x.1 : Nat), .int .i32 (x.2 : Nat)], .agg #[.int .i32 (y.1 : Nat), .int .i32 (y.2 : Nat)]] W fun e w' => e = .returned (.int .i64 (cmpR x y)) ∧ ∃ q os', w' = grow (W.drewN q) os' := by
  have hc : ∀ W', Calls Tryd.prog 97 #[.int .i32 (x.1 : Nat), .int .i32 (y.1 : Nat)] W' fun e w' => e = .returned (.int .i64 (cmpR x y)) ∧ W' = w' := fun W' => compareR_any x.1 y.1 W'
  generalize cmpR x y = r at hc ⊢
  go_enter Tryd.func96, Tryd.ntmps96
  go_wp2_with (go_at_call 97; refine (hc _).mono ?_; rintro e w' ⟨rfl, rfl⟩)
  go_ret
  exact ⟨rfl, 0, _, by rw [alloc_eq_grow, alloc_eq_grow, grow_grow]; rfl⟩
theorem cmpLays (blk off size : Nat) (w : World) : CmpLays Tryd.prog 96 #[] encR 2 cmpR blk off size w := fun _ _ _ _ x y => closure_any x y _
end Go.Proofs.YtccbofaefpbhlaaDoor

namespace Go.Proofs.YtccbofaefpbhlaaDoor
set_option linter.unusedVariables false
set_option maxRecDepth 20000
open Go.RowKit Go.Shelf Go.Sort

theorem flat_list (L : List (Nat × Nat)) : flatK encR 2 L.toArray = (rgCells (intR L)).toArray := by
  refine ext_get! (by simp [rgCells_length, intR_length]; omega) (fun t ht => ?_)
  have ht' : t < L.length * 2 := by simpa using ht
  rw [get_flatK _ _ _ _ (by simpa using ht')]
  have hi : t / 2 < L.length := by omega
  obtain ⟨h1, h2⟩ := rgCells_get L (t / 2) hi
  have hd : L.toArray[t / 2]! = L.getD (t / 2) (0, 0) := by
    simp [List.getD, hi]
  rw [hd]
  rcases (show t % 2 = 0 ∨ t % 2 = 1 by omega) with hr | hr
  · rw [hr]
    rw [show t / 2 * 2 = t by omega] at h1
    have : (rgCells (intR L)).toArray[t]! = .int .i32 ((L.getD (t / 2) (0, 0)).1 : Nat) := by
      rw [Array.getElem!_eq_getD, Array.getD_eq_getD_getElem?, List.getElem?_toArray, h1]; rfl
    rw [this]; rfl
  · rw [hr]
    rw [show t / 2 * 2 + 1 = t by omega] at h2
    have : (rgCells (intR L)).toArray[t]! = .int .i32 ((L.getD (t / 2) (0, 0)).2 : Nat) := by
      rw [Array.getElem!_eq_getD, Array.getD_eq_getD_getElem?, List.getElem?_toArray, h2]; rfl
    rw [this]; rfl

theorem heapK {w : World} {g n : Nat} {os : Array Obj} {cur : Array Value} {e : TypeId} {fr : Nat × Nat} (F : Array Value) (hb : w.heap[g]? = some (.cells cur e fr)) :
    (grow (putRow id (Sort.ahead w n) g 0 F) os).heap[g]? = some (.cells (putCells id 0 F cur) e fr) := by
  have hg : g < w.heap.size := (Array.getElem?_eq_some_iff.1 hb).1
  rw [heap_grow_old _ _ (by simpa using hg)]
  simp [putRow, mapBlock, Sort.ahead, Array.getElem?_modify, hb, onCells]
theorem grownK {w : World} {g n : Nat} {os : Array Obj} (F : Array Value) : w.grownBy (grow (putRow id (Sort.ahead w n) g 0 F) os) (some g) := by
  refine ⟨rfl, rfl, rfl, by simp, fun k hk hne => ?_⟩
  rw [heap_grow_old _ _ (by simpa using hk)]
  have : g ≠ k := fun e => hne (by rw [e])
  simp [putRow, mapBlock, Sort.ahead, Array.getElem?_modify, this]
theorem takeK (cur : Array Value) (xs : List Value) (h : xs.length ≤ cur.size) : (putCells id 0 xs.toArray cur).toList.take xs.length = xs := by
  apply List.ext_getElem?
  intro j
  by_cases hj : j < xs.length
  · rw [List.getElem?_take_of_lt hj, Array.getElem?_toList]
    simp [putCells, hj, show j < cur.size by omega]
  · rw [List.getElem?_take_eq_none (by omega), List.getElem?_eq_none (by omega)]

theorem pairwise_of_get (L : List (Nat × Nat)) (h : ∀ i j, i < j → j < L.length → (L.getD i (0, 0)).1 ≤ (L.getD j (0, 0)).1) : (L.map (·.1)).Pairwise (· ≤ ·) := by
  rw [List.pairwise_iff_getElem]
  intro i j hi hj hij
  have hi' : i < L.length := by simpa using hi
  have hj' : j < L.length := by simpa using hj
  have := h i j hij hj'
  simpa [List.getD, hi', hj'] using this

/-- slices.SortFunc of ranges, at least one. -/
theorem sortR_any (L : List (Nat × Nat)) (u : Value) (B : Nat) (w : World) (hown : w.ownsRow B 59 2 u L.length (rgCells (intR L))) (hn : L.length ≤ 3000000) (hp : 0 < L.length) :
    Calls Tryd.prog 95 #[u, .func (.func 96) #[] #[]] w (RetSorted L B u w) := by
  rcases hown.2 with ⟨_, h0⟩ | ⟨g, cap, cur, rfl, hB, hh, hnc, hm, hs, hx⟩
  · omega
  have hlen : (rgCells (intR L)).length = 2 * L.length := by rw [rgCells_length, intR_length]
  have hH : HoldsK encR 2 w g 0 L.toArray := by
    show Holds id w g 0 (flatK encR 2 L.toArray)
    rw [flat_list]
    intro j hj
    have hj' : j < (rgCells (intR L)).length := by simpa using hj
    refine ⟨?_, by simp [World.frozen?, hh]⟩
    have h1 := hown.cells (g := g) rfl j _ (List.getElem?_eq_getElem hj')
    rw [add_zero_block] at h1
    rw [Nat.zero_add, h1]
    simp [hj']
  have hcon := AnyQ.slices_SortFunc Tryd.sortR 2 (fun w => by kernel_rfl) (fun w => by kernel_rfl) encR (fun _ => rfl) (fun x v hv => by simp [encR] at hv; rcases hv with rfl | rfl <;> rfl) cmpR cmpR_swo 96 #[] g 0 cap L.toArray w (enters_of Tryd.func96 (by kernel_rfl) rfl) (cmpLays g 0 _ w) hH (Array.getElem?_eq_some_iff.1 hh).1 (by simp; omega)
  change Calls Tryd.prog 95 _ _ _ at hcon
  simp only [List.size_toArray] at hcon
  refine hcon.mono ?_
  rintro e w' ⟨rfl, d', n, os, hperm, hsort, rfl⟩
  obtain ⟨hsz, _, hpm⟩ := hperm
  have hd' : d'.toList.length = L.length := by simpa using hsz
  have hpl : d'.toList.Perm L := by
    have h1 : (d'.extract 0 L.length).toList = d'.toList := by
      rw [Array.toList_extract, List.extract_eq_take_drop, List.drop_zero, Nat.sub_zero, ← hd', List.take_length]
    have h2 : (L.toArray.extract 0 L.length).toList = L := by
      rw [Array.toList_extract, List.extract_eq_take_drop]
      simp
    rw [h1, h2] at hpm
    exact hpm
  have hF : flatK encR 2 d' = (rgCells (intR d'.toList)).toArray := by rw [← flat_list]
  have hlen' : (rgCells (intR d'.toList)).length = 2 * L.length := by rw [rgCells_length, intR_length, hd']
  refine ⟨d'.toList, rfl, hpl, pairwise_of_get _ (fun i j hij hj => ?_), ?_, ?_⟩
  · have h1 := hsort i j (Nat.zero_le _) hij (by omega)
    rw [cmpR_lt, decide_eq_false_iff_not] at h1
    have hi' : i < d'.size := by have : j < d'.size := hj; omega
    have hj' : j < d'.size := hj
    simp only [List.getD_eq_getElem?_getD, Array.getElem?_toList]
    rw [Array.getElem?_eq_getElem hi', Array.getElem?_eq_getElem hj']
    rw [getElem!_pos d' i hi', getElem!_pos d' j hj'] at h1
    simpa using h1
  · show (grow (putRow id (Sort.ahead w n) g 0 (flatK encR 2 d')) os).ownsRow B 59 2 _ _ _
    rw [hF]
    refine ⟨by omega, .inr ⟨g, cap, _, rfl, hB, heapK _ hh, hnc, hm, by simp [putCells, hs], ?_⟩⟩
    have := takeK cur (rgCells (intR d'.toList)) (by rw [hlen', hs]; omega)
    rw [hlen'] at this
    rw [Nat.mul_comm]
    exact this
  · exact grownK _
end Go.Proofs.YtccbofaefpbhlaaDoor

namespace Go.Proofs.YtccbofaefpbhlaaDoor
set_option linter.unusedVariables false
set_option maxRecDepth 100000
open Go.RowKit

theorem insertion0 (ao : Option Addr) (c : Nat) (w : World) : Calls Tryd.prog 137 #[.slice ao 0 c, .int .i64 0, .int .i64 0, .func (.func 96) #[] #[]] w (RetV (.tuple #[]) w) := by
  go_enter Tryd.func137, Tryd.ntmps137
  go_wp2
  go_loopw [8] (fun t wr => t = .int .i64 1 ∧ w = wr) (fun _ _ => 0)
  case atStart => exact ⟨rfl, rfl⟩
  case round =>
    obtain ⟨rfl, rfl⟩ := hrel
    go_wp2
    go_end0
    exact ⟨rfl, Below.refl _ _⟩
theorem pdq0 (ao : Option Addr) (c : Nat) (lim : Int) (w : World) : Calls Tryd.prog 119 #[.slice ao 0 c, .int .i64 0, .int .i64 0, .int .i64 lim, .func (.func 96) #[] #[]] w (RetV (.tuple #[]) w) := by
  go_enter Tryd.func119, Tryd.ntmps119
  go_wp2
  go_loopw [1, 2] (fun a b wr => a = .int .i64 0 ∧ b = .int .i64 0 ∧ w = wr) (fun _ _ _ => 0)
  case atStart => exact ⟨rfl, rfl, rfl⟩
  case round =>
    obtain ⟨rfl, rfl, rfl⟩ := hrel
    go_wp2_with fail
    refine (insertion0 ao c _).mono ?_
    rintro e w1 ⟨rfl, y1⟩
    go_wp2
    go_end0
    exact ⟨rfl, y1⟩
theorem sort0 (ao : Option Addr) (c : Nat) (w : World) : Calls Tryd.prog 95 #[.slice ao 0 c, .func (.func 96) #[] #[]] w (RetV (.tuple #[]) w) := by
  have I := Lib.hid (fun lim W => pdq0 ao c lim W)
  go_enter Tryd.func95, Tryd.ntmps95
  go_wp2_with fail
  refine (Tryd.bits_Len _ _ (by omega) (by omega)).mono ?_
  rintro e w1 ⟨rfl, rfl⟩
  go_wp2_with fail
  refine (I.out _ _).mono ?_
  rintro e w1 ⟨rfl, y1⟩
  go_wp2
  go_end0
  exact ⟨rfl, y1⟩

/-- slices.SortFunc of ranges. -/
theorem sortR_all (L : List (Nat × Nat)) (u : Value) (B : Nat) (w : World) (hown : w.ownsRow B 59 2 u L.length (rgCells (intR L))) (hn : L.length ≤ 3000000) :
    Calls Tryd.prog 95 #[u, .func (.func 96) #[] #[]] w (RetSorted L B u w) := by
  rcases Nat.eq_zero_or_pos L.length with h0 | h0
  · obtain rfl : L = [] := List.length_eq_zero_iff.1 h0
    obtain ⟨ao, c, rfl⟩ := own_form2 hown
    refine (sort0 ao c w).mono ?_
    rintro e w' ⟨rfl, y⟩
    exact ⟨[], rfl, List.Perm.refl _, List.Pairwise.nil, own_kept hown y, ⟨y.os, y.tape, y.output, y.size, fun k hk _ => y.block k hk⟩⟩
  · exact sortR_any L u B w hown hn h0
/-- 'join': the set of the characters of these ranges. -/
theorem join_all (L : List (Nat × Nat)) (u : Value) (B : Nat) (w : World) (hown : w.ownsRow B 59 2 u L.length (rgCells (intR L))) (hB : B ≤ w.heap.size) (hn : L.length ≤ 3000000) (hp : ∀ r ∈ L, Part r) :
    Calls Tryd.prog 66 #[u] w (RetSet (memS L) B w) :=
  join_any L u B L.length w hown rfl hB hn hp (fun W hW _ => sortR_all L u B W hW hn)
end Go.Proofs.YtccbofaefpbhlaaDoor
