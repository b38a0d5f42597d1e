/-
  Of: the sort of texts, and each once.
-/
import Derived.Test.YtanpncjnojjmkabSC
namespace Go.Proofs.Ytanpncjnojjmkab
set_option linter.unusedVariables false
set_option maxRecDepth 20000
open Go.RowKit Go.Shelf Go.Sort

/-- The texts, none less than one ahead of it. -/
def srt (l : List Tx) : List Tx := l.mergeSort fun x y => !lt y x
theorem srt_perm (l : List Tx) : (srt l).Perm l := List.mergeSort_perm l _
theorem srt_len (l : List Tx) : (srt l).length = l.length := (srt_perm l).length_eq
theorem srt_get (l : List Tx) (i j : Nat) (hij : i < j) (hj : j < (srt l).length) : lt ((srt l).getD j []) ((srt l).getD i []) = false := by
  have hp : (srt l).Pairwise fun x y => (!lt y x) = true := List.pairwise_mergeSort (fun x y z h1 h2 => by
    have h3 : lt y x = false := by simpa using h1
    have h4 : lt z y = false := by simpa using h2
    cases h5 : lt z x with
    | false => rfl
    | true =>
      cases h6 : lt x y with
      | true => have := lt_trans h5 h6; rw [this] at h4; cases h4
      | false => have := lt_total x y h6 h3; subst this; rw [h5] at h4; cases h4) (fun x y => by
    cases h : lt y x with
    | false => rfl
    | true => simp [lt_asymm h]) l
  have := List.pairwise_iff_getElem.1 hp i j (by omega) hj hij
  simpa [List.getD, hj, show i < (srt l).length by omega] using this
/-- The texts, rising, each once. -/
def setOf (l : List Tx) : List Tx := Lib.compact (srt l)
theorem setOf_rise (l : List Tx) : Rise (setOf l) := compact_rise _ (srt_get l)
theorem setOf_mem (l : List Tx) (x : Tx) : x ∈ setOf l ↔ x ∈ l := (compact_mem _ x).trans (srt_perm l).mem_iff
theorem setOf_le (l : List Tx) : (setOf l).length ≤ l.length := Nat.le_trans (Lib.compact_length_le _) (Nat.le_of_eq (srt_len l))

theorem strC_enc (l : List Tx) : strC l = l.map encStr := rfl
theorem holdsOwn {w : World} {g cap B : Nat} {cur : Array Value} {l : List Tx} (hh : w.heap[g]? = some (.cells cur 9 (0, 0))) (hx : cur.toList.take (l.length * 1) = strC l) : Holds encStr w g 0 l.toArray := by
  refine holdsT (cs := cur) hh fun i hi => ?_
  have h1 := strC_get l hi
  rw [← hx, List.getElem?_take, if_pos (by omega)] at h1
  simpa using h1
theorem put_heap {w : World} {g : Nat} {os : Array Obj} {cur : Array Value} {e : TypeId} {fr : Nat × Nat} (l : List Tx) (hb : w.heap[g]? = some (.cells cur e fr)) :
    (grow (putRow encStr w g 0 l.toArray) os).heap[g]? = some (.cells (putCells encStr 0 l.toArray cur) e fr) := by
  have hg : g < w.heap.size := (Array.getElem?_eq_some_iff.1 hb).1
  rw [heap_grow_old _ _ (by simpa using hg)]
  simp [putRow, mapBlock, Array.getElem?_modify, hb, onCells]
theorem put_take (cur : Array Value) (l : List Tx) (h : l.length ≤ cur.size) : (putCells encStr 0 l.toArray cur).toList.take l.length = strC l := by
  apply List.ext_getElem?
  intro j
  by_cases hj : j < l.length
  · rw [List.getElem?_take_of_lt hj, Array.getElem?_toList, strC_get l hj]
    simp [putCells, hj, show j < cur.size by omega, encStr, List.getD]
  · rw [List.getElem?_take_eq_none (by omega), List.getElem?_eq_none (by rw [strC_length]; omega)]
theorem put_below {w : World} {g B : Nat} {os : Array Obj} (l : List Tx) (hB : B ≤ g) (hg : g < w.heap.size) : RowKit.Below B w (grow (putRow encStr w g 0 l.toArray) os) := by
  refine ⟨rfl, rfl, rfl, by simp, fun k hk => ?_⟩
  rw [heap_grow_old _ _ (by simp; omega)]
  have : g ≠ k := by omega
  simp [putRow, mapBlock, Array.getElem?_modify, this]

/-- slices.SortFunc at texts, on a row of one's own. -/
theorem sort_any (u : Value) (l : List Tx) (B : Nat) (w : World) (hB : B ≤ w.heap.size) (h : w.ownsRow B 9 1 u l.length (strC l)) (hn : l.length ≤ 1000000) :
    Calls Try.prog 27 #[u, .func (.func 28) #[] #[]] w fun e w' => e = .returned (.tuple #[]) ∧ w'.ownsRow B 9 1 u (srt l).length (strC (srt l)) ∧ RowKit.Below B w w' := by
  rcases h.2 with ⟨rfl, h0⟩ | ⟨g, cap, cur, rfl, hb, hh, hnc, hm, hs, hx⟩
  · obtain rfl : l = [] := List.eq_nil_of_length_eq_zero h0
    have hc := AnyF.slices_SortFunc_none { Try.sortS with } none 0 (.func (.func 28) #[] #[]) w
    exact hc.mono fun e w' ⟨h1, h2⟩ => ⟨h1, by rw [h2]; exact ⟨by simpa [srt, strC] using World.ownsRow_nil w B 9 1, RowKit.Below.refl _ _⟩⟩
  · have hH := holdsOwn (B := B) (cap := cap) hh hx
    have hc := Any.slices_SortFunc_total Try.sortS encStr (fun _ => rfl) Lib.compareBytes cmp_swo 28 #[] g 0 cap l.toArray w (enters_of Try.func28 (by kernel_rfl) rfl) (cmp1 g _ w) hH (Array.getElem?_eq_some_iff.1 hh).1 (by simp; omega) (fun x y h1 h2 => by rw [ltOf_cmp] at h1 h2; exact lt_total x y h1 h2)
    have hf : (l.toArray.toList.mergeSort fun x y => !(ltOf Lib.compareBytes) y x) = srt l := by
      unfold srt
      congr 1
      funext x y
      rw [ltOf_cmp]
    rw [hf] at hc
    simp only [List.size_toArray] at hc
    refine hc.mono ?_
    rintro e w' ⟨rfl, n, os, rfl⟩
    unfold sortWorld
    have hh' : (Sort.ahead w n).heap[g]? = some (.cells cur 9 (0, 0)) := hh
    refine ⟨rfl, ?_, ?_⟩
    · rw [srt_len]
      refine ⟨by simp [strC_length, srt_len], .inr ⟨g, cap, _, rfl, hb, put_heap (srt l) hh', hnc, hm, by simp [putCells, hs], ?_⟩⟩
      have := put_take cur (srt l) (by rw [srt_len, hs]; omega)
      rw [srt_len] at this
      rw [Nat.mul_one]
      exact this
    · have h := put_below (w := Sort.ahead w n) (os := os) (srt l) hb (Array.getElem?_eq_some_iff.1 hh').1
      exact ⟨h.os, h.tape, h.output, h.size, h.block⟩

/-- slices.Compact at texts, on a row of one's own. -/
theorem compact_any (u : Value) (l : List Tx) (B : Nat) (w : World) (hB : B ≤ w.heap.size) (h : w.ownsRow B 9 1 u l.length (strC l)) (hn : l.length ≤ 1000000) :
    Calls Try.prog 29 #[u] w fun e w' => ∃ v, e = .returned v ∧ IsT w' v (Lib.compact l) ∧ RowKit.Below B w w' := by
  rcases h.2 with ⟨rfl, h0⟩ | ⟨g, cap, cur, rfl, hb, hh, hnc, hm, hs, hx⟩
  · obtain rfl : l = [] := List.eq_nil_of_length_eq_zero h0
    have hc := Try.slices_Compact_string_empty none 0 w
    exact hc.mono fun e w' ⟨h1, h2⟩ => ⟨_, h1, .inl ⟨rfl, rfl⟩, by rw [h2]; exact RowKit.Below.refl _ _⟩
  · have hH := holdsOwn (B := B) (cap := cap) hh hx
    have hc := Try.slices_Compact_string g 0 cap l w hH (by omega) hnc
    have hle := Lib.compact_length_le l
    refine hc.mono ?_
    rintro e w' ⟨rfl, q, rfl⟩
    have hh' : (Sort.ahead w q).heap[g]? = some (.cells cur 9 (0, 0)) := hh
    have h1 := put_heap (os := #[]) (Lib.compact l ++ List.replicate (l.length - (Lib.compact l).length) []) hh'
    rw [grow_empty] at h1
    have h2 := put_below (w := Sort.ahead w q) (os := #[]) (Lib.compact l ++ List.replicate (l.length - (Lib.compact l).length) []) hb (Array.getElem?_eq_some_iff.1 hh').1
    rw [grow_empty] at h2
    refine ⟨_, rfl, .inr ⟨g, cap, _, rfl, by omega, h1, fun i hi => ?_⟩, ⟨h2.os, h2.tape, h2.output, h2.size, h2.block⟩⟩
    have h3 := put_take cur (Lib.compact l ++ List.replicate (l.length - (Lib.compact l).length) []) (by simp; omega)
    have h4 := strC_get (Lib.compact l ++ List.replicate (l.length - (Lib.compact l).length) []) (i := i) (by simp; omega)
    rw [← h3, List.getElem?_take, if_pos (by simp; omega)] at h4
    rw [Array.getElem?_toList] at h4
    rw [h4]
    simp [List.getD, List.getElem?_append_left hi]

set_option maxHeartbeats 1000000 in
theorem of_any (v : Value) (l : List Tx) (w : World) (h : IsT w v l) (hn : l.length ≤ 100) : Calls Try.prog 8 #[v] w (RetS (setOf l) w) := by
  obtain ⟨A, c, rfl, hlc, _⟩ := h.form
  have HC := Lib.hid fun W hb => copied_isT (.slice A l.length c) l W (by omega) (h.below hb)
  have hsz := setOf_le l
  have hri := setOf_rise l
  obtain ⟨n, hln⟩ : ∃ n, Hid (l.length = n) := ⟨_, rfl⟩
  clear h
  rw [hln.out] at HC hn hlc ⊢
  go_enter Try.func8, Try.ntmps8
  go_wp2_with fail
  with_reducible refine (HC.out _ (below_new w _)).mono ?_
  rintro e w1 ⟨v1, rfl, ho1, y1⟩
  have hz1 : w.heap.size + 1 ≤ w1.heap.size := by have := y1.size; simpa using this
  have hbx := Blk.over y1
  obtain ⟨a1, c1, rfl⟩ := own_form ho1
  have HS := Lib.hid (sort_any _ l _ w1 y1.size ho1 (by rw [hln.out]; omega))
  have y1 := below_step (below_new w _) y1
  go_wp2_with fail
  with_reducible refine HS.out.mono ?_
  rintro e w2 ⟨rfl, ho2, y2⟩
  have hbx := hbx.below y2 (by simp)
  have HK := Lib.hid (compact_any _ (srt l) _ w2 (Nat.le_trans (by simpa using hz1) y2.size) ho2 (by rw [srt_len, hln.out]; omega))
  have y2 := y1.trans (y2.mono (by simp))
  clear HS HC ho1 ho2
  go_wp2_with fail
  with_reducible refine HK.out.mono ?_
  rintro e w3 ⟨v3, rfl, ht3, y3⟩
  have hbx := hbx.below y3 (by simp)
  have y3 := y2.trans (y3.mono (by simp))
  have hc0 := hbx.cell0
  have hf0 := hbx.free 0
  clear HK
  obtain ⟨a3, c3, rfl, _⟩ := ht3.form
  have hset := hbx.set0 (.slice a3 (Lib.compact (srt l)).length c3)
  have hq := hset.cell0
  have hlt := hbx.lt
  have ht4 : IsT (w3.setCell ⟨w.heap.size, 0, none⟩ (.slice a3 (Lib.compact (srt l)).length c3)) (.slice a3 (Lib.compact (srt l)).length c3) (Lib.compact (srt l)) := by
    rcases ht3 with h | ⟨g, c, cs, e, h1, h2, h3⟩
    · exact .inl h
    · exact .inr ⟨g, c, cs, e, h1, h2.far (h2.ne_ hbx (by decide)) _, h3⟩
  have y4 := y3.setCell (p := ⟨w.heap.size, 0, none⟩) (Nat.le_refl _) (.slice a3 (Lib.compact (srt l)).length c3)
  go_wp2
  exact bodyPost_ret (v := .agg #[.slice a3 (Lib.compact (srt l)).length c3]) (by simp [results, Try.results8, go_sem, hq]) rfl ⟨_, rfl, ⟨_, rfl, ht4, hri, by rw [hln.out] at hsz; omega⟩, y4⟩
end Go.Proofs.Ytanpncjnojjmkab
