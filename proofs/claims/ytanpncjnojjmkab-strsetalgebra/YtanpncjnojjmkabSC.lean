/-
  Index and Has of a set of texts; Of.
-/
import Derived.Test.YtanpncjnojjmkabSB
namespace Go.Proofs.Ytanpncjnojjmkab
set_option linter.unusedVariables false
set_option maxRecDepth 20000
open Go.RowKit Go.Shelf Go.Sort

theorem cmpT (x : Tx) (g size : Nat) (w : World) : CmpLaysT Try.prog 28 #[] encStr (.string ⟨x.toArray⟩) (fun y => Lib.compareBytes y x) g 0 size w := fun m os dk _ y =>
  (compare_any ⟨y.toArray⟩ ⟨x.toArray⟩ _).mono fun e w' ⟨h1, h2⟩ => ⟨h1, 0, #[], by rw [grow_empty, ← h2]; rfl⟩
theorem cmp1 (g size : Nat) (w : World) : CmpLays1 Try.prog 28 #[] encStr Lib.compareBytes g 0 size w := fun m os dk _ y x =>
  (compare_any ⟨y.toArray⟩ ⟨x.toArray⟩ _).mono fun e w' ⟨h1, h2⟩ => ⟨h1, 0, #[], by rw [grow_empty, ← h2]; rfl⟩
theorem holdsT {w : World} {g : Nat} {cs : Array Value} {l : List Tx} (h2 : Blk w g 9 cs) (h3 : ∀ i, i < l.length → cs[i]? = some (.string ⟨(l.getD i []).toArray⟩)) : Holds encStr w g 0 l.toArray := by
  intro j hj
  have hj' : j < l.length := by simpa using hj
  rw [toArray_get l hj', Nat.zero_add]
  exact ⟨by rw [h2.cell, h3 j hj'], h2.free j⟩
theorem below_SW {w w' : World} {g : Nat} {l : List Tx} (h : Holds encStr w g 0 l.toArray) (hs : SW encStr w g 0 l.toArray w') : Below w.heap.size w w' := by
  obtain ⟨m, os, rfl⟩ := hs
  unfold sortWorld
  rw [putRow_self encStr (Sort.ahead w m) g 0 l.toArray h]
  refine ⟨rfl, rfl, rfl, by simp, fun k hk => ?_⟩
  rw [heap_grow_old _ _ (by simpa using hk)]
  rfl

/-- slices.BinarySearchFunc over the texts of a set. -/
theorem bin_any (u : Value) (l : List Tx) (x : Tx) (w : World) (ht : IsT w u l) (hr : Rise l) (hn : l.length ≤ 1000000) :
    Calls Try.prog 33 #[u, .string ⟨x.toArray⟩, .func (.func 28) #[] #[]] w (RetV (.tuple #[.int .i64 (less l x : Nat), .bool (isIn l x)]) w) := by
  rcases ht with ⟨rfl, rfl⟩ | ⟨g, c, cs, rfl, h1, h2, h3⟩
  · have h := Any.slices_BinarySearchFunc_none Try.binS none 0 (.string ⟨x.toArray⟩) (.func (.func 28) #[] #[]) w
    exact h.mono fun e w' ⟨h1, h2⟩ => ⟨h1, by rw [h2]; exact Below.refl _ _⟩
  · have hH := holdsT h2 h3
    have h := Any.slices_BinarySearchFunc Try.binS encStr (fun _ => rfl) (.string ⟨x.toArray⟩) (fun y => Lib.compareBytes y x) 28 #[] g 0 c l.toArray w (enters_of Try.func28 (by kernel_rfl) rfl) (cmpT x g _ w) hH h2.lt (by simp; omega) (fun a b hab hb hlt => by
      have hb' : b < l.length := by simpa using hb
      rw [toArray_get l hb'] at hlt
      rw [toArray_get l (by omega)]
      have e1 := lt_cmp (l.getD b []) x
      have e2 := lt_cmp (l.getD a []) x
      have h4 : lt (l.getD b []) x = true := by rw [← e1]; simpa using hlt
      have h5 : lt (l.getD a []) x = true := by
        rcases Nat.lt_or_ge a b with h6 | h6
        · exact lt_trans (hr.get h6 hb') h4
        · obtain rfl : a = b := by omega
          exact h4
      rw [← e2] at h5
      simpa using h5)
    have hcount : (l.toArray.toList.countP fun y => decide (Lib.compareBytes y x < 0)) = less l x := by
      unfold less
      congr 1
      funext y
      exact lt_cmp y x
    rw [hcount] at h
    have hfound : (decide (less l x < l.toArray.size) && decide (Lib.compareBytes l.toArray[less l x]! x = 0)) = isIn l x := by
      have hm := hr.mem_iff x
      unfold isIn
      rw [Bool.eq_iff_iff, Bool.and_eq_true, decide_eq_true_eq, decide_eq_true_eq, decide_eq_true_eq, hm]
      simp only [List.size_toArray]
      constructor
      · rintro ⟨h4, h5⟩
        rw [toArray_get l h4] at h5
        exact ⟨h4, cmp_zero _ _ h5⟩
      · rintro ⟨h4, h5⟩
        exact ⟨h4, by rw [toArray_get l h4, h5, cmp_self]⟩
    rw [hfound] at h
    simp only [List.size_toArray] at h
    exact h.mono fun e w' ⟨h4, h5⟩ => ⟨h4, below_SW hH h5⟩

theorem index_any (v : Value) (l : List Tx) (x : Tx) (w : World) (h : IsS w v l) : Calls Try.prog 20 #[v, .string ⟨x.toArray⟩] w (RetV (.int .i64 (less l x : Nat)) w) := by
  obtain ⟨u, rfl, ht, hr, hn⟩ := h
  have HC := Lib.hid fun W hb => bin_any u l x W (ht.below hb) hr (by omega)
  obtain ⟨A, c, rfl, hlc, _⟩ := ht.form
  generalize less l x = r at *
  generalize isIn l x = b at *
  clear ht
  generalize l.length = n at *
  go_enter Try.func20, Try.ntmps20
  go_wp2_with fail
  refine (HC.out _ (below_new w _)).mono ?_
  rintro e w1 ⟨rfl, y1⟩
  go_wp2
  go_ret
  exact ⟨rfl, below_step (below_new w _) y1⟩
theorem has_any (v : Value) (l : List Tx) (x : Tx) (w : World) (h : IsS w v l) : Calls Try.prog 21 #[v, .string ⟨x.toArray⟩] w (RetV (.bool (isIn l x)) w) := by
  obtain ⟨u, rfl, ht, hr, hn⟩ := h
  have HC := Lib.hid fun W hb => bin_any u l x W (ht.below hb) hr (by omega)
  obtain ⟨A, c, rfl, hlc, _⟩ := ht.form
  generalize less l x = r at *
  generalize isIn l x = b at *
  clear ht
  generalize l.length = n at *
  go_enter Try.func21, Try.ntmps21
  go_wp2_with fail
  refine (HC.out _ (below_new w _)).mono ?_
  rintro e w1 ⟨rfl, y1⟩
  go_wp2
  go_ret
  exact ⟨rfl, below_step (below_new w _) y1⟩
end Go.Proofs.Ytanpncjnojjmkab
