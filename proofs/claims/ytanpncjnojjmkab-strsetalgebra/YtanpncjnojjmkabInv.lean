/-
  A region that draws its order, by an invariant: each operation is met once, whatever else has come up ahead of it. It speaks of no program.
-/
import Derived.Test.YtanpncjnojjmkabWords
import Derived.Deep.RegionHeld3
namespace Go.Proofs.Ytanpncjnojjmkab
set_option linter.unusedVariables false
open Go.RowKit

section
variable {P : Program} {ops : Array Oper} {Q : Exit → Act → World → Prop} {md : Region.Mode}

/-- How many have not come up. -/
def unl (l : Array Bool) : Nat := l.toList.countP fun b => !b
theorem unl_set {l : Array Bool} {i : Nat} (h : l.getD i true = false) : unl (l.setIfInBounds i true) + 1 = unl l := by
  have hi : i < l.size := by
    rcases Nat.lt_or_ge i l.size with h' | h'
    · exact h'
    · simp [h', Array.getElem?_eq_none] at h
  have hl : l.toList[i]'(by simpa using hi) = false := by simpa [hi] using h
  unfold unl
  rw [Array.toList_setIfInBounds]
  have h1 := List.take_append_drop i l.toList
  have h2 : l.toList.drop i = false :: l.toList.drop (i + 1) := by rw [List.drop_eq_getElem_cons (by simpa using hi), hl]
  rw [List.set_eq_take_append_cons_drop, if_pos (by simpa using hi)]
  conv => rhs; rw [← h1, h2]
  rw [List.countP_append, List.countP_append, List.countP_cons, List.countP_cons]
  simp
  omega
theorem ready_nil {l : Array Bool} (h : unl l = 0) : Region.ready md ops l = [] := by
  rw [List.eq_nil_iff_forall_not_mem]
  intro j hj
  have h1 := unl_set (mem_ready.1 hj).1
  omega
theorem wpAny_inv {I : Array Bool → Act → World → Prop} (hstep : ∀ l a w i, I l a w → i ∈ Region.ready md ops l → wpOp P ops Q i (I (l.setIfInBounds i true)) a w)
    (hend : ∀ l a w, I l a w → Region.ready md ops l = [] → Q .normal a w) : ∀ (fuel : Nat) (l : Array Bool) (a : Act) (w : World), unl l ≤ fuel → I l a w → wpAny P md ops Q fuel l a w
  | 0, l, a, w, hu, hI => ⟨ready_nil (by omega), hend l a w hI (ready_nil (by omega))⟩
  | fuel + 1, l, a, w, hu, hI => ⟨fun h => hend l a w hI h, fun i hi => wpOp_mono (fun a' w' h' => wpAny_inv hstep hend fuel _ a' w' (by have := unl_set (mem_ready.1 hi).1; omega) h') (hstep l a w i hI hi)⟩

/-- Each waits for elder ones alone. -/
def backB (ops : Array Oper) : Bool := (List.range ops.size).all fun i => match ops[i]? with
  | some o => o.after.all fun e => decide (e.on < i)
  | none => true
theorem backB_spec (h : backB ops = true) {i : Nat} {o : Oper} (ho : ops[i]? = some o) : ∀ e ∈ o.after, e.on < i := by
  intro e he
  simp only [backB, List.all_eq_true, List.mem_range] at h
  have h1 := h i (Array.getElem?_eq_some_iff.1 ho).1
  simp only [ho, Array.all_eq_true] at h1
  obtain ⟨n, hn, rfl⟩ := Array.mem_iff_getElem.1 he
  simpa using h1 n hn
theorem all_listed (hb : backB ops = true) {l : Array Bool} (hl : l.size = ops.size) (hr : Region.ready md ops l = []) : ∀ i, i < ops.size → l.getD i false = true := by
  intro i
  induction i using Nat.strongRecOn with
  | ind i ih =>
    intro hi
    cases hc : l.getD i false with
    | true => rfl
    | false =>
      exfalso
      have hm : i ∈ Region.ready md ops l := by
        refine mem_ready.2 ⟨?_, ops[i], Array.getElem?_eq_getElem hi, fun e he _ => ?_⟩
        · have hil : i < l.size := by omega
          simpa [hil] using hc
        · have := backB_spec hb (Array.getElem?_eq_getElem hi) e he
          exact ih e.on this (by omega)
      rw [hr] at hm
      cases hm

/-- Whatever holds of each operation at its place. -/
def AllOps (F : Nat → Oper → Prop) : Nat → List Oper → Prop
  | _, [] => True
  | k, o :: r => F k o ∧ AllOps F (k + 1) r
theorem AllOps.at_ {F : Nat → Oper → Prop} : ∀ {k : Nat} {l : List Oper}, AllOps F k l → ∀ {i : Nat} {o : Oper}, l[i]? = some o → F (k + i) o
  | k, [], _, i, o, h => by simp at h
  | k, x :: r, ⟨h1, h2⟩, 0, o, h => by simp at h; subst h; exact h1
  | k, x :: r, ⟨h1, h2⟩, i + 1, o, h => by
    have := AllOps.at_ h2 (i := i) (by simpa using h)
    rw [show k + (i + 1) = k + 1 + i by omega]
    exact this

/-- What is known of the slots: those below 'base' and from 'base + n' on are as they were, and of each operation that has come up its word holds. -/
structure Slots (base n m : Nat) (fr : Nat → Value) (R : Nat → World → Value → Prop) (W : World) (l : Array Bool) (a : Act) (w : World) : Prop where
  size : l.size = n
  slots : a.tmps.size = m
  defers : a.defers = []
  below : Below W.heap.size W w
  low : ∀ k, k < base → a.tmps.getD k undef = fr k
  high : ∀ k, base + n ≤ k → k < m → a.tmps.getD k undef = fr k
  rel : ∀ i, i < n → l.getD i false = true → R i w (a.tmps.getD (base + i) undef)

theorem getD_set_eq {t : Array Value} {d : Nat} {v : Value} (h : d < t.size) : (t.setIfInBounds d v).getD d undef = v := by simp [h]
theorem getD_set_off {t : Array Value} {d k : Nat} {v : Value} (h : k ≠ d) : (t.setIfInBounds d v).getD k undef = t.getD k undef := by
  simp [Array.getElem?_setIfInBounds, Ne.symm h]
theorem Slots.put {base n m : Nat} {fr : Nat → Value} {R : Nat → World → Value → Prop} {W : World} {l : Array Bool} {a : Act} {w w' : World} (h : Slots base n m fr R W l a w) (hm : base + n ≤ m) {i : Nat} (hi : i < n) {v : Value} (hb : Below w.heap.size w w')
    (hstab : ∀ j v, R j w v → R j w' v) (hv : R i w' v) : Slots base n m fr R W (l.setIfInBounds i true) (a.put (some (base + i)) v) w' where
  size := by simp [h.size]
  slots := by simp [Act.put, h.slots]
  defers := h.defers
  below := below_step h.below hb
  low := fun k hk => by
    show (a.tmps.setIfInBounds (base + i) v).getD k undef = _
    rw [getD_set_off (by omega)]
    exact h.low k hk
  high := fun k hk hkm => by
    show (a.tmps.setIfInBounds (base + i) v).getD k undef = _
    rw [getD_set_off (by omega)]
    exact h.high k hk hkm
  rel := fun j hj hl => by
    show R j w' ((a.tmps.setIfInBounds (base + i) v).getD (base + j) undef)
    by_cases hji : j = i
    · subst hji
      rw [getD_set_eq (by rw [h.slots]; omega)]
      exact hv
    · rw [getD_set_off (by omega)]
      refine hstab j _ (h.rel j hj ?_)
      rw [getD_set_ne false (Ne.symm hji)] at hl
      exact hl

/-- The law: what each operation owes, in whatever world has come of W, with what it waits for. -/
theorem wp_region_slots {id base n m : Nat} {fr : Nat → Value} {R : Nat → World → Value → Prop} {a : Act} {w : World} (hmix : P.follows .mixedOrders = true) (hn : ops.size = n) (hm : base + n ≤ m) (hb : backB ops = true)
    (hstab : ∀ j v w w', Below w.heap.size w w' → R j w v → R j w' v) (hs : a.tmps.size = m) (hd : a.defers = []) (hlow : ∀ k, k < m → a.tmps.getD k undef = fr k)
    (hops : AllOps (fun k o => o.dst = some (base + k) ∧ ∀ (l : Array Bool) (a : Act) (w' : World), Slots base n m fr R w.drew l a w' → (∀ e ∈ o.after, Region.binds .any e = true → l.getD e.on false = true) →
      Region.wanted o (yielded ops a.tmps) = true ∧ ∀ K : Act → World → Prop, (∀ v w'', Below w'.heap.size w' w'' → R k w'' v → K (a.put o.dst v) w'') → o.wp P a w' K Q) 0 ops.toList)
    (hend : ∀ (a' : Act) (w' : World), a'.tmps.size = m → a'.defers = [] → Below w.heap.size w w' → (∀ k, k < base → a'.tmps.getD k undef = fr k) → (∀ k, base + n ≤ k → k < m → a'.tmps.getD k undef = fr k) → (∀ i, i < n → R i w' (a'.tmps.getD (base + i) undef)) → Q .normal a' w') :
    (Code.region id ops true).wp P Q a w := by
  refine wp_region_any hmix (wpAny_inv (I := Slots base n m fr R w.drew) ?_ ?_ _ _ _ _ ?_ ?_)
  · intro l a' w' i hI hi
    obtain ⟨hun, o, ho, hall⟩ := mem_ready.1 hi
    have hin : i < n := by have := (Array.getElem?_eq_some_iff.1 ho).1; omega
    obtain ⟨hdst, hF⟩ := hops.at_ (i := i) (o := o) (by simpa using ho)
    rw [Nat.zero_add] at hdst hF
    obtain ⟨hw, hK⟩ := hF l a' w' hI hall
    unfold wpOp
    simp only [ho, hw, if_true]
    refine .inl (hK _ fun v w'' hb' hv => ?_)
    rw [hdst]
    exact hI.put hm hin hb' (fun j v => hstab j v _ _ hb') hv
  · intro l a' w' hI hr
    have hall := all_listed hb (by rw [hI.size, hn]) hr
    refine hend a' w' hI.slots hI.defers ?_ hI.low hI.high fun i hi => hI.rel i hi (hall i (by omega))
    have := hI.below
    exact ⟨this.os, this.tape, this.output, this.size, this.block⟩
  · unfold unl
    refine Nat.le_trans List.countP_le_length ?_
    simp
  · refine ⟨by simp [hn], hs, hd, Below.refl _ _, fun k hk => hlow k (by omega), fun k h1 h2 => hlow k h2, fun i hi hl => ?_⟩
    have hi' : i < ops.size := by omega
    simp [hi'] at hl
end
end Go.Proofs.Ytanpncjnojjmkab
