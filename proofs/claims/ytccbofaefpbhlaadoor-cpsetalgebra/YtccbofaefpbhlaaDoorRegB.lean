/-
  A region that draws its order, by an invariant: each operation is met once, whatever else has come up ahead of it; at its end come those that wait for all the others, one behind the other. It speaks of no program.
  What single operations of a drawn region owe, over any frame; sets in boxes.
-/
import Derived.Test.YtccbofaefpbhlaaDoorWords
import Derived.Deep.RegionHeld3
import Derived.Test.YtccbofaefpbhlaaDoorJoinB
import Derived.Test.YtccbofaefpbhlaaDoorOfC
namespace Go.Proofs.YtccbofaefpbhlaaDoor.Rg
set_option linter.unusedVariables false
open Go.RowKit

section
variable {P : Program} {ops : Array Oper} {Q : Exit → Act → World → Prop} {md : Region.Mode}

/-- How many have not come up. -/
def unl (l : Array Bool) : Nat := l.toList.countP fun b => !b
theorem unl_set {l : Array Bool} {i : Nat} (h : l.getD i true = false) : unl (l.setIfInBounds i true) + 1 = unl l := by
  have hi : i < l.size := by
    rcases Nat.lt_or_ge i l.size with h' | h'
    · exact h'
    · simp [h'] at h
  have hl : l.toList[i]'(by simpa using hi) = false := by simpa [hi] using h
  unfold unl
  rw [Array.toList_setIfInBounds]
  have h1 := List.take_append_drop i l.toList
  have h2 : l.toList.drop i = false :: l.toList.drop (i + 1) := by rw [List.drop_eq_getElem_cons (by simpa using hi), hl]
  rw [List.set_eq_take_append_cons_drop, if_pos (by simpa using hi)]
  conv => rhs; rw [← h1, h2]
  rw [List.countP_append, List.countP_append, List.countP_cons, List.countP_cons]
  simp
  omega
theorem ready_nil {l : Array Bool} (h : unl l = 0) : Region.ready md ops l = [] := by
  rw [List.eq_nil_iff_forall_not_mem]
  intro j hj
  have h1 := unl_set (mem_ready.1 hj).1
  omega
theorem wpAny_inv {I : Array Bool → Act → World → Prop} (hstep : ∀ l a w i, I l a w → i ∈ Region.ready md ops l → wpOp P ops Q i (I (l.setIfInBounds i true)) a w)
    (hend : ∀ l a w, I l a w → Region.ready md ops l = [] → Q .normal a w) : ∀ (fuel : Nat) (l : Array Bool) (a : Act) (w : World), unl l ≤ fuel → I l a w → wpAny P md ops Q fuel l a w
  | 0, l, a, w, hu, hI => ⟨ready_nil (by omega), hend l a w hI (ready_nil (by omega))⟩
  | fuel + 1, l, a, w, hu, hI => ⟨fun h => hend l a w hI h, fun i hi => wpOp_mono (fun a' w' h' => wpAny_inv hstep hend fuel _ a' w' (by have := unl_set (mem_ready.1 hi).1; omega) h') (hstep l a w i hI hi)⟩

/-- Each waits for elder ones alone. -/
def backB (ops : Array Oper) : Bool := (List.range ops.size).all fun i => match ops[i]? with
  | some o => o.after.all fun e => decide (e.on < i)
  | none => true
theorem backB_spec (h : backB ops = true) {i : Nat} {o : Oper} (ho : ops[i]? = some o) : ∀ e ∈ o.after, e.on < i := by
  intro e he
  simp only [backB, List.all_eq_true, List.mem_range] at h
  have h1 := h i (Array.getElem?_eq_some_iff.1 ho).1
  simp only [ho, Array.all_eq_true] at h1
  obtain ⟨n, hn, rfl⟩ := Array.mem_iff_getElem.1 he
  simpa using h1 n hn
theorem all_listed (hb : backB ops = true) {l : Array Bool} (hl : l.size = ops.size) (hr : Region.ready md ops l = []) : ∀ i, i < ops.size → l.getD i false = true := by
  intro i
  induction i using Nat.strongRecOn with
  | ind i ih =>
    intro hi
    cases hc : l.getD i false with
    | true => rfl
    | false =>
      exfalso
      have hm : i ∈ Region.ready md ops l := by
        refine mem_ready.2 ⟨?_, ops[i], Array.getElem?_eq_getElem hi, fun e he _ => ?_⟩
        · have hil : i < l.size := by omega
          simpa [hil] using hc
        · have := backB_spec hb (Array.getElem?_eq_getElem hi) e he
          exact ih e.on this (by omega)
      rw [hr] at hm
      cases hm

/-- Whatever holds of each operation at its place. -/
def AllOps (F : Nat → Oper → Prop) : Nat → List Oper → Prop
  | _, [] => True
  | k, o :: r => F k o ∧ AllOps F (k + 1) r
theorem AllOps.at_ {F : Nat → Oper → Prop} : ∀ {k : Nat} {l : List Oper}, AllOps F k l → ∀ {i : Nat} {o : Oper}, l[i]? = some o → F (k + i) o
  | k, [], _, i, o, h => by simp at h
  | k, x :: r, ⟨h1, h2⟩, 0, o, h => by simp at h; subst h; exact h1
  | k, x :: r, ⟨h1, h2⟩, i + 1, o, h => by
    have := AllOps.at_ h2 (i := i) (by simpa using h)
    rw [show k + (i + 1) = k + 1 + i by omega]
    exact this

/-- Does what stands at i wait for what stands at j, by way of others or not? -/
def waitsB (ops : Array Oper) : Nat → Nat → Nat → Bool
  | 0, _, _ => false
  | f + 1, i, j => match ops[i]? with
    | some o => o.after.any fun e => Region.binds .any e && (e.on == j || waitsB ops f e.on j)
    | none => false
/-- Nothing has come up ahead of what it waits for. -/
def Closed (ops : Array Oper) (l : Array Bool) : Prop := ∀ i o, l.getD i false = true → ops[i]? = some o → ∀ e ∈ o.after, Region.binds .any e = true → l.getD e.on false = true
theorem Closed.waits {l : Array Bool} (h : Closed ops l) : ∀ (f i j : Nat), l.getD i false = true → waitsB ops f i j = true → l.getD j false = true
  | 0, i, j, _, hw => by simp [waitsB] at hw
  | f + 1, i, j, hi, hw => by
    unfold waitsB at hw
    split at hw
    · rename_i o ho
      rw [Array.any_eq_true] at hw
      obtain ⟨n, hn, hb⟩ := hw
      rw [Bool.and_eq_true, Bool.or_eq_true] at hb
      have he := h i o hi ho o.after[n] (Array.getElem_mem hn) hb.1
      rcases hb.2 with e | e
      · rw [beq_iff_eq] at e
        rw [← e]; exact he
      · exact Closed.waits h f _ j he e
    · cases hw
theorem Closed.ready {l : Array Bool} (h : Closed ops l) {i : Nat} {o : Oper} (ho : ops[i]? = some o) (hd : ∀ e ∈ o.after, Region.binds .any e = true → l.getD e.on false = true) {f j : Nat} (hw : waitsB ops (f + 1) i j = true) : l.getD j false = true := by
  unfold waitsB at hw
  rw [ho] at hw
  simp only at hw
  rw [Array.any_eq_true] at hw
  obtain ⟨n, hn, hb⟩ := hw
  rw [Bool.and_eq_true, Bool.or_eq_true] at hb
  have he := hd o.after[n] (Array.getElem_mem hn) hb.1
  rcases hb.2 with e | e
  · rw [beq_iff_eq] at e
    rw [← e]; exact he
  · exact h.waits f _ j he e
theorem Closed.put {l : Array Bool} (h : Closed ops l) {i : Nat} {o : Oper} (ho : ops[i]? = some o) (hi : i < l.size) (hd : ∀ e ∈ o.after, Region.binds .any e = true → l.getD e.on false = true) : Closed ops (l.setIfInBounds i true) := by
  have hmono : ∀ j, l.getD j false = true → (l.setIfInBounds i true).getD j false = true := fun j hj => by
    by_cases e : j = i
    · subst e; simp [hi]
    · rw [getD_set_ne false (Ne.symm e)]; exact hj
  intro k o' hk ho' e he hb
  by_cases ek : k = i
  · subst ek
    rw [ho] at ho'
    injection ho' with ho'
    subst ho'
    exact hmono _ (hd e he hb)
  · rw [getD_set_ne false (Ne.symm ek)] at hk
    exact hmono _ (h k o' hk ho' e he hb)
/-- From q on each waits for all ahead of it. -/
def tailB (ops : Array Oper) (q : Nat) : Bool := (List.range ops.size).all fun i => decide (i < q) || (List.range i).all fun j => waitsB ops 12 i j
theorem tailB_spec {q i j : Nat} (h : tailB ops q = true) (hi : i < ops.size) (hq : q ≤ i) (hj : j < i) : waitsB ops 12 i j = true := by
  simp only [tailB, List.all_eq_true, List.mem_range, Bool.or_eq_true, decide_eq_true_eq] at h
  rcases h i hi with h | h
  · omega
  · exact h j hj

theorem getD_set_eq {t : Array Value} {d : Nat} {v : Value} (h : d < t.size) : (t.setIfInBounds d v).getD d undef = v := by simp [h]
theorem getD_set_off {t : Array Value} {d k : Nat} {v : Value} (h : k ≠ d) : (t.setIfInBounds d v).getD k undef = t.getD k undef := by
  simp [Ne.symm h]

/-- What is known of the slots: those that no operation of the first q writes are as they were; of each that has come up its word holds; those that make a block have blocks of their own. -/
structure Slots (q m : Nat) (ds : Nat → Nat) (al : Nat → Bool) (fr : Nat → Value) (R : Nat → World → Value → Prop) (W : World) (l : Array Bool) (a : Act) (w : World) : Prop where
  slots : a.tmps.size = m
  defers : a.defers = []
  below : Below W.heap.size W w
  rest : ∀ k, k < m → (∀ i, i < q → ds i ≠ k) → a.tmps.getD k undef = fr k
  rel : ∀ i, i < q → l.getD i false = true → R i w (a.tmps.getD (ds i) undef)
  made : ∀ i, i < q → al i = true → l.getD i false = true → ∃ g, a.tmps.getD (ds i) undef = .pointer (some ⟨g, 0, none⟩) ∧ W.heap.size ≤ g ∧ g < w.heap.size
  apart : ∀ i j, i < q → j < q → al i = true → al j = true → i ≠ j → l.getD i false = true → l.getD j false = true → a.tmps.getD (ds i) undef ≠ a.tmps.getD (ds j) undef

theorem Slots.put {q m : Nat} {ds : Nat → Nat} {al : Nat → Bool} {fr : Nat → Value} {R : Nat → World → Value → Prop} {W : World} {l : Array Bool} {a : Act} {w w' : World} (h : Slots q m ds al fr R W l a w) (hinj : ∀ i j, i < q → j < q → ds i = ds j → i = j) (hm : ∀ i, i < q → ds i < m) {i : Nat} (hi : i < q) {v : Value} (hb : Below w.heap.size w w')
    (hstab : ∀ j v, R j w v → R j w' v) (hv : R i w' v) (ha : al i = true → v = .pointer (some ⟨w.heap.size, 0, none⟩) ∧ w.heap.size < w'.heap.size) : Slots q m ds al fr R W (l.setIfInBounds i true) (a.put (some (ds i)) v) w' := by
  have hself : (a.tmps.setIfInBounds (ds i) v).getD (ds i) undef = v := getD_set_eq (by rw [h.slots]; exact hm i hi)
  have hoff : ∀ j, j < q → j ≠ i → (a.tmps.setIfInBounds (ds i) v).getD (ds j) undef = a.tmps.getD (ds j) undef := fun j hj hne => getD_set_off (fun e => hne (hinj j i hj hi e))
  have hl : ∀ j, j ≠ i → (l.setIfInBounds i true).getD j false = true → l.getD j false = true := fun j hne h1 => by rwa [getD_set_ne false (Ne.symm hne)] at h1
  have hmade : ∀ j, j < q → al j = true → j ≠ i → (l.setIfInBounds i true).getD j false = true → ∃ g, a.tmps.getD (ds j) undef = .pointer (some ⟨g, 0, none⟩) ∧ W.heap.size ≤ g ∧ g < w.heap.size := fun j hj haj hne h1 => h.made j hj haj (hl j hne h1)
  exact {
    slots := by simp [Act.put, h.slots]
    defers := h.defers
    below := below_step h.below hb
    rest := fun k hk hn => by
      show (a.tmps.setIfInBounds (ds i) v).getD k undef = _
      rw [getD_set_off (Ne.symm (hn i hi))]
      exact h.rest k hk hn
    rel := fun j hj h1 => by
      show R j w' ((a.tmps.setIfInBounds (ds i) v).getD (ds j) undef)
      by_cases hji : j = i
      · subst hji; rw [hself]; exact hv
      · rw [hoff j hj hji]; exact hstab j _ (h.rel j hj (hl j hji h1))
    made := fun j hj haj h1 => by
      show ∃ g, (a.tmps.setIfInBounds (ds i) v).getD (ds j) undef = _ ∧ _
      by_cases hji : j = i
      · subst hji
        rw [hself]
        obtain ⟨e, hs⟩ := ha haj
        exact ⟨_, e, h.below.size, hs⟩
      · rw [hoff j hj hji]
        obtain ⟨g, e, g1, g2⟩ := hmade j hj haj hji h1
        exact ⟨g, e, g1, Nat.lt_of_lt_of_le g2 hb.size⟩
    apart := fun j k hj hk haj hak hne h1 h2 => by
      show (a.tmps.setIfInBounds (ds i) v).getD (ds j) undef ≠ (a.tmps.setIfInBounds (ds i) v).getD (ds k) undef
      by_cases hji : j = i
      · subst hji
        rw [hself, hoff k hk (Ne.symm hne)]
        obtain ⟨g, e, _, g2⟩ := hmade k hk hak (Ne.symm hne) h2
        rw [e, (ha haj).1]
        intro e2
        injection e2 with e2
        injection e2 with e2
        injection e2 with e2
        omega
      · by_cases hki : k = i
        · subst hki
          rw [hself, hoff j hj hji]
          obtain ⟨g, e, _, g2⟩ := hmade j hj haj hji h1
          rw [e, (ha hak).1]
          intro e2
          injection e2 with e2
          injection e2 with e2
          injection e2 with e2
          omega
        · rw [hoff j hj hji, hoff k hk hki]
          exact h.apart j k hj hk haj hak hne (hl j hji h1) (hl k hki h2) }

/-- The law: what each operation owes, in whatever world has come of W, with what it waits for; and those at the end, one behind the other. -/
theorem wp_region_slots {id q n m : Nat} {ds : Nat → Nat} {al : Nat → Bool} {fr : Nat → Value} {R : Nat → World → Value → Prop} {T : Nat → Act → World → Prop} {a : Act} {w : World} (hmix : P.follows .mixedOrders = true) (hn : ops.size = n) (hqn : q ≤ n) (hb : backB ops = true) (ht : tailB ops q = true)
    (hinj : ∀ i, i < q → ∀ j, j < q → ds i = ds j → i = j) (hm : ∀ i, i < q → ds i < m)
    (hstab : ∀ j v w w', Below w.heap.size w w' → R j w v → R j w' v) (hs : a.tmps.size = m) (hd : a.defers = []) (hlow : ∀ k, k < m → a.tmps.getD k undef = fr k)
    (hops : AllOps (fun k o => k < q → o.dst = some (ds k) ∧ ∀ (l : Array Bool) (a : Act) (w' : World), Slots q m ds al fr R w.drew l a w' → (∀ e ∈ o.after, Region.binds .any e = true → l.getD e.on false = true) →
      Region.wanted o (yielded ops a.tmps) = true ∧ ∀ K : Act → World → Prop, (∀ v w'', Below w'.heap.size w' w'' → R k w'' v → (al k = true → v = .pointer (some ⟨w'.heap.size, 0, none⟩) ∧ w'.heap.size < w''.heap.size) → K (a.put o.dst v) w'') → o.wp P a w' K Q) 0 ops.toList)
    (hmid : ∀ (a' : Act) (w' : World), a'.tmps.size = m → a'.defers = [] → Below w.heap.size w w' → (∀ k, k < m → (∀ i, i < q → ds i ≠ k) → a'.tmps.getD k undef = fr k) → (∀ i, i < q → R i w' (a'.tmps.getD (ds i) undef)) →
      (∀ i, i < q → al i = true → ∃ g, a'.tmps.getD (ds i) undef = .pointer (some ⟨g, 0, none⟩) ∧ w.heap.size ≤ g ∧ g < w'.heap.size) →
      (∀ i j, i < q → j < q → al i = true → al j = true → i ≠ j → a'.tmps.getD (ds i) undef ≠ a'.tmps.getD (ds j) undef) → T q a' w')
    (htail : AllOps (fun k o => q ≤ k → ∀ (a : Act) (w' : World), T k a w' → Region.wanted o (yielded ops a.tmps) = true ∧ ∀ K : Act → World → Prop, (∀ a' w'', T (k + 1) a' w'' → K a' w'') → o.wp P a w' K Q) 0 ops.toList)
    (hend : ∀ (a' : Act) (w' : World), T n a' w' → Q .normal a' w') :
    (Code.region id ops true).wp P Q a w := by
  let I : Array Bool → Act → World → Prop := fun l a w' => l.size = n ∧ Closed ops l ∧ (((∀ i, q ≤ i → l.getD i false = false) ∧ Slots q m ds al fr R w.drew l a w') ∨ ∃ k, q ≤ k ∧ k ≤ n ∧ (∀ j, j < n → (l.getD j false = true ↔ j < k)) ∧ T k a w')
  have mid : ∀ l a w', l.size = n → ((∀ i, q ≤ i → l.getD i false = false) ∧ Slots q m ds al fr R w.drew l a w') → (∀ j, j < q → l.getD j false = true) → T q a w' := fun l a w' hl h1 hall =>
    hmid a w' h1.2.slots h1.2.defers ⟨h1.2.below.os, h1.2.below.tape, h1.2.below.output, h1.2.below.size, h1.2.below.block⟩ h1.2.rest (fun i hi => h1.2.rel i hi (hall i hi)) (fun i hi hai => h1.2.made i hi hai (hall i hi)) (fun i j hi hj hai haj hne => h1.2.apart i j hi hj hai haj hne (hall i hi) (hall j hj))
  refine wp_region_any hmix (wpAny_inv (I := I) ?_ ?_ _ _ _ _ ?_ ?_)
  · intro l a' w' i hI hi
    obtain ⟨hl, hcl, hI⟩ := hI
    obtain ⟨hun, o, ho, hall⟩ := mem_ready.1 hi
    have hin : i < n := by have := (Array.getElem?_eq_some_iff.1 ho).1; omega
    have hun' : l.getD i false = false := by
      have hil : i < l.size := by omega
      simpa [hil] using hun
    have hcl' := hcl.put ho (by omega) hall
    have tail : ∀ k, q ≤ k → k ≤ n → (∀ j, j < n → (l.getD j false = true ↔ j < k)) → T k a' w' → q ≤ i → wpOp P ops Q i (I (l.setIfInBounds i true)) a' w' := fun k hk1 hk2 hj hT hqi => by
      have hik : i = k := by
        have h1 : k ≤ i := by
          rcases Nat.lt_or_ge i k with h | h
          · have := (hj i hin).2 h
            rw [hun'] at this; cases this
          · exact h
        rcases Nat.lt_or_ge k i with h | h
        · have := hcl.ready ho hall (tailB_spec ht (by omega) hqi h)
          have := (hj k (by omega)).1 this
          omega
        · omega
      subst hik
      obtain ⟨hw, hK⟩ := (htail.at_ (i := i) (o := o) (by simpa using ho)) (by omega) a' w' (by rw [Nat.zero_add]; exact hT)
      unfold wpOp
      simp only [ho, hw, if_true]
      refine .inl (hK _ fun a'' w'' h' => ⟨by simp [hl], hcl', .inr ⟨i + 1, by omega, by omega, fun j hjn => ?_, by rw [Nat.zero_add] at h'; exact h'⟩⟩)
      by_cases e : j = i
      · subst e
        simp [show j < l.size by omega]
      · rw [getD_set_ne false (Ne.symm e), hj j hjn]
        omega
    rcases hI with h1 | ⟨k, hk1, hk2, hj, hT⟩
    · by_cases hiq : i < q
      · obtain ⟨hdst, hF⟩ := (hops.at_ (i := i) (o := o) (by simpa using ho)) (by omega)
        rw [Nat.zero_add] at hdst hF
        obtain ⟨hw, hK⟩ := hF l a' w' h1.2 hall
        unfold wpOp
        simp only [ho, hw, if_true]
        refine .inl (hK _ fun v w'' hb' hv ha => ⟨by simp [hl], hcl', .inl ⟨fun j hj => ?_, ?_⟩⟩)
        · rw [getD_set_ne false (show i ≠ j by omega)]
          exact h1.1 j hj
        · rw [hdst]
          exact h1.2.put (fun i j h1 h2 => hinj i h1 j h2) hm hiq hb' (fun j v => hstab j v _ _ hb') hv ha
      · have hlow : ∀ j, j < q → l.getD j false = true := fun j hj => hcl.ready ho hall (tailB_spec ht (by omega) (by omega) (by omega))
        exact tail q (Nat.le_refl _) hqn (fun j hjn => ⟨(fun h => by
          rcases Nat.lt_or_ge j q with h2 | h2
          · exact h2
          · rw [h1.1 j h2] at h; cases h), (fun h => hlow j h)⟩) (mid l a' w' hl h1 hlow) (by omega)
    · refine tail k hk1 hk2 hj hT ?_
      rcases Nat.lt_or_ge i q with h | h
      · have := (hj i hin).2 (by omega)
        rw [hun'] at this; cases this
      · exact h
  · intro l a' w' hI hr
    obtain ⟨hl, hcl, hI⟩ := hI
    have hall := all_listed hb (by rw [hl, hn]) hr
    rcases hI with h1 | ⟨k, hk1, hk2, hj, hT⟩
    · have hqn' : q = n := by
        rcases Nat.lt_or_ge q n with h | h
        · have h2 := h1.1 q (Nat.le_refl _)
          rw [hall q (by omega)] at h2; cases h2
        · omega
      refine hend a' w' ?_
      rw [← hqn']
      exact mid l a' w' hl h1 (fun j hj => hall j (by omega))
    · have hkn : k = n := by
        rcases Nat.lt_or_ge k n with h | h
        · have := (hj k h).1 (hall k (by omega))
          omega
        · omega
      subst hkn
      exact hend a' w' hT
  · unfold unl
    refine Nat.le_trans List.countP_le_length ?_
    simp
  · have hno : ∀ i, (Array.replicate ops.size false).getD i false = false := fun i => by
      by_cases h : i < ops.size <;> simp [h]
    exact ⟨(by simp [hn]), (fun i o hi => by rw [hno] at hi; cases hi), .inl ⟨(fun i _ => hno i), hs, hd, Below.refl _ _, (fun k hk _ => hlow k hk), (fun i hi hl => by rw [hno] at hl; cases hl), (fun i hi _ hl => by rw [hno] at hl; cases hl), (fun i j _ _ _ _ _ hl => by rw [hno] at hl; cases hl)⟩⟩
/-- The same, over the frame as it is. -/
theorem wp_region_frame {id q n m : Nat} {ds : Nat → Nat} {al : Nat → Bool} {R : Nat → World → Value → Prop} {a0 : Act} {w : World} (T : (Nat → Value) → Nat → Act → World → Prop) (hmix : P.follows .mixedOrders = true) (hn : ops.size = n) (hqn : q ≤ n) (hb : backB ops = true) (ht : tailB ops q = true)
    (hinj : ∀ i, i < q → ∀ j, j < q → ds i = ds j → i = j) (hm : ∀ i, i < q → ds i < m)
    (hstab : ∀ j v w w', Below w.heap.size w w' → R j w v → R j w' v) (hs : a0.tmps.size = m) (hd : a0.defers = [])
    (hops : AllOps (fun k o => k < q → o.dst = some (ds k) ∧ ∀ (l : Array Bool) (a : Act) (w' : World), Slots q m ds al (fun k => a0.tmps.getD k undef) R w.drew l a w' → (∀ e ∈ o.after, Region.binds .any e = true → l.getD e.on false = true) →
      Region.wanted o (yielded ops a.tmps) = true ∧ ∀ K : Act → World → Prop, (∀ v w'', Below w'.heap.size w' w'' → R k w'' v → (al k = true → v = .pointer (some ⟨w'.heap.size, 0, none⟩) ∧ w'.heap.size < w''.heap.size) → K (a.put o.dst v) w'') → o.wp P a w' K Q) 0 ops.toList)
    (hmid : ∀ (a' : Act) (w' : World), a'.tmps.size = m → a'.defers = [] → Below w.heap.size w w' → (∀ k, k < m → (∀ i, i < q → ds i ≠ k) → a'.tmps.getD k undef = a0.tmps.getD k undef) → (∀ i, i < q → R i w' (a'.tmps.getD (ds i) undef)) →
      (∀ i, i < q → al i = true → ∃ g, a'.tmps.getD (ds i) undef = .pointer (some ⟨g, 0, none⟩) ∧ w.heap.size ≤ g ∧ g < w'.heap.size) →
      (∀ i j, i < q → j < q → al i = true → al j = true → i ≠ j → a'.tmps.getD (ds i) undef ≠ a'.tmps.getD (ds j) undef) → T (fun k => a0.tmps.getD k undef) q a' w')
    (htail : AllOps (fun k o => q ≤ k → ∀ (a : Act) (w' : World), T (fun k => a0.tmps.getD k undef) k a w' → Region.wanted o (yielded ops a.tmps) = true ∧ ∀ K : Act → World → Prop, (∀ a' w'', T (fun k => a0.tmps.getD k undef) (k + 1) a' w'' → K a' w'') → o.wp P a w' K Q) 0 ops.toList)
    (hend : ∀ (a' : Act) (w' : World), T (fun k => a0.tmps.getD k undef) n a' w' → Q .normal a' w') :
    (Code.region id ops true).wp P Q a0 w :=
  wp_region_slots (fr := fun k => a0.tmps.getD k undef) (T := T (fun k => a0.tmps.getD k undef)) hmix hn hqn hb ht hinj hm hstab hs hd (fun _ _ => rfl) hops hmid htail hend
end
end Go.Proofs.YtccbofaefpbhlaaDoor.Rg

namespace Go.Proofs.YtccbofaefpbhlaaDoor.Rg
set_option linter.unusedVariables false
set_option maxRecDepth 20000
open Go.RowKit

/-- What is known of a slot. -/
inductive Wd where
  | eq (v : Value)
  | mem (p : Nat → Bool)
  | box
def Wd.ok : Wd → World → Value → Prop
  | .eq u, _, v => v = u
  | .mem p, w, v => ∃ S, IsSet w v S ∧ ∀ c, memS S c = p c
  | .box, w, v => ∃ g, v = .pointer (some ⟨g, 0, none⟩) ∧ Blk w g 29 #[.slice none 0 0]
theorem Wd.stable {d : Wd} {w w' : World} {v : Value} (hb : Below w.heap.size w w') (h : d.ok w v) : d.ok w' v := by
  cases d with
  | eq u => exact h
  | mem p => obtain ⟨S, h1, h2⟩ := h; exact ⟨S, h1.below hb, h2⟩
  | box => obtain ⟨g, h1, h2⟩ := h; exact ⟨g, h1, h2.on hb⟩
theorem arr_eta (t : Array Value) (n : Nat) (h : t.size = n) : t = ((List.range n).map fun k => t.getD k undef).toArray := by
  subst h
  apply Array.ext
  · simp
  · intro i h1 h2
    simp [h1]
theorem wanted_none {o : Oper} {y : Nat → Option Bool} (h : o.guard = none) : Region.wanted o y = true := by simp [Region.wanted, h]
theorem wanted_some {o oj : Oper} {ops : Array Oper} {t : Array Value} {j d : Nat} {b : Bool} (h : o.guard = some (j, b)) (hj : ops[j]? = some oj) (hd : oj.dst = some d) (ht : d < t.size) (hv : t.getD d undef = .bool b) : Region.wanted o (yielded ops t) = true := by
  have h1 : t[d]? = some (.bool b) := by
    rw [Array.getElem?_eq_getElem ht]
    simpa [ht] using hv
  simp [Region.wanted, h, yielded, hj, hd, h1]
section
variable {o : Oper} {a : Act} {w : World} {K : Act → World → Prop} {Q : Exit → Act → World → Prop}
theorem wp_move {x : Operand} (ho : o.op = .move x) (h : K (a.put o.dst (a.eval x)) w) : o.wp Tryd.prog a w K Q := by
  unfold Oper.wp
  rw [show (execOp a.eval o).run Tryd.prog w = .ok (.value (a.eval x)) w from by simp [execOp, ho]]
  exact h
theorem wp_load29 {t g : Nat} {v : Value} (ho : o.op = .load 29 (.tmp t)) (he : a.tmps.getD t undef = .pointer (some ⟨g, 0, none⟩)) (hc : w.cell? ⟨g, 0, none⟩ = some v) (h : K (a.put o.dst (.agg #[v])) w) : o.wp Tryd.prog a w K Q := by
  unfold Oper.wp
  have he' : a.tmps[t]?.getD undef = .pointer (some ⟨g, 0, none⟩) := by simpa using he
  simp [execOp, ho, he', go_sem, hc, Tryd.isAgg29, Tryd.sizeOf29]
  exact h
theorem wp_alloc29 (ho : o.op = .alloc 29) (h : K (a.put o.dst (.pointer (some ⟨w.heap.size, 0, none⟩))) (w.alloc (.cells #[.slice none 0 0] 29))) : o.wp Tryd.prog a w K Q := by
  unfold Oper.wp
  simp [execOp, ho, go_sem, Tryd.zeroValue29]
  exact h
theorem wp_store29 {t s g n c : Nat} {ao : Option Addr} {u : Value} (ho : o.op = .store 29 (.tmp t) (.tmp s)) (hd : o.dst = none) (he : a.tmps.getD t undef = .pointer (some ⟨g, 0, none⟩)) (hv : a.tmps.getD s undef = .agg #[.slice ao n c]) (hc : w.cell? ⟨g, 0, none⟩ = some u) (hf : w.frozen? ⟨g, 0, none⟩ = false) (h : K a (w.setCell ⟨g, 0, none⟩ (.slice ao n c))) : o.wp Tryd.prog a w K Q := by
  unfold Oper.wp
  have he' : a.tmps[t]?.getD undef = .pointer (some ⟨g, 0, none⟩) := by simpa using he
  have hv' : a.tmps[s]?.getD undef = .agg #[.slice ao n c] := by simpa using hv
  simp [execOp, ho, he', hv', go_sem, hc, hf, hd]
  exact h
theorem wp_assign {x : Operand} (ho : o.op = .assign x) (h : K (a.put o.dst (a.eval x)) w) : o.wp Tryd.prog a w K Q := by
  unfold Oper.wp
  rw [show (execOp a.eval o).run Tryd.prog w = .ok (.value (a.eval x)) w from by simp [execOp, ho]]
  exact h
theorem wp_pick_yes {t : Nat} {x y : Operand} (ho : o.op = .pick (.tmp t) x y) (he : a.tmps.getD t undef = .bool true) (h : K (a.put o.dst (a.eval x)) w) : o.wp Tryd.prog a w K Q := by
  unfold Oper.wp
  have he' : a.eval (.tmp t) = .bool true := he
  rw [show (execOp a.eval o).run Tryd.prog w = .ok (.value (a.eval x)) w from by simp [execOp, ho, he', asBool]]
  exact h
theorem wp_eql {x y : Operand} {k : IntKind} {n m : Int} {b : Bool} (ho : o.op = .binOp .eql 3 x y 3) (hx : a.eval x = .int k n) (hy : a.eval y = .int k m) (hb : (n == m) = b) (h : K (a.put o.dst (.bool b)) w) : o.wp Tryd.prog a w K Q := by
  unfold Oper.wp
  simp only [execOp, ho, hx, hy]
  simp [go_sem, hb]
  exact h
theorem wp_add {t1 : TypeId} {x y : Operand} {k : IntKind} {n m s : Int} (ho : o.op = .binOp .add t1 x y t1) (hx : a.eval x = .int k n) (hy : a.eval y = .int k m) (hs : k.wrap (n + m) = s) (h : K (a.put o.dst (.int k s)) w) : o.wp Tryd.prog a w K Q := by
  unfold Oper.wp
  simp only [execOp, ho, hx, hy]
  simp [go_sem, hs]
  exact h
theorem wp_conv32 {x : Operand} {n : Int} (ho : o.op = .convert 3 21 x) (hx : a.eval x = .int .i64 n) (hs : IntKind.i32.wrap n = n) (h : K (a.put o.dst (.int .i32 n)) w) : o.wp Tryd.prog a w K Q := by
  unfold Oper.wp
  simp only [execOp, ho, hx]
  simp [go_sem, hs]
  exact h
theorem wp_call1 {f s1 : Nat} {ts : Array TypeId} (ho : o.op = .call { callee := .value (.func f), args := #[.tmp s1], argTypes := ts }) (eg : ∀ args w, (callFunc f args).run Tryd.prog w = .ok (.enter f args) w)
    (h : Calls Tryd.prog f #[a.tmps.getD s1 undef] w fun e w'' => ∃ v, e = .returned v ∧ K (a.put o.dst v) w'') : o.wp Tryd.prog a w K Q := by
  unfold Oper.wp
  rw [show (execOp a.eval o).run Tryd.prog w = .ok (.enter f #[a.tmps.getD s1 undef]) w from by simp [execOp, ho, resolve, invoke, Act.eval, eg, go_sem, Deferred.ofValue]]
  refine h.mono ?_
  rintro e w'' ⟨v, rfl, hk⟩
  exact hk
theorem wp_call2 {f s1 s2 : Nat} {ts : Array TypeId} (ho : o.op = .call { callee := .value (.func f), args := #[.tmp s1, .tmp s2], argTypes := ts }) (eg : ∀ args w, (callFunc f args).run Tryd.prog w = .ok (.enter f args) w)
    (h : Calls Tryd.prog f #[a.tmps.getD s1 undef, a.tmps.getD s2 undef] w fun e w'' => ∃ v, e = .returned v ∧ K (a.put o.dst v) w'') : o.wp Tryd.prog a w K Q := by
  unfold Oper.wp
  rw [show (execOp a.eval o).run Tryd.prog w = .ok (.enter f #[a.tmps.getD s1 undef, a.tmps.getD s2 undef]) w from by simp [execOp, ho, resolve, invoke, Act.eval, eg, go_sem, Deferred.ofValue]]
  refine h.mono ?_
  rintro e w'' ⟨v, rfl, hk⟩
  exact hk
end
/-! Two sets made, and laid into two boxes. -/
/-- The two boxes, and what lies in them. -/
def BoxTwo (W : World) (pA pB : Nat → Bool) (v1 v2 : Value) (w : World) : Prop :=
  ∃ (g1 g2 : Nat) (aA aB : Option Addr) (nA cA nB cB : Nat) (SA SB : List (Nat × Nat)), v1 = .pointer (some ⟨g1, 0, none⟩) ∧ v2 = .pointer (some ⟨g2, 0, none⟩) ∧ Blk w g1 29 #[.slice aA nA cA] ∧ Blk w g2 29 #[.slice aB nB cB] ∧
    IsSet w (.agg #[.slice aA nA cA]) SA ∧ (∀ c, memS SA c = pA c) ∧ IsSet w (.agg #[.slice aB nB cB]) SB ∧ (∀ c, memS SB c = pB c) ∧ Below W.heap.size W w
/-- While the stores come up. -/
def TwoT (W : World) (m q : Nat) (ds : Nat → Nat) (fr : Nat → Value) (p1 p2 s1 s2 : Nat) (pA pB : Nat → Bool) (k : Nat) (a : Act) (w : World) : Prop :=
  a.tmps.size = m ∧ a.defers = [] ∧ (∀ j, j < m → (∀ i, i < q → ds i ≠ j) → a.tmps.getD j undef = fr j) ∧
  ∃ (g1 g2 : Nat) (x y : Value) (aA aB : Option Addr) (nA cA nB cB : Nat) (SA SB : List (Nat × Nat)), a.tmps.getD p1 undef = .pointer (some ⟨g1, 0, none⟩) ∧ a.tmps.getD p2 undef = .pointer (some ⟨g2, 0, none⟩) ∧ g1 ≠ g2 ∧ W.heap.size ≤ g1 ∧ W.heap.size ≤ g2 ∧
    a.tmps.getD s1 undef = .agg #[.slice aA nA cA] ∧ a.tmps.getD s2 undef = .agg #[.slice aB nB cB] ∧ Blk w g1 29 #[x] ∧ Blk w g2 29 #[y] ∧ (∃ b n c, x = .slice b n c) ∧ (∃ b n c, y = .slice b n c) ∧ (q < k → x = .slice aA nA cA) ∧ (q + 1 < k → y = .slice aB nB cB) ∧
    IsSet w (.agg #[.slice aA nA cA]) SA ∧ (∀ c, memS SA c = pA c) ∧ IsSet w (.agg #[.slice aB nB cB]) SB ∧ (∀ c, memS SB c = pB c) ∧ Below W.heap.size W w
section
variable {W w : World} {m q p1 p2 s1 s2 : Nat} {ds : Nat → Nat} {fr : Nat → Value} {pA pB : Nat → Bool} {a : Act} {o : Oper} {K : Act → World → Prop} {Q : Exit → Act → World → Prop}
theorem two_store1 (h : TwoT W m q ds fr p1 p2 s1 s2 pA pB q a w) (ho : o.op = .store 29 (.tmp p1) (.tmp s1)) (hd : o.dst = none) (hK : ∀ a' w', TwoT W m q ds fr p1 p2 s1 s2 pA pB (q + 1) a' w' → K a' w') : o.wp Tryd.prog a w K Q := by
  obtain ⟨h1, h2, h3, g1, g2, x, y, aA, aB, nA, cA, nB, cB, SA, SB, e1, e2, hne, z1, z2, e3, e4, b1, b2, ⟨xb, xn, xc, rfl⟩, hy, _, _, i1, m1, i2, m2, hb⟩ := h
  refine wp_store29 ho hd e1 e3 b1.cell0 (b1.free 0) (hK _ _ ⟨h1, h2, h3, g1, g2, _, y, aA, aB, nA, cA, nB, cB, SA, SB, e1, e2, hne, z1, z2, e3, e4, b1.set0 _, b2.far (p := ⟨g1, 0, none⟩) (Ne.symm hne) _, ⟨_, _, _, rfl⟩, hy, fun _ => rfl, fun h => absurd h (Nat.lt_irrefl _), i1.far b1.cell0 _, m1, i2.far b1.cell0 _, m2, hb.setCell (p := ⟨g1, 0, none⟩) z1 _⟩)
theorem two_store2 (h : TwoT W m q ds fr p1 p2 s1 s2 pA pB (q + 1) a w) (ho : o.op = .store 29 (.tmp p2) (.tmp s2)) (hd : o.dst = none) (hK : ∀ a' w', TwoT W m q ds fr p1 p2 s1 s2 pA pB (q + 2) a' w' → K a' w') : o.wp Tryd.prog a w K Q := by
  obtain ⟨h1, h2, h3, g1, g2, x, y, aA, aB, nA, cA, nB, cB, SA, SB, e1, e2, hne, z1, z2, e3, e4, b1, b2, hx, ⟨yb, yn, yc, rfl⟩, hxe, _, i1, m1, i2, m2, hb⟩ := h
  refine wp_store29 ho hd e2 e4 b2.cell0 (b2.free 0) (hK _ _ ⟨h1, h2, h3, g1, g2, x, _, aA, aB, nA, cA, nB, cB, SA, SB, e1, e2, hne, z1, z2, e3, e4, b1.far (p := ⟨g2, 0, none⟩) hne _, b2.set0 _, hx, ⟨_, _, _, rfl⟩, fun _ => hxe (Nat.lt_succ_self _), fun _ => rfl, i1.far b2.cell0 _, m1, i2.far b2.cell0 _, m2, hb.setCell (p := ⟨g2, 0, none⟩) z2 _⟩)
theorem TwoT.boxes (h : TwoT W m q ds fr p1 p2 s1 s2 pA pB (q + 2) a w) : BoxTwo W pA pB (a.tmps.getD p1 undef) (a.tmps.getD p2 undef) w := by
  obtain ⟨h1, h2, h3, g1, g2, x, y, aA, aB, nA, cA, nB, cB, SA, SB, e1, e2, hne, z1, z2, e3, e4, b1, b2, hx, hy, hxe, hye, i1, m1, i2, m2, hb⟩ := h
  have ex := hxe (by omega)
  have ey := hye (by omega)
  subst ex
  subst ey
  exact ⟨g1, g2, aA, aB, nA, cA, nB, cB, SA, SB, e1, e2, b1, b2, i1, m1, i2, m2, hb⟩
/-- At their beginning. -/
theorem TwoT.start (h1 : a.tmps.size = m) (h2 : a.defers = []) (h3 : ∀ j, j < m → (∀ i, i < q → ds i ≠ j) → a.tmps.getD j undef = fr j) (hb : Below W.heap.size W w) (e1 : Wd.box.ok w (a.tmps.getD p1 undef)) (e2 : Wd.box.ok w (a.tmps.getD p2 undef))
    (f1 : ∃ g, a.tmps.getD p1 undef = .pointer (some ⟨g, 0, none⟩) ∧ W.heap.size ≤ g ∧ g < w.heap.size) (f2 : ∃ g, a.tmps.getD p2 undef = .pointer (some ⟨g, 0, none⟩) ∧ W.heap.size ≤ g ∧ g < w.heap.size) (hne : a.tmps.getD p1 undef ≠ a.tmps.getD p2 undef)
    (e3 : (Wd.mem pA).ok w (a.tmps.getD s1 undef)) (e4 : (Wd.mem pB).ok w (a.tmps.getD s2 undef)) : TwoT W m q ds fr p1 p2 s1 s2 pA pB q a w := by
  obtain ⟨g1, q1, b1⟩ := e1
  obtain ⟨g2, q2, b2⟩ := e2
  obtain ⟨g1', q1', z1, _⟩ := f1
  obtain ⟨g2', q2', z2, _⟩ := f2
  obtain rfl : g1' = g1 := by rw [q1] at q1'; injection q1' with q1'; injection q1' with q1'; injection q1' with q1'; exact q1'.symm
  obtain rfl : g2' = g2 := by rw [q2] at q2'; injection q2' with q2'; injection q2' with q2'; injection q2' with q2'; exact q2'.symm
  obtain ⟨SA, i1, m1⟩ := e3
  obtain ⟨SB, i2, m2⟩ := e4
  obtain ⟨aA, cA, s1e⟩ := i1.shape
  obtain ⟨aB, cB, s2e⟩ := i2.shape
  rw [s1e] at i1
  rw [s2e] at i2
  exact ⟨h1, h2, h3, _, _, _, _, aA, aB, _, cA, _, cB, SA, SB, q1, q2, fun e => hne (by rw [q1, q2, e]), z1, z2, s1e, s2e, b1, b2, ⟨_, _, _, rfl⟩, ⟨_, _, _, rfl⟩, fun h => absurd h (Nat.lt_irrefl _), fun h => by omega, i1, m1, i2, m2, hb⟩
end
end Go.Proofs.YtccbofaefpbhlaaDoor.Rg
