/-
  Tables, plainly: what is told of the rows from the start, and round by round.
-/
import Derived.Test.YthmdapcieghbbabDoorTM
namespace Go.Proofs.YthmdapcieghbbabDoor
set_option linter.unusedVariables false
set_option maxRecDepth 20000
open Go.RowKit

/-- Row i's mapping. -/
def mp (T : List Rw) (i : Nat) : List Int := (T.getD i Rw.nil).map
def isT (T : List Rw) (t : Nat) (c : Int) : Bool := decide (idx T c = some t)
def isN (T : List Rw) (c : Int) : Bool := decide (idx T c = none)
def isS (T : List Rw) (c : Int) : Bool := (idx T c).isSome

theorem target_fold (T : List Rw) (i : Nat) : ∀ (l : List Int) (m : Ms),
    (∀ x, (l.foldl (Ms.target T i) m).len x = m.len x + if x = i then l.countP (isN T) else 0) ∧
    (∀ x, (l.foldl (Ms.target T i) m).wants x = m.wants x + if x = i then (l.countP (isS T) : Nat) else 0) ∧
    (∀ t u, ((l.foldl (Ms.target T i) m).users t).count u = (m.users t).count u + if u = i then l.countP (isT T t) else 0) ∧
    (∀ t, ((l.foldl (Ms.target T i) m).users t).length ≤ (m.users t).length + l.length) ∧
    (l.foldl (Ms.target T i) m).ready = m.ready
  | [], m => by simp
  | c :: l, m => by
    obtain ⟨h1, h2, h3, h4, h5⟩ := target_fold T i l (m.target T i c)
    rw [List.foldl_cons]
    cases hx : idx T c with
    | none =>
      have e : m.target T i c = ⟨upd m.len i (m.len i + 1), m.wants, m.users, m.ready⟩ := by unfold Ms.target; rw [hx]
      rw [e] at h1 h2 h3 h4 h5 ⊢
      refine ⟨fun x => ?_, fun x => ?_, fun t u => ?_, fun t => ?_, h5⟩
      · rw [h1]
        by_cases hxi : x = i
        · subst hxi; simp [upd, List.countP_cons, isN, hx]; omega
        · simp [upd, hxi]
      · rw [h2]
        by_cases hxi : x = i
        · subst hxi; simp [List.countP_cons, isS, hx]
        · simp [hxi]
      · rw [h3]
        by_cases hxi : u = i
        · subst hxi; simp [List.countP_cons, isT, hx]
        · simp [hxi]
      · have := h4 t; simp only [List.length_cons] at this ⊢; omega
    | some s =>
      have e : m.target T i c = ⟨m.len, upd m.wants i (m.wants i + 1), upd m.users s (m.users s ++ [i]), m.ready⟩ := by unfold Ms.target; rw [hx]
      rw [e] at h1 h2 h3 h4 h5 ⊢
      refine ⟨fun x => ?_, fun x => ?_, fun t u => ?_, fun t => ?_, h5⟩
      · rw [h1]
        by_cases hxi : x = i
        · subst hxi; simp [List.countP_cons, isN, hx]
        · simp [hxi]
      · rw [h2]
        by_cases hxi : x = i
        · subst hxi; simp [upd, List.countP_cons, isS, hx]; omega
        · simp [upd, hxi]
      · rw [h3]
        show List.count u (upd m.users s (m.users s ++ [i]) t) + _ = _
        by_cases hts : t = s
        · subst hts
          simp only [upd_same, List.count_append, List.count_singleton]
          by_cases hxi : u = i
          · subst hxi; simp [List.countP_cons, isT, hx]; omega
          · simp [hxi, Ne.symm hxi]
        · rw [upd_other _ hts]
          by_cases hxi : u = i
          · subst hxi; simp [List.countP_cons, isT, hx, Ne.symm hts]
          · simp [hxi]
      · have := h4 t
        by_cases hts : t = s
        · subst hts; simp only [upd_same, List.length_append, List.length_cons, List.length_nil] at this ⊢; omega
        · simp only [upd_other _ hts] at this; simp only [List.length_cons]; omega

theorem isReady_len (m : Ms) (i : Nat) : (m.isReady i).len = m.len := by unfold Ms.isReady; split <;> rfl
theorem isReady_wants (m : Ms) (i : Nat) : (m.isReady i).wants = m.wants := by unfold Ms.isReady; split <;> rfl
theorem isReady_users (m : Ms) (i : Nat) : (m.isReady i).users = m.users := by unfold Ms.isReady; split <;> rfl
theorem base_wants (m : Ms) (i : Nat) (r : Rw) : (m.base i r).wants = m.wants := by unfold Ms.base; split <;> rfl
theorem base_users (m : Ms) (i : Nat) (r : Rw) : (m.base i r).users = m.users := by unfold Ms.base; split <;> rfl
theorem base_ready (m : Ms) (i : Nat) (r : Rw) : (m.base i r).ready = m.ready := by unfold Ms.base; split <;> rfl
theorem base_len (m : Ms) (i : Nat) (r : Rw) (x : Nat) : (m.base i r).len x = if x = i ∧ r.map = [] then 1 else m.len x := by
  unfold Ms.base
  by_cases h : r.map = []
  · rw [if_pos h]; simp [upd, h]
  · rw [if_neg h]; simp [h]

/-- What is known of the rows up to k. -/
structure Known (T : List Rw) (k : Nat) (m : Ms) : Prop where
  len : ∀ x, m.len x = if x < k then (if mp T x = [] then 1 else (mp T x).countP (isN T)) else 0
  wants : ∀ x, m.wants x = if x < k then ((mp T x).countP (isS T) : Nat) else 0
  users : ∀ t u, (m.users t).count u = if u < k then (mp T u).countP (isT T t) else 0
  nodup : m.ready.Nodup
  ready : ∀ x, x ∈ m.ready ↔ x < k ∧ m.wants x = 0

theorem known_row {T : List Rw} {k : Nat} {m : Ms} (h : Known T k m) : Known T (k + 1) (m.row T k) := by
  obtain ⟨f1, f2, f3, f4, f5⟩ := target_fold T k (mp T k) (m.base k (T.getD k Rw.nil))
  have eL : ∀ x, (m.row T k).len x = if x < k + 1 then (if mp T x = [] then 1 else (mp T x).countP (isN T)) else 0 := fun x => by
    show (Ms.isReady _ k).len x = _
    rw [isReady_len]
    refine (f1 x).trans ?_
    rw [base_len, h.len]
    by_cases hx : x = k
    · subst hx
      by_cases hm : mp T x = []
      · have hm' : (T.getD x Rw.nil).map = [] := hm
        rw [if_pos ⟨rfl, hm'⟩]
        simp [hm]
      · have hm' : ¬ (T.getD x Rw.nil).map = [] := hm
        rw [if_neg (fun h => hm' h.2)]
        simp [hm]
    · have e : (x < k + 1) = (x < k) := by simp; omega
      simp [hx, e]
  have eW : ∀ x, (m.row T k).wants x = if x < k + 1 then ((mp T x).countP (isS T) : Nat) else 0 := fun x => by
    show (Ms.isReady _ k).wants x = _
    rw [isReady_wants]
    refine (f2 x).trans ?_
    rw [base_wants, h.wants]
    by_cases hx : x = k
    · subst hx; simp
    · have e : (x < k + 1) = (x < k) := by simp; omega
      simp [hx, e]
  have eU : ∀ t u, ((m.row T k).users t).count u = if u < k + 1 then (mp T u).countP (isT T t) else 0 := fun t u => by
    show ((Ms.isReady _ k).users t).count u = _
    rw [isReady_users]
    refine (f3 t u).trans ?_
    rw [base_users, h.users]
    by_cases hx : u = k
    · subst hx; simp
    · have e : (u < k + 1) = (u < k) := by simp; omega
      simp [hx, e]
  have hnk : k ∉ m.ready := fun hk => by have := ((h.ready k).1 hk).1; omega
  have hw : ∀ x, x ≠ k → (m.row T k).wants x = m.wants x := fun x hx => by
    rw [eW, h.wants]
    have e : (x < k + 1) = (x < k) := by simp; omega
    simp [e]
  have hwk : (((mp T k).foldl (Ms.target T k) (m.base k (T.getD k Rw.nil)))).wants k = (m.row T k).wants k := by
    show _ = (Ms.isReady _ k).wants k
    rw [isReady_wants]; rfl
  have eR : (m.row T k).ready = if (m.row T k).wants k = 0 then m.ready ++ [k] else m.ready := by
    rw [← hwk]
    show (Ms.isReady _ k).ready = _
    unfold Ms.isReady
    have f5' := f5
    rw [base_ready] at f5'
    split
    · rename_i h0
      rw [if_pos (by exact h0)]
      exact congrArg (· ++ [k]) f5'
    · rename_i h0
      rw [if_neg (by exact h0)]
      exact f5'
  refine ⟨eL, eW, eU, ?_, fun x => ?_⟩
  · rw [eR]
    split
    · exact List.nodup_append.2 ⟨h.nodup, by simp, fun a ha b hb => by simp at hb; subst hb; rintro rfl; exact hnk ha⟩
    · exact h.nodup
  · rw [eR]
    by_cases hx : x = k
    · subst hx
      split
      · rename_i h0; simp [h0]
      · rename_i h0; simp [h0, hnk]
    · rw [hw x hx]
      have e : (x < k + 1) = (x < k) := by simp; omega
      rw [e, ← h.ready]
      split <;> simp [hx]

theorem known_all (T : List Rw) : ∀ k, Known T k (measC T k)
  | 0 => ⟨fun x => by simp [measC, Ms.none_], fun x => by simp [measC, Ms.none_], fun t u => by simp [measC, Ms.none_], by simp [measC, Ms.none_], fun x => by simp [measC, Ms.none_]⟩
  | k + 1 => by rw [measC_succ]; exact known_row (known_all T k)

/-- Telling users that are not the teller. -/
theorem tell_fold (k : Nat) : ∀ (l : List Nat) (m : Ms), k ∉ l →
    (∀ x, (l.foldl (Ms.tell1 k) m).len x = m.len x + l.count x * m.len k) ∧
    (∀ x, (l.foldl (Ms.tell1 k) m).wants x = m.wants x - (l.count x : Nat)) ∧
    (l.foldl (Ms.tell1 k) m).users = m.users ∧
    (l.foldl (Ms.tell1 k) m).ready.length ≤ m.ready.length + l.length ∧
    (∀ x, x ∈ (l.foldl (Ms.tell1 k) m).ready → x ∈ m.ready ∨ x ∈ l)
  | [], m, _ => by simp
  | i :: l, m, hk => by
    have hki : k ≠ i := fun e => hk (by simp [e])
    obtain ⟨h1, h2, h3, h4, h5⟩ := tell_fold k l (m.tell1 k i) (fun h => hk (by simp [h]))
    have eL : (m.tell1 k i).len = upd m.len i (m.len i + m.len k) := isReady_len _ _
    have eW : (m.tell1 k i).wants = upd m.wants i (m.wants i - 1) := isReady_wants _ _
    have eU : (m.tell1 k i).users = m.users := isReady_users _ _
    have eR : (m.tell1 k i).ready = m.ready ∨ (m.tell1 k i).ready = m.ready ++ [i] := by
      unfold Ms.tell1 Ms.isReady; split <;> simp
    rw [List.foldl_cons]
    refine ⟨fun x => ?_, fun x => ?_, h3.trans eU, ?_, fun x hx => ?_⟩
    · rw [h1, eL, upd_other _ hki]
      by_cases hx : x = i
      · subst hx; rw [upd_same, List.count_cons_self, Nat.add_mul]; omega
      · rw [upd_other _ hx, List.count_cons_of_ne (Ne.symm hx)]
    · rw [h2, eW]
      by_cases hx : x = i
      · subst hx; rw [upd_same, List.count_cons_self]; omega
      · rw [upd_other _ hx, List.count_cons_of_ne (Ne.symm hx)]
    · rcases eR with e | e <;> rw [e] at h4 <;> simp at h4 ⊢ <;> omega
    · rcases h5 x hx with h | h
      · rcases eR with e | e
        · rw [e] at h; exact .inl h
        · rw [e] at h; simp at h; rcases h with h | rfl
          · exact .inl h
          · exact .inr (by simp)
      · exact .inr (by simp [h])

theorem tell_ready (k : Nat) : ∀ (l : List Nat) (m : Ms), k ∉ l → (∀ x, (l.count x : Nat) ≤ m.wants x ∨ x ∉ l) → m.ready.Nodup → (∀ x ∈ m.ready, x ∉ l) →
    (l.foldl (Ms.tell1 k) m).ready.Nodup ∧ ∀ x, x ∈ (l.foldl (Ms.tell1 k) m).ready ↔ x ∈ m.ready ∨ (x ∈ l ∧ m.wants x = (l.count x : Nat))
  | [], m, _, _, hn, _ => ⟨hn, by simp⟩
  | i :: l, m, hk, hw, hn, hd => by
    have eW : (m.tell1 k i).wants = upd m.wants i (m.wants i - 1) := isReady_wants _ _
    have eR : (m.tell1 k i).ready = if m.wants i - 1 = 0 then m.ready ++ [i] else m.ready := by
      unfold Ms.tell1 Ms.isReady
      simp only [upd_same]
      split <;> rfl
    have hwi : ((i :: l).count i : Nat) ≤ m.wants i := by
      rcases hw i with h | h
      · exact h
      · exact absurd (by simp) h
    rw [List.count_cons_self] at hwi
    have hir : i ∉ m.ready := fun h => hd i h (by simp)
    have a1 : ∀ x, (l.count x : Nat) ≤ (m.tell1 k i).wants x ∨ x ∉ l := fun x => by
      rw [eW]
      by_cases hx : x = i
      · subst hx; left; rw [upd_same]; omega
      · rw [upd_other _ hx]
        rcases hw x with h | h
        · left; rw [List.count_cons_of_ne (Ne.symm hx)] at h; exact h
        · right; exact fun hh => h (by simp [hh])
    have a2 : (m.tell1 k i).ready.Nodup := by
      rw [eR]
      split
      · exact List.nodup_append.2 ⟨hn, by simp, fun a ha b hb => by simp at hb; subst hb; rintro rfl; exact hir ha⟩
      · exact hn
    have a3 : ∀ x ∈ (m.tell1 k i).ready, x ∉ l := by
      intro x hx hxl
      rw [eR] at hx
      split at hx
      · rename_i h1
        simp at hx
        rcases hx with hx | rfl
        · exact hd x hx (by simp [hxl])
        · have := List.count_pos_iff.2 hxl
          omega
      · exact hd x hx (by simp [hxl])
    obtain ⟨g1, g2⟩ := tell_ready k l (m.tell1 k i) (fun h => hk (by simp [h])) a1 a2 a3
    rw [List.foldl_cons]
    refine ⟨g1, fun x => ?_⟩
    rw [g2, eR, eW]
    by_cases hx : x = i
    · subst hx
      rw [upd_same, List.count_cons_self]
      by_cases hxl : x ∈ l
      · have hpos := List.count_pos_iff.2 hxl
        have h0 : ¬ m.wants x - 1 = 0 := by omega
        rw [if_neg h0]
        simp only [hxl, hir, List.mem_cons, true_or, true_and, false_or]
        omega
      · have h0 : l.count x = 0 := List.count_eq_zero.2 hxl
        rw [h0]
        split
        · rename_i h1
          simp only [List.mem_append, List.mem_cons, List.not_mem_nil, or_false, or_true, true_or, true_and, true_iff]
          right; omega
        · rename_i h1
          simp only [hir, hxl, false_and, or_false, List.mem_cons, true_or, true_and, false_or, false_iff]
          omega
    · rw [upd_other _ hx, List.count_cons_of_ne (Ne.symm hx)]
      split <;> simp [hx]
end Go.Proofs.YthmdapcieghbbabDoor
