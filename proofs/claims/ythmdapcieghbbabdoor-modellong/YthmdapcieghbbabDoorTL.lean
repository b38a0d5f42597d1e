/-
  Tables, plainly: what is known of the rows, round by round: a row waits for as many as are not told, and is as long as those that are told make it.
-/
import Derived.Test.YthmdapcieghbbabDoorTK
namespace Go.Proofs.YthmdapcieghbbabDoor
set_option linter.unusedVariables false
set_option maxRecDepth 20000
open Go.RowKit

theorem nodup_le : ∀ (n : Nat) (l : List Nat), l.Nodup → (∀ x ∈ l, x < n) → l.length ≤ n
  | 0, l, _, h => by
    cases l with
    | nil => simp
    | cons a l => have := h a (by simp); omega
  | n + 1, l, hn, h => by
    by_cases hm : n ∈ l
    · have h1 := nodup_le n (l.erase n) (hn.erase n) fun x hx => by
        have h2 := (List.Nodup.mem_erase_iff hn).1 hx
        have := h x h2.2
        omega
      rw [List.length_erase_of_mem hm] at h1
      omega
    · have := nodup_le n l hn fun x hx => by
        have h1 := h x hx
        have : x ≠ n := fun e => hm (e ▸ hx)
        omega
      omega

theorem tell_prefix (k : Nat) : ∀ (l : List Nat) (m : Ms), ∃ e, (l.foldl (Ms.tell1 k) m).ready = m.ready ++ e
  | [], m => ⟨[], by simp⟩
  | i :: l, m => by
    obtain ⟨e, he⟩ := tell_prefix k l (m.tell1 k i)
    rw [List.foldl_cons, he]
    have eR : (m.tell1 k i).ready = m.ready ∨ (m.tell1 k i).ready = m.ready ++ [i] := by
      unfold Ms.tell1 Ms.isReady; split <;> simp
    rcases eR with h | h
    · exact ⟨e, by rw [h]⟩
    · exact ⟨[i] ++ e, by rw [h]; simp⟩

/-- Does a row wait for this one, where some are told? -/
def isW (T : List Rw) (told : List Nat) (c : Int) : Bool := match idx T c with
  | some t => decide (t ∉ told)
  | none => false
def lenOf (T : List Rw) (L : Nat → Nat) (told : List Nat) (c : Int) : Nat := match idx T c with
  | some t => if t ∈ told then L t else 0
  | none => 1
theorem countW {T : List Rw} {told : List Nat} {k : Nat} (hk : k ∉ told) : ∀ (l : List Int), l.countP (isW T told) = l.countP (isW T (told ++ [k])) + l.countP (isT T k)
  | [] => rfl
  | c :: l => by
    rw [List.countP_cons, List.countP_cons, List.countP_cons, countW (T := T) hk l]
    unfold isW isT
    cases idx T c with
    | none => simp
    | some t =>
      by_cases h : t = k
      · subst h; simp [hk]; omega
      · by_cases h2 : t ∈ told <;> simp [h, h2] <;> omega
theorem sumW {T : List Rw} {told : List Nat} {k : Nat} (hk : k ∉ told) (L L' : Nat → Nat) (h1 : ∀ t ∈ told, L' t = L t) (h2 : L' k = L k) : ∀ (l : List Int), (l.map (lenOf T L' (told ++ [k]))).sum = (l.map (lenOf T L told)).sum + l.countP (isT T k) * L k
  | [] => by simp
  | c :: l => by
    have h3 := sumW (T := T) hk L L' h1 h2 l
    rw [List.map_cons, List.map_cons, List.sum_cons, List.sum_cons, List.countP_cons, h3, Nat.add_mul]
    unfold lenOf isT
    cases hx : idx T c with
    | none => simp; omega
    | some t =>
      by_cases h : t = k
      · subst h
        have e : lenOf T L told c = 0 := by unfold lenOf; rw [hx]; simp [hk]
        simp [hk, h2]; omega
      · by_cases h4 : t ∈ told
        · simp [h, h4, h1 t h4]; omega
        · simp [h, h4]

/-- What is known behind so many rounds. -/
structure Kf (T : List Rw) (known : Nat) (m : Ms) : Prop where
  kn : known ≤ m.ready.length
  users : ∀ t u, (m.users t).count u = if u < T.length then (mp T u).countP (isT T t) else 0
  wants : ∀ i, i < T.length → m.wants i = ((mp T i).countP (isW T (m.ready.take known)) : Nat)
  nodup : m.ready.Nodup
  ready : ∀ x, x ∈ m.ready ↔ x < T.length ∧ m.wants x = 0
  len : ∀ i, i < T.length → m.len i = (if mp T i = [] then 1 else 0) + ((mp T i).map (lenOf T m.len (m.ready.take known))).sum
  le : ∀ t ∈ m.ready.take known, m.len t ≤ 32

theorem kf_start (T : List Rw) : Kf T 0 (measC T T.length) := by
  have h := known_all T T.length
  refine ⟨Nat.zero_le _, fun t u => h.users t u, fun i hi => ?_, h.nodup, h.ready, fun i hi => ?_, by simp⟩
  · rw [h.wants, if_pos hi]
    congr 1
    simp only [List.take_zero]
    refine List.countP_congr fun c _ => ?_
    unfold isS isW
    cases idx T c <;> simp
  · rw [h.len, if_pos hi]
    have e : ∀ l : List Int, (l.map (lenOf T (measC T T.length).len ((measC T T.length).ready.take 0))).sum = l.countP (isN T) := by
      intro l
      induction l with
      | nil => rfl
      | cons c l ih =>
        rw [List.map_cons, List.sum_cons, List.countP_cons, ih]
        unfold lenOf isN
        cases idx T c <;> simp
        omega
    rw [e]
    by_cases hm : mp T i = []
    · simp [hm]
    · simp [hm]

theorem Kf.lt {T : List Rw} {known : Nat} {m : Ms} (h : Kf T known m) {x : Nat} (hx : x ∈ m.ready) : x < T.length := ((h.ready x).1 hx).1
theorem Kf.few {T : List Rw} {known : Nat} {m : Ms} (h : Kf T known m) : m.ready.length ≤ T.length := nodup_le _ _ h.nodup fun x hx => h.lt hx
/-- One that is ready, or told, has no target that is not told. -/
theorem Kf.none_ {T : List Rw} {known : Nat} {m : Ms} (h : Kf T known m) {x : Nat} (hx : x ∈ m.ready) {t : Nat} (ht : t ∉ m.ready.take known) : (mp T x).countP (isT T t) = 0 := by
  obtain ⟨h1, h2⟩ := (h.ready x).1 hx
  rw [h.wants x h1] at h2
  have h3 := countW (T := T) ht (mp T x)
  omega

theorem getD_take_not {l : List Nat} (hn : l.Nodup) {k : Nat} (hk : k < l.length) : l.getD k 0 ∉ l.take k := by
  intro h
  obtain ⟨j, hj, e⟩ := List.mem_iff_getElem.1 h
  rw [List.length_take] at hj
  rw [List.getElem_take] at e
  rw [List.getD_eq_getElem?_getD, List.getElem?_eq_getElem hk] at e
  have hp := List.pairwise_iff_getElem.1 hn j k (by omega) hk (by omega)
  exact hp (by simpa using e)
theorem take_succ_getD {l : List Nat} {k : Nat} (hk : k < l.length) : l.take (k + 1) = l.take k ++ [l.getD k 0] := by
  rw [List.take_succ_eq_append_getElem hk, List.getD_eq_getElem?_getD, List.getElem?_eq_getElem hk]
  rfl
theorem getD_mem' {l : List Nat} {k : Nat} (hk : k < l.length) : l.getD k 0 ∈ l := by
  rw [List.getD_eq_getElem?_getD, List.getElem?_eq_getElem hk]
  exact List.getElem_mem hk

/-- The next row to be told is none of its own users. -/
theorem Kf.apart {T : List Rw} {known : Nat} {m : Ms} (h : Kf T known m) (hk : known < m.ready.length) : m.ready.getD known 0 ∉ m.users (m.ready.getD known 0) := by
  have hm := getD_mem' hk
  have h1 := h.none_ hm (getD_take_not h.nodup hk)
  have h2 := h.users (m.ready.getD known 0) (m.ready.getD known 0)
  rw [if_pos (h.lt hm), h1] at h2
  exact List.count_eq_zero.1 h2

theorem kf_round {T : List Rw} {known : Nat} {m m' : Ms} (h : Kf T known m) (hr : m.round known = some m') : Kf T (known + 1) m' := by
  unfold Ms.round at hr
  have hk : known < m.ready.length := by
    have := h.kn
    split at hr
    · cases hr
    · omega
  rw [if_neg (by omega)] at hr
  have hap := h.apart hk
  have hm := getD_mem' hk
  have hnt := getD_take_not h.nodup hk
  have hts := take_succ_getD hk
  generalize m.ready.getD known 0 = k at *
  have hL : ¬ m.len k > 32 := fun hh => by rw [if_pos hh] at hr; cases hr
  rw [if_neg hL] at hr
  injection hr with hr
  subst hr
  unfold Ms.tell
  obtain ⟨f1, f2, f3, f4, f5⟩ := tell_fold k (m.users k) m hap
  have hcle : ∀ x, x < T.length → ((m.users k).count x : Nat) ≤ m.wants x := fun x hx => by
    rw [h.users, if_pos hx, h.wants x hx]
    have := countW (T := T) hnt (mp T x)
    omega
  have hout : ∀ x, ¬ x < T.length → x ∉ m.users k := fun x hx => by
    have := h.users k x
    rw [if_neg hx] at this
    exact List.count_eq_zero.1 this
  obtain ⟨g1, g2⟩ := tell_ready k (m.users k) m hap (fun x => by
    by_cases hx : x < T.length
    · exact .inl (hcle x hx)
    · exact .inr (hout x hx)) h.nodup (fun x hx hu => by
      have h1 := hcle x (h.lt hx)
      rw [((h.ready x).1 hx).2] at h1
      have := List.count_pos_iff.2 hu
      omega)
  obtain ⟨e, he⟩ := tell_prefix k (m.users k) m
  have htake : ((m.users k).foldl (Ms.tell1 k) m).ready.take (known + 1) = m.ready.take known ++ [k] := by
    rw [he, List.take_append_of_le_length (by omega), hts]
  have hkeep : ∀ t, t ∈ m.ready → ((m.users k).foldl (Ms.tell1 k) m).len t = m.len t := fun t ht => by
    rw [f1]
    have : (m.users k).count t = 0 := by rw [h.users, if_pos (h.lt ht)]; exact h.none_ ht hnt
    rw [this]; omega
  refine ⟨?_, fun t u => ?_, fun i hi => ?_, g1, fun x => ?_, fun i hi => ?_, fun t ht => ?_⟩
  · rw [he, List.length_append]; omega
  · rw [f3]; exact h.users t u
  · rw [f2, htake, h.wants i hi, h.users, if_pos hi, countW hnt]; omega
  · rw [g2, f2]
    by_cases hx : x < T.length
    · have h1 := hcle x hx
      rw [h.ready]
      by_cases hu : x ∈ m.users k
      · have := List.count_pos_iff.2 hu
        simp only [hx, hu, true_and]
        omega
      · have h0 : (m.users k).count x = 0 := List.count_eq_zero.2 hu
        simp only [hx, hu, true_and, false_and, or_false]
        omega
    · have h1 : x ∉ m.ready := fun hh => hx (h.lt hh)
      have h2 := hout x hx
      simp [h1, h2, hx]
  · rw [f1, htake, h.len i hi, h.users, if_pos hi, sumW hnt m.len _ (fun t ht => hkeep t (List.mem_of_mem_take ht)) (hkeep k hm)]
    omega
  · rw [htake] at ht
    simp only [List.mem_append, List.mem_cons, List.not_mem_nil, or_false] at ht
    rcases ht with ht | rfl
    · rw [hkeep t (List.mem_of_mem_take ht)]; exact h.le t ht
    · rw [hkeep t hm]; omega

theorem kf_all (T : List Rw) : ∀ (f : Nat) (m : Ms), stAt T f = some m → Kf T f m
  | 0, m, h => by simp only [stAt] at h; injection h with h; subst h; exact kf_start T
  | f + 1, m, h => by
    simp only [stAt] at h
    split at h
    · cases h
    · rename_i m0 h0
      exact kf_round (kf_all T f m0 h0) h

theorem sum_le {l : List Int} {f : Int → Nat} {b : Nat} (h : ∀ c ∈ l, f c ≤ b) : (l.map f).sum ≤ l.length * b := by
  induction l with
  | nil => simp
  | cons c l ih =>
    have h1 := h c (by simp)
    have h2 := ih fun x hx => h x (by simp [hx])
    rw [List.map_cons, List.sum_cons, List.length_cons, Nat.add_mul]
    omega
theorem Kf.len_le {T : List Rw} {known : Nat} {m : Ms} (h : Kf T known m) {i : Nat} (hi : i < T.length) : m.len i ≤ 1 + (mp T i).length * 32 := by
  rw [h.len i hi]
  have : ((mp T i).map (lenOf T m.len (m.ready.take known))).sum ≤ (mp T i).length * 32 := sum_le fun c _ => by
    unfold lenOf
    split
    · split
      · exact h.le _ (by assumption)
      · omega
    · omega
  split <;> omega
theorem Kf.wants_le {T : List Rw} {known : Nat} {m : Ms} (h : Kf T known m) {i : Nat} (hi : i < T.length) : 0 ≤ m.wants i ∧ m.wants i ≤ ((mp T i).length : Nat) := by
  rw [h.wants i hi]
  have := List.countP_le_length (p := isW T (m.ready.take known)) (l := mp T i)
  omega
theorem Kf.count_le {T : List Rw} {known : Nat} {m : Ms} (h : Kf T known m) (t u : Nat) : (m.users t).count u ≤ (mp T u).length := by
  rw [h.users]
  split
  · exact List.countP_le_length
  · omega
theorem Kf.users_lt {T : List Rw} {known : Nat} {m : Ms} (h : Kf T known m) {t u : Nat} (hu : u ∈ m.users t) : u < T.length := by
  have h1 := h.users t u
  have h2 := List.count_pos_iff.2 hu
  by_cases hx : u < T.length
  · exact hx
  · rw [if_neg hx] at h1; omega
end Go.Proofs.YthmdapcieghbbabDoor
