/-
  What digits.Text writes: plain arithmetic.
-/
import Derived.Test.YtobfhidajcnfdaaDoorTextC
namespace Go.Proofs.YtobfhidajcnfdaaDoor
set_option linter.unusedVariables false

/-- The last k decimal digits of a number. -/
def padk : Nat → Nat → List UInt8
  | 0, _ => []
  | k + 1, r => padk k (r / 10) ++ [UInt8.ofNat (48 + r % 10)]
theorem dec_pad (q : Nat) (hq : 1 ≤ q) : ∀ (k r : Nat), r < 10 ^ k → Lib.decDigits (q * 10 ^ k + r) = Lib.decDigits q ++ padk k r
  | 0, r, h => by
    have : r = 0 := by simpa using h
    simp [padk, this]
  | k + 1, r, h => by
    have h10 : ¬ q * 10 ^ (k + 1) + r < 10 := by
      have : 1 ≤ 10 ^ k := Nat.one_le_pow _ _ (by decide)
      have : q * 10 ^ (k + 1) = q * 10 ^ k * 10 := by rw [Nat.pow_succ, Nat.mul_assoc]
      have : 1 ≤ q * 10 ^ k := Nat.mul_pos hq (by omega)
      omega
    have e1 : (q * 10 ^ (k + 1) + r) / 10 = q * 10 ^ k + r / 10 := by
      have : q * 10 ^ (k + 1) = q * 10 ^ k * 10 := by rw [Nat.pow_succ, Nat.mul_assoc]
      omega
    have e2 : (q * 10 ^ (k + 1) + r) % 10 = r % 10 := by
      have : q * 10 ^ (k + 1) = q * 10 ^ k * 10 := by rw [Nat.pow_succ, Nat.mul_assoc]
      omega
    rw [Lib.decDigits, dif_neg h10, e1, e2, dec_pad q hq k (r / 10) (by rw [Nat.pow_succ] at h; omega)]
    simp [padk]
theorem pad9_eq {r : Nat} (h : r < 1000000000) : pad9 r = padk 9 r := by
  have := dec_pad 1 (Nat.le_refl _) 9 r h
  rw [show 1 * 10 ^ 9 + r = 1000000000 + r by omega] at this
  rw [pad9, this, show Lib.decDigits 1 = [49] by rw [Lib.decDigits_one (by decide)]; rfl]
  rfl
theorem dec_split {N : Nat} (h : ¬ N / 1000000000 = 0) : Lib.decDigits N = Lib.decDigits (N / 1000000000) ++ pad9 (N % 1000000000) := by
  have hr : N % 1000000000 < 1000000000 := Nat.mod_lt _ (by decide)
  rw [pad9_eq hr, ← dec_pad (N / 1000000000) (by omega) 9 _ hr]
  congr 1
  omega

theorem groups_ne (N : Nat) : groups N ≠ [] := by
  rw [groups]; split <;> simp
theorem groups_lt : ∀ (N : Nat), ∀ x ∈ groups N, x < 1000000000 := by
  intro N
  induction N using Nat.strongRecOn with
  | _ N ih =>
    rcases Classical.em (N / 1000000000 = 0) with h | h
    · rw [groups_one h]; intro x hx; simp at hx; omega
    · rw [groups_more h]
      intro x hx
      rcases List.mem_cons.1 hx with rfl | hx
      · exact Nat.mod_lt _ (by decide)
      · exact ih _ (by omega) x hx

/-- The text of groups: the highest plain, the others whole. -/
def groupsText (l : List Nat) : List UInt8 := Lib.decDigits (l.getD (l.length - 1) 0) ++ ((l.take (l.length - 1)).reverse).flatMap pad9
theorem groupsText_cons (r : Nat) {l : List Nat} (h : l ≠ []) : groupsText (r :: l) = groupsText l ++ pad9 r := by
  have hl : 1 ≤ l.length := List.length_pos_iff.2 h
  obtain ⟨m, hm⟩ : ∃ m, l.length = m + 1 := ⟨l.length - 1, by omega⟩
  unfold groupsText
  simp only [List.length_cons, hm, Nat.add_sub_cancel, List.getD_cons_succ, List.take_succ_cons, List.reverse_cons, List.flatMap_append]
  simp
theorem groupsText_eq (N : Nat) : groupsText (groups N) = Lib.decDigits N := by
  induction N using Nat.strongRecOn with
  | _ N ih =>
    rcases Classical.em (N / 1000000000 = 0) with h | h
    · rw [groups_one h]; simp [groupsText]
    · rw [groups_more h, groupsText_cons _ (groups_ne _), ih _ (by omega), ← dec_split h]

/-- A group of a list, as the iterator hands it out. -/
def grp (l : List Nat) (j : Nat) : G9 := ⟨l.getD j 0 % 1000000000, Nat.mod_lt _ (by decide)⟩
theorem grp_val {l : List Nat} (h : ∀ x ∈ l, x < 1000000000) {j : Nat} (hj : j < l.length) : (grp l j).1 = l.getD j 0 := by
  show l.getD j 0 % 1000000000 = _
  refine Nat.mod_eq_of_lt (h _ ?_)
  simp [List.getD, hj]
/-- The text that the rounds have written. -/
def roundsText (pre : List (Nat × G9)) : List UInt8 := pre.flatMap fun x => pad9 x.2.1
theorem roundsText_snoc (pre : List (Nat × G9)) (x : Nat × G9) : roundsText (pre ++ [x]) = roundsText pre ++ pad9 x.2.1 := by simp [roundsText]
theorem roundsText_length (pre : List (Nat × G9)) : (roundsText pre).length = pre.length * 9 := by
  induction pre with
  | nil => rfl
  | cons x r ih =>
    have : roundsText (x :: r) = pad9 x.2.1 ++ roundsText r := by simp [roundsText]
    rw [this, List.length_append, ih, pad9_length x.2.2, List.length_cons]
    omega
theorem rounds_all {l : List Nat} (h : ∀ x ∈ l, x < 1000000000) : roundsText (back (grp l) (l.length - 1) (l.length - 1)) = ((l.take (l.length - 1)).reverse).flatMap pad9 := by
  have e : (back (grp l) (l.length - 1) (l.length - 1)).map (fun x => x.2.1) = (l.take (l.length - 1)).reverse := by
    apply List.ext_getElem
    · simp [back]
    · intro i h1 h2
      have hi : i < l.length - 1 := by simpa [back] using h1
      simp only [back, List.getElem_map, List.getElem_range, List.getElem_reverse, List.getElem_take, List.length_take]
      have hj : l.length - 1 - 1 - i < l.length := by omega
      rw [grp_val h hj, show l.getD (l.length - 1 - 1 - i) 0 = l[l.length - 1 - 1 - i] by simp [List.getD, hj]]
      congr 1
      omega
  rw [← e]
  simp [roundsText, List.flatMap_map]
end Go.Proofs.YtobfhidajcnfdaaDoor
