/-
  What a long division reckons with: no program.
-/
import Derived.Test.YtobfhidajcnfdaaDoorShift
namespace Go.Proofs.YtobfhidajcnfdaaDoor
set_option linter.unusedVariables false
set_option maxRecDepth 20000
open Go.RowKit

/-- A list by what lies below, within and above a stretch. -/
theorem val_split3 (B : Nat) (s : List Nat) (i k : Nat) (h : i + k ≤ s.length) : val B s = val B (s.take i) + B ^ i * (val B ((s.drop i).take k) + B ^ k * val B (s.drop (i + k))) := by
  have e1 : (s.take i).length = i := by rw [List.length_take]; omega
  have e2 : ((s.drop i).take k).length = k := by rw [List.length_take, List.length_drop]; omega
  conv => lhs; rw [split3 s i k h, List.append_assoc, val_append, val_append]
  rw [e1, e2]
theorem val_drop_split (B : Nat) (s : List Nat) (i k : Nat) (h : i + k ≤ s.length) : val B (s.drop i) = val B ((s.drop i).take k) + B ^ k * val B (s.drop (i + k)) := by
  have e2 : ((s.drop i).take k).length = k := by rw [List.length_take, List.length_drop]; omega
  conv => lhs; rw [← List.take_append_drop k (s.drop i), val_append, List.drop_drop]
  rw [e2]

section
variable {B Y : Nat} {s : List Nat} {low k : Nat}
/-- Where what lies above is less than the divisor, nothing lies above the stretch, and the stretch is less than B times it. -/
theorem long_seg (hB : 0 < B) (h : low + (k + 1) ≤ s.length) (hb : ∀ x ∈ s, x < B) (hY : Y ≤ B ^ k) (hlt : val B (s.drop (low + 1)) < Y) :
    val B (s.drop (low + (k + 1))) = 0 ∧ val B ((s.drop low).take (k + 1)) < B * Y := by
  have h1 := val_drop_split B s (low + 1) k (by omega)
  rw [show low + 1 + k = low + (k + 1) by omega] at h1
  have h0 : val B (s.drop (low + (k + 1))) = 0 := by
    rcases Nat.eq_zero_or_pos (val B (s.drop (low + (k + 1)))) with h2 | h2
    · exact h2
    · exfalso
      have h3 : B ^ k * 1 ≤ B ^ k * val B (s.drop (low + (k + 1))) := Nat.mul_le_mul_left _ h2
      rw [Nat.mul_one] at h3
      generalize B ^ k * val B (s.drop (low + (k + 1))) = u at h1 h3
      generalize B ^ k = P at hY h3
      omega
  refine ⟨h0, ?_⟩
  have h4 := val_drop_split B s low (k + 1) h
  rw [h0, Nat.mul_zero, Nat.add_zero] at h4
  rw [← h4, val_drop B s low (by omega)]
  have h5 : s.getD low 0 < B := getD_lt hB hb low
  have h6 : B * (val B (s.drop (low + 1)) + 1) ≤ B * Y := Nat.mul_le_mul_left _ hlt
  rw [Nat.mul_add, Nat.mul_one] at h6
  omega
/-- One limb of the quotient taken off. -/
theorem long_step (h : low + (k + 1) ≤ s.length) {r' : List Nat} {R : Nat} (hR : R = val B ((s.drop low).take (k + 1))) (hr : r'.length = k + 1) (hv : val B r' = R % Y) (h0 : val B (s.drop (low + (k + 1))) = 0) :
    val B (s.take low ++ r' ++ s.drop (low + (k + 1))) + Y * (B ^ low * (R / Y)) = val B s ∧ val B ((s.take low ++ r' ++ s.drop (low + (k + 1))).drop low) = R % Y := by
  have e1 : (s.take low).length = low := by rw [List.length_take]; omega
  constructor
  · rw [val_split3 B s low (k + 1) h, ← hR, List.append_assoc, val_append, val_append, e1, hr, hv, h0, Nat.mul_zero, Nat.add_zero, Nat.add_zero]
    have h2 := Nat.div_add_mod R Y
    have h3 : B ^ low * (Y * (R / Y) + R % Y) = B ^ low * R := by rw [h2]
    rw [Nat.mul_add, Nat.mul_left_comm] at h3
    omega
  · rw [List.append_assoc, List.drop_append, e1, Nat.sub_self, List.drop_zero, List.drop_of_length_le (by omega), List.nil_append, val_append, hv, h0, Nat.mul_zero, Nat.add_zero]
end

/-- The shift that brings the divisor's highest limb to half of B or more. -/
theorem shift_div {l : List Nat} {m u : Nat} (hl : l.length = m + 2) (hn : Norm 4294967296 l) (hu : u + bl (l.getD (m + 1) 0) = 32) :
    val 4294967296 l * 2 ^ u < 4294967296 ^ (m + 2) ∧ 4294967296 ^ (m + 1) * 2147483648 ≤ val 4294967296 l * 2 ^ u ∧ u ≤ 31 := by
  have hne : l ≠ [] := by intro e; simp [e] at hl
  have ht : l.getD (m + 1) 0 = l.getLast hne := by
    rw [List.getLast_eq_getElem]
    simp [List.getD, hl]
  have ht0 : l.getD (m + 1) 0 ≠ 0 := by rw [ht]; exact hn.2 hne
  have h1 := val_take_succ 4294967296 l (m + 1) (by omega)
  rw [List.take_of_length_le (by omega)] at h1
  have h2 : val 4294967296 (l.take (m + 1)) < 4294967296 ^ (m + 1) := by
    have := val_lt (b := 4294967296) (by decide) (l := l.take (m + 1)) fun x hx => hn.1 x (List.mem_of_mem_take hx)
    rwa [List.length_take, Nat.min_eq_left (by omega)] at this
  generalize l.getD (m + 1) 0 = t at *
  have hbt : t < 2 ^ bl t := (bl_spec t (bl t)).1 (Nat.le_refl _)
  have hb1 : 1 ≤ bl t := by
    rcases Nat.eq_zero_or_pos (bl t) with h | h
    · rw [h] at hbt; omega
    · exact h
  have hbl : 2 ^ (bl t - 1) ≤ t := by
    rcases Nat.lt_or_ge t (2 ^ (bl t - 1)) with h | h
    · have := (bl_spec t (bl t - 1)).2 h; omega
    · exact h
  have hp : 0 < 2 ^ u := Nat.pow_pos (by decide)
  have e32 : 2 ^ bl t * 2 ^ u = 4294967296 := by rw [← Nat.pow_add, show bl t + u = 32 by omega]
  have e31 : 2 ^ (bl t - 1) * 2 ^ u = 2147483648 := by rw [← Nat.pow_add, show bl t - 1 + u = 31 by omega]
  rw [h1]
  refine ⟨?_, ?_, by omega⟩
  · have h3 : val 4294967296 (l.take (m + 1)) + 4294967296 ^ (m + 1) * t < 4294967296 ^ (m + 1) * 2 ^ bl t := by
      have : 4294967296 ^ (m + 1) * (t + 1) ≤ 4294967296 ^ (m + 1) * 2 ^ bl t := Nat.mul_le_mul_left _ hbt
      rw [Nat.mul_add, Nat.mul_one] at this
      generalize 4294967296 ^ (m + 1) * t = a at *
      generalize 4294967296 ^ (m + 1) * 2 ^ bl t = b at *
      generalize 4294967296 ^ (m + 1) = P at *
      omega
    have h4 := Nat.mul_lt_mul_of_pos_right h3 hp
    rw [Nat.mul_assoc (4294967296 ^ (m + 1)) (2 ^ bl t), e32, ← Nat.pow_succ] at h4
    exact h4
  · have h5 : 4294967296 ^ (m + 1) * 2 ^ (bl t - 1) ≤ val 4294967296 (l.take (m + 1)) + 4294967296 ^ (m + 1) * t := Nat.le_trans (Nat.mul_le_mul_left _ hbl) (Nat.le_add_left _ _)
    have h6 := Nat.mul_le_mul_right (2 ^ u) h5
    rw [Nat.mul_assoc (4294967296 ^ (m + 1)) (2 ^ (bl t - 1)), e31] at h6
    exact h6

/-- A number below a power takes no more limbs than that. -/
theorem take_fits {B : Nat} {s : List Nat} {k : Nat} (hB : 0 < B) (hs : s.length = k + 1) (h : val B s < B ^ k) : val B (s.take k) = val B s := by
  have h1 := val_take_succ B s k (by omega)
  rw [List.take_of_length_le (by omega)] at h1
  rcases Nat.eq_zero_or_pos (s.getD k 0) with h2 | h2
  · rw [h1, h2, Nat.mul_zero, Nat.add_zero]
  · exfalso
    have h3 : B ^ k * 1 ≤ B ^ k * s.getD k 0 := Nat.mul_le_mul_left _ h2
    rw [Nat.mul_one] at h3
    generalize B ^ k * s.getD k 0 = a at *
    generalize B ^ k = P at *
    omega

/-- At the beginning what lies above the quotient's limbs is less than the divisor. -/
theorem long_start {s : List Nat} {nq m X u Y : Nat} (hs : s.length = nq + m + 2) (hv : val 4294967296 s = X * 2 ^ u) (hX : X < 4294967296 ^ (nq + m + 1)) (hu : u ≤ 31) (hY : 4294967296 ^ (m + 1) * 2147483648 ≤ Y) : val 4294967296 (s.drop nq) < Y := by
  have e1 : (s.take nq).length = nq := by rw [List.length_take]; omega
  have h1 : val 4294967296 s = val 4294967296 (s.take nq) + 4294967296 ^ nq * val 4294967296 (s.drop nq) := by
    conv => lhs; rw [← List.take_append_drop nq s, val_append, e1]
  have hp : 0 < 2 ^ u := Nat.pow_pos (by decide)
  have hpu : 2 ^ u ≤ 2147483648 := Nat.pow_le_pow_right (n := 2) (by decide) hu
  have h2 : X * 2 ^ u < 4294967296 ^ (nq + m + 1) * 2 ^ u := Nat.mul_lt_mul_of_pos_right hX hp
  have h3 : 4294967296 ^ nq * val 4294967296 (s.drop nq) < 4294967296 ^ nq * (4294967296 ^ (m + 1) * 2 ^ u) := by
    rw [← Nat.mul_assoc, ← Nat.pow_add, ← Nat.add_assoc]
    refine Nat.lt_of_le_of_lt ?_ h2
    rw [← hv, h1]; exact Nat.le_add_left _ _
  have h4 := Nat.lt_of_mul_lt_mul_left h3
  exact Nat.lt_of_lt_of_le h4 (Nat.le_trans (Nat.mul_le_mul_left _ hpu) hY)

/-- At the end. -/
theorem long_end {X Y S Q u : Nat} (h : S + Y * 2 ^ u * Q = X * 2 ^ u) (hS : S < Y * 2 ^ u) : Q = X / Y ∧ S / 2 ^ u = X % Y := by
  have hp : 0 < 2 ^ u := Nat.pow_pos (by decide)
  have hYp : 0 < Y * 2 ^ u := by omega
  have h1 : X * 2 ^ u / (Y * 2 ^ u) = Q := by rw [← h, Nat.add_mul_div_left _ _ hYp, Nat.div_eq_of_lt hS, Nat.zero_add]
  have h2 : X * 2 ^ u % (Y * 2 ^ u) = S := by rw [← h, Nat.add_mul_mod_self_left, Nat.mod_eq_of_lt hS]
  rw [Nat.mul_div_mul_right _ _ hp] at h1
  rw [Nat.mul_mod_mul_right] at h2
  exact ⟨h1.symm, by rw [← h2, Nat.mul_div_cancel _ hp]⟩
end Go.Proofs.YtobfhidajcnfdaaDoor
