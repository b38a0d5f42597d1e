/-
  Numbers in decimal, as bytes: plain; it speaks of no program.
-/
import Derived.Test.YtanpncjnojjmkaaDoorFMath
namespace Go.Proofs.YtanpncjnojjmkaaDoor
set_option linter.unusedVariables false

/-- What a byte is as a decimal digit. -/
def nd (b : Nat) : Option Nat := if 48 ≤ b ∧ b ≤ 57 then some (b - 48) else none
theorem nd_lt {b d : Nat} (h : nd b = some d) : d < 10 := by
  unfold nd at h
  split at h
  · injection h; omega
  · cases h
theorem hd_nd {b : UInt8} {d : Nat} (h : nd b.toNat = some d) : hd d = b := by
  apply hd_dv
  unfold nd at h
  unfold dv
  split at h
  · rename_i h1; rw [if_pos h1]; exact h
  · cases h
/-- The last k digits of n, in decimal. -/
def decT : Nat → Nat → List UInt8
  | 0, _ => []
  | k + 1, n => hd (n / 10 ^ k % 10) :: decT k n
theorem decT_length : ∀ k n, (decT k n).length = k
  | 0, _ => rfl
  | k + 1, n => by rw [decT, List.length_cons, decT_length k n]
/-- How many digits are written. -/
def dw (n : Nat) : Nat := if n < 10 then 1 else dw (n / 10) + 1
theorem dw_spec (n : Nat) : n < 10 ^ dw n ∧ (dw n = 1 ∨ 10 ^ (dw n - 1) ≤ n) ∧ 1 ≤ dw n := by
  induction n using Nat.strongRecOn with
  | _ n ih =>
    rw [dw]
    split
    · rename_i h; exact ⟨by simpa using h, .inl rfl, by omega⟩
    · rename_i h
      obtain ⟨h1, h2, h3⟩ := ih (n / 10) (by omega)
      refine ⟨by rw [Nat.pow_succ]; omega, .inr ?_, by omega⟩
      rw [show dw (n / 10) + 1 - 1 = dw (n / 10) by omega]
      rcases h2 with h2 | h2
      · rw [h2]; omega
      · obtain ⟨k, hk⟩ : ∃ k, dw (n / 10) = k + 1 := ⟨dw (n / 10) - 1, by omega⟩
        rw [hk] at h2 ⊢
        rw [Nat.add_sub_cancel] at h2
        rw [Nat.pow_succ]
        omega
theorem dw_eq {n k : Nat} (h : n < 10 ^ (k + 1)) : dw n = k + 1 ↔ k = 0 ∨ 10 ^ k ≤ n := by
  obtain ⟨h1, h2, h3⟩ := dw_spec n
  constructor
  · intro e
    rw [e] at h2
    rcases h2 with h2 | h2
    · exact .inl (by omega)
    · exact .inr (by simpa using h2)
  · intro e
    rcases Nat.lt_trichotomy (dw n) (k + 1) with hl | hl | hl
    · rcases e with rfl | e
      · omega
      · exact absurd (Nat.lt_of_lt_of_le h1 (Nat.pow_le_pow_right (n := 10) (by decide) (show dw n ≤ k by omega))) (by omega)
    · exact hl
    · rcases h2 with h2 | h2
      · omega
      · exact absurd (Nat.le_trans (Nat.pow_le_pow_right (n := 10) (by decide) (show k + 1 ≤ dw n - 1 by omega)) h2) (by omega)
def decText (n : Nat) : List UInt8 := decT (dw n) n
theorem decText_length (n : Nat) : (decText n).length = dw n := decT_length _ _

/-- The number that decimal digits write, behind m. -/
def nv : List UInt8 → Nat → Option Nat
  | [], m => some m
  | b :: r, m => match nd b.toNat with
    | none => none
    | some d => nv r (10 * m + d)
theorem nv_spec : ∀ {bs : List UInt8} {m n : Nat}, nv bs m = some n → n / 10 ^ bs.length = m ∧ decT bs.length n = bs
  | [], m, n, h => by injection h with h; subst h; exact ⟨by simp, rfl⟩
  | b :: r, m, n, h => by
    rw [nv] at h
    split at h
    · cases h
    · rename_i d hd'
      obtain ⟨h1, h2⟩ := nv_spec h
      have hlt := nd_lt hd'
      refine ⟨?_, ?_⟩
      · rw [List.length_cons, Nat.pow_succ, ← Nat.div_div_eq_div_mul, h1]; omega
      · rw [List.length_cons, decT, h1, h2, show (10 * m + d) % 10 = d by omega, hd_nd hd']
theorem nv_lt {bs : List UInt8} {n : Nat} (h : nv bs 0 = some n) : n < 10 ^ bs.length :=
  (Nat.div_eq_zero_iff_lt (by exact Nat.pow_pos (by decide))).1 (nv_spec h).1
theorem nv_ge : ∀ {bs : List UInt8} {m n : Nat}, nv bs m = some n → m ≤ n
  | [], m, n, h => by injection h with h; omega
  | b :: r, m, n, h => by
    rw [nv] at h
    split at h
    · cases h
    · have := nv_ge h; omega
/-- The number that bytes are in decimal, up to one. -/
def numRead (bs : List UInt8) (most : Nat) : Option Nat :=
  if 0 < bs.length ∧ (1 < bs.length → bs.getD 0 0 ≠ 48) then (nv bs 0).bind fun n => if n ≤ most then some n else none else none
theorem dw_of {bs : List UInt8} {n : Nat} (h : nv bs 0 = some n) (h0 : 0 < bs.length) : decText n = bs ↔ (1 < bs.length → bs.getD 0 0 ≠ 48) := by
  obtain ⟨h1, h2⟩ := nv_spec h
  have hlt := nv_lt h
  have key : decText n = bs ↔ dw n = bs.length := by
    constructor
    · intro e; rw [← e, decText_length]
    · intro e; rw [decText, e, h2]
  rw [key]
  obtain ⟨k, hk⟩ : ∃ k, bs.length = k + 1 := ⟨bs.length - 1, by omega⟩
  rw [hk] at h2 hlt ⊢
  rw [dw_eq hlt]
  have hd0 : bs.getD 0 0 = hd (n / 10 ^ k % 10) := by rw [← h2, decT]; rfl
  have hq : n / 10 ^ k < 10 := by
    rw [Nat.div_lt_iff_lt_mul (Nat.pow_pos (by decide))]
    rw [Nat.pow_succ, Nat.mul_comm] at hlt
    exact hlt
  rw [hd0, ne_eq, Nat.mod_eq_of_lt hq, hd_zero (by omega), Nat.div_eq_zero_iff_lt (Nat.pow_pos (by decide))]
  omega
/-- In the document's words. -/
theorem numRead_iff (bs : List UInt8) (most n : Nat) (hm : most ≤ 1000000000) : numRead bs most = some n ↔ 0 < bs.length ∧ bs.length ≤ 10 ∧ nv bs 0 = some n ∧ n ≤ most ∧ decText n = bs := by
  unfold numRead
  constructor
  · intro h
    split at h
    · rename_i h1
      obtain ⟨m, hm', h2⟩ := Option.bind_eq_some_iff.1 h
      split at h2
      · rename_i h3
        injection h2 with h2; subst h2
        have ht := (dw_of hm' h1.1).2 h1.2
        refine ⟨h1.1, ?_, hm', h3, ht⟩
        have hl : dw m = bs.length := by rw [← ht, decText_length]
        obtain ⟨_, h5, _⟩ := dw_spec m
        rw [hl] at h5
        rcases h5 with h5 | h5
        · omega
        · refine Decidable.byContradiction fun hn => ?_
          have := Nat.le_trans (Nat.pow_le_pow_right (n := 10) (by decide) (show 10 ≤ bs.length - 1 by omega)) h5
          have e : (10 : Nat) ^ 10 = 10000000000 := rfl
          omega
      · cases h2
    · cases h
  · rintro ⟨h1, h2, h3, h4, h5⟩
    rw [if_pos ⟨h1, (dw_of h3 h1).1 h5⟩, h3]
    simp [h4]
end Go.Proofs.YtanpncjnojjmkaaDoor
