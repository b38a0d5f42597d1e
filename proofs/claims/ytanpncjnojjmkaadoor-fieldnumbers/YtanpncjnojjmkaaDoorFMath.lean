/-
  Numbers in hexadecimal and decimal, as bytes: plain; it speaks of no program.
-/
import Derived.WalkKit
namespace Go.Proofs.YtanpncjnojjmkaaDoor
set_option linter.unusedVariables false

/-- The digit d. -/
def hd (d : Nat) : UInt8 := UInt8.ofNat (if d < 10 then 48 + d else 55 + d)
/-- The last k digits of n. -/
def hexT : Nat → Nat → List UInt8
  | 0, _ => []
  | k + 1, n => hd (n / 16 ^ k % 16) :: hexT k n
/-- How many digits are written. -/
def wd (n : Nat) : Nat := if n < 65536 then 4 else if n < 1048576 then 5 else 6
def hexText (n : Nat) : List UInt8 := hexT (wd n) n
theorem hexT_length : ∀ k n, (hexT k n).length = k
  | 0, _ => rfl
  | k + 1, n => by rw [hexT, List.length_cons, hexT_length k n]
theorem hexText_length (n : Nat) : (hexText n).length = wd n := hexT_length _ _
theorem wd_range (n : Nat) : 4 ≤ wd n ∧ wd n ≤ 6 := by unfold wd; repeat (first | split | omega)

/-- What a byte is as a digit. -/
def dv (b : Nat) : Option Nat := if 48 ≤ b ∧ b ≤ 57 then some (b - 48) else if 65 ≤ b ∧ b ≤ 70 then some (b - 55) else none
theorem dv_lt {b d : Nat} (h : dv b = some d) : d < 16 := by
  unfold dv at h
  split at h
  · injection h; omega
  · split at h
    · injection h; omega
    · cases h
theorem hd_dv {b : UInt8} {d : Nat} (h : dv b.toNat = some d) : hd d = b := by
  unfold dv at h
  split at h
  · rename_i h1
    injection h with h; subst h
    unfold hd
    rw [if_pos (by omega), show 48 + (b.toNat - 48) = b.toNat by omega]
    simp
  · split at h
    · rename_i h1 h2
      injection h with h; subst h
      unfold hd
      rw [if_neg (by omega), show 55 + (b.toNat - 55) = b.toNat by omega]
      simp
    · cases h
theorem hd_toNat {d : Nat} (h : d < 16) : (hd d).toNat = if d < 10 then 48 + d else 55 + d := by
  unfold hd
  split <;> simp <;> omega
theorem dv_hd {d : Nat} (h : d < 16) : dv (hd d).toNat = some d := by
  rw [hd_toNat h]
  unfold dv
  by_cases h1 : d < 10
  · rw [if_pos h1, if_pos (by omega)]; congr 1; omega
  · rw [if_neg h1, if_neg (by omega), if_pos (by omega)]; congr 1; omega

/-- The number that digits write, behind m. -/
def hv : List UInt8 → Nat → Option Nat
  | [], m => some m
  | b :: r, m => match dv b.toNat with
    | none => none
    | some d => hv r (16 * m + d)
theorem hv_spec : ∀ {bs : List UInt8} {m n : Nat}, hv bs m = some n → n / 16 ^ bs.length = m ∧ hexT bs.length n = bs
  | [], m, n, h => by injection h with h; subst h; exact ⟨by simp, rfl⟩
  | b :: r, m, n, h => by
    rw [hv] at h
    split at h
    · cases h
    · rename_i d hd'
      obtain ⟨h1, h2⟩ := hv_spec h
      have hlt := dv_lt hd'
      refine ⟨?_, ?_⟩
      · rw [List.length_cons, Nat.pow_succ, ← Nat.div_div_eq_div_mul, h1]; omega
      · rw [List.length_cons, hexT, h1, h2, show (16 * m + d) % 16 = d by omega, hd_dv hd']
theorem hv_lt {bs : List UInt8} {n : Nat} (h : hv bs 0 = some n) : n < 16 ^ bs.length := by
  have h1 := (hv_spec h).1
  exact (Nat.div_eq_zero_iff_lt (by exact Nat.pow_pos (by decide))).1 h1
theorem hv_hexT : ∀ (k n m : Nat), hv (hexT k n) m = some (m * 16 ^ k + n % 16 ^ k)
  | 0, n, m => by simp [hexT, hv, Nat.mod_one]
  | k + 1, n, m => by
    rw [hexT, hv, dv_hd (Nat.mod_lt _ (by decide))]
    show hv (hexT k n) (16 * m + n / 16 ^ k % 16) = _
    rw [hv_hexT k n]
    congr 1
    rw [Nat.pow_succ, Nat.mod_mul, Nat.add_mul, Nat.mul_comm (16 ^ k) (n / 16 ^ k % 16)]
    have : 16 * m * 16 ^ k = m * (16 ^ k * 16) := by rw [Nat.mul_comm 16 m, Nat.mul_assoc, Nat.mul_comm 16]
    omega

/-- The number that bytes are in hexadecimal. -/
def hexRead (bs : List UInt8) : Option Nat :=
  if 4 ≤ bs.length ∧ bs.length ≤ 6 ∧ (4 < bs.length → bs.getD 0 0 ≠ 48) then (hv bs 0).bind fun n => if n ≤ 1114111 then some n else none else none

theorem hd_zero {d : Nat} (h : d < 16) : hd d = 48 ↔ d = 0 := by
  constructor
  · intro e
    have := hd_toNat h
    rw [e] at this
    simp at this
    split at this <;> omega
  · rintro rfl; rfl
theorem wd_of {bs : List UInt8} {n : Nat} (h : hv bs 0 = some n) (h4 : 4 ≤ bs.length) (h6 : bs.length ≤ 6) : hexText n = bs ↔ (4 < bs.length → bs.getD 0 0 ≠ 48) := by
  obtain ⟨h1, h2⟩ := hv_spec h
  have hlt := hv_lt h
  have key : hexText n = bs ↔ wd n = bs.length := by
    constructor
    · intro e; rw [← e, hexText_length]
    · intro e; rw [hexText, e, h2]
  rw [key]
  obtain ⟨k, hk⟩ : ∃ k, bs.length = k + 1 := ⟨bs.length - 1, by omega⟩
  rw [hk] at h2 hlt h4 h6 ⊢
  have hd0 : bs.getD 0 0 = hd (n / 16 ^ k % 16) := by rw [← h2, hexT]; rfl
  rw [hd0, ne_eq, hd_zero (Nat.mod_lt _ (by decide))]
  unfold wd
  have : k = 3 ∨ k = 4 ∨ k = 5 := by omega
  rcases this with rfl | rfl | rfl
  · have : n < 65536 := hlt
    rw [if_pos this]; simp
  · have : n < 1048576 := hlt
    have e : (16 : Nat) ^ 4 = 65536 := rfl
    rw [e]
    constructor
    · intro h5 _ h6
      rw [if_pos (by omega)] at h5
      cases h5
    · intro h5
      have := h5 (by decide)
      rw [if_neg (by omega), if_pos (by omega)]
  · have : n < 16777216 := hlt
    have e : (16 : Nat) ^ 5 = 1048576 := rfl
    rw [e]
    constructor
    · intro h5 _ h6
      rw [if_pos (by omega : n < 1048576)] at h5
      split at h5 <;> cases h5
    · intro h5
      have := h5 (by decide)
      rw [if_neg (by omega), if_neg (by omega)]
/-- In the document's words: its digits write a number, and this is written just so. -/
theorem hexRead_iff (bs : List UInt8) (n : Nat) : hexRead bs = some n ↔ 4 ≤ bs.length ∧ bs.length ≤ 6 ∧ hv bs 0 = some n ∧ n ≤ 1114111 ∧ hexText n = bs := by
  unfold hexRead
  constructor
  · intro h
    split at h
    · rename_i h1
      obtain ⟨m, hm, h2⟩ := Option.bind_eq_some_iff.1 h
      split at h2
      · rename_i h3
        injection h2 with h2; subst h2
        exact ⟨h1.1, h1.2.1, hm, h3, (wd_of hm h1.1 h1.2.1).2 h1.2.2⟩
      · cases h2
    · cases h
  · rintro ⟨h1, h2, h3, h4, h5⟩
    rw [if_pos ⟨h1, h2, (wd_of h3 h1 h2).1 h5⟩, h3]
    simp [h4]
theorem hexRead_text (n : Nat) (h : n ≤ 1114111) : hexRead (hexText n) = some n := by
  rw [hexRead_iff]
  have hr := wd_range n
  have hl := hexText_length n
  refine ⟨by omega, by omega, ?_, h, rfl⟩
  rw [hexText, hv_hexT, Nat.zero_mul, Nat.zero_add]
  congr 1
  apply Nat.mod_eq_of_lt
  unfold wd
  split
  · assumption
  · split
    · assumption
    · exact Nat.lt_of_le_of_lt h (by decide)
/-- What a number of the document is as an answer: -1 where it is none. -/
def numI (o : Option Nat) : Int := match o with | none => -1 | some n => (n : Int)
end Go.Proofs.YtanpncjnojjmkaaDoor
