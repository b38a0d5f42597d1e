/-
  Decimal digits as bytes, and the number that they write; it speaks of no program.
-/
import Derived.Test.YtobfhidajcnfdaaDoorMath
import Derived.Lib.ItoaNum
namespace Go.Proofs.YtobfhidajcnfdaaDoor
set_option linter.unusedVariables false

theorem snoc_rec {α : Type} {motive : List α → Prop} (l : List α) (nil : motive []) (snoc : ∀ l x, motive l → motive (l ++ [x])) : motive l := by
  rw [← List.reverse_reverse l]
  induction l.reverse with
  | nil => exact nil
  | cons x r ih => rw [List.reverse_cons]; exact snoc _ _ ih

/-- The number that decimal digits write. -/
def decVal (bs : List UInt8) : Nat := bs.foldl (fun v b => v * 10 + (b.toNat - 48)) 0
theorem decVal_snoc (bs : List UInt8) (b : UInt8) : decVal (bs ++ [b]) = decVal bs * 10 + (b.toNat - 48) := by simp [decVal]
/-- Digits alone. -/
def Digs (bs : List UInt8) : Prop := ∀ b ∈ bs, 48 ≤ b.toNat ∧ b.toNat ≤ 57
/-- A text that writes a number, in the one way. -/
def Decimal (bs : List UInt8) : Prop := bs ≠ [] ∧ Digs bs ∧ (1 < bs.length → bs[0]? ≠ some 48)

theorem Digs.left {a b : List UInt8} (h : Digs (a ++ b)) : Digs a := fun x hx => h x (List.mem_append_left _ hx)
theorem Digs.right {a b : List UInt8} (h : Digs (a ++ b)) : Digs b := fun x hx => h x (List.mem_append_right _ hx)
theorem Digs.take {a : List UInt8} (h : Digs a) (n : Nat) : Digs (a.take n) := fun x hx => h x (List.mem_of_mem_take hx)
theorem Digs.drop {a : List UInt8} (h : Digs a) (n : Nat) : Digs (a.drop n) := fun x hx => h x (List.mem_of_mem_drop hx)

theorem decVal_append (a b : List UInt8) : decVal (a ++ b) = decVal a * 10 ^ b.length + decVal b := by
  induction b using snoc_rec with
  | nil => simp [decVal]
  | snoc b x ih =>
    rw [← List.append_assoc, decVal_snoc, decVal_snoc, ih, List.length_append, List.length_singleton, Nat.pow_succ, Nat.add_mul, Nat.mul_assoc, Nat.add_assoc]

theorem decVal_lt (bs : List UInt8) (h : Digs bs) : decVal bs < 10 ^ bs.length := by
  induction bs using snoc_rec with
  | nil => simp [decVal]
  | snoc b x ih =>
    have h1 := ih h.left
    have h2 := h x (by simp)
    rw [decVal_snoc, List.length_append, List.length_singleton, Nat.pow_succ]
    generalize 10 ^ b.length = P at *
    omega

theorem decVal_ge (b : UInt8) (r : List UInt8) (h : Digs (b :: r)) (hb : b ≠ 48) : 10 ^ r.length ≤ decVal (b :: r) := by
  have h1 : decVal (b :: r) = decVal [b] * 10 ^ r.length + decVal r := by
    rw [show b :: r = [b] ++ r from rfl, decVal_append]
  have h2 : 1 ≤ decVal [b] := by
    have := h b (by simp)
    have : b.toNat ≠ 48 := fun e => hb (UInt8.toNat_inj.1 (by simpa using e))
    simp [decVal]; omega
  rw [h1]
  have := Nat.mul_le_mul_right (10 ^ r.length) h2
  omega

theorem decDigits_ten (v d : Nat) (hv : 1 ≤ v) (hd : d < 10) : Lib.decDigits (v * 10 + d) = Lib.decDigits v ++ [UInt8.ofNat (48 + d)] := by
  rw [Lib.decDigits, dif_neg (by omega), show (v * 10 + d) / 10 = v by omega, show (v * 10 + d) % 10 = d by omega]

theorem digit_back (d : Nat) (hd : d < 10) : (UInt8.ofNat (48 + d)).toNat = 48 + d := by
  rw [UInt8.toNat_ofNat', Nat.mod_eq_of_lt (by omega)]

theorem decVal_decDigits (N : Nat) : decVal (Lib.decDigits N) = N := by
  induction N using Nat.strongRecOn with
  | _ N ih =>
    by_cases h : N < 10
    · rw [Lib.decDigits_one h]
      simp only [decVal, List.foldl_cons, List.foldl_nil]
      rw [digit_back N h]; omega
    · have e : N = N / 10 * 10 + N % 10 := by omega
      rw [e, decDigits_ten _ _ (by omega) (by omega), decVal_snoc, ih (N / 10) (by omega), digit_back _ (by omega)]
      omega

theorem decDigits_ne (N : Nat) : Lib.decDigits N ≠ [] := by rw [Lib.decDigits]; split <;> simp
theorem decDigits_head (N : Nat) (h : N ≠ 0) : ∃ b r, Lib.decDigits N = b :: r ∧ b ≠ 48 := by
  induction N using Nat.strongRecOn with
  | _ N ih =>
    by_cases hN : N < 10
    · refine ⟨_, _, Lib.decDigits_one hN, fun e => ?_⟩
      have := congrArg UInt8.toNat e
      rw [digit_back N hN] at this
      simp at this; omega
    · obtain ⟨b, r, e, hb⟩ := ih (N / 10) (by omega) (by omega)
      refine ⟨b, r ++ [UInt8.ofNat (48 + N % 10)], ?_, hb⟩
      rw [show N = N / 10 * 10 + N % 10 by omega, decDigits_ten _ _ (by omega) (by omega), show (N / 10 * 10 + N % 10) % 10 = N % 10 by omega, show (N / 10 * 10 + N % 10) / 10 = N / 10 by omega] at *
      rw [e]; rfl

theorem decDigits_digs (N : Nat) : Digs (Lib.decDigits N) := by
  induction N using Nat.strongRecOn with
  | _ N ih =>
    by_cases hN : N < 10
    · rw [Lib.decDigits_one hN]
      intro b hb
      simp only [List.mem_singleton] at hb
      subst hb
      rw [digit_back N hN]; omega
    · rw [show N = N / 10 * 10 + N % 10 by omega, decDigits_ten _ _ (by omega) (by omega)]
      intro b hb
      simp only [List.mem_append, List.mem_singleton] at hb
      rcases hb with hb | rfl
      · exact ih (N / 10) (by omega) b hb
      · rw [digit_back _ (by omega)]; omega

theorem decDigits_decimal (N : Nat) : Decimal (Lib.decDigits N) := by
  refine ⟨decDigits_ne N, decDigits_digs N, fun h1 => ?_⟩
  by_cases h : N = 0
  · subst h
    rw [Lib.decDigits_one (by decide)] at h1
    simp at h1
  · obtain ⟨b, r, e, hb⟩ := decDigits_head N h
    rw [e]
    simpa using hb

theorem decDigits_decVal (bs : List UInt8) (h : Decimal bs) : Lib.decDigits (decVal bs) = bs := by
  obtain ⟨hne, hd, h0⟩ := h
  induction bs using snoc_rec with
  | nil => exact absurd rfl hne
  | snoc l x ih =>
    have hx := hd x (by simp)
    rcases l with _ | ⟨b, r⟩
    · simp only [List.nil_append, decVal, List.foldl_cons, List.foldl_nil]
      rw [Lib.decDigits_one (by omega), show 48 + (0 * 10 + (x.toNat - 48)) = x.toNat by omega]
      simp
    · have hb : b ≠ 48 := by
        have := h0 (by simp)
        simpa using this
      have h1 := decVal_ge b r hd.left hb
      have hp : 1 ≤ 10 ^ r.length := Nat.one_le_pow _ _ (by decide)
      rw [decVal_snoc, decDigits_ten _ _ (by omega) (by omega), ih (by simp) hd.left (fun _ => by simpa using hb), show 48 + (x.toNat - 48) = x.toNat by omega]
      simp

/-- The digits of the document: the lowest first. -/
theorem val_digits (bs : List UInt8) : val 10 (bs.map fun b => b.toNat - 48).reverse = decVal bs := by
  induction bs using snoc_rec with
  | nil => rfl
  | snoc l x ih =>
    rw [List.map_append, List.reverse_append, decVal_snoc]
    simp only [List.map_cons, List.map_nil, List.reverse_singleton, List.singleton_append, val]
    rw [ih]; omega

/-- The text of the document. -/
theorem text_digits : ∀ (l : List Nat), Norm 10 l → l ≠ [] → (l.map fun d => UInt8.ofNat (48 + d)).reverse = Lib.decDigits (val 10 l)
  | [], _, h => absurd rfl h
  | [d], hn, _ => by
    have := hn.1 d (by simp)
    simp only [val, List.map_cons, List.map_nil, List.reverse_singleton, Nat.mul_zero, Nat.add_zero]
    rw [Lib.decDigits_one this]
  | d :: e :: r, hn, _ => by
    have hd := hn.1 d (by simp)
    have ih := text_digits (e :: r) hn.tail (by simp)
    have hv : 1 ≤ val 10 (e :: r) := by
      rcases Nat.eq_zero_or_pos (val 10 (e :: r)) with h0 | h0
      · exact absurd ((hn.tail.zero (by decide)).1 h0) (by simp)
      · exact h0
    rw [List.map_cons, List.reverse_cons, ih, show val 10 (d :: e :: r) = val 10 (e :: r) * 10 + d by rw [val]; omega, decDigits_ten _ _ hv hd]

theorem pow_8_10 (n : Nat) : 2 ^ (3 * n) ≤ 10 ^ n := by
  rw [Nat.pow_mul]; exact Nat.pow_le_pow_left (by decide) n
theorem pow_10_16 : ∀ n : Nat, 2 ≤ n → 10 ^ n * 2 ≤ 2 ^ (4 * n)
  | 0, h => by omega
  | 1, h => by omega
  | 2, _ => by decide
  | n + 3, _ => by
    have := pow_10_16 (n + 2) (by omega)
    have e1 : 10 ^ (n + 3) = 10 ^ (n + 2) * 10 := Nat.pow_succ _ _
    have e2 : 2 ^ (4 * (n + 3)) = 2 ^ (4 * (n + 2)) * 16 := by rw [show 4 * (n + 3) = 4 * (n + 2) + 4 by omega, Nat.pow_add]
    rw [e1, e2]
    clear e1 e2
    generalize 10 ^ (n + 2) = a at *
    generalize 2 ^ (4 * (n + 2)) = b at *
    omega
/-- How many bits a number of n digits has. -/
theorem bl_dec (bs : List UInt8) (h : Decimal bs) (hl : 2 ≤ bs.length) : 3 * (bs.length - 1) < bl (decVal bs) ∧ bl (decVal bs) < 4 * bs.length := by
  obtain ⟨hne, hd, h0⟩ := h
  have h1 := decVal_lt bs hd
  rcases bs with _ | ⟨b, r⟩
  · exact absurd rfl hne
  have hb : b ≠ 48 := by simpa using h0 (by omega)
  have h2 := decVal_ge b r hd hb
  have h3 := pow_8_10 r.length
  have h4 := pow_10_16 (b :: r).length hl
  constructor
  · rw [List.length_cons, Nat.add_sub_cancel]
    rcases Nat.lt_or_ge (3 * r.length) (bl (decVal (b :: r))) with h5 | h5
    · exact h5
    · have := (bl_spec _ _).1 h5
      omega
  · have h6 : bl (decVal (b :: r)) ≤ 4 * (b :: r).length - 1 := (bl_spec _ _).2 (by
      have e : 4 * (b :: r).length = (4 * (b :: r).length - 1) + 1 := by omega
      rw [e, Nat.pow_succ] at h4
      generalize 2 ^ (4 * (b :: r).length - 1) = P at *
      generalize 10 ^ (b :: r).length = Q at *
      omega)
    omega

theorem pow_group (n : Nat) : 10 ^ (9 * n) ≤ 4294967296 ^ n := by
  rw [Nat.pow_mul]; exact Nat.pow_le_pow_left (by decide) n
theorem decVal_fits (bs : List UInt8) (h : Digs bs) (n : Nat) (hn : bs.length ≤ 9 * n) : decVal bs < 4294967296 ^ n :=
  Nat.lt_of_lt_of_le (Nat.lt_of_lt_of_le (decVal_lt bs h) (Nat.pow_le_pow_right (by decide) hn)) (pow_group n)
theorem decVal_group (bs : List UInt8) (h : Digs bs) (hn : bs.length ≤ 9) : decVal bs < 1000000000 :=
  Nat.lt_of_lt_of_le (decVal_lt bs h) (Nat.le_trans (Nat.pow_le_pow_right (by decide) hn) (by decide))
end Go.Proofs.YtobfhidajcnfdaaDoor
