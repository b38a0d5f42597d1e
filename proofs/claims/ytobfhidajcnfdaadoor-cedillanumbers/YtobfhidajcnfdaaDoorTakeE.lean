/-
  Bytes and the number that they write: there and back.
-/
import Derived.Test.YtobfhidajcnfdaaDoorTakeD
namespace Go.Proofs.YtobfhidajcnfdaaDoor
set_option linter.unusedVariables false
set_option maxRecDepth 20000
open Go.RowKit

theorem beBytes_snoc (n V b : Nat) (hb : b < 256) : beBytes (n + 1) (V * 256 + b) = beBytes n V ++ [UInt8.ofNat b] := by
  unfold beBytes
  rw [List.range_succ, List.map_append]
  congr 1
  · apply List.map_congr_left
    intro i hi
    rw [List.mem_range] at hi
    rw [show n + 1 - 1 - i = (n - 1 - i) + 1 by omega, Nat.pow_succ, Nat.mul_comm (256 ^ _) 256, ← Nat.div_div_eq_div_mul, show (V * 256 + b) / 256 = V by omega]
  · simp only [List.map_cons, List.map_nil, Nat.add_sub_cancel, Nat.sub_self, Nat.pow_zero, Nat.div_one]
    rw [show (V * 256 + b) % 256 = b by omega]

theorem beBytes_beVal : ∀ (n : Nat) (bs : List UInt8), bs.length = n → beBytes n (beVal bs) = bs
  | 0, bs, h => by rw [List.length_eq_zero_iff.1 h]; rfl
  | n + 1, bs, h => by
    rcases List.eq_nil_or_concat bs with rfl | ⟨l, b, rfl⟩
    · cases h
    · simp only [List.concat_eq_append, List.length_append, List.length_cons, List.length_nil, Nat.add_right_cancel_iff] at h ⊢
      rw [beVal_snoc, beBytes_snoc _ _ _ (UInt8.toNat_lt b), beBytes_beVal n l h]
      simp

theorem beVal_lt : ∀ (n : Nat) (bs : List UInt8), bs.length = n → beVal bs < 256 ^ n
  | 0, bs, h => by rw [List.length_eq_zero_iff.1 h]; decide
  | n + 1, bs, h => by
    rcases List.eq_nil_or_concat bs with rfl | ⟨l, b, rfl⟩
    · cases h
    · simp only [List.concat_eq_append, List.length_append, List.length_cons, List.length_nil, Nat.add_right_cancel_iff] at h ⊢
      have := beVal_lt n l h
      have hb := UInt8.toNat_lt b
      rw [beVal_snoc, Nat.pow_succ]
      generalize 256 ^ n = P at *
      omega

theorem beVal_ge : ∀ (n : Nat) (bs : List UInt8), bs.length = n + 1 → bs[0]? ≠ some 0 → 256 ^ n ≤ beVal bs
  | 0, bs, h, h0 => by
    obtain ⟨b, rfl⟩ := List.length_eq_one_iff.1 h
    simp only [List.getElem?_cons_zero, ne_eq, Option.some.injEq] at h0
    have : b.toNat ≠ 0 := fun e => h0 (UInt8.toNat_inj.1 (by simpa using e))
    simp [beVal]; omega
  | n + 1, bs, h, h0 => by
    rcases List.eq_nil_or_concat bs with rfl | ⟨l, b, rfl⟩
    · cases h
    · simp only [List.concat_eq_append, List.length_append, List.length_cons, List.length_nil, Nat.add_right_cancel_iff] at h h0 ⊢
      have := beVal_ge n l h (by rw [List.getElem?_append_left (by omega)] at h0; exact h0)
      rw [beVal_snoc, Nat.pow_succ]
      generalize 256 ^ n = P at *
      omega

theorem bytesLen_beVal (n : Nat) (bs : List UInt8) (h : bs.length = n) (h0 : n ≠ 0 → bs[0]? ≠ some 0) : bytesLen (beVal bs) = n := by
  have h1 : bl (beVal bs) ≤ 8 * n := (bl_spec _ _).2 (by rw [Nat.pow_mul]; exact beVal_lt n bs h)
  unfold bytesLen
  rcases n with _ | n
  · omega
  · have h2 : ¬ bl (beVal bs) ≤ 8 * n := fun h3 => by
      have h4 := (bl_spec _ _).1 h3
      rw [Nat.pow_mul] at h4
      exact absurd (beVal_ge n bs h (h0 (by omega))) (by simpa using h4)
    omega

/-- What Put writes of the number that some bytes write. -/
theorem putBytes_beVal (n : Nat) (bs : List UInt8) (h : bs.length = n) (h0 : n ≠ 0 → bs[0]? ≠ some 0) : putBytes (beVal bs) = beBytes 4 n ++ bs := by
  rw [putBytes, bytesLen_beVal n bs h h0, beBytes_beVal n bs h]
/-- A text that tells of t bytes, the first of which is not 0, is what Put writes of their number, and what is left. -/
theorem put_again (s : ByteArray) (t : Nat) (h4 : 4 ≤ s.size) (ht : told s = t) (hts : t ≤ s.size - 4) (hz : ∀ h5 : 4 < s.size, 0 < t → s[4] ≠ 0) :
    putBytes (beVal (s.extract 4 (4 + t)).data.toList) ++ (s.extract (4 + t) s.size).data.toList = s.data.toList := by
  have e1 : (s.extract 4 (4 + t)).data.toList = (s.data.toList.drop 4).take t := by
    simp [ByteArray.data_extract, Array.toList_extract, List.extract_eq_take_drop]
  have e2 : (s.extract (4 + t) s.size).data.toList = (s.data.toList.drop 4).drop t := by
    rw [List.drop_drop]
    simp [ByteArray.data_extract, Array.toList_extract, List.extract_eq_take_drop]
    rw [List.take_of_length_le (by rw [List.length_drop, Array.length_toList]; exact Nat.le_refl _)]
  have e3 : (s.extract 0 4).data.toList = s.data.toList.take 4 := by
    simp [ByteArray.data_extract, Array.toList_extract, List.extract_eq_take_drop]
  have hl : s.data.toList.length = s.size := Array.length_toList
  rw [e1, e2, putBytes_beVal t _ (by rw [List.length_take, List.length_drop, hl]; omega), List.append_assoc, List.take_append_drop]
  · have : beBytes 4 t = s.data.toList.take 4 := by
      rw [← ht, told, e3]
      exact beBytes_beVal 4 _ (by rw [List.length_take, hl]; omega)
    rw [this, List.take_append_drop]
  · intro h1 h2
    rw [List.getElem?_take_of_lt (by omega), List.getElem?_drop] at h2
    have h5 : 4 < s.size := by
      rcases Nat.lt_or_ge 4 s.size with h | h
      · exact h
      · rw [List.getElem?_eq_none (by omega)] at h2; cases h2
    exact hz h5 (by omega) (by rw [List.getElem?_eq_getElem (by omega)] at h2; exact Option.some.inj h2)
end Go.Proofs.YtobfhidajcnfdaaDoor
