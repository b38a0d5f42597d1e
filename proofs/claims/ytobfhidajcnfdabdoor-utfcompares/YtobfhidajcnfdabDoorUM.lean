/-
  Texts go as their characters do; the laws' Char, Chars; the document's Compare.
-/
import Derived.Test.YtobfhidajcnfdabDoorLawEncodes
import Derived.Test.YtobfhidajcnfdabDoorShelf
namespace Go.Proofs.YtobfhidajcnfdabDoor
set_option linter.unusedVariables false
set_option maxRecDepth 20000
open Go.RowKit Go.Lib

/-- How two lists of numbers go. -/
def cmpL : List Nat → List Nat → Int
  | [], [] => 0
  | [], _ :: _ => -1
  | _ :: _, [] => 1
  | x :: a, y :: b => if x < y then -1 else if y < x then 1 else cmpL a b
theorem compare_pre : ∀ (p x y : List UInt8), compareBytes (p ++ x) (p ++ y) = compareBytes x y
  | [], _, _ => rfl
  | a :: p, x, y => by
    show (if a < a then -1 else if a < a then 1 else compareBytes (p ++ x) (p ++ y)) = _
    rw [if_neg (UInt8.lt_irrefl a), if_neg (UInt8.lt_irrefl a)]
    exact compare_pre p x y
theorem ofNat_lt {a b : Nat} (h : a < b) (hb : b < 256) : UInt8.ofNat a < UInt8.ofNat b := by
  rw [UInt8.lt_iff_toNat_lt, toNat_of (by omega), toNat_of hb]
  exact h
theorem compare_at (p x y : List UInt8) {u v : Nat} (h : u < v) (hv : v < 256) : compareBytes (p ++ UInt8.ofNat u :: x) (p ++ UInt8.ofNat v :: y) = -1 ∧ compareBytes (p ++ UInt8.ofNat v :: y) (p ++ UInt8.ofNat u :: x) = 1 := by
  have h1 := ofNat_lt h hv
  constructor
  · rw [compare_pre]
    show (if UInt8.ofNat u < UInt8.ofNat v then -1 else _) = _
    rw [if_pos h1]
  · rw [compare_pre]
    show (if UInt8.ofNat v < UInt8.ofNat u then -1 else if UInt8.ofNat u < UInt8.ofNat v then 1 else _) = _
    rw [if_neg (fun h2 => by rw [UInt8.lt_iff_toNat_lt] at h1 h2; omega), if_pos h1]
theorem enc_cut (c : Nat) : ∃ t, enc c = UInt8.ofNat (markW (wid c) + c / 64 ^ (wid c - 1)) :: t := ⟨_, enc_first c⟩

theorem enc_less {a b : Nat} (ha : isC a) (hb : isC b) (h : a < b) : ∃ (p x y : List UInt8) (u v : Nat), u < v ∧ v < 256 ∧ enc a = p ++ UInt8.ofNat u :: x ∧ enc b = p ++ UInt8.ofNat v :: y := by
  have hal := ha.le
  have hbl := hb.le
  rcases wid_range ha with ⟨wa, h1⟩ | ⟨wa, h1, h2⟩ | ⟨wa, h1, h2⟩ | ⟨wa, h1, h2⟩ <;> rcases wid_range hb with ⟨wb, h3⟩ | ⟨wb, h3, h4⟩ | ⟨wb, h3, h4⟩ | ⟨wb, h3, h4⟩
  all_goals first
    | (exfalso; omega)
    | skip
  · rw [enc1 h1, enc1 h3]
    exact ⟨[], [], [], a, b, h, by omega, rfl, rfl⟩
  · rw [enc1 h1, enc2 (by omega) h4]
    exact ⟨[], [], _, _, _, by omega, by omega, rfl, rfl⟩
  · rw [enc1 h1, enc3 (by omega) (by omega) h4]
    exact ⟨[], [], _, _, _, by omega, by omega, rfl, rfl⟩
  · rw [enc1 h1, enc4 (by omega) (by omega) (by omega)]
    exact ⟨[], [], _, _, _, by omega, by omega, rfl, rfl⟩
  · rw [enc2 (by omega) h2, enc2 (by omega) h4]
    by_cases h5 : a / 64 < b / 64
    · exact ⟨[], _, _, 192 + a / 64, 192 + b / 64, by omega, by omega, rfl, rfl⟩
    · rw [show a / 64 = b / 64 by omega]
      exact ⟨[_], [], [], 128 + a % 64, 128 + b % 64, by omega, by omega, rfl, rfl⟩
  · rw [enc2 (by omega) h2, enc3 (by omega) (by omega) h4]
    exact ⟨[], _, _, _, _, by omega, by omega, rfl, rfl⟩
  · rw [enc2 (by omega) h2, enc4 (by omega) (by omega) (by omega)]
    exact ⟨[], _, _, _, _, by omega, by omega, rfl, rfl⟩
  · rw [enc3 (by omega) (by omega) h2, enc3 (by omega) (by omega) h4]
    by_cases h5 : a / 4096 < b / 4096
    · exact ⟨[], _, _, 224 + a / 4096, 224 + b / 4096, by omega, by omega, rfl, rfl⟩
    · rw [show a / 4096 = b / 4096 by omega]
      by_cases h6 : a / 64 % 64 < b / 64 % 64
      · exact ⟨[_], _, _, 128 + a / 64 % 64, 128 + b / 64 % 64, by omega, by omega, rfl, rfl⟩
      · rw [show a / 64 % 64 = b / 64 % 64 by omega]
        exact ⟨[_, _], [], [], 128 + a % 64, 128 + b % 64, by omega, by omega, rfl, rfl⟩
  · rw [enc3 (by omega) (by omega) h2, enc4 (by omega) (by omega) (by omega)]
    exact ⟨[], _, _, _, _, by omega, by omega, rfl, rfl⟩
  · rw [enc4 (by omega) (by omega) (by omega), enc4 (by omega) (by omega) (by omega)]
    by_cases h5 : a / 262144 < b / 262144
    · exact ⟨[], _, _, 240 + a / 262144, 240 + b / 262144, by omega, by omega, rfl, rfl⟩
    · rw [show a / 262144 = b / 262144 by omega]
      by_cases h7 : a / 4096 % 64 < b / 4096 % 64
      · exact ⟨[_], _, _, 128 + a / 4096 % 64, 128 + b / 4096 % 64, by omega, by omega, rfl, rfl⟩
      · rw [show a / 4096 % 64 = b / 4096 % 64 by omega]
        by_cases h6 : a / 64 % 64 < b / 64 % 64
        · exact ⟨[_, _], _, _, 128 + a / 64 % 64, 128 + b / 64 % 64, by omega, by omega, rfl, rfl⟩
        · rw [show a / 64 % 64 = b / 64 % 64 by omega]
          exact ⟨[_, _, _], [], [], 128 + a % 64, 128 + b % 64, by omega, by omega, rfl, rfl⟩

theorem compare_encs : ∀ {a b : List Nat}, (∀ x ∈ a, isC x) → (∀ x ∈ b, isC x) → compareBytes (encs a) (encs b) = cmpL a b
  | [], [], _, _ => rfl
  | [], y :: b, _, _ => by
    rw [encs_cons]
    obtain ⟨t, e⟩ := enc_cut y
    rw [e]; rfl
  | x :: a, [], _, _ => by
    rw [encs_cons]
    obtain ⟨t, e⟩ := enc_cut x
    rw [e]; rfl
  | x :: a, y :: b, ha, hb => by
    have hx := ha x (by simp)
    have hy := hb y (by simp)
    rw [encs_cons, encs_cons]
    show _ = if x < y then -1 else if y < x then 1 else cmpL a b
    rcases Nat.lt_trichotomy x y with h | h | h
    · obtain ⟨p, s, t, u, v, h1, h2, e1, e2⟩ := enc_less hx hy h
      rw [if_pos h, e1, e2, List.append_assoc, List.append_assoc]
      exact (compare_at p _ _ h1 h2).1
    · subst h
      rw [if_neg (Nat.lt_irrefl _), if_neg (Nat.lt_irrefl _), compare_pre]
      exact compare_encs (fun z hz => ha z (by simp [hz])) (fun z hz => hb z (by simp [hz]))
    · obtain ⟨p, s, t, u, v, h1, h2, e1, e2⟩ := enc_less hy hx h
      rw [if_neg (by omega), if_pos h, e1, e2, List.append_assoc, List.append_assoc]
      exact (compare_at p _ _ h1 h2).2
theorem cmpL_flip : ∀ (a b : List Nat), cmpL b a = -cmpL a b
  | [], [] => rfl
  | [], _ :: _ => rfl
  | _ :: _, [] => rfl
  | x :: a, y :: b => by
    show (if y < x then -1 else if x < y then 1 else cmpL b a) = -(if x < y then -1 else if y < x then 1 else cmpL a b)
    rcases Nat.lt_trichotomy x y with h | h | h
    · rw [if_neg (by omega), if_pos h, if_pos h]; rfl
    · subst h
      simp only [Nat.lt_irrefl, if_false]
      exact cmpL_flip a b
    · rw [if_pos h, if_neg (by omega), if_pos h]
theorem cmpL_zero : ∀ {a b : List Nat}, cmpL a b = 0 ↔ a = b
  | [], [] => by simp [cmpL]
  | [], _ :: _ => by simp [cmpL]
  | _ :: _, [] => by simp [cmpL]
  | x :: a, y :: b => by
    show (if x < y then -1 else if y < x then 1 else cmpL a b) = 0 ↔ _
    rcases Nat.lt_trichotomy x y with h | h | h
    · rw [if_pos h]; constructor
      · intro e; cases e
      · intro e; injection e with e1; omega
    · subst h
      simp only [Nat.lt_irrefl, if_false, List.cons.injEq, true_and]
      exact cmpL_zero
    · rw [if_neg (by omega), if_pos h]; constructor
      · intro e; cases e
      · intro e; injection e with e1; omega
theorem cmpL_range : ∀ (a b : List Nat), cmpL a b = -1 ∨ cmpL a b = 0 ∨ cmpL a b = 1
  | [], [] => by simp [cmpL]
  | [], _ :: _ => by simp [cmpL]
  | _ :: _, [] => by simp [cmpL]
  | x :: a, y :: b => by
    show (if x < y then -1 else if y < x then 1 else cmpL a b) = -1 ∨ _
    rcases Nat.lt_trichotomy x y with h | h | h
    · simp [cmpL, h]
    · subst h
      simpa [cmpL] using cmpL_range a b
    · simp [cmpL, h, show ¬ x < y by omega]
end Go.Proofs.YtobfhidajcnfdabDoor
