/-
  Characters and their bytes: what begins with a character, and what is a text.
-/
import Derived.Test.YthmdapcieghbbabDoorProg
namespace Go.Proofs.YthmdapcieghbbabDoor
set_option linter.unusedVariables false
set_option maxRecDepth 20000
set_option maxRecDepth 20000

/-- A character. -/
def isC (c : Nat) : Prop := c < 55296 ∨ (57343 < c ∧ c ≤ 1114111)
instance (c : Nat) : Decidable (isC c) := by unfold isC; infer_instance
theorem isC.le {c : Nat} (h : isC c) : c ≤ 1114111 := by rcases h with h | h <;> omega

/-- A character's bytes, as numbers. -/
def encN (c : Nat) : List Nat :=
  if c < 128 then [c]
  else if c < 2048 then [192 + c / 64, 128 + c % 64]
  else if c < 65536 then [224 + c / 4096, 128 + c / 64 % 64, 128 + c % 64]
  else [240 + c / 262144, 128 + c / 4096 % 64, 128 + c / 64 % 64, 128 + c % 64]
/-- A character's bytes. -/
def enc (c : Nat) : List UInt8 := (encN c).map UInt8.ofNat
/-- How many bytes a character has. -/
def wid (c : Nat) : Nat := if c < 128 then 1 else if c < 2048 then 2 else if c < 65536 then 3 else 4
theorem wid_pos (c : Nat) : 0 < wid c := by
  unfold wid
  repeat' split
  all_goals decide
theorem wid_le (c : Nat) : wid c ≤ 4 := by
  unfold wid
  repeat' split
  all_goals decide
theorem enc_length (c : Nat) : (enc c).length = wid c := by
  unfold enc encN wid
  repeat' split
  all_goals rfl
theorem enc1 {c : Nat} (h : c < 128) : enc c = [UInt8.ofNat c] := by simp [enc, encN, h]
theorem enc2 {c : Nat} (h : ¬ c < 128) (h2 : c < 2048) : enc c = [UInt8.ofNat (192 + c / 64), UInt8.ofNat (128 + c % 64)] := by simp [enc, encN, h, h2]
theorem enc3 {c : Nat} (h : ¬ c < 128) (h2 : ¬ c < 2048) (h3 : c < 65536) : enc c = [UInt8.ofNat (224 + c / 4096), UInt8.ofNat (128 + c / 64 % 64), UInt8.ofNat (128 + c % 64)] := by simp [enc, encN, h, h2, h3]
theorem enc4 {c : Nat} (h : ¬ c < 128) (h2 : ¬ c < 2048) (h3 : ¬ c < 65536) : enc c = [UInt8.ofNat (240 + c / 262144), UInt8.ofNat (128 + c / 4096 % 64), UInt8.ofNat (128 + c / 64 % 64), UInt8.ofNat (128 + c % 64)] := by simp [enc, encN, h, h2, h3]
theorem enc_ne (c : Nat) : enc c ≠ [] := fun h => by
  have := enc_length c
  rw [h] at this
  have := wid_pos c
  simp at *; omega
theorem toNat_of {a : Nat} (h : a < 256) : (UInt8.ofNat a).toNat = a := by
  rw [UInt8.toNat_ofNat']; exact Nat.mod_eq_of_lt h

/-- A text begins with the character c. -/
def Begins (bs : List UInt8) (c : Nat) : Prop := isC c ∧ ∃ t, bs = enc c ++ t

/-- How many bytes a first byte tells of. -/
def toldW (b : Nat) : Nat := if b < 128 then 1 else if b < 192 then 0 else if b < 224 then 2 else if b < 240 then 3 else if b < 248 then 4 else 0
def markW (w : Nat) : Nat := if w = 1 then 0 else if w = 2 then 192 else if w = 3 then 224 else 240
theorem toldW_le (b : Nat) : toldW b ≤ 4 := by
  unfold toldW
  repeat' split
  all_goals decide
/-- The number of the first i bytes, of which the first one tells of w. -/
def numW (w : Nat) (bs : List UInt8) : Nat → Nat
  | 0 => 0
  | 1 => (bs.getD 0 0).toNat - markW w
  | i + 2 => numW w bs (i + 1) * 64 + (bs.getD (i + 1) 0).toNat % 64
theorem numW_step (w : Nat) (bs : List UInt8) {i : Nat} (h : 1 ≤ i) : numW w bs (i + 1) = numW w bs i * 64 + (bs.getD i 0).toNat % 64 := by
  obtain ⟨i, rfl⟩ : ∃ j, i = j + 1 := ⟨i - 1, by omega⟩
  rfl

theorem begins_told {bs : List UInt8} {c : Nat} (h : Begins bs c) :
    toldW (bs.getD 0 0).toNat = wid c ∧ wid c ≤ bs.length ∧ (∀ j, 1 ≤ j → j < wid c → (bs.getD j 0).toNat / 64 = 2) ∧ numW (wid c) bs (wid c) = c := by
  obtain ⟨hc, t, rfl⟩ := h
  have hle := hc.le
  by_cases h1 : c < 128
  · have hw : wid c = 1 := by simp [wid, h1]
    rw [hw, enc1 h1]
    refine ⟨?_, by simp, fun j h2 h3 => by omega, ?_⟩
    · simp only [List.cons_append, List.getD_cons_zero, toNat_of (show c < 256 by omega)]; simp [toldW, h1]
    · simp only [numW, List.cons_append, List.getD_cons_zero, toNat_of (show c < 256 by omega)]; simp [markW]
  by_cases h2 : c < 2048
  · have hw : wid c = 2 := by simp [wid, h1, h2]
    rw [hw, enc2 h1 h2]
    have e0 : (UInt8.ofNat (192 + c / 64)).toNat = 192 + c / 64 := toNat_of (by omega)
    have e1 : (UInt8.ofNat (128 + c % 64)).toNat = 128 + c % 64 := toNat_of (by omega)
    refine ⟨?_, by simp, fun j h3 h4 => ?_, ?_⟩
    · simp only [List.cons_append, List.getD_cons_zero, e0]; unfold toldW
      rw [if_neg (by omega), if_neg (by omega), if_pos (by omega)]
    · obtain rfl : j = 1 := by omega
      simp only [List.cons_append, List.getD_cons_succ, List.getD_cons_zero, e1]; omega
    · simp only [numW, List.cons_append, List.getD_cons_succ, List.getD_cons_zero, e0, e1]; rw [show markW 2 = 192 from rfl]; omega
  by_cases h3 : c < 65536
  · have hw : wid c = 3 := by simp [wid, h1, h2, h3]
    rw [hw, enc3 h1 h2 h3]
    have e0 : (UInt8.ofNat (224 + c / 4096)).toNat = 224 + c / 4096 := toNat_of (by omega)
    have e1 : (UInt8.ofNat (128 + c / 64 % 64)).toNat = 128 + c / 64 % 64 := toNat_of (by omega)
    have e2 : (UInt8.ofNat (128 + c % 64)).toNat = 128 + c % 64 := toNat_of (by omega)
    refine ⟨?_, by simp, fun j h4 h5 => ?_, ?_⟩
    · simp only [List.cons_append, List.getD_cons_zero, e0]; unfold toldW
      rw [if_neg (by omega), if_neg (by omega), if_neg (by omega), if_pos (by omega)]
    · rcases (show j = 1 ∨ j = 2 by omega) with rfl | rfl
      · simp only [List.cons_append, List.getD_cons_succ, List.getD_cons_zero, e1]; omega
      · simp only [List.cons_append, List.getD_cons_succ, List.getD_cons_zero, e2]; omega
    · simp only [numW, List.cons_append, List.getD_cons_succ, List.getD_cons_zero, e0, e1, e2]; rw [show markW 3 = 224 from rfl]; omega
  · have hw : wid c = 4 := by simp [wid, h1, h2, h3]
    rw [hw, enc4 h1 h2 h3]
    have e0 : (UInt8.ofNat (240 + c / 262144)).toNat = 240 + c / 262144 := toNat_of (by omega)
    have e1 : (UInt8.ofNat (128 + c / 4096 % 64)).toNat = 128 + c / 4096 % 64 := toNat_of (by omega)
    have e2 : (UInt8.ofNat (128 + c / 64 % 64)).toNat = 128 + c / 64 % 64 := toNat_of (by omega)
    have e3 : (UInt8.ofNat (128 + c % 64)).toNat = 128 + c % 64 := toNat_of (by omega)
    refine ⟨?_, by simp, fun j h4 h5 => ?_, ?_⟩
    · simp only [List.cons_append, List.getD_cons_zero, e0]; unfold toldW
      rw [if_neg (by omega), if_neg (by omega), if_neg (by omega), if_neg (by omega), if_pos (by omega)]
    · rcases (show j = 1 ∨ j = 2 ∨ j = 3 by omega) with rfl | rfl | rfl
      · simp only [List.cons_append, List.getD_cons_succ, List.getD_cons_zero, e1]; omega
      · simp only [List.cons_append, List.getD_cons_succ, List.getD_cons_zero, e2]; omega
      · simp only [List.cons_append, List.getD_cons_succ, List.getD_cons_zero, e3]; omega
    · simp only [numW, List.cons_append, List.getD_cons_succ, List.getD_cons_zero, e0, e1, e2, e3]; rw [show markW 4 = 240 from rfl]; omega

theorem Begins.inj {bs : List UInt8} {c d : Nat} (h : Begins bs c) (h' : Begins bs d) : c = d := by
  have h1 := begins_told h
  have h2 := begins_told h'
  have e : wid c = wid d := h1.1.symm.trans h2.1
  rw [← h1.2.2.2, ← h2.2.2.2, e]

theorem ofNat_toNat' {b : UInt8} {a : Nat} (h : a = b.toNat) : UInt8.ofNat a = b := by subst h; simp

theorem told_begins {bs : List UInt8} {w : Nat} (hw : toldW (bs.getD 0 0).toNat = w) (h0 : 0 < w) (hl : w ≤ bs.length) (hf : ∀ j, 1 ≤ j → j < w → (bs.getD j 0).toNat / 64 = 2)
    (hc : isC (numW w bs w)) (hn : wid (numW w bs w) = w) : Begins bs (numW w bs w) := by
  refine ⟨hc, bs.drop w, ?_⟩
  have hw4 : w ≤ 4 := hw ▸ toldW_le _
  rcases bs with _ | ⟨b0, t⟩
  · simp at hl; omega
  simp only [List.getD_cons_zero] at hw
  have hb0 := b0.toNat_lt
  rcases (show w = 1 ∨ w = 2 ∨ w = 3 ∨ w = 4 by omega) with rfl | rfl | rfl | rfl
  · have e : numW 1 (b0 :: t) 1 = b0.toNat := by simp [numW, markW]
    rw [e] at hn ⊢
    have h1 : b0.toNat < 128 := by
      unfold wid at hn; (repeat' split at hn) <;> omega
    rw [enc1 h1]; simp
  · rcases t with _ | ⟨b1, t⟩
    · simp at hl
    have g1 := hf 1 (by omega) (by omega)
    simp only [List.getD_cons_succ, List.getD_cons_zero] at g1
    have hr : 192 ≤ b0.toNat ∧ b0.toNat < 224 := by unfold toldW at hw; (repeat' split at hw) <;> omega
    have e : numW 2 (b0 :: b1 :: t) 2 = (b0.toNat - 192) * 64 + b1.toNat % 64 := by simp [numW, markW]
    rw [e] at hn ⊢
    obtain ⟨c, hcc⟩ : ∃ c, c = (b0.toNat - 192) * 64 + b1.toNat % 64 := ⟨_, rfl⟩
    rw [← hcc] at hn ⊢
    have h1 : ¬ c < 128 ∧ c < 2048 := by unfold wid at hn; (repeat' split at hn) <;> omega
    rw [enc2 h1.1 h1.2, ofNat_toNat' (b := b0) (by omega), ofNat_toNat' (b := b1) (by omega)]; simp
  · rcases t with _ | ⟨b1, t⟩
    · simp at hl
    rcases t with _ | ⟨b2, t⟩
    · simp at hl
    have g1 := hf 1 (by omega) (by omega)
    have g2 := hf 2 (by omega) (by omega)
    simp only [List.getD_cons_succ, List.getD_cons_zero] at g1 g2
    have hr : 224 ≤ b0.toNat ∧ b0.toNat < 240 := by unfold toldW at hw; (repeat' split at hw) <;> omega
    have e : numW 3 (b0 :: b1 :: b2 :: t) 3 = ((b0.toNat - 224) * 64 + b1.toNat % 64) * 64 + b2.toNat % 64 := by simp [numW, markW]
    rw [e] at hn ⊢
    obtain ⟨c, hcc⟩ : ∃ c, c = ((b0.toNat - 224) * 64 + b1.toNat % 64) * 64 + b2.toNat % 64 := ⟨_, rfl⟩
    rw [← hcc] at hn ⊢
    have h1 : ¬ c < 2048 ∧ c < 65536 := by unfold wid at hn; (repeat' split at hn) <;> omega
    rw [enc3 (by omega) h1.1 h1.2, ofNat_toNat' (b := b0) (by omega), ofNat_toNat' (b := b1) (by omega), ofNat_toNat' (b := b2) (by omega)]; simp
  · rcases t with _ | ⟨b1, t⟩
    · simp at hl
    rcases t with _ | ⟨b2, t⟩
    · simp at hl
    rcases t with _ | ⟨b3, t⟩
    · simp at hl
    have g1 := hf 1 (by omega) (by omega)
    have g2 := hf 2 (by omega) (by omega)
    have g3 := hf 3 (by omega) (by omega)
    simp only [List.getD_cons_succ, List.getD_cons_zero] at g1 g2 g3
    have hr : 240 ≤ b0.toNat ∧ b0.toNat < 248 := by unfold toldW at hw; (repeat' split at hw) <;> omega
    have e : numW 4 (b0 :: b1 :: b2 :: b3 :: t) 4 = (((b0.toNat - 240) * 64 + b1.toNat % 64) * 64 + b2.toNat % 64) * 64 + b3.toNat % 64 := by simp [numW, markW]
    rw [e] at hn ⊢
    obtain ⟨c, hcc⟩ : ∃ c, c = (((b0.toNat - 240) * 64 + b1.toNat % 64) * 64 + b2.toNat % 64) * 64 + b3.toNat % 64 := ⟨_, rfl⟩
    rw [← hcc] at hn ⊢
    have h1 : ¬ c < 65536 := by unfold wid at hn; (repeat' split at hn) <;> omega
    rw [enc4 (by omega) (by omega) h1, ofNat_toNat' (b := b0) (by omega), ofNat_toNat' (b := b1) (by omega), ofNat_toNat' (b := b2) (by omega), ofNat_toNat' (b := b3) (by omega)]; simp

/-- The character c of n bytes begins the text; n = 0: none does. -/
def FirstIs (bs : List UInt8) (c n : Nat) : Prop := (Begins bs c ∧ n = wid c) ∨ (c = 0 ∧ n = 0 ∧ ∀ d, ¬ Begins bs d)
theorem firstIs_total (bs : List UInt8) : ∃ c n, FirstIs bs c n := by
  rcases Classical.em (∃ c, Begins bs c) with ⟨c, h⟩ | h
  · exact ⟨c, wid c, .inl ⟨h, rfl⟩⟩
  · exact ⟨0, 0, .inr ⟨rfl, rfl, fun d hd => h ⟨d, hd⟩⟩⟩
theorem FirstIs.inj {bs : List UInt8} {c n c' n' : Nat} (h : FirstIs bs c n) (h' : FirstIs bs c' n') : c = c' ∧ n = n' := by
  rcases h with ⟨h1, rfl⟩ | ⟨rfl, rfl, h1⟩ <;> rcases h' with ⟨h2, rfl⟩ | ⟨rfl, rfl, h2⟩
  · obtain rfl := h1.inj h2; exact ⟨rfl, rfl⟩
  · exact absurd h1 (h2 _)
  · exact absurd h2 (h1 _)
  · exact ⟨rfl, rfl⟩
theorem FirstIs.le {bs : List UInt8} {c n : Nat} (h : FirstIs bs c n) : c ≤ 1114111 ∧ n ≤ 4 ∧ n ≤ bs.length := by
  rcases h with ⟨h1, rfl⟩ | ⟨rfl, rfl, h1⟩
  · exact ⟨h1.1.le, wid_le _, (begins_told h1).2.1⟩
  · exact ⟨by omega, by omega, by omega⟩

/-- The bytes of characters, one behind the other. -/
def encs (cs : List Nat) : List UInt8 := cs.flatMap enc
theorem encs_nil : encs [] = [] := rfl
theorem encs_cons (c : Nat) (cs : List Nat) : encs (c :: cs) = enc c ++ encs cs := by simp [encs]
theorem encs_append (a b : List Nat) : encs (a ++ b) = encs a ++ encs b := by simp [encs]
theorem encs_snoc (a : List Nat) (c : Nat) : encs (a ++ [c]) = encs a ++ enc c := by simp [encs]

/-- The characters cs, and what is left where none begins. -/
def Splits (bs : List UInt8) (cs : List Nat) (rest : List UInt8) : Prop := (∀ c ∈ cs, isC c) ∧ bs = encs cs ++ rest ∧ ∀ d, ¬ Begins rest d
theorem not_begins_nil (d : Nat) : ¬ Begins [] d := fun ⟨_, t, h⟩ => by
  have := congrArg List.length h
  rw [List.length_append, enc_length] at this
  have := wid_pos d
  simp at *; omega
theorem splits_total : ∀ (n : Nat) (bs : List UInt8), bs.length = n → ∃ cs rest, Splits bs cs rest := by
  intro n
  induction n using Nat.strongRecOn with
  | _ n ih =>
    intro bs hn
    rcases Classical.em (∃ c, Begins bs c) with ⟨c, hc, t, rfl⟩ | h
    · have hl := wid_pos c
      rw [List.length_append, enc_length] at hn
      obtain ⟨cs, rest, h1, rfl, h3⟩ := ih t.length (by omega) t rfl
      exact ⟨c :: cs, rest, by simpa using ⟨hc, h1⟩, by rw [encs_cons, List.append_assoc], h3⟩
    · exact ⟨[], bs, by simp, rfl, fun d hd => h ⟨d, hd⟩⟩
theorem Splits.inj : ∀ {cs : List Nat} {bs : List UInt8} {rest : List UInt8} {cs' : List Nat} {rest' : List UInt8}, Splits bs cs rest → Splits bs cs' rest' → cs = cs' ∧ rest = rest'
  | [], bs, rest, cs', rest', h, h' => by
    obtain ⟨_, rfl, h3⟩ := h
    rcases cs' with _ | ⟨c, cs'⟩
    · exact ⟨rfl, by simpa [encs] using h'.2.1⟩
    · exact absurd ⟨h'.1 c (by simp), encs cs' ++ rest', by rw [← List.append_assoc, ← encs_cons]; exact h'.2.1⟩ (h3 c)
  | c :: cs, bs, rest, cs', rest', h, h' => by
    obtain ⟨h1, rfl, h3⟩ := h
    have hb : Begins (encs (c :: cs) ++ rest) c := ⟨h1 c (by simp), encs cs ++ rest, by rw [← List.append_assoc, ← encs_cons]⟩
    rcases cs' with _ | ⟨d, cs'⟩
    · refine absurd hb ?_
      rw [h'.2.1]; exact h'.2.2 c
    · have hd : Begins (encs (c :: cs) ++ rest) d := ⟨h'.1 d (by simp), encs cs' ++ rest', by rw [← List.append_assoc, ← encs_cons]; exact h'.2.1⟩
      obtain rfl := hb.inj hd
      have h5 := h'.2.1
      rw [encs_cons, encs_cons, List.append_assoc, List.append_assoc] at h5
      have h6 := List.append_cancel_left h5
      obtain ⟨rfl, rfl⟩ := Splits.inj (cs := cs) ⟨fun x hx => h1 x (by simp [hx]), rfl, h3⟩ (⟨fun x hx => h'.1 x (by simp [hx]), h6, h'.2.2⟩ : Splits _ cs' rest')
      exact ⟨rfl, rfl⟩
theorem splits_encs {cs : List Nat} (h : ∀ c ∈ cs, isC c) : Splits (encs cs) cs [] := ⟨h, by simp, not_begins_nil⟩
/-- At a place between two characters. -/
theorem splits_at {bs rest : List UInt8} {cs1 cs2 : List Nat} (h : Splits bs (cs1 ++ cs2) rest) : Splits (bs.drop (encs cs1).length) cs2 rest := by
  refine ⟨fun c hc => h.1 c (by simp [hc]), ?_, h.2.2⟩
  rw [h.2.1, encs_append, List.append_assoc, List.drop_left]
theorem Splits.first {bs rest : List UInt8} {c : Nat} {cs : List Nat} (h : Splits bs (c :: cs) rest) : FirstIs bs c (wid c) :=
  .inl ⟨⟨h.1 c (by simp), encs cs ++ rest, by rw [← List.append_assoc, ← encs_cons]; exact h.2.1⟩, rfl⟩
theorem Splits.stop {bs rest : List UInt8} (h : Splits bs [] rest) : FirstIs bs 0 0 := .inr ⟨rfl, rfl, by rw [show bs = rest by simpa [encs] using h.2.1]; exact h.2.2⟩
theorem encs_length_le : ∀ (cs : List Nat), cs.length ≤ (encs cs).length ∧ (encs cs).length ≤ 4 * cs.length
  | [] => by simp [encs]
  | c :: cs => by
    have := encs_length_le cs
    have := wid_pos c
    have := wid_le c
    rw [encs_cons, List.length_append, enc_length, List.length_cons]; omega
end Go.Proofs.YthmdapcieghbbabDoor
