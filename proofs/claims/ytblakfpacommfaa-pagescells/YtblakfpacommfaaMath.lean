/-
  Plain arithmetic of digit lists, the lowest digit first, to any base; it speaks of no program.
-/
namespace Go.Proofs.Ytblakfpacommfaa
set_option linter.unusedVariables false
set_option maxRecDepth 20000
set_option maxRecDepth 20000
set_option maxRecDepth 20000

/-- The number of a list of digits to the base b, the lowest first. -/
def val (b : Nat) : List Nat → Nat
  | [] => 0
  | x :: r => x + b * val b r

/-- Digits below the base, the last of which is not nought. -/
def Norm (b : Nat) (l : List Nat) : Prop := (∀ x ∈ l, x < b) ∧ ∀ h : l ≠ [], l.getLast h ≠ 0

theorem val_append (b : Nat) (l r : List Nat) : val b (l ++ r) = val b l + b ^ l.length * val b r := by
  induction l with
  | nil => simp [val]
  | cons x l ih => simp only [List.cons_append, val, ih, List.length_cons, Nat.pow_succ, Nat.mul_add]; rw [← Nat.mul_assoc, Nat.mul_comm b (b ^ l.length)]; omega

theorem val_snoc (b : Nat) (l : List Nat) (x : Nat) : val b (l ++ [x]) = val b l + b ^ l.length * x := by
  simp [val_append, val]

theorem val_lt {b : Nat} (hb : 0 < b) {l : List Nat} (h : ∀ x ∈ l, x < b) : val b l < b ^ l.length := by
  induction l with
  | nil => simp [val]
  | cons x l ih =>
    have h1 : x < b := h x (by simp)
    have h2 := ih fun y hy => h y (by simp [hy])
    simp only [val, List.length_cons, Nat.pow_succ]
    have h3 : b * (val b l + 1) ≤ b * b ^ l.length := Nat.mul_le_mul_left b h2
    rw [Nat.mul_add] at h3
    rw [Nat.mul_comm (b ^ l.length) b]
    omega

theorem val_replicate (b n : Nat) : val b (List.replicate n 0) = 0 := by
  induction n with
  | zero => rfl
  | succ n ih => simp [List.replicate_succ, val, ih]

theorem val_zeros (b : Nat) {l : List Nat} (h : ∀ x ∈ l, x = 0) : val b l = 0 := by
  induction l with
  | nil => rfl
  | cons x l ih => simp [val, h x (by simp), ih fun y hy => h y (by simp [hy])]

theorem val_take_drop (b : Nat) (l : List Nat) (k : Nat) (hk : k ≤ l.length) : val b l = val b (l.take k) + b ^ k * val b (l.drop k) := by
  conv => lhs; rw [← List.take_append_drop k l, val_append]
  rw [List.length_take, Nat.min_eq_left hk]

theorem val_take_succ (b : Nat) (l : List Nat) (k : Nat) (hk : k < l.length) : val b (l.take (k + 1)) = val b (l.take k) + b ^ k * l.getD k 0 := by
  rw [List.take_succ_eq_append_getElem hk, val_snoc, List.length_take, Nat.min_eq_left (by omega)]
  simp [List.getD, hk]

theorem val_take_next (b : Nat) (l : List Nat) (k : Nat) : val b (l.take (k + 1)) = val b (l.take k) + b ^ k * l.getD k 0 := by
  rcases Nat.lt_or_ge k l.length with h | h
  · exact val_take_succ b l k h
  · rw [List.take_of_length_le h, List.take_of_length_le (by omega)]
    simp [List.getD, List.getElem?_eq_none h]

theorem getD_lt {b : Nat} (hb : 0 < b) {l : List Nat} (h : ∀ x ∈ l, x < b) (i : Nat) : l.getD i 0 < b := by
  rcases Nat.lt_or_ge i l.length with h1 | h1
  · have : l.getD i 0 = l[i] := by simp [List.getD, h1]
    rw [this]; exact h _ (List.getElem_mem h1)
  · simpa [List.getD, List.getElem?_eq_none h1] using hb

theorem set_lt {b : Nat} {l : List Nat} (h : ∀ x ∈ l, x < b) (i : Nat) {y : Nat} (hy : y < b) : ∀ x ∈ l.set i y, x < b := by
  intro x hx
  rcases List.mem_or_eq_of_mem_set hx with h1 | h1
  · exact h x h1
  · omega

theorem val_take_set (b : Nat) (l : List Nat) (i y : Nat) (hi : i < l.length) : val b ((l.set i y).take (i + 1)) = val b (l.take i) + b ^ i * y := by
  rw [val_take_succ b _ i (by simpa using hi), List.take_set_of_le (Nat.le_refl i)]
  simp [List.getD, hi]

/-- One step of a sum. -/
theorem add_step (b j x y cy sv lv lv' : Nat) (h : sv + b ^ j * cy = lv + lv') :
    sv + b ^ j * ((x + y + cy) % b) + b ^ (j + 1) * ((x + y + cy) / b) = lv + b ^ j * x + (lv' + b ^ j * y) := by
  have e := Nat.mod_add_div (x + y + cy) b
  have e2 : b ^ j * ((x + y + cy) % b) + b ^ (j + 1) * ((x + y + cy) / b) = b ^ j * (x + y + cy) := by
    rw [Nat.pow_succ, Nat.mul_assoc, ← Nat.mul_add, e]
  rw [Nat.add_assoc, e2, Nat.mul_add, Nat.mul_add]
  omega

/-- One step of a difference. -/
theorem sub_step (b j d x y z z' sv lv lv' : Nat) (h : sv + lv' = lv + b ^ j * z) (hd : d + y + z = x + b * z') :
    sv + b ^ j * d + (lv' + b ^ j * y) = lv + b ^ j * x + b ^ (j + 1) * z' := by
  have e : b ^ j * d + b ^ j * y + b ^ j * z = b ^ j * x + b ^ (j + 1) * z' := by
    rw [Nat.pow_succ, Nat.mul_assoc, ← Nat.mul_add, ← Nat.mul_add, ← Nat.mul_add, hd]
  omega

theorem val_drop (b : Nat) (l : List Nat) (k : Nat) (hk : k < l.length) : val b (l.drop k) = l.getD k 0 + b * val b (l.drop (k + 1)) := by
  rw [List.drop_eq_getElem_cons hk, val]
  simp [List.getD, hk]

theorem val_drop_next (b : Nat) (l : List Nat) (k : Nat) : val b (l.drop k) = l.getD k 0 + b * val b (l.drop (k + 1)) := by
  rcases Nat.lt_or_ge k l.length with h | h
  · exact val_drop b l k h
  · rw [List.drop_of_length_le h, List.drop_of_length_le (by omega)]
    simp [List.getD, List.getElem?_eq_none h, val]

theorem pow_lt_of {b n m x : Nat} (hb : 1 < b) (h : b ^ n ≤ x) (hx : x < b ^ m) : n < m :=
  (Nat.pow_lt_pow_iff_right hb).1 (Nat.lt_of_le_of_lt h hx)

theorem Norm.nil (b : Nat) : Norm b [] := ⟨by simp, fun h => absurd rfl h⟩

theorem norm_take {b : Nat} {l : List Nat} {k : Nat} (h : ∀ x ∈ l, x < b) (hk : 0 < k) (hkl : k ≤ l.length) (hne : l.getD (k - 1) 0 ≠ 0) : Norm b (l.take k) := by
  refine ⟨fun x hx => h x (List.mem_of_mem_take hx), fun hn => ?_⟩
  rw [List.getLast_eq_getElem]
  have hlen : (l.take k).length = k := by rw [List.length_take]; omega
  simp only [hlen, List.getElem_take]
  have : k - 1 < l.length := by omega
  simpa [List.getD, this] using hne

/-- A normal list that is not empty is at least its last digit's weight. -/
theorem Norm.ge {b : Nat} {l : List Nat} (h : Norm b l) (hl : l ≠ []) : b ^ (l.length - 1) ≤ val b l := by
  have e := List.dropLast_concat_getLast hl
  have h0 := h.2 hl
  have hlen : l.dropLast.length = l.length - 1 := List.length_dropLast
  rw [← e, val_snoc, hlen]
  have : b ^ (l.length - 1) * 1 ≤ b ^ (l.length - 1) * l.getLast hl := Nat.mul_le_mul_left _ (by omega)
  have e2 : (l.dropLast ++ [l.getLast hl]).length - 1 = l.length - 1 := by rw [e]
  rw [e2]; omega

theorem Norm.tail {b x : Nat} {l : List Nat} (h : Norm b (x :: l)) : Norm b l :=
  ⟨fun y hy => h.1 y (by simp [hy]), fun hn => by have := h.2 (by simp); rwa [List.getLast_cons hn] at this⟩

theorem Norm.zero {b : Nat} (hb : 0 < b) {l : List Nat} (h : Norm b l) : val b l = 0 ↔ l = [] := by
  constructor
  · intro hv
    rcases Classical.em (l = []) with e | e
    · exact e
    · have := h.ge e
      have := Nat.pow_pos (n := l.length - 1) hb
      omega
  · rintro rfl; rfl

theorem Norm.inj {b : Nat} (hb : 0 < b) : ∀ {l r : List Nat}, Norm b l → Norm b r → val b l = val b r → l = r
  | [], r, _, hr, e => ((hr.zero hb).1 (by rw [← e]; rfl)).symm
  | x :: l, [], hl, _, e => (hl.zero hb).1 (by rw [e]; rfl)
  | x :: l, y :: r, hl, hr, e => by
    have hx := hl.1 x (by simp)
    have hy := hr.1 y (by simp)
    simp only [val] at e
    have e1 : (x + b * val b l) % b = (y + b * val b r) % b := by rw [e]
    rw [Nat.add_mul_mod_self_left, Nat.add_mul_mod_self_left, Nat.mod_eq_of_lt hx, Nat.mod_eq_of_lt hy] at e1
    subst e1
    have e2 : val b l = val b r := Nat.eq_of_mul_eq_mul_left hb (by omega)
    rw [Norm.inj hb hl.tail hr.tail e2]

/-- The longer of two normal lists is the greater. -/
theorem Norm.lt_of_length {b : Nat} (hb : 0 < b) {l r : List Nat} (hl : Norm b l) (hr : Norm b r) (h : l.length < r.length) : val b l < val b r := by
  have h1 := val_lt hb hl.1
  have h2 := hr.ge (by intro e; simp [e] at h)
  have h3 : b ^ l.length ≤ b ^ (r.length - 1) := Nat.pow_le_pow_right hb (by omega)
  omega

/-- Lists of one length that agree from place k on, and part at k - 1. -/
theorem val_lt_at {b : Nat} (hb : 0 < b) {l r : List Nat} (hl : ∀ x ∈ l, x < b) {k : Nat} (hk : k < l.length) (he : l.length = r.length)
    (hd : l.drop (k + 1) = r.drop (k + 1)) (hlt : l.getD k 0 < r.getD k 0) : val b l < val b r := by
  rw [val_take_drop b l (k + 1) (by omega), val_take_drop b r (k + 1) (by omega), hd, val_take_succ b l k hk, val_take_succ b r k (by omega)]
  have h1 : val b (l.take k) < b ^ k := by
    have := val_lt hb (l := l.take k) fun x hx => hl x (List.mem_of_mem_take hx)
    rwa [List.length_take, Nat.min_eq_left (by omega)] at this
  have h2 : b ^ k * (l.getD k 0 + 1) ≤ b ^ k * r.getD k 0 := Nat.mul_le_mul_left _ hlt
  rw [Nat.mul_add] at h2
  omega

/-- How many bits a number wants. -/
def bl (n : Nat) : Nat := if n = 0 then 0 else n.log2 + 1

theorem bl_spec (n k : Nat) : bl n ≤ k ↔ n < 2 ^ k := by
  unfold bl
  by_cases h : n = 0
  · subst h; simp; exact Nat.pow_pos (by omega)
  · rw [if_neg h, Nat.succ_le_iff, Nat.log2_lt h]

theorem bl_unique {n k : Nat} (h1 : n < 2 ^ k) (h2 : ∀ j, n < 2 ^ j → k ≤ j) : bl n = k :=
  Nat.le_antisymm ((bl_spec n k).2 h1) (h2 _ ((bl_spec n (bl n)).1 (Nat.le_refl _)))

theorem bl_mono {n m : Nat} (h : n ≤ m) : bl n ≤ bl m := (bl_spec n _).2 (Nat.lt_of_le_of_lt h ((bl_spec m _).1 (Nat.le_refl _)))

theorem bl_zero : bl 0 = 0 := rfl
theorem bl_pos {n : Nat} (h : n ≠ 0) : bl n = n.log2 + 1 := by simp [bl, h]

/-- The bits of low digits and a top one that is not nought. -/
theorem bl_top (k t lo : Nat) (hlo : lo < 2 ^ k) (ht : t ≠ 0) : bl (lo + 2 ^ k * t) = k + bl t := by
  refine bl_unique ?_ fun j hj => ?_
  · have h1 : t < 2 ^ bl t := (bl_spec t _).1 (Nat.le_refl _)
    have h2 : 2 ^ k * (t + 1) ≤ 2 ^ k * 2 ^ bl t := Nat.mul_le_mul_left _ h1
    rw [Nat.mul_add] at h2
    rw [Nat.pow_add]; omega
  · have h0 : 2 ^ k * 1 ≤ 2 ^ k * t := Nat.mul_le_mul_left _ (by omega)
    have hkj : k ≤ j := by
      rcases Nat.lt_or_ge j k with h | h
      · have := Nat.pow_le_pow_right (n := 2) (by omega) (Nat.le_of_lt h); omega
      · exact h
    have e : j = k + (j - k) := by omega
    rw [e, Nat.pow_add] at hj
    have : t < 2 ^ (j - k) := by
      rcases Nat.lt_or_ge t (2 ^ (j - k)) with h | h
      · exact h
      · have := Nat.mul_le_mul_left (2 ^ k) h; omega
    have := (bl_spec t _).2 this
    omega
end Go.Proofs.Ytblakfpacommfaa
