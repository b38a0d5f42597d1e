/-
  digits.appendBytes: bytes of limbs, the highest first.
-/
import Derived.Test.YtobfhidajcnfdaaDoorTextB
namespace Go.Proofs.YtobfhidajcnfdaaDoor
set_option linter.unusedVariables false
set_option maxRecDepth 20000
open Go.RowKit

/-- The n lowest bytes of N, the highest first. -/
def beBytes (n N : Nat) : List UInt8 := (List.range n).map fun i => UInt8.ofNat (N / 256 ^ (n - 1 - i) % 256)
theorem beBytes_length (n N : Nat) : (beBytes n N).length = n := by simp [beBytes]
theorem beBytes_take {n N i : Nat} (h : i < n) : (beBytes n N).take (i + 1) = (beBytes n N).take i ++ [UInt8.ofNat (N / 256 ^ (n - 1 - i) % 256)] := by
  rw [List.take_add_one]
  simp [beBytes, h]

theorem val_limb {l : List Nat} (h : ∀ x ∈ l, x < 4294967296) (i : Nat) : val 4294967296 l / 4294967296 ^ i % 4294967296 = l.getD i 0 := by
  rcases Nat.lt_or_ge i l.length with hi | hi
  · have e := val_take_drop 4294967296 l i (by omega)
    have h1 := val_lt (b := 4294967296) (by decide) (l := l.take i) fun x hx => h x (List.mem_of_mem_take hx)
    rw [List.length_take, Nat.min_eq_left (by omega)] at h1
    rw [e, Nat.add_mul_div_left _ _ (Nat.pow_pos (by decide)), Nat.div_eq_of_lt h1, Nat.zero_add, val_drop_next, Nat.add_mul_mod_self_left]
    exact Nat.mod_eq_of_lt (getD_lt (by decide) h i)
  · have h1 := val_lt (b := 4294967296) (by decide) h
    have h2 : val 4294967296 l < 4294967296 ^ i := Nat.lt_of_lt_of_le h1 (Nat.pow_le_pow_right (by decide) hi)
    rw [Nat.div_eq_of_lt h2]
    simp [List.getD, hi]
theorem mod_part (X r : Nat) (hr : r < 4) : X % 4294967296 / 256 ^ r % 256 = X / 256 ^ r % 256 := by
  rcases (show r = 0 ∨ r = 1 ∨ r = 2 ∨ r = 3 by omega) with rfl | rfl | rfl | rfl <;> simp only [Nat.reducePow] <;> omega
theorem val_byte {l : List Nat} (h : ∀ x ∈ l, x < 4294967296) (p : Nat) : l.getD (p / 4) 0 / 256 ^ (p % 4) % 256 = val 4294967296 l / 256 ^ p % 256 := by
  rw [← val_limb h (p / 4), mod_part _ _ (Nat.mod_lt _ (by decide)), Nat.div_div_eq_div_mul, show (4294967296 : Nat) = 256 ^ 4 by decide, ← Nat.pow_mul, ← Nat.pow_add, Nat.div_add_mod]

theorem Blk.others {w w' : World} {e : TypeId} {g : Nat} {t : TypeId} {cs : Array Value} (h : Blk w g t cs) (hk : Lib.OthersKept e none w w') (ht : t ≠ e) : Blk w' g t cs :=
  hk g _ h (by simp) (by intro c fz e'; injection e' with _ e'; exact ht e')
theorem Arr.others {w w' : World} {e : TypeId} {t : TypeId} {k : IntKind} {A : Option Addr} {l : List Nat} (h : Arr t k w A l) (hk : Lib.OthersKept e none w w') (ht : t ≠ e) : Arr t k w' A l := fun hn => by
  obtain ⟨g, o, cs, e, h1, hc⟩ := h hn
  exact ⟨g, o, cs, e, h1.others hk ht, hc⟩
theorem IsN.others {w w' : World} {e : TypeId} {v : Value} {k N : Nat} (h : IsN w v k N) (hk : Lib.OthersKept e none w w') (ht : 43 ≠ e) : IsN w' v k N := by
  obtain ⟨A, c, l, e, h1, h2, h3, h4, h5⟩ := h
  exact ⟨A, c, l, e, h1.others hk ht, h2, h3, h4, h5⟩

set_option maxHeartbeats 2000000 in
theorem appendBytes_any (B n0 n : Nat) (u : Value) (xs : List Value) (A : Option Addr) (c : Nat) (l : List Nat) (w : World) (hown : w.ownsRow B 5 1 u n0 xs) (hBw : B ≤ w.heap.size) (hl : Arr 43 .u32 w A l) (hb : ∀ x ∈ l, x < 4294967296) (hn : n ≤ 4 * l.length) (hlim : n0 + n ≤ 1000000000) :
    Calls Tryd.prog 44 #[u, .slice A l.length c, .int .i64 n] w fun e w' => ∃ u', e = .returned u' ∧ w'.ownsRow B 5 1 u' (n0 + n) (xs ++ Lib.byteCells (beBytes n (val 4294967296 l))) ∧ Below B w w' ∧ Lib.OthersKept 5 none w w' := by
  obtain ⟨i0, hi, hz0, hz1, hz2⟩ := info_parts byte_info
  have VB := Lib.hid (fun p => val_byte hb p)
  have HB := Lib.hid (fun i => getD_lt (by decide) hb i)
  generalize val 4294967296 l = N at *
  clear hb
  go_enter Tryd.func44, Tryd.ntmps44
  go_wp2
  go_loopg [0, 10] n (fun m u i wx => ∃ k : Nat, k + m = n ∧ i = .int .i64 k ∧ wx.ownsRow B 5 1 u (n0 + k) (xs ++ Lib.byteCells ((beBytes n N).take k)) ∧ Below B w wx ∧ Lib.OthersKept 5 none w wx)
  case atStart => exact ⟨0, by omega, rfl, by simpa [Lib.byteCells] using hown, Below.refl _ _, Lib.OthersKept.refl _ _ _⟩
  case round =>
    obtain ⟨k, hk, rfl, hrow, hb1, hk1⟩ := hrel
    have hb1s := hb1.size
    obtain ⟨ao, cp, rfl⟩ := own_form hrow
    by_cases hlt : k < n
    · obtain ⟨p, hp⟩ : ∃ p, p = n - 1 - k := ⟨_, rfl⟩
      have hpk : n = p + k + 1 := by omega
      have hp4 : p / 4 < l.length := by omega
      obtain ⟨ad, rfl, _, hc⟩ := (hl.others hk1 (by decide)).row.at_ hp4
      have HT := Lib.hid (beBytes_take (N := N) hlt)
      rw [← hp] at HT
      have HV := Lib.hid (VB.out p)
      have HK := Lib.hid hk
      have hx := HB.out (p / 4)
      generalize l.getD (p / 4) 0 = x at *
      clear hk hp
      have hsub : (n : Int) - 1 - (k : Int) = (p : Int) := by omega
      clear hpk
      have HX : Hid (((x : Int) / 2 ^ (8 * (p % 4)) % 256) = ((UInt8.ofNat (N / 256 ^ p % 256)).toNat : Int)) := by
        rw [Hid, ← HV.out]
        have e1 : (256 : Nat) ^ (p % 4) = 2 ^ (8 * (p % 4)) := by rw [show (256 : Nat) = 2 ^ 8 by decide, ← Nat.pow_mul]
        have e2 : (UInt8.ofNat (x / 256 ^ (p % 4) % 256)).toNat = x / 256 ^ (p % 4) % 256 := by
          rw [UInt8.toNat_ofNat']
          exact Nat.mod_eq_of_lt (Nat.mod_lt _ (by decide))
        rw [e2, e1]
        push_cast
        rfl
      have hn1 : n0 + k + 1 ≤ 1000000000 := by omega
      go_wp2_with (at_builtin; refine wpList_append_own _ rfl (.tmp 17) (.tmp 28) 42 rfl B 5 i0 (.int .u8 0) 1 1 Tryd.underlying42 hi hz0 hz1 hz2 rfl (by decide) _ (n0 + k) _ rfl (hrow.alloc _) ⟨wr.heap.size, 0, none⟩ 1 1 [.int .u8 ((x : Int) / 2 ^ (8 * (p % 4)) % 256)] rfl rfl (cell_one_new _ _ _) (by simp [Value.oneCell']) (by unfold maxLen; omega) (by omega) (by simp; omega) ?_; intro v' w2 hown2 hgrow _; have hb2 : Below B w w2 := (hb1.alloc (by omega) _).grown hgrow (by simp; omega) (fun k hk => (hrow.lt k hk).1); have hk2 : Lib.OthersKept 5 none w w2 := (hk1.alloc _).grown hgrow (Lib.ownsRow_kind (hrow.alloc _)); clear hgrow)
      go_roundg (n - (k + 1))
      case measure => have := HK.out; omega
      case rel =>
        refine ⟨k + 1, by omega, by go_num, ?_, hb2, hk2⟩
        rw [HX.out] at hown2
        rw [HT.out]
        have e : Lib.byteCells ((beBytes n N).take k ++ [UInt8.ofNat (N / 256 ^ p % 256)]) = Lib.byteCells ((beBytes n N).take k) ++ [.int .u8 ((UInt8.ofNat (N / 256 ^ p % 256)).toNat : Int)] := by simp [Lib.byteCells]
        rw [e, ← List.append_assoc]
        exact hown2
    · obtain rfl : k = n := by omega
      rw [List.take_of_length_le (by rw [beBytes_length]; exact Nat.le_refl _)] at hrow
      go_wp2
      go_ret
      exact ⟨_, rfl, hrow, hb1, hk1⟩
end Go.Proofs.YtobfhidajcnfdaaDoor
