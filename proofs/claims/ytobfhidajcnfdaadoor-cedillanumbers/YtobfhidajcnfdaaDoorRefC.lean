/-
  Contracts of the document's own arithmetic in decimal digits: Of, Add, Sub.
-/
import Derived.Test.YtobfhidajcnfdaaDoorRefB
namespace Go.Proofs.YtobfhidajcnfdaaDoor
set_option linter.unusedVariables false
set_option maxRecDepth 20000
open Go.RowKit

set_option maxHeartbeats 1000000 in
/-- 'Of' of the document: of limbs. -/
theorem ofD_any (A : Option Addr) (n c : Nat) (l : List Nat) (w : World) (hln : l.length = n) (hr : Row .u32 w A l) (hb : ∀ x ∈ l, x < 4294967296) (hn : n ≤ 80000) :
    Calls Tryd.prog 15 #[.slice A n c] w (RetD (10 * n) (val 4294967296 l) w) := by
  have HL := Lib.hid hln
  clear hln
  go_enter Tryd.func15, Tryd.ntmps15
  go_wp2
  go_loopw [3, 4] (fun v t wr => ∃ k : Nat, k ≤ n ∧ t = .int .i64 ((k : Int) - 1) ∧ IsD wr v (10 * (n - k)) (val 4294967296 (l.drop k)) ∧ Below w.heap.size w wr) (fun _ t _ => (intOf t + 1).toNat)
  case atStart => exact ⟨n, Nat.le_refl _, rfl, ⟨[], ⟨_, 0, rfl, Arr.empty, by simp⟩, Norm.nil _, by rw [← HL.out, List.drop_length]; rfl, by simp⟩, below_new _ _⟩
  case round =>
    obtain ⟨j, hj, rfl, hD, hbw⟩ := hrel
    by_cases hj0 : j = 0
    · subst hj0
      rw [List.drop_zero] at hD
      go_wp2
      go_ret
      exact ⟨_, rfl, hD, hbw⟩
    · obtain ⟨i, rfl⟩ : ∃ i, j = i + 1 := ⟨j - 1, by omega⟩
      rw [show ((i + 1 : Nat) : Int) - 1 = (i : Int) by omega]
      have hil : i < l.length := by rw [HL.out]; omega
      obtain ⟨ad, rfl, hab, hx⟩ := (hr.below hbw).at_ hil
      have hx1 := lt_of_mem_getD hb hil
      have T := fun w' (h : IsD w' u3 (10 * (n - (i + 1))) (val 4294967296 (l.drop (i + 1)))) => timesD_any u3 _ _ 4294967296 (l.getD i 0) w' h (by omega) (by omega) hx1
      have hv : val 4294967296 (l.drop (i + 1)) * 4294967296 + l.getD i 0 = val 4294967296 (l.drop i) := by rw [val_drop _ _ _ hil]; omega
      rw [hv] at T
      obtain ⟨x, hxe⟩ : ∃ x, x = l.getD i 0 := ⟨_, rfl⟩
      rw [← hxe] at hx hx1 T
      have HT := Lib.hid T
      clear hxe T hv hj0
      have hi0 : (0 : Int) ≤ (i : Int) := by omega
      have hin : (i : Int) < (n : Int) := by omega
      go_wp2_with fail
      refine (HT.out _ hD).mono ?_
      rintro e w1 ⟨v, rfl, hD1, hb1⟩
      go_wp2
      go_roundw
      case rel => exact ⟨i, by omega, by go_num, hD1.more (by omega), below_step hbw hb1⟩
      case measure => simp [intOf]

/-- One more digit of a sum. -/
theorem addD_step (b i x y cy ov lv lv' T : Nat) (h : ov + b ^ i * (cy + (x + b * lv) + (y + b * lv')) = T) :
    ov + b ^ i * ((x + y + cy) % b) + b ^ (i + 1) * ((x + y + cy) / b + lv + lv') = T := by
  rw [← h, Nat.pow_succ, Nat.mul_assoc, Nat.add_assoc, ← Nat.mul_add]
  congr 2
  have := Nat.mod_add_div (x + y + cy) b
  rw [Nat.mul_add, Nat.mul_add]
  omega

end Go.Proofs.YtobfhidajcnfdaaDoor
