/-
  utf.toldWidth: its contract.
-/
import Derived.Test.YtccbofaefpbhlaaDoorUA
import Derived.Laws.BitsAllLaws
import Derived.Laws.BitsLemmas
namespace Go.Proofs.YtccbofaefpbhlaaDoor.Utf
set_option linter.unusedVariables false
set_option maxRecDepth 20000
open Go.RowKit Go.Lib

theorem leads_cells {w : World} (he : Env w) (i : Nat) (hi : i < 12) : w.cell? ⟨0, i, none⟩ = leadsTab[i]? := by
  have h : i < leadsTab.size := hi
  rw [he.2 i _ (Array.getElem?_eq_getElem h), Array.getElem?_eq_getElem h]

set_option maxHeartbeats 1000000 in
theorem toldWidth_any (b : Nat) (hb : b < 256) (w : World) (he : Env w) : Calls Tryd.prog 81 #[.int .u8 b] w (RetV (.int .i64 (toldW b)) w) := by
  have c0 := leads_cells he 0 (by decide)
  have c1 := leads_cells he 1 (by decide)
  have c2 := leads_cells he 2 (by decide)
  have c3 := leads_cells he 3 (by decide)
  have c4 := leads_cells he 4 (by decide)
  have c5 := leads_cells he 5 (by decide)
  have c6 := leads_cells he 6 (by decide)
  have c7 := leads_cells he 7 (by decide)
  have c8 := leads_cells he 8 (by decide)
  have c9 := leads_cells he 9 (by decide)
  have c10 := leads_cells he 10 (by decide)
  have c11 := leads_cells he 11 (by decide)
  simp only [leadsTab] at c0 c1 c2 c3 c4 c5 c6 c7 c8 c9 c10 c11
  go_enter Tryd.func81, Tryd.ntmps81
  go_wp2
  have f1 : (bits .and .u8 (b : Int) 128 == 0) = decide (b < 128) := by
    rw [show (128 : Int) = ((128 : Nat) : Int) from rfl, u8_and_nat b 128 hb (by decide)]
    exact (show ∀ b, b < 256 → ((((b &&& 128 : Nat) : Int) == 0) = decide (b < 128)) by decide +kernel) b hb
  have f2 : (bits .and .u8 (b : Int) 224 == 192) = decide (192 ≤ b ∧ b < 224) := by
    rw [show (224 : Int) = ((224 : Nat) : Int) from rfl, u8_and_nat b 224 hb (by decide)]
    exact (show ∀ b, b < 256 → ((((b &&& 224 : Nat) : Int) == 192) = decide (192 ≤ b ∧ b < 224)) by decide +kernel) b hb
  have f3 : (bits .and .u8 (b : Int) 240 == 224) = decide (224 ≤ b ∧ b < 240) := by
    rw [show (240 : Int) = ((240 : Nat) : Int) from rfl, u8_and_nat b 240 hb (by decide)]
    exact (show ∀ b, b < 256 → ((((b &&& 240 : Nat) : Int) == 224) = decide (224 ≤ b ∧ b < 240)) by decide +kernel) b hb
  have f4 : (bits .and .u8 (b : Int) 248 == 240) = decide (240 ≤ b ∧ b < 248) := by
    rw [show (248 : Int) = ((248 : Nat) : Int) from rfl, u8_and_nat b 248 hb (by decide)]
    exact (show ∀ b, b < 256 → ((((b &&& 248 : Nat) : Int) == 240) = decide (240 ≤ b ∧ b < 248)) by decide +kernel) b hb
  have x0 : ∀ W, (Instr.index 110 (.agg #[.int .u8 0, .int .u8 128, .int .i32 0, .int .u8 192, .int .u8 224, .int .i32 128, .int .u8 224, .int .u8 240, .int .i32 2048, .int .u8 240, .int .u8 248, .int .i32 65536]) (.int .i64 0)).run Tryd.prog W = .ok (.agg #[.int .u8 0, .int .u8 128, .int .i32 0]) W := fun _ => by kernel_rfl
  have x1 : ∀ W, (Instr.index 110 (.agg #[.int .u8 0, .int .u8 128, .int .i32 0, .int .u8 192, .int .u8 224, .int .i32 128, .int .u8 224, .int .u8 240, .int .i32 2048, .int .u8 240, .int .u8 248, .int .i32 65536]) (.int .i64 1)).run Tryd.prog W = .ok (.agg #[.int .u8 192, .int .u8 224, .int .i32 128]) W := fun _ => by kernel_rfl
  have x2 : ∀ W, (Instr.index 110 (.agg #[.int .u8 0, .int .u8 128, .int .i32 0, .int .u8 192, .int .u8 224, .int .i32 128, .int .u8 224, .int .u8 240, .int .i32 2048, .int .u8 240, .int .u8 248, .int .i32 65536]) (.int .i64 2)).run Tryd.prog W = .ok (.agg #[.int .u8 224, .int .u8 240, .int .i32 2048]) W := fun _ => by kernel_rfl
  have x3 : ∀ W, (Instr.index 110 (.agg #[.int .u8 0, .int .u8 128, .int .i32 0, .int .u8 192, .int .u8 224, .int .i32 128, .int .u8 224, .int .u8 240, .int .i32 2048, .int .u8 240, .int .u8 248, .int .i32 65536]) (.int .i64 3)).run Tryd.prog W = .ok (.agg #[.int .u8 240, .int .u8 248, .int .i32 65536]) W := fun _ => by kernel_rfl
  clear c0 c1 c2 c3 c4 c5 c6 c7 c8 c9 c10 c11
  go_loopw [6] (fun t wr => Below w.heap.size w wr ∧ ∃ k : Nat, t = .int .i64 k ∧ k ≤ 4 ∧ (toldW b = 0 ∨ k < toldW b)) (fun t _ => 4 - (intOf t).toNat)
  case atStart => exact ⟨Below.refl _ _, 0, rfl, by omega, by omega⟩
  case round =>
    obtain ⟨hbw, k, rfl, hk, hkt⟩ := hrel
    have hcase : (k = 4 ∧ toldW b = 0) ∨ k = 0 ∨ k = 1 ∨ k = 2 ∨ k = 3 := by
      have := toldW_le b
      omega
    rcases hcase with ⟨rfl, h0⟩ | rfl | rfl | rfl | rfl
    · go_wp2
      go_ret
      exact ⟨by rw [h0]; rfl, hbw⟩
    · rcases hc : decide (b < 128) with _ | _
      · rw [hc] at f1
        rw [decide_eq_false_iff_not] at hc
        go_wp2
        go_roundw
        case rel => exact ⟨hbw.alloc hbw.size _, 1, rfl, by omega, by (unfold toldW at *; (repeat' split at *) <;> omega)⟩
        case measure => simp [intOf]
      · rw [hc] at f1
        rw [decide_eq_true_iff] at hc
        have ht : toldW b = 1 := by (unfold toldW at *; (repeat' split at *) <;> omega)
        go_wp2
        go_ret
        exact ⟨by rw [ht]; rfl, hbw.alloc hbw.size _⟩
    · rcases hc : decide (192 ≤ b ∧ b < 224) with _ | _
      · rw [hc] at f2
        rw [decide_eq_false_iff_not] at hc
        go_wp2
        go_roundw
        case rel => exact ⟨hbw.alloc hbw.size _, 2, rfl, by omega, by (unfold toldW at *; (repeat' split at *) <;> omega)⟩
        case measure => simp [intOf]
      · rw [hc] at f2
        rw [decide_eq_true_iff] at hc
        have ht : toldW b = 2 := by (unfold toldW at *; (repeat' split at *) <;> omega)
        go_wp2
        go_ret
        exact ⟨by rw [ht]; rfl, hbw.alloc hbw.size _⟩
    · rcases hc : decide (224 ≤ b ∧ b < 240) with _ | _
      · rw [hc] at f3
        rw [decide_eq_false_iff_not] at hc
        go_wp2
        go_roundw
        case rel => exact ⟨hbw.alloc hbw.size _, 3, rfl, by omega, by (unfold toldW at *; (repeat' split at *) <;> omega)⟩
        case measure => simp [intOf]
      · rw [hc] at f3
        rw [decide_eq_true_iff] at hc
        have ht : toldW b = 3 := by (unfold toldW at *; (repeat' split at *) <;> omega)
        go_wp2
        go_ret
        exact ⟨by rw [ht]; rfl, hbw.alloc hbw.size _⟩
    · rcases hc : decide (240 ≤ b ∧ b < 248) with _ | _
      · rw [hc] at f4
        rw [decide_eq_false_iff_not] at hc
        go_wp2
        go_roundw
        case rel => exact ⟨hbw.alloc hbw.size _, 4, rfl, by omega, by (unfold toldW at *; (repeat' split at *) <;> omega)⟩
        case measure => simp [intOf]
      · rw [hc] at f4
        rw [decide_eq_true_iff] at hc
        have ht : toldW b = 4 := by (unfold toldW at *; (repeat' split at *) <;> omega)
        go_wp2
        go_ret
        exact ⟨by rw [ht]; rfl, hbw.alloc hbw.size _⟩
end Go.Proofs.YtccbofaefpbhlaaDoor.Utf
