/-
  Sets of no character: what makes one (Chars of none), and what is in it (Has); is a character composed (Primary).
-/
import Derived.Test.YthmdapcieghbbabDoorLen
import Derived.Test.YthmdapcieghbbabDoorMN
namespace Go.Proofs.YthmdapcieghbbabDoor
set_option linter.unusedVariables false
set_option maxRecDepth 20000
open Go.RowKit

theorem search_zero (f : Value) (w : World) : Calls Tryd.prog 67 #[.int .i64 0, f] w fun e w' => e = .returned (.int .i64 0) ∧ w = w' := by
  go_enter Tryd.func67, Tryd.ntmps67
  go_wp2
  go_loopw [5, 6] (fun s t wr => s = .int .i64 0 ∧ t = .int .i64 0 ∧ wr = w) (fun _ _ _ => 0)
  case atStart => exact ⟨rfl, rfl, rfl⟩
  case round =>
    obtain ⟨rfl, rfl, rfl⟩ := hrel
    go_wp2
    go_ret
    exact ⟨rfl, rfl⟩
theorem lastSpan_none (a : Option Addr) (w : World) : Calls Tryd.prog 55 #[.agg #[.slice none 0 0], .func (.func 56) #[] #[.pointer a]] w (RetV (.tuple #[.agg #[.int .i32 0, .int .i32 0, .int .i64 0], .bool false]) w) := by
  have HS := Lib.hid fun g W => search_zero g W
  have hZ := blk_three w (.cells #[.slice none 0 0] 32) (.cells #[.func (.func 56) #[] #[.pointer a]] 124) 99 #[.int .i32 0, .int .i32 0, .int .i64 0]
  have hb := below_step (below_step (below_new w (.cells #[.slice none 0 0] 32)) (below_new _ (.cells #[.func (.func 56) #[] #[.pointer a]] 124))) (below_new _ (.cells #[.int .i32 0, .int .i32 0, .int .i64 0] 99))
  obtain ⟨q0, q1, q2⟩ := hZ.cells3
  obtain ⟨⟨z0, f0⟩, ⟨z1, f1⟩, ⟨z2, f2⟩, hZ'⟩ := hZ.store3 (.int .i32 0) (.int .i32 0) (.int .i64 0)
  obtain ⟨y0, y1, y2⟩ := hZ'.cells3
  have hb' := below_set3 hb (show w.heap.size ≤ w.heap.size + 1 + 1 by omega) (.int .i32 0) (.int .i32 0) (.int .i64 0)
  go_enter Tryd.func55, Tryd.ntmps55
  go_wp2_with (first | ((with_reducible refine (HS.out _ _).mono ?_); rintro e w' ⟨rfl, rfl⟩))
  exact bodyPost_ret (v := .tuple #[.agg #[.int .i32 0, .int .i32 0, .int .i64 0], .bool false]) (by simp [results, Tryd.results55, go_sem, q0, q1, q2, y0, y1, y2]) rfl ⟨rfl, by first | exact hb | exact hb'⟩
theorem spanAt_none (c : Int) (w : World) : Calls Tryd.prog 47 #[.agg #[.slice none 0 0], .int .i32 c] w (RetV (.tuple #[.agg #[.int .i32 0, .int .i32 0, .int .i64 0], .bool false]) w) := by
  have HS := Lib.hid fun a W => lastSpan_none a W
  have hZ := blk_three w (.cells #[.slice none 0 0] 32) (.cells #[.int .i32 c] 21) 99 #[.int .i32 0, .int .i32 0, .int .i64 0]
  have hX := (Blk.new w 32 #[.slice none 0 0]).alloc (.cells #[.int .i32 c] 21)
  have hX := hX.alloc (.cells #[.int .i32 0, .int .i32 0, .int .i64 0] 99)
  have hb := below_step (below_step (below_new w (.cells #[.slice none 0 0] 32)) (below_new _ (.cells #[.int .i32 c] 21))) (below_new _ (.cells #[.int .i32 0, .int .i32 0, .int .i64 0] 99))
  have x0 := (hX.cell 0).trans rfl
  go_enter Tryd.func47, Tryd.ntmps47
  go_wp2_with fail
  generalize ((w.alloc (.cells #[.slice none 0 0] 32)).alloc (.cells #[.int .i32 c] 21)).alloc (.cells #[.int .i32 0, .int .i32 0, .int .i64 0] 99) = V at *
  refine (HS.out _ _).mono ?_
  rintro e w1 ⟨rfl, y1⟩
  obtain ⟨⟨z0, f0⟩, ⟨z1, f1⟩, ⟨z2, f2⟩, hZ'⟩ := (hZ.on y1).store3 (.int .i32 0) (.int .i32 0) (.int .i64 0)
  obtain ⟨q0, q1, q2⟩ := hZ'.cells3
  have hb' := below_set3 (below_step hb y1) (show w.heap.size ≤ w.heap.size + 1 + 1 by omega) (.int .i32 0) (.int .i32 0) (.int .i64 0)
  go_wp2
  exact bodyPost_ret (v := .tuple #[.agg #[.int .i32 0, .int .i32 0, .int .i64 0], .bool false]) (by simp [results, Tryd.results47, go_sem, q0, q1, q2]) rfl ⟨rfl, hb'⟩
theorem has_none (c : Int) (w : World) : Calls Tryd.prog 35 #[.agg #[.slice none 0 0], .int .i32 c] w (RetV (.bool false) w) := by
  have HS := Lib.hid fun W => spanAt_none c W
  have hX := Blk.new w 32 #[.slice none 0 0]
  have x0 := (hX.cell 0).trans rfl
  have hb := below_new w (.cells #[.slice none 0 0] 32)
  go_enter Tryd.func35, Tryd.ntmps35
  go_wp2_with fail
  generalize w.alloc (.cells #[.slice none 0 0] 32) = V at *
  refine (HS.out _).mono ?_
  rintro e w1 ⟨rfl, y1⟩
  have hb1 := below_step (below_step hb y1) (below_new w1 (.cells #[.int .i32 0, .int .i32 0, .int .i64 0] 99))
  go_wp2_with fail
  try go_quiet (fail)
  go_wp2
  go_ret
  exact ⟨rfl, by first | exact hb1 | exact below_step hb1 (below_drewN _ _) | exact hb1.drew⟩
theorem hasAt_none (w : World) : HasAt none 0 0 (fun _ => false) w := fun x W _ _ => has_none x W

theorem ins_none (f : Value) (w : World) : Calls Tryd.prog 57 #[.slice none 0 0, .int .i64 0, .int .i64 0, f] w fun e w' => e = .returned (.tuple #[]) ∧ w = w' := by
  go_enter Tryd.func57, Tryd.ntmps57
  go_wp2
  go_loop [8] (fun t => t = .int .i64 1) (fun t => 0)
  case atStart => rfl
  case round =>
    subst hrel
    go_wp2
    go_end0
    exact ⟨rfl, rfl⟩
/-- Nothing comes of it, and nothing has turned. -/
def RetNo (w : World) (e : Ending) (w' : World) : Prop := e = .returned (.tuple #[]) ∧ w = w'
set_option maxRecDepth 100000 in
theorem pdq_none (f : Value) (w : World) : Calls Tryd.prog 50 #[.slice none 0 0, .int .i64 0, .int .i64 0, .int .i64 0, f] w (RetNo w) := by
  have hI := Lib.hid fun W => ins_none f W
  go_enter Tryd.func50, Tryd.ntmps50
  go_wp2
  go_loopw [1, 2] (fun a b wr => a = .int .i64 0 ∧ b = .int .i64 0 ∧ w = wr) (fun _ _ _ => 0)
  case atStart => exact ⟨rfl, rfl, rfl⟩
  case round =>
    obtain ⟨rfl, rfl, rfl⟩ := hrel
    go_wp2_with fail
    refine (hI.out _).mono ?_
    rintro e w1 ⟨rfl, rfl⟩
    go_wp2
    go_end0
    exact ⟨rfl, rfl⟩
theorem sort_none (f : Value) (w : World) : Calls Tryd.prog 37 #[.slice none 0 0, f] w fun e w' => e = .returned (.tuple #[]) ∧ w = w' := by
  have hP := Lib.hid fun W => pdq_none f W
  have hL := Lib.hid fun W => len_zero W
  go_enter Tryd.func37, Tryd.ntmps37
  go_wp2_with (first | ((with_reducible refine (hL.out _).mono ?_); rintro e w' ⟨rfl, rfl⟩) | ((with_reducible refine (hP.out _).mono ?_); rintro e w' ⟨rfl, rfl⟩))
  go_end0
  exact ⟨rfl, rfl⟩
theorem join_none (w : World) : Calls Tryd.prog 24 #[.slice none 0 0] w (RetV (.agg #[.slice none 0 0]) w) := by
  have hS := Lib.hid fun f W => sort_none f W
  have hR := Blk.new w 32 #[.slice none 0 0]
  have hb := below_new w (.cells #[.slice none 0 0] 32)
  have f0 := hR.free 0
  have c0 := (hR.cell 0).trans rfl
  go_enter Tryd.func24, Tryd.ntmps24
  go_wp2_with (first | ((with_reducible refine (hS.out _ _).mono ?_); rintro e w' ⟨rfl, rfl⟩))
  go_loopw [11, 3] (fun s t wr => s = .int .i64 0 ∧ t = .slice none 0 0 ∧ wr = w.alloc (.cells #[.slice none 0 0] 32)) (fun _ _ _ => 0)
  case atStart => exact ⟨rfl, rfl, rfl⟩
  case round =>
    obtain ⟨rfl, rfl, rfl⟩ := hrel
    have q0 := ((hR.set_ 0 (.slice none 0 0)).cell 0).trans rfl
    go_wp2
    exact bodyPost_ret (v := .agg #[.slice none 0 0]) (by simp [results, Tryd.results24, go_sem, q0, c0]) rfl ⟨rfl, hb⟩
theorem chars_none (w : World) : Calls Tryd.prog 11 #[.slice none 0 0] w (RetV (.agg #[.slice none 0 0]) w) := by
  have hJ := Lib.hid fun W => join_none W
  have hR := Blk.new w 32 #[.slice none 0 0]
  have hb := below_new w (.cells #[.slice none 0 0] 32)
  go_enter Tryd.func11, Tryd.ntmps11
  go_wp2
  go_loopw [8, 3] (fun s t wr => s = .int .i64 0 ∧ t = .slice none 0 0 ∧ wr = w.alloc (.cells #[.slice none 0 0] 32)) (fun _ _ _ => 0)
  case atStart => exact ⟨rfl, rfl, rfl⟩
  case round =>
    obtain ⟨rfl, rfl, rfl⟩ := hrel
    have HK : ∀ W, Below (w.alloc (.cells #[.slice none 0 0] 32)).heap.size (w.alloc (.cells #[.slice none 0 0] 32)) W → W.cell? ⟨w.heap.size, 0, none⟩ = some (.slice none 0 0) ∧ W.frozen? ⟨w.heap.size, 0, none⟩ = false ∧ (W.setCell ⟨w.heap.size, 0, none⟩ (.slice none 0 0)).cell? ⟨w.heap.size, 0, none⟩ = some (.slice none 0 0) := fun W h =>
      ⟨((hR.on h).cell 0).trans rfl, (hR.on h).free 0, (((hR.on h).set_ 0 (.slice none 0 0)).cell 0).trans rfl⟩
    generalize w.alloc (.cells #[.slice none 0 0] 32) = V at *
    go_wp2_with (first | ((with_reducible refine (hJ.out _).mono ?_); rintro e w1 ⟨rfl, y1⟩; obtain ⟨c0, f0, q0⟩ := HK _ y1))
    exact bodyPost_ret (v := .agg #[.slice none 0 0]) (by simp [results, Tryd.results11, go_sem, q0]) rfl ⟨rfl, (below_step hb y1).setCell (p := ⟨w.heap.size, 0, none⟩) (Nat.le_refl _) _⟩
end Go.Proofs.YthmdapcieghbbabDoor
