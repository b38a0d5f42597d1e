/-
  The contract of Pow where it answers an error.
-/
import Derived.Test.YthionbkdlmiaoaaPow
namespace Go.Proofs.Ythionbkdlmiaoaa
set_option linter.unusedVariables false
open Go.RowKit

set_option maxHeartbeats 2000000 in
/-- 'Pow', below nought. -/
theorem pow_neg (v : Value) (k N : Nat) (n : Int) (w : World) (h : IsN w v k N) (hn : n < 0) :
    Calls Try.prog 35 #[v, .int .i64 n] w (RetV (.tuple #[.agg #[.slice none 0 0], .int .i64 1]) w) := by
  obtain ⟨A, n0, c, rfl⟩ := h.shape
  clear h
  have hR : Blk ((w.alloc (Obj.cells #[Value.slice A n0 c] 26)).alloc (Obj.cells #[Value.slice none 0 0] 26)) (w.heap.size + 1) 26 #[.slice none 0 0] := by
    have := Blk.new (w.alloc (Obj.cells #[Value.slice A n0 c] 26)) 26 #[.slice none 0 0]
    simpa using this
  have bW : Below w.heap.size w ((w.alloc (Obj.cells #[Value.slice A n0 c] 26)).alloc (Obj.cells #[Value.slice none 0 0] 26)) := below_step (below_new _ _) (below_new _ _)
  have hcr := hR.cell0
  have hfr := hR.free 0
  go_enter Try.func35, Try.ntmps35
  go_wp2
  exact bodyPost_ret (v := .tuple #[.agg #[.slice none 0 0], .int .i64 1]) (by simp [results, Try.results35, go_sem]) rfl ⟨rfl, bW⟩

set_option maxHeartbeats 2000000 in
/-- 'Pow', where the power would be too great. -/
theorem pow_big (v : Value) (k N n : Nat) (w : World) (h : IsN w v k N) (hk : k ≤ 400000) (hn : n < 9223372036854775808) (hb0 : 0 < bl N) (hg : 131072 / bl N < n) :
    Calls Try.prog 35 #[v, .int .i64 n] w (RetV (.tuple #[.agg #[.slice none 0 0], .int .i64 4]) w) := by
  have hI := h
  obtain ⟨A, n0, c, rfl⟩ := h.shape
  have hbl := h.bl_le
  have BT := Lib.hid (fun w' (hN : IsN w' (.agg #[.slice A n0 c]) k N) => bits_any _ k N w' hN (by omega))
  have hg' : 131072 / (bl N : Int) < (n : Int) := by
    have h2 : (131072 : Int) / (bl N : Int) = ((131072 / bl N : Nat) : Int) := by simp
    rw [h2]; omega
  obtain ⟨b, hb⟩ : ∃ b, b = bl N := ⟨_, rfl⟩
  rw [← hb] at BT hg' hbl hb0
  clear h hb hg
  have hn0 : ¬ ((n : Int) < 0) := by omega
  go_enter Try.func35, Try.ntmps35
  go_wp2_with fail
  have hR : Blk ((w.alloc (Obj.cells #[Value.slice A n0 c] 26)).alloc (Obj.cells #[Value.slice none 0 0] 26)) (w.heap.size + 1) 26 #[.slice none 0 0] := by
    have := Blk.new (w.alloc (Obj.cells #[Value.slice A n0 c] 26)) 26 #[.slice none 0 0]
    simpa using this
  have hN := (hI.alloc (Obj.cells #[Value.slice A n0 c] 26)).alloc (Obj.cells #[Value.slice none 0 0] 26)
  have bW : Below w.heap.size w ((w.alloc (Obj.cells #[Value.slice A n0 c] 26)).alloc (Obj.cells #[Value.slice none 0 0] 26)) := below_step (below_new _ _) (below_new _ _)
  generalize hW : (w.alloc (Obj.cells #[Value.slice A n0 c] 26)).alloc (Obj.cells #[Value.slice none 0 0] 26) = W at *
  clear hW hI
  refine (BT.out _ hN).mono ?_
  rintro e x1 ⟨rfl, y1⟩
  have hR1 := hR.on y1
  have b1 := below_step bW y1
  have hcr := hR1.cell0
  have hfr := hR1.free 0
  have hq := (hR1.set0 (.slice none 0 0)).cell0
  clear hR hN bW y1 BT
  go_wp2
  exact bodyPost_ret (v := .tuple #[.agg #[.slice none 0 0], .int .i64 4]) (by simp [results, Try.results35, go_sem, hq]) rfl ⟨rfl, b1.setCell (p := ⟨w.heap.size + 1, 0, none⟩) (by show w.heap.size ≤ w.heap.size + 1; omega) _⟩
end Go.Proofs.Ythionbkdlmiaoaa
