/-
  Contracts of the fault package: Unwrap, At, Of, Code, appendFaults.
-/
import Derived.Test.YtpokpkocinhbfabDoorAs
import Derived.OwnWalk
import Derived.Maps.AppendAt
import Derived.Deep.LoopGhost
namespace Go.Proofs.YtpokpkocinhbfabDoor
set_option linter.unusedVariables false
set_option maxRecDepth 20000
open Go.RowKit Go.Extern.Stop Go.Stop Go.Extern

theorem ta36 (v : Value) (w : World) : (Instr.typeAssert (.iface 36 v) 26 36 true).run Tryd.prog w = .ok (.tuple #[v, .bool true]) w := by kernel_rfl
theorem ta92 (v : Value) (w : World) : (Instr.typeAssert (.iface 36 v) 26 92 true).run Tryd.prog w = .ok (.tuple #[.iface 36 v, .bool true]) w := run_typeAssert_hasB Tryd.underlying92 (by kernel_rfl) v 26 w
theorem mUnwrap (v : Value) (w : World) : (Go.method 253 36 v "Unwrap").run Tryd.prog w = .ok (21, v) w := by kernel_rfl

theorem unwrap_any (g : Nat) (a b c d : Value) (w : World) (h : Blk w g 38 #[a, b, c, d]) :
    Calls Tryd.prog 21 #[.pointer (some ⟨g, 0, none⟩)] w fun e w' => e = .returned d ∧ w = w' := by
  have hc : w.cell? ⟨g, 3, none⟩ = some d := h.cell 3
  go_enter Tryd.func21, Tryd.ntmps21
  go_wp2
  go_ret
  exact ⟨rfl, rfl⟩

theorem at_any (c n : Int) (s : ByteArray) (w : World) (hc : (c == 0) = false) :
    Calls Tryd.prog 25 #[.int .i64 c, .int .i64 n, .string s] w fun e w' => e = .returned (.iface 36 (.pointer (some ⟨w.heap.size, 0, none⟩))) ∧ w.alloc (.cells #[.int .i64 c, .int .i64 n, .string s, .nilIface] 38) = w' := by
  go_enter Tryd.func25, Tryd.ntmps25
  go_wp2
  go_ret
  exact ⟨rfl, rfl⟩
theorem at_ok (n : Int) (s : ByteArray) (w : World) :
    Calls Tryd.prog 25 #[.int .i64 0, .int .i64 n, .string s] w fun e w' => e = .returned .nilIface ∧ w = w' := by
  go_enter Tryd.func25, Tryd.ntmps25
  go_wp2
  go_ret
  exact ⟨rfl, rfl⟩
theorem of_any (c : Int) (w : World) (hc : (c == 0) = false) :
    Calls Tryd.prog 24 #[.int .i64 c] w fun e w' => e = .returned (.iface 36 (.pointer (some ⟨w.heap.size, 0, none⟩))) ∧ w.alloc (.cells #[.int .i64 c, .int .i64 0, .string ⟨#[]⟩, .nilIface] 38) = w' := by
  go_enter Tryd.func24, Tryd.ntmps24
  go_wp2_with fail
  refine (at_any c 0 _ _ hc).mono ?_
  rintro e w' ⟨rfl, rfl⟩
  go_wp2
  go_ret
  exact ⟨rfl, rfl⟩
theorem of_ok (w : World) :
    Calls Tryd.prog 24 #[.int .i64 0] w fun e w' => e = .returned .nilIface ∧ w = w' := by
  go_enter Tryd.func24, Tryd.ntmps24
  go_wp2_with fail
  refine (at_ok 0 _ _).mono ?_
  rintro e w' ⟨rfl, rfl⟩
  go_wp2
  go_ret
  exact ⟨rfl, rfl⟩

/-- errors.As of a fault: its block is found. -/
theorem as_fault (g t : Nat) (old : Value) (w : World) (hg : Handle w) (ht : Blk w t 36 #[old]) (hgt : g < w.heap.size) :
    Calls Tryd.prog 26 #[.iface 36 (.pointer (some ⟨g, 0, none⟩)), .iface 52 (.pointer (some ⟨t, 0, none⟩))] w fun e w' => e = .returned (.bool true) ∧ Blk w' t 36 #[.pointer (some ⟨g, 0, none⟩)] ∧ ∀ B, B ≤ t → Below B w w' := by
  have hc : w.cell? ⟨t, 0, none⟩ = some old := ht.cell 0
  refine (as_hit ⟨g, 0, none⟩ ⟨t, 0, none⟩ old w hg hc (ht.free 0)).mono ?_
  rintro e w' ⟨rfl, rfl⟩
  refine ⟨rfl, ((((ht.alloc _).alloc _).alloc _).alloc _).set_ 0 _, fun B hB => ?_⟩
  have hl := ht.lt
  exact (((((Below.refl B w).alloc (by omega) _).alloc (by simp; omega) _).alloc (by simp; omega) _).alloc (by simp; omega) _).setCell (p := ⟨t, 0, none⟩) hB _

theorem code_nil (w : World) : Calls Tryd.prog 11 #[.nilIface] w fun e w' => e = .returned (.int .i64 0) ∧ w = w' := by
  go_enter Tryd.func11, Tryd.ntmps11
  go_wp2
  go_ret
  exact ⟨rfl, rfl⟩

set_option maxHeartbeats 1000000 in
theorem code_fault (g : Nat) (n b c d : Value) (w : World) (hg : Handle w) (h : Blk w g 38 #[n, b, c, d]) :
    Calls Tryd.prog 11 #[.iface 36 (.pointer (some ⟨g, 0, none⟩))] w (RetV n w) := by
  have hT := Blk.new w 36 #[.pointer none]
  have hH := hg.kept (below_new w (.cells #[.pointer none] 36))
  have hl := h.lt
  go_enter Tryd.func11, Tryd.ntmps11
  go_wp2_with fail
  refine (as_fault g w.heap.size (.pointer none) _ hH hT (by simp; omega)).mono ?_
  rintro e w1 ⟨rfl, hT1, hb1⟩
  have hc1 : w1.cell? ⟨w.heap.size, 0, none⟩ = some (.pointer (some ⟨g, 0, none⟩)) := hT1.cell 0
  have hb : Below w.heap.size w w1 := (below_new w _).trans (hb1 _ (Nat.le_refl _))
  have hc2 : w1.cell? ⟨g, 0, none⟩ = some n := (h.on hb).cell 0
  clear hb1
  go_wp2
  go_ret
  exact ⟨rfl, hb⟩

theorem code_any (v : Value) (l : List Lk) (w : World) (hg : Handle w) (h : Chn w v l) : Calls Tryd.prog 11 #[v] w (RetV (.int .i64 (codeOf l)) w) := by
  cases l with
  | nil =>
    obtain rfl : v = .nilIface := h
    exact (code_nil w).mono fun e w' ⟨he, hw⟩ => ⟨he, hw ▸ Below.refl _ _⟩
  | cons x r =>
    obtain ⟨g, c, rfl, hk, _⟩ := h
    exact code_fault g _ _ _ _ w hg hk
end Go.Proofs.YtpokpkocinhbfabDoor
