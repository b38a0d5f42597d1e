/-
  The contract of the product of all.
-/
import Derived.Test.YthionbkdlmiaoaaProdB
namespace Go.Proofs.Ythionbkdlmiaoaa
set_option linter.unusedVariables false
open Go.RowKit

def prodL : List Nat → Nat := fun l => l.foldl (· * ·) 1
theorem prodL_take (l : List Nat) (i : Nat) (h : i < l.length) : prodL (l.take (i + 1)) = prodL (l.take i) * l.getD i 0 := by
  unfold prodL
  rw [List.take_succ_eq_append_getElem h, List.foldl_append]
  simp [List.getD, h]

/-- The slice of numbers that is handed to 'prod.Of'. -/
def Facts (w : World) (A : Option Addr) (Ns : List Nat) : Prop := Ns ≠ [] → ∃ ad, A = some ad ∧ ad.block < w.heap.size ∧ ∀ i, i < Ns.length → ∃ B m d, w.cell? (ad.add i) = some (.slice B m d) ∧ IsN w (.agg #[.slice B m d]) 40 (Ns.getD i 0)

set_option maxHeartbeats 2000000 in
/-- 'prod.Of'. -/
theorem ofAll_any (A : Option Addr) (c : Nat) (Ns : List Nat) (w : World) (hF : Facts w A Ns) (hn : Ns.length ≤ 1000) :
    Calls Try.prog 32 #[.slice A Ns.length c] w (RetN (2 + 40 * Ns.length) (prodL Ns) w) := by
  have E1 := Lib.hid (of_any 1)
  go_enter Try.func32, Try.ntmps32
  go_wp2_with fail
  refine (E1.out _ (by decide)).mono ?_
  rintro e w1 ⟨v1, rfl, h1, b1⟩
  obtain ⟨A1, n1, c1, rfl⟩ := h1.shape
  have hR1 := (Blk.over b1).alloc (Obj.cells #[Value.slice A1 n1 c1] 26)
  have bw1 : Below w.heap.size w (w1.alloc (Obj.cells #[Value.slice A1 n1 c1] 26)) := below_step (below_step (below_new _ _) b1) (below_new _ _)
  have hg3 : w.heap.size < w1.heap.size := (Blk.over b1).lt
  go_wp2
  go_loopw [9] (fun t wr => ∃ (i : Nat), t = .int .i64 i ∧ i ≤ Ns.length ∧ (∃ B m d, Blk wr w1.heap.size 26 #[.slice B m d] ∧ IsN wr (.agg #[.slice B m d]) (2 + 40 * i) (prodL (Ns.take i))) ∧ Blk wr w.heap.size 26 #[.slice none 0 0] ∧ Below w.heap.size w wr) (fun t _ => Ns.length - (intOf t).toNat)
  case atStart => exact ⟨0, rfl, by omega, ⟨A1, n1, c1, Blk.new w1 26 _, h1.alloc _⟩, hR1, bw1⟩
  case round =>
    obtain ⟨i, rfl, hi, ⟨B, m, d, hBx, hP⟩, hR, hbw⟩ := hrel
    by_cases hil : i < Ns.length
    · obtain ⟨ad, rfl, hab, hfs⟩ := hF (by intro e; simp [e] at hil)
      obtain ⟨B2, m2, d2, hc2, hI2⟩ := hfs i hil
      have hc3 : wr.cell? (ad.add i) = some (.slice B2 m2 d2) := (hbw.cell (by rw [add_block]; exact hab)).trans hc2
      have hI3 := hI2.below hbw
      have hpr := prodL_take Ns i hil
      have HPR := Lib.hid hpr
      have hcB := (hBx.alloc (Obj.cells #[Value.slice B2 m2 d2] 26)).cell0
      have hi0 : (0 : Int) ≤ (i : Int) := by omega
      have hi1 : (i : Int) < (Ns.length : Int) := by omega
      clear hpr
      go_wp2_with fail
      refine (mul_any _ _ _ 40 _ _ _ (hP.alloc _) (hI3.alloc _) (by omega) (by decide)).mono ?_
      rintro e w2 ⟨v2, rfl, h2, b2⟩
      obtain ⟨B3, m3, d3, rfl⟩ := h2.shape
      rw [← HPR.out] at h2
      have hB2 := (hBx.alloc (Obj.cells #[Value.slice B2 m2 d2] 26)).on b2
      have hc5 := hB2.cell0
      have hf5 := hB2.free 0
      have hR2 := ((hR.alloc (Obj.cells #[Value.slice B2 m2 d2] 26)).on b2).far (p := ⟨w1.heap.size, 0, none⟩) (by show w.heap.size ≠ w1.heap.size; omega) (.slice B3 m3 d3)
      have hB3 := hB2.set0 (.slice B3 m3 d3)
      have h3 := h2.far hB2 0 (.slice B3 m3 d3)
      have b3 : Below w.heap.size w (w2.setCell ⟨w1.heap.size, 0, none⟩ (.slice B3 m3 d3)) := ((below_step (below_step hbw (below_new _ _)) b2)).setCell (p := ⟨w1.heap.size, 0, none⟩) (Nat.le_of_lt hg3) _
      clear hcB
      go_wp2
      go_roundw
      case rel => exact ⟨i + 1, by go_num, by omega, ⟨B3, m3, d3, hB3, h3.more (by omega)⟩, hR2, b3⟩
      case measure => simp [intOf]; omega
    · have hie : i = Ns.length := by omega
      subst hie
      rw [List.take_length] at hP
      have hc5 := hBx.cell0
      have hc6 := hR.cell0
      have hf6 := hR.free 0
      have hq := (hR.set0 (.slice B m d)).cell0
      go_wp2
      exact bodyPost_ret (v := .agg #[.slice B m d]) (by simp [results, Try.results32, go_sem, hq]) rfl ⟨_, rfl, hP.far hR 0 _, hbw.setCell (Nat.le_refl _) _⟩
end Go.Proofs.Ythionbkdlmiaoaa
