/-
  The laws' own question, whether a number is the document's; what stays in a region.
-/
import Derived.Test.YtobfhidajcnfdaaDoorRefC
import Derived.Test.YtobfhidajcnfdaaDoorLawA
namespace Go.Proofs.YtobfhidajcnfdaaDoor
set_option linter.unusedVariables false
set_option maxRecDepth 20000
open Go.RowKit

theorem IsD.shape {w : World} {v : Value} {k N : Nat} (h : IsD w v k N) : ∃ A n c, v = .slice A n c := by
  obtain ⟨l, ⟨A, c, e, _⟩, _⟩ := h
  exact ⟨A, _, c, e⟩

theorem keep1 {W w' : World} {gx : Nat} {a : Value} (hX : Blk W gx 26 #[a]) (hb : Below W.heap.size W w') : w'.cell? ⟨gx, 0, none⟩ = some a := (hX.on hb).cell0
theorem keep2 {W w' : World} {gx gy : Nat} {a b : Value} (hX : Blk W gx 26 #[a]) (hY : Blk W gy 26 #[b]) (hb : Below W.heap.size W w') : w'.cell? ⟨gx, 0, none⟩ = some a ∧ w'.cell? ⟨gy, 0, none⟩ = some b := ⟨(hX.on hb).cell0, (hY.on hb).cell0⟩
theorem keep3 {W w' : World} {gx gy gz : Nat} {a b c : Value} (hX : Blk W gx 26 #[a]) (hY : Blk W gy 26 #[b]) (hZ : Blk W gz 26 #[c]) (hb : Below W.heap.size W w') : w'.cell? ⟨gx, 0, none⟩ = some a ∧ w'.cell? ⟨gy, 0, none⟩ = some b ∧ w'.cell? ⟨gz, 0, none⟩ = some c := ⟨(hX.on hb).cell0, (hY.on hb).cell0, (hZ.on hb).cell0⟩

/-- 'Is'. -/
theorem is_any (v u : Value) (k m N M : Nat) (b : Bool) (w : World) (h : IsN w v k N) (h' : IsD w u m M) (hk : k ≤ 80000) (hm : m ≤ 1000000) (hb : decide (N = M) = b) :
    Calls Tryd.prog 20 #[v, u] w (RetV (.bool b) w) := by
  have hcb : (cmpN N M == 0) = b := by
    rw [← hb, Bool.eq_iff_iff]
    simp only [beq_iff_eq, decide_eq_true_eq, cmpN_zero]
  clear hb
  obtain ⟨A', n', c', rfl⟩ := h'.shape
  have hI := h
  obtain ⟨A, c, l, rfl, hr, hn, hv, hlk, hlc⟩ := h
  have LB := Lib.hid (limbsN_any _ k N (w.alloc (Obj.cells #[Value.slice A l.length c] 26)) (hI.alloc _) (by omega) l hn hv)
  go_enter Tryd.func20, Tryd.ntmps20
  go_wp2_with fail
  refine LB.out.mono ?_
  rintro e w1 ⟨v1, rfl, ⟨A1, c1, rfl, hr1, hc1⟩, b1⟩
  have OD := ofD_any A1 l.length c1 l w1 rfl hr1.row hn.1 (by omega)
  rw [hv] at OD
  have hOD := Lib.hid OD
  clear OD LB hv
  by_cases hl : l.length = 0
  · have HL := Lib.hid hl
    have hl0 : ¬ (0 : Int) < (l.length : Int) := by omega
    clear hl
    go_wp2_with fail
    refine hOD.out.mono ?_
    rintro e w2 ⟨v2, rfl, hD2, b2⟩
    go_wp2_with fail
    refine (compareD_any v2 _ _ m N M w2 hD2 ((h'.below (below_step (below_new _ _) b1)).below b2) (by omega) hm).mono ?_
    rintro e w3 ⟨rfl, b3⟩
    go_wp2
    go_ret
    exact ⟨rfl, below_step (below_step (below_step (below_new _ _) b1) b2) b3⟩
  · obtain ⟨ad, rfl, hab, hcell⟩ := hr1.row.at_ (i := l.length - 1) (by omega)
    have hx0 : l.getD (l.length - 1) 0 ≠ 0 := by
      have hne : l ≠ [] := by intro e; simp [e] at hl
      have := hn.2 hne
      rw [List.getLast_eq_getElem] at this
      simpa [List.getD, show l.length - 1 < l.length by omega] using this
    obtain ⟨x, hx⟩ : ∃ x, x = l.getD (l.length - 1) 0 := ⟨_, rfl⟩
    rw [← hx] at hcell hx0
    have hx1 : ((x : Int) == 0) = false := by simp; omega
    have hl1 : 0 < l.length := by omega
    clear hx hx0 hl
    go_wp2_with fail
    refine hOD.out.mono ?_
    rintro e w2 ⟨v2, rfl, hD2, b2⟩
    go_wp2_with fail
    refine (compareD_any v2 _ _ m N M w2 hD2 ((h'.below (below_step (below_new _ _) b1)).below b2) (by omega) hm).mono ?_
    rintro e w3 ⟨rfl, b3⟩
    go_wp2
    go_ret
    exact ⟨rfl, below_step (below_step (below_step (below_new _ _) b1) b2) b3⟩
end Go.Proofs.YtobfhidajcnfdaaDoor
