/-
  cpset.Same.
-/
import Derived.Test.YtccbofaefpbhlaaDoorMergeB
import Derived.Test.YtccbofaefpbhlaaDoorShelfG
import Derived.Laws.StructEq
namespace Go.Proofs.YtccbofaefpbhlaaDoor
set_option linter.unusedVariables false
set_option maxRecDepth 20000
open Go.RowKit Go.Shelf Go.Lib

/-- A span's three cells. -/
def encSp (x : Nat × Nat × Nat) : List Value := [.int .i32 (x.1 : Nat), .int .i32 (x.2.1 : Nat), .int .i64 (x.2.2 : Nat)]
theorem neqSp : NeqAt Tryd.prog 95 (fun x => .agg (encSp x).toArray) (fun x y => decide (x = y)) := by
  refine ⟨fun x y w => ?_, GuardAt.agg _ (by kernel_rfl)⟩
  have u3 := Tryd.underlying3
  have a3 := Tryd.isAgg3
  have u21 := Tryd.underlying21
  have a21 := Tryd.isAgg21
  have hS : Tryd.prog.underlying 95 = some (.struct (Tryd.prog.fieldsOf 95)) := by kernel_rfl
  have hp : Tryd.prog.stoodInHeld 95 = false := by kernel_rfl
  have hS2 : Tryd.prog.underlying 59 = some (.struct (Tryd.prog.fieldsOf 59)) := by kernel_rfl
  have hp2 : Tryd.prog.stoodInHeld 59 = false := by kernel_rfl
  obtain ⟨x0, x1, x2⟩ := x
  obtain ⟨y0, y1, y2⟩ := y
  simp only [encSp]
  have h2 : ∀ (a b c e : Int) (w : World), (Op.equalIn 9999 59 (.agg #[.int .i32 a, .int .i32 b]) (.agg #[.int .i32 c, .int .i32 e])).run Tryd.prog w = .ok (a == c && b == e) w := fun a b c e w => by
    rw [show (9999 : Nat) = 9998 + 1 from rfl, run_equalIn_agg w 9998 59 _ _ hS2 hp2]
    simp only [Program.fieldsOf, Tryd.underlying59]
    go_simp
    by_cases h1 : a = c <;> by_cases h2 : b = e <;> simp [h1, h2]
  rw [run_neq_struct, show (10000 : Nat) = 9999 + 1 from rfl, run_equalIn_agg w 9999 95 _ _ hS hp]
  simp only [Program.fieldsOf, Tryd.underlying95]
  go_simp
  by_cases e0 : x0 = y0 <;> by_cases e1 : x1 = y1 <;> by_cases e2 : x2 = y2 <;> simp [Int.natCast_inj, e0, e1, e2]

/-- The spans, with what is ahead of them. -/
def splS (S : List (Nat × Nat)) : List (Nat × Nat × Nat) := (List.range S.length).map fun j => ((S.getD j (0, 0)).1, (S.getD j (0, 0)).2, cnt (S.take j))
theorem splS_length (S : List (Nat × Nat)) : (splS S).length = S.length := by simp [splS]
theorem splS_get (S : List (Nat × Nat)) (j : Nat) (h : j < S.length) : (splS S)[j]! = ((S.getD j (0, 0)).1, (S.getD j (0, 0)).2, cnt (S.take j)) := by
  rw [getElem!_pos (splS S) j (by rw [splS_length]; exact h)]
  simp [splS]
theorem spans_cells {w : World} {g : Nat} {S : List (Nat × Nat)} (h : ∀ i, i < S.length → w.cell? ⟨g, i * 3, none⟩ = some (.int .i32 ((S.getD i (0, 0)).1 : Nat)) ∧ w.cell? ⟨g, i * 3 + 1, none⟩ = some (.int .i32 ((S.getD i (0, 0)).2 : Nat)) ∧ w.cell? ⟨g, i * 3 + 2, none⟩ = some (.int .i64 (cnt (S.take i) : Nat))) :
    ∀ j, j < (splS S).length → ∀ i v, (encSp (splS S)[j]!)[i]? = some v → w.cell? ⟨g, 0 + j * 3 + i, none⟩ = some v := by
  intro j hj i v hv
  rw [splS_length] at hj
  rw [splS_get S j hj] at hv
  obtain ⟨h0, h1, h2⟩ := h j hj
  rw [Nat.zero_add]
  rcases i with _ | _ | _ | i
  · rw [Nat.add_zero, h0]; simpa [encSp] using hv
  · rw [h1]; simpa [encSp] using hv
  · rw [h2]; simpa [encSp] using hv
  · simp [encSp] at hv

theorem equal_yes (S : List (Nat × Nat)) (A A' : Option Addr) (c c' : Nat) (w : World) (h1 : SpansAt w A S) (h2 : SpansAt w A' S) (hn : S.length ≤ 1000000) : Calls Tryd.prog 74 #[.slice A S.length c, .slice A' S.length c'] w (RetV (.bool true) w) := by
  rcases Nat.eq_zero_or_pos S.length with h0 | h0
  · rw [h0]
    go_enter Tryd.func74, Tryd.ntmps74
    go_wp2
    go_loopw [13] (fun t wr => t = .int .i64 0 ∧ w = wr) (fun _ _ => 0)
    case atStart => exact ⟨rfl, rfl⟩
    case round =>
      obtain ⟨rfl, rfl⟩ := hrel
      go_wp2
      go_ret
      exact ⟨rfl, Below.refl _ _⟩
  · have hne : S ≠ [] := by intro e; rw [e] at h0; simp at h0
    obtain ⟨g, rfl, hl, hc⟩ := h1 hne
    obtain ⟨g', rfl, hl', hc'⟩ := h2 hne
    have hcon := AnyQ.slices_Equal Tryd.equalSp 3 (fun w => by kernel_rfl) (fun w => by kernel_rfl) encSp (fun _ => rfl) (fun x y => decide (x = y)) neqSp g 0 S.length c g' 0 S.length c' (splS S) (splS S) w (by rw [splS_length]; exact Nat.le_refl _) (by rw [splS_length]; exact Nat.le_refl _) (by omega) (by omega) (spans_cells hc) (spans_cells hc')
    change Calls Tryd.prog 74 _ _ _ at hcon
    refine hcon.mono ?_
    rintro e w' ⟨rfl, q, rfl⟩
    rw [List.take_of_length_le (by rw [splS_length]; exact Nat.le_refl _)]
    rw [allEq_all _ _ _ rfl (fun j hj => by simp)]
    exact ⟨rfl, below_drewN (Below.refl _ _) q⟩

/-- 'Same', of sets that are. -/
theorem same_yes (S : List (Nat × Nat)) (v u : Value) (w : World) (hv : IsSet w v S) (hu : IsSet w u S) : Calls Tryd.prog 38 #[v, u] w (RetV (.bool true) w) := by
  obtain ⟨A, c, rfl, h1, hg⟩ := hv
  obtain ⟨A', c', rfl, h2, _⟩ := hu
  have hlen := hg.len (by decide)
  have b0 := below_step (below_new w (.cells #[.slice A S.length c] 29)) (below_new _ (.cells #[.slice A' S.length c'] 29))
  have H := Lib.hid (equal_yes S A A' c c' _ (h1.below b0) (h2.below b0) (by omega))
  clear h1 h2 hg
  generalize S.length = n at *
  go_enter Tryd.func38, Tryd.ntmps38
  go_wp2_with fail
  refine H.out.mono ?_
  rintro e w1 ⟨rfl, y1⟩
  go_wp2
  go_ret
  exact ⟨rfl, below_step b0 y1⟩
end Go.Proofs.YtccbofaefpbhlaaDoor
