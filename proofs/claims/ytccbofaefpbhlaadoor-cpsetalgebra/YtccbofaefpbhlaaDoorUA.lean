/-
  utf.Is, utf.Width, utf.toldWidth, the document's Is: their contracts.
-/
import Derived.Test.YtccbofaefpbhlaaDoorUMath
import Derived.Test.YtccbofaefpbhlaaDoorWords
import Derived.Deep.DeepCutAuto
import Derived.Deep.CutRange
import Derived.BigQuiet
import Derived.Lib.Hide
namespace Go.Proofs.YtccbofaefpbhlaaDoor
set_option linter.unusedVariables false
set_option maxRecDepth 20000
set_option maxRecDepth 20000
open Go.RowKit Go.Lib

/-- What the laws find in memory: the table of leads. -/
def leadsTab : Array Value := #[.int .u8 0, .int .u8 128, .int .i32 0, .int .u8 192, .int .u8 224, .int .i32 128, .int .u8 224, .int .u8 240, .int .i32 2048, .int .u8 240, .int .u8 248, .int .i32 65536]
def Env (w : World) : Prop := 0 < w.heap.size ∧ ∀ i v, leadsTab[i]? = some v → w.cell? ⟨0, i, none⟩ = some v
theorem Env.kept {w w' : World} (h : Env w) (hb : Below w.heap.size w w') : Env w' := ⟨Nat.lt_of_lt_of_le h.1 hb.size, fun i v hv => (hb.cell (p := ⟨0, i, none⟩) h.1).trans (h.2 i v hv)⟩
theorem Env.alloc {w : World} (h : Env w) (o : Obj) : Env (w.alloc o) := h.kept (below_new w o)

/-- A number that may be negative is a character. -/
def isI (c : Int) : Bool := decide ((0 ≤ c ∧ c < 55296) ∨ (57343 < c ∧ c ≤ 1114111))
theorem isI_iff (c : Int) : isI c = true ↔ 0 ≤ c ∧ isC c.toNat := by
  unfold isI isC
  rw [decide_eq_true_iff]
  omega

theorem is_any (c : Int) (w : World) : Calls Tryd.prog 78 #[.int .i32 c] w (RetV (.bool (isI c)) w) := by
  have hr : (c < 0 ∧ isI c = false) ∨ (0 ≤ c ∧ c < 55296 ∧ isI c = true) ∨ (0 ≤ c ∧ 55296 ≤ c ∧ c ≤ 57343 ∧ isI c = false) ∨ (0 ≤ c ∧ 55296 ≤ c ∧ 57343 < c ∧ c ≤ 1114111 ∧ isI c = true) ∨ (0 ≤ c ∧ 55296 ≤ c ∧ 57343 < c ∧ 1114111 < c ∧ isI c = false) := by
    unfold isI
    simp only [decide_eq_true_iff, decide_eq_false_iff_not]
    omega
  go_enter Tryd.func78, Tryd.ntmps78
  rcases hr with ⟨h1, e⟩ | ⟨h1, h2, e⟩ | ⟨h1, h2, h3, e⟩ | ⟨h1, h2, h3, h4, e⟩ | ⟨h1, h2, h3, h4, e⟩ <;> rw [e]
  all_goals
    go_wp2
    go_ret
    refine ⟨?_, Below.refl _ _⟩
    first
      | rfl
      | (simp; omega)

/-- How many bytes a number has as a character; 0: it is none. -/
def widI (c : Int) : Nat := if isI c then wid c.toNat else 0
theorem leads_least {w : World} (he : Env w) : w.cell? ⟨0, 5, none⟩ = some (.int .i32 128) ∧ w.cell? ⟨0, 8, none⟩ = some (.int .i32 2048) ∧ w.cell? ⟨0, 11, none⟩ = some (.int .i32 65536) :=
  ⟨he.2 5 _ rfl, he.2 8 _ rfl, he.2 11 _ rfl⟩

set_option maxHeartbeats 1000000 in
theorem width_any (c : Int) (w : World) (he : Env w) : Calls Tryd.prog 51 #[.int .i32 c] w (RetV (.int .i64 (widI c)) w) := by
  obtain ⟨h5, h8, h11⟩ := leads_least he
  go_enter Tryd.func51, Tryd.ntmps51
  go_wp2_with fail
  refine (is_any c w).mono ?_
  rintro e w1 ⟨rfl, y1⟩
  have g5 := (y1.cell (p := ⟨0, 5, none⟩) he.1).trans h5
  have g8 := (y1.cell (p := ⟨0, 8, none⟩) he.1).trans h8
  have g11 := (y1.cell (p := ⟨0, 11, none⟩) he.1).trans h11
  rcases hi : isI c with _ | _
  · go_wp2
    go_ret
    exact ⟨by simp [widI, hi], y1⟩
  · have hw : widI c = wid c.toNat := by simp [widI, hi]
    have h0 : 0 ≤ c := ((isI_iff c).1 hi).1
    rw [hw]
    go_wp2_with fail
    go_loopw [3] (fun t wr => wr = w1 ∧ ∃ k : Nat, t = .int .i64 k ∧ 1 ≤ k ∧ k ≤ wid c.toNat) (fun t _ => 4 - (intOf t).toNat)
    case atStart => exact ⟨rfl, 1, rfl, by omega, wid_pos _⟩
    case round =>
      obtain ⟨rfl, k, rfl, hk1, hk2⟩ := hrel
      have hk4 := wid_le c.toNat
      have hcase : (k = 4) ∨ (k = 1 ∧ 128 ≤ c ∧ 2 ≤ wid c.toNat) ∨ (k = 1 ∧ c < 128 ∧ wid c.toNat = 1) ∨ (k = 2 ∧ 2048 ≤ c ∧ 3 ≤ wid c.toNat) ∨ (k = 2 ∧ c < 2048 ∧ wid c.toNat = 2) ∨ (k = 3 ∧ 65536 ≤ c ∧ 4 ≤ wid c.toNat) ∨ (k = 3 ∧ c < 65536 ∧ wid c.toNat = 3) := by
        unfold wid at *
        (repeat' split at *) <;> omega
      rcases hcase with rfl | ⟨rfl, h1, h2⟩ | ⟨rfl, h1, h2⟩ | ⟨rfl, h1, h2⟩ | ⟨rfl, h1, h2⟩ | ⟨rfl, h1, h2⟩ | ⟨rfl, h1, h2⟩
      · go_wp2
        go_ret
        exact ⟨by rw [hw, show wid c.toNat = 4 by omega]; rfl, y1⟩
      · go_wp2
        go_roundw
        case rel => exact ⟨trivial, 2, rfl, by omega, h2⟩
        case measure => simp [intOf]
      · go_wp2
        go_ret
        exact ⟨by rw [hw, h2]; rfl, y1⟩
      · go_wp2
        go_roundw
        case rel => exact ⟨trivial, 3, rfl, by omega, h2⟩
        case measure => simp [intOf]
      · go_wp2
        go_ret
        exact ⟨by rw [hw, h2]; rfl, y1⟩
      · go_wp2
        go_roundw
        case rel => exact ⟨trivial, 4, rfl, by omega, h2⟩
        case measure => simp [intOf]
      · go_wp2
        go_ret
        exact ⟨by rw [hw, h2]; rfl, y1⟩
end Go.Proofs.YtccbofaefpbhlaaDoor
