/-
  utf.Is, utf.Width, utf.toldWidth, the document's Is: their contracts.
-/
import Derived.Test.YthmdapcieghbbabDoorUMath
import Derived.Test.YthmdapcieghbbabDoorWords
import Derived.Deep.DeepCutAuto
import Derived.Deep.CutRange
import Derived.BigQuiet
import Derived.Lib.Hide
namespace Go.Proofs.YthmdapcieghbbabDoor
set_option linter.unusedVariables false
set_option maxRecDepth 20000
set_option maxRecDepth 20000
open Go.RowKit Go.Lib

/-- What the laws find in memory: the table of leads. -/
def leadsTab : Array Value := #[.int .u8 0, .int .u8 128, .int .i32 0, .int .u8 192, .int .u8 224, .int .i32 128, .int .u8 224, .int .u8 240, .int .i32 2048, .int .u8 240, .int .u8 248, .int .i32 65536]
def Env (w : World) : Prop := 0 < w.heap.size ∧ ∀ i v, leadsTab[i]? = some v → w.cell? ⟨0, i, none⟩ = some v
theorem Env.kept {w w' : World} (h : Env w) (hb : Below w.heap.size w w') : Env w' := ⟨Nat.lt_of_lt_of_le h.1 hb.size, fun i v hv => (hb.cell (p := ⟨0, i, none⟩) h.1).trans (h.2 i v hv)⟩
theorem Env.alloc {w : World} (h : Env w) (o : Obj) : Env (w.alloc o) := h.kept (below_new w o)

/-- A number that may be negative is a character. -/
def isI (c : Int) : Bool := decide ((0 ≤ c ∧ c < 55296) ∨ (57343 < c ∧ c ≤ 1114111))
theorem isI_iff (c : Int) : isI c = true ↔ 0 ≤ c ∧ isC c.toNat := by
  unfold isI isC
  rw [decide_eq_true_iff]
  omega

theorem is_any (c : Int) (w : World) : Calls Tryd.prog 23 #[.int .i32 c] w (RetV (.bool (isI c)) w) := by
  have hr : (c < 0 ∧ isI c = false) ∨ (0 ≤ c ∧ c < 55296 ∧ isI c = true) ∨ (0 ≤ c ∧ 55296 ≤ c ∧ c ≤ 57343 ∧ isI c = false) ∨ (0 ≤ c ∧ 55296 ≤ c ∧ 57343 < c ∧ c ≤ 1114111 ∧ isI c = true) ∨ (0 ≤ c ∧ 55296 ≤ c ∧ 57343 < c ∧ 1114111 < c ∧ isI c = false) := by
    unfold isI
    simp only [decide_eq_true_iff, decide_eq_false_iff_not]
    omega
  go_enter Tryd.func23, Tryd.ntmps23
  rcases hr with ⟨h1, e⟩ | ⟨h1, h2, e⟩ | ⟨h1, h2, h3, e⟩ | ⟨h1, h2, h3, h4, e⟩ | ⟨h1, h2, h3, h4, e⟩ <;> rw [e]
  all_goals
    go_wp2
    go_ret
    refine ⟨?_, Below.refl _ _⟩
    first
      | rfl
      | (simp; omega)

/-- How many bytes a number has as a character; 0: it is none. -/
def widI (c : Int) : Nat := if isI c then wid c.toNat else 0
theorem leads_least {w : World} (he : Env w) : w.cell? ⟨0, 5, none⟩ = some (.int .i32 128) ∧ w.cell? ⟨0, 8, none⟩ = some (.int .i32 2048) ∧ w.cell? ⟨0, 11, none⟩ = some (.int .i32 65536) :=
  ⟨he.2 5 _ rfl, he.2 8 _ rfl, he.2 11 _ rfl⟩

end Go.Proofs.YthmdapcieghbbabDoor
