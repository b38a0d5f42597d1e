/-
  The sort of ranges by their beginnings: its contract.
-/
import Derived.Test.YtccbofaefpbhlaaDoorJoinB
import Derived.Test.YtccbofaefpbhlaaDoorShelfR
namespace Go.Proofs.YtccbofaefpbhlaaDoor
set_option linter.unusedVariables false
set_option maxRecDepth 20000
open Go.RowKit Go.Shelf Go.Sort

/-- A range's two cells. -/
def encR (r : Nat × Nat) : List Value := [.int .i32 (r.1 : Nat), .int .i32 (r.2 : Nat)]
def cmpR (x y : Nat × Nat) : Int := if x.1 < y.1 then -1 else if y.1 < x.1 then 1 else 0
theorem cmpR_lt (x y : Nat × Nat) : ltOf cmpR x y = decide (x.1 < y.1) := by
  unfold ltOf cmpR
  by_cases h1 : x.1 < y.1
  · simp [h1]
  · by_cases h2 : y.1 < x.1 <;> simp [h1, h2]
theorem cmpR_swo : SWO (ltOf cmpR) where
  irrefl x := by rw [cmpR_lt]; simp
  trans x y z h1 h2 := by rw [cmpR_lt] at *; simp at *; omega
  ntrans x y z h1 h2 := by rw [cmpR_lt] at *; simp at *; omega

theorem compareR_any (x y : Nat) (w : World) : Calls Tryd.prog 97 #[.int .i32 x, .int .i32 y] w fun e w' => e = .returned (.int .i64 (cmpR (x, 0) (y, 0))) ∧ w = w' := by
  unfold cmpR
  rcases Nat.lt_trichotomy x y with h | h | h
  · rw [if_pos h]
    go_enter Tryd.func97, Tryd.ntmps97
    go_wp2_with (go_at_call 121; refine (nan_any _ _).mono ?_; rintro e w' ⟨rfl, rfl⟩)
    go_ret
    exact ⟨rfl, rfl⟩
  · subst h
    rw [if_neg (Nat.lt_irrefl _), if_neg (Nat.lt_irrefl _)]
    go_enter Tryd.func97, Tryd.ntmps97
    go_wp2_with (go_at_call 121; refine (nan_any _ _).mono ?_; rintro e w' ⟨rfl, rfl⟩)
    go_ret
    exact ⟨rfl, rfl⟩
  · rw [if_neg (by simpa using Nat.le_of_lt h), if_pos h]
    have h' : ¬ x < y := by omega
    go_enter Tryd.func97, Tryd.ntmps97
    go_wp2_with (go_at_call 121; refine (nan_any _ _).mono ?_; rintro e w' ⟨rfl, rfl⟩)
    go_ret
    exact ⟨rfl, rfl⟩

theorem closure_any (x y : Nat × Nat) (W : World) : Calls Tryd.prog 96 #[.agg #[.int .i32 (x.1 : Nat), .int .i32 (x.2 : Nat)], .agg #[.int .i32 (y.1 : Nat), .int .i32 (y.2 : Nat)]] W fun e w' => e = .returned (.int .i64 (cmpR x y)) ∧ ∃ q os', w' = grow (W.drewN q) os' := by
  have hc : ∀ W', Calls Tryd.prog 97 #[.int .i32 (x.1 : Nat), .int .i32 (y.1 : Nat)] W' fun e w' => e = .returned (.int .i64 (cmpR x y)) ∧ W' = w' := fun W' => compareR_any x.1 y.1 W'
  generalize cmpR x y = r at hc ⊢
  go_enter Tryd.func96, Tryd.ntmps96
  go_wp2_with (go_at_call 97; refine (hc _).mono ?_; rintro e w' ⟨rfl, rfl⟩)
  go_ret
  exact ⟨rfl, 0, _, by rw [alloc_eq_grow, alloc_eq_grow, grow_grow]; rfl⟩
theorem cmpLays (blk off size : Nat) (w : World) : CmpLays Tryd.prog 96 #[] encR 2 cmpR blk off size w := fun _ _ _ _ x y => closure_any x y _
end Go.Proofs.YtccbofaefpbhlaaDoor
