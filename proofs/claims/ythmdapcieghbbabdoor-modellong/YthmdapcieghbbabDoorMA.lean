/-
  Tables: what a number is among syllables and characters (isHangul, isNone); two numbers by their order (cmp.Compare); a row against a number (find's own); how many looks (mostLooks).
-/
import Derived.Test.YthmdapcieghbbabDoorHB
import Derived.Test.YthmdapcieghbbabDoorUA
import Derived.Laws.OwnMore
import Derived.OwnWalk
namespace Go.Proofs.YthmdapcieghbbabDoor
set_option linter.unusedVariables false
set_option maxRecDepth 20000
open Go.RowKit

/-- Is it a leading, a vowel, a trailing, or a syllable? -/
theorem isHangul_any (c : Int) (w : World) (hl : -2147483648 ≤ c) (hc : c ≤ 2147483647) :
    Calls Tryd.prog 41 #[.int .i32 c] w (RetV (.bool (decide (kindI c ≠ 0))) w) := by
  have hk := kind_lt c
  obtain ⟨v, hv⟩ : ∃ v, kindI c = v := ⟨_, rfl⟩
  rw [hv] at hk ⊢
  go_enter Tryd.func41, Tryd.ntmps41
  go_wp2_with (first | ((with_reducible refine (of_val hv _ hl hc).mono ?_); rintro e w' ⟨rfl, rfl⟩))
  go_ret
  rcases hk with h | h | h | h | h | h <;> subst h <;> exact ⟨rfl, Below.refl _ _⟩

theorem isNone_any (c : Int) (w : World) : Calls Tryd.prog 43 #[.int .i32 c] w (RetV (.bool (!isI c)) w) := by
  obtain ⟨v, hv⟩ : ∃ v, isI c = v := ⟨_, rfl⟩
  have h := is_any c w
  rw [hv] at h ⊢
  go_enter Tryd.func43, Tryd.ntmps43
  go_wp2_with (first | ((with_reducible refine h.mono ?_); rintro e w' ⟨rfl, hb⟩))
  go_ret
  cases v <;> exact ⟨rfl, by assumption⟩

/-- Two numbers by their order. -/
def cmpI (a b : Int) : Int := if a < b then -1 else if b < a then 1 else 0
theorem isNaN_any (c : Int) (w : World) : Calls Tryd.prog 52 #[.int .i32 c] w fun e w' => e = .returned (.bool false) ∧ w = w' := by
  go_enter Tryd.func52, Tryd.ntmps52
  go_wp2
  go_ret
  exact ⟨by simp, rfl⟩
theorem compare_any (a b : Int) (w : World) : Calls Tryd.prog 39 #[.int .i32 a, .int .i32 b] w fun e w' => e = .returned (.int .i64 (cmpI a b)) ∧ w = w' := by
  have hr : (a < b ∧ cmpI a b = -1) ∨ (¬ a < b ∧ b < a ∧ cmpI a b = 1) ∨ (¬ a < b ∧ ¬ b < a ∧ cmpI a b = 0) := by
    unfold cmpI
    by_cases h : a < b
    · exact .inl ⟨h, by simp [h]⟩
    · by_cases h2 : b < a
      · exact .inr (.inl ⟨h, h2, by simp [h, h2]⟩)
      · exact .inr (.inr ⟨h, h2, by simp [h, h2]⟩)
  go_enter Tryd.func39, Tryd.ntmps39
  rcases hr with ⟨h1, e⟩ | ⟨h1, h2, e⟩ | ⟨h1, h2, e⟩ <;> rw [e]
  all_goals
    go_wp2_with (first | ((with_reducible refine (isNaN_any _ _).mono ?_); rintro e w' ⟨rfl, rfl⟩))
    go_ret
    exact ⟨rfl, rfl⟩
end Go.Proofs.YthmdapcieghbbabDoor
