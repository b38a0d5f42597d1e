/-
  Syllables and their parts: what a number is, and the contracts of among, Of, the document's Kind, Pair and Join.
-/
import Derived.Test.YthmdapcieghbbabDoorWords
import Derived.Test.YthmdapcieghbbabDoorProg
import Derived.WalkKit
import Derived.ProofKit
import Derived.Lib.Hide
namespace Go.Proofs.YthmdapcieghbbabDoor
set_option linter.unusedVariables false
set_option maxRecDepth 20000
open Go.RowKit

/-- What a number is: 1 leading, 2 vowel, 3 trailing, 4 and 5 syllables of two and of three parts, 0 none. -/
def kindI (c : Int) : Int :=
  if 4352 ≤ c ∧ c ≤ 4370 then 1 else if 4449 ≤ c ∧ c ≤ 4469 then 2 else if 4520 ≤ c ∧ c ≤ 4546 then 3
  else if c < 44032 ∨ 55203 < c then 0 else if (c - 44032) % 28 = 0 then 4 else 5

/-- The seven ways. -/
theorem kind_ways (c : Int) : (kindI c = 1 ∧ 4352 ≤ c ∧ c ≤ 4370) ∨ (kindI c = 2 ∧ 4449 ≤ c ∧ c ≤ 4469) ∨ (kindI c = 3 ∧ 4520 ≤ c ∧ c ≤ 4546)
    ∨ (kindI c = 0 ∧ (c < 44032 ∨ 55203 < c) ∧ ¬ (4352 ≤ c ∧ c ≤ 4370) ∧ ¬ (4449 ≤ c ∧ c ≤ 4469) ∧ ¬ (4520 ≤ c ∧ c ≤ 4546))
    ∨ (kindI c = 4 ∧ 44032 ≤ c ∧ c ≤ 55203 ∧ (c - 44032) % 28 = 0) ∨ (kindI c = 5 ∧ 44032 ≤ c ∧ c ≤ 55203 ∧ (c - 44032) % 28 ≠ 0) := by
  unfold kindI
  split
  · exact .inl ⟨rfl, by omega⟩
  split
  · exact .inr (.inl ⟨rfl, by omega⟩)
  split
  · exact .inr (.inr (.inl ⟨rfl, by omega⟩))
  split
  · exact .inr (.inr (.inr (.inl ⟨rfl, by omega⟩)))
  split
  · exact .inr (.inr (.inr (.inr (.inl ⟨rfl, by omega⟩))))
  · exact .inr (.inr (.inr (.inr (.inr ⟨rfl, by omega⟩))))

theorem among_yes (c f n : Int) (w : World) (h0 : 0 ≤ f) (h1 : f ≤ c) (h2 : c - f < n) (h3 : c ≤ 2147483647) :
    Calls Tryd.prog 33 #[.int .i32 c, .int .i32 f, .int .i32 n] w fun e w' => e = .returned (.bool true) ∧ w = w' := by
  go_enter Tryd.func33, Tryd.ntmps33
  go_wp2
  go_ret
  exact ⟨rfl, rfl⟩

theorem among_no (c f n : Int) (w : World) (h0 : 0 ≤ f) (h1 : ¬ (f ≤ c ∧ c - f < n)) (h3 : c ≤ 2147483647) :
    Calls Tryd.prog 33 #[.int .i32 c, .int .i32 f, .int .i32 n] w fun e w' => e = .returned (.bool false) ∧ w = w' := by
  by_cases h : f ≤ c
  · have h2 : ¬ c - f < n := fun h2 => h1 ⟨h, h2⟩
    clear h1
    go_enter Tryd.func33, Tryd.ntmps33
    go_wp2
    go_ret
    exact ⟨rfl, rfl⟩
  · clear h1
    go_enter Tryd.func33, Tryd.ntmps33
    go_wp2
    go_ret
    exact ⟨rfl, rfl⟩

set_option maxHeartbeats 1000000 in
theorem of_any (c : Int) (w : World) (hl : -2147483648 ≤ c) (hc : c ≤ 2147483647) :
    Calls Tryd.prog 20 #[.int .i32 c] w fun e w' => e = .returned (.int .i64 (kindI c)) ∧ w = w' := by
  rcases kind_ways c with ⟨h, a, b⟩ | ⟨h, a, b⟩ | ⟨h, a, b⟩ | ⟨h, a, b, d, k⟩ | ⟨h, a, b, d⟩ | ⟨h, a, b, d⟩
  all_goals
    rw [h]
    clear h
    try (have hm0 : 0 ≤ (c - 44032) % 28 := by omega)
    try (have hm1 : (c - 44032) % 28 < 28 := by omega)
    try (have d' : ((c - 44032) % 28 == 0) = true := by simp [d])
    try (have d' : ((c - 44032) % 28 == 0) = false := by simp [d])
    go_enter Tryd.func20, Tryd.ntmps20
    go_wp2_with (first | ((with_reducible refine (among_yes _ _ _ _ (by omega) (by omega) (by omega) (by omega)).mono ?_); rintro e w' ⟨rfl, rfl⟩) | ((with_reducible refine (among_no _ _ _ _ (by omega) (by omega) (by omega)).mono ?_); rintro e w' ⟨rfl, rfl⟩))
    go_ret
    exact ⟨rfl, rfl⟩

end Go.Proofs.YthmdapcieghbbabDoor
