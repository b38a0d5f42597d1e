/-
  Causes, the document's Causes, and the law on them.
-/
import Derived.Test.YtpokpkocinhbfabDoorE
import Derived.BigQuiet
import Derived.Deep.QuietTactic
namespace Go.Proofs.YtpokpkocinhbfabDoor
set_option linter.unusedVariables false
set_option maxRecDepth 20000
open Go.RowKit Go.Extern.Stop Go.Stop Go.Extern

set_option maxHeartbeats 1000000 in
theorem causes_B (c : Int) (w : World) (h : c = 8) : Calls Tryd.prog 29 #[.int .i64 c] w (RetI 61 [2] w) := by
  obtain ⟨i0, hi0, hz0, hz1, hz2⟩ := info_parts cause_info
  rcases h with rfl
  all_goals
    go_enter Tryd.func29, Tryd.ntmps29
    go_wp2_with (at_builtin; refine wpList_append_own _ rfl (.tmp 29) (.tmp 30) 57 rfl w.heap.size 61 i0 (.int .i64 0) 1 8 Tryd.underlying57 hi0 hz0 hz1 hz2 rfl (by decide) (.slice none 0 0) 0 [] rfl (nil_own _ _ _) ⟨_, 0, none⟩ 1 1 [.int .i64 2] rfl rfl (cell_one_new _ _ _) (by simp [Value.oneCell']) (by decide) (by decide) (by simp) ?_; intro v' w1 hown1 hgrow _; have hb1 : Below w.heap.size w w1 := (below_new w _).grown hgrow (by simp) (by simp [Value.ownBlock]))
    go_ret
    exact ⟨_, rfl, by simpa using hown1, hb1⟩

set_option maxHeartbeats 1000000 in
theorem causes_C (c : Int) (w : World) (h : c = 4 ∨ c = 7 ∨ c = 9 ∨ c = 14) : Calls Tryd.prog 29 #[.int .i64 c] w (RetI 61 [1, 3] w) := by
  obtain ⟨i0, hi0, hz0, hz1, hz2⟩ := info_parts cause_info
  rcases h with rfl | rfl | rfl | rfl
  all_goals
    go_enter Tryd.func29, Tryd.ntmps29
    go_wp2_with (at_builtin; refine wpList_append_own _ rfl (.tmp 32) (.tmp 33) 57 rfl w.heap.size 61 i0 (.int .i64 0) 1 8 Tryd.underlying57 hi0 hz0 hz1 hz2 rfl (by decide) (.slice none 0 0) 0 [] rfl (nil_own _ _ _) ⟨_, 0, none⟩ 2 2 [.int .i64 1, .int .i64 3] rfl rfl (cell_two_new _ _ _ _) (two_one _ _) (by decide) (by decide) (by simp) ?_; intro v' w1 hown1 hgrow _; have hb1 : Below w.heap.size w w1 := (below_new w _).grown hgrow (by simp) (by simp [Value.ownBlock]))
    go_ret
    exact ⟨_, rfl, by simpa using hown1, hb1⟩

set_option maxHeartbeats 1000000 in
theorem causes_D (c : Int) (w : World) (h : c = 12 ∨ c = 13) : Calls Tryd.prog 29 #[.int .i64 c] w (RetI 61 [1, 4] w) := by
  obtain ⟨i0, hi0, hz0, hz1, hz2⟩ := info_parts cause_info
  rcases h with rfl | rfl
  all_goals
    go_enter Tryd.func29, Tryd.ntmps29
    go_wp2_with (at_builtin; refine wpList_append_own _ rfl (.tmp 35) (.tmp 36) 57 rfl w.heap.size 61 i0 (.int .i64 0) 1 8 Tryd.underlying57 hi0 hz0 hz1 hz2 rfl (by decide) (.slice none 0 0) 0 [] rfl (nil_own _ _ _) ⟨_, 0, none⟩ 2 2 [.int .i64 1, .int .i64 4] rfl rfl (cell_two_new _ _ _ _) (two_one _ _) (by decide) (by decide) (by simp) ?_; intro v' w1 hown1 hgrow _; have hb1 : Below w.heap.size w w1 := (below_new w _).grown hgrow (by simp) (by simp [Value.ownBlock]))
    go_ret
    exact ⟨_, rfl, by simpa using hown1, hb1⟩

set_option maxHeartbeats 1000000 in
theorem causes_E (c : Int) (w : World) (h : c = 1 ∨ c = 5 ∨ c = 6 ∨ c = 10 ∨ c = 11 ∨ c = 15) : Calls Tryd.prog 29 #[.int .i64 c] w (RetI 61 [1] w) := by
  obtain ⟨i0, hi0, hz0, hz1, hz2⟩ := info_parts cause_info
  rcases h with rfl | rfl | rfl | rfl | rfl | rfl
  all_goals
    go_enter Tryd.func29, Tryd.ntmps29
    go_wp2_with (at_builtin; refine wpList_append_own _ rfl (.tmp 38) (.tmp 39) 57 rfl w.heap.size 61 i0 (.int .i64 0) 1 8 Tryd.underlying57 hi0 hz0 hz1 hz2 rfl (by decide) (.slice none 0 0) 0 [] rfl (nil_own _ _ _) ⟨_, 0, none⟩ 1 1 [.int .i64 1] rfl rfl (cell_one_new _ _ _) (by simp [Value.oneCell']) (by decide) (by decide) (by simp) ?_; intro v' w1 hown1 hgrow _; have hb1 : Below w.heap.size w w1 := (below_new w _).grown hgrow (by simp) (by simp [Value.ownBlock]))
    go_ret
    exact ⟨_, rfl, by simpa using hown1, hb1⟩

set_option maxHeartbeats 2000000 in
theorem causes_A (c : Int) (w : World) (h : c = 2 ∨ c = 3 ∨ c = 16) : Calls Tryd.prog 29 #[.int .i64 c] w (RetI 61 [1, 2] w) := by
  obtain ⟨i0, hi0, hz0, hz1, hz2⟩ := info_parts cause_info
  rcases h with rfl | rfl | rfl
  all_goals
    have tok : True := trivial
    go_enter Tryd.func29, Tryd.ntmps29
    go_wp2_with (first
      | (at_builtin; refine wpList_append_own _ rfl (.tmp 26) (.tmp 27) 57 rfl w.heap.size 61 i0 (.int .i64 0) 1 8 Tryd.underlying57 hi0 hz0 hz1 hz2 rfl (by decide) (.slice none 0 0) 0 [] rfl (nil_own _ _ _) ⟨_, 0, none⟩ 1 1 [.int .i64 1] rfl rfl (cell_one_new _ _ _) (by simp [Value.oneCell']) (by decide) (by decide) (by simp) ?_; intro v' w1 hown1 hgrow _; have hb1 : Below w.heap.size w w1 := (below_new w _).grown hgrow (by simp) (by simp [Value.ownBlock]); clear hgrow)
      | (at_builtin; refine wpList_append_own _ rfl (.tmp 29) (.tmp 30) 57 rfl w.heap.size 61 i0 (.int .i64 0) 1 8 Tryd.underlying57 hi0 hz0 hz1 hz2 rfl (by decide) v' (0 + 1) ([] ++ [.int .i64 1]) rfl (hown1.alloc _) ⟨_, 0, none⟩ 1 1 [.int .i64 2] rfl rfl (cell_one_new _ _ _) (by simp [Value.oneCell']) (by decide) (by decide) (by have := hb1.size; simp; omega) ?_; intro v2 w2 hown2 hgrow2 _; have hb2 : Below w.heap.size w w2 := (hb1.alloc hb1.size _).grown hgrow2 (by have := hb1.size; simp; omega) (fun k hk => (hown1.lt k hk).1); clear hgrow2))
    go_ret
    exact ⟨_, rfl, by simpa using hown2, hb2⟩

set_option maxHeartbeats 1000000 in
theorem causes_F (c : Int) (w : World) (h : ∀ k : Nat, k < 16 → ¬ c = (k + 1 : Nat)) : Calls Tryd.prog 29 #[.int .i64 c] w (RetI 61 [] w) := by
  have e1 : (c == 1) = false := by have := h 0 (by decide); simpa using this
  have e2 : (c == 2) = false := by have := h 1 (by decide); simpa using this
  have e3 : (c == 3) = false := by have := h 2 (by decide); simpa using this
  have e4 : (c == 4) = false := by have := h 3 (by decide); simpa using this
  have e5 : (c == 5) = false := by have := h 4 (by decide); simpa using this
  have e6 : (c == 6) = false := by have := h 5 (by decide); simpa using this
  have e7 : (c == 7) = false := by have := h 6 (by decide); simpa using this
  have e8 : (c == 8) = false := by have := h 7 (by decide); simpa using this
  have e9 : (c == 9) = false := by have := h 8 (by decide); simpa using this
  have e10 : (c == 10) = false := by have := h 9 (by decide); simpa using this
  have e11 : (c == 11) = false := by have := h 10 (by decide); simpa using this
  have e12 : (c == 12) = false := by have := h 11 (by decide); simpa using this
  have e13 : (c == 13) = false := by have := h 12 (by decide); simpa using this
  have e14 : (c == 14) = false := by have := h 13 (by decide); simpa using this
  have e15 : (c == 15) = false := by have := h 14 (by decide); simpa using this
  have e16 : (c == 16) = false := by have := h 15 (by decide); simpa using this
  clear h
  go_enter Tryd.func29, Tryd.ntmps29
  go_wp2
  go_ret
  exact ⟨_, rfl, nil_own _ _ _, Below.refl _ _⟩

/-- Which numbers there are. -/
theorem one_of (c : Int) : (c = 2 ∨ c = 3 ∨ c = 16) ∨ c = 8 ∨ (c = 4 ∨ c = 7 ∨ c = 9 ∨ c = 14) ∨ (c = 12 ∨ c = 13) ∨ (c = 1 ∨ c = 5 ∨ c = 6 ∨ c = 10 ∨ c = 11 ∨ c = 15) ∨ ∀ k : Nat, k < 16 → ¬ c = (k + 1 : Nat) := by
  by_cases h : 1 ≤ c ∧ c ≤ 16
  · omega
  · exact .inr (.inr (.inr (.inr (.inr fun k hk => by omega))))

set_option maxHeartbeats 1000000 in
theorem refCauses_A (c : Int) (w : World) (h : c = 2 ∨ c = 3 ∨ c = 16) : Calls Tryd.prog 30 #[.int .i64 c] w (RetI 3 [1, 2] w) := by
  rcases h with rfl | rfl | rfl
  all_goals
    go_enter Tryd.func30, Tryd.ntmps30
    go_wp2
    go_ret
    exact ⟨_, rfl, World.ownsRow_lit w #[.int .i64 1, .int .i64 2] 2 (Nat.le_refl _) (by decide) rfl, below_new _ _⟩

set_option maxHeartbeats 1000000 in
theorem refCauses_B (c : Int) (w : World) (h : c = 8) : Calls Tryd.prog 30 #[.int .i64 c] w (RetI 3 [2] w) := by
  rcases h with rfl
  all_goals
    go_enter Tryd.func30, Tryd.ntmps30
    go_wp2
    go_ret
    exact ⟨_, rfl, World.ownsRow_lit w #[.int .i64 2] 1 (Nat.le_refl _) (by decide) rfl, below_new _ _⟩

set_option maxHeartbeats 1000000 in
theorem refCauses_C (c : Int) (w : World) (h : c = 4 ∨ c = 7 ∨ c = 9 ∨ c = 14) : Calls Tryd.prog 30 #[.int .i64 c] w (RetI 3 [1, 3] w) := by
  rcases h with rfl | rfl | rfl | rfl
  all_goals
    go_enter Tryd.func30, Tryd.ntmps30
    go_wp2
    go_ret
    exact ⟨_, rfl, World.ownsRow_lit w #[.int .i64 1, .int .i64 3] 2 (Nat.le_refl _) (by decide) rfl, below_new _ _⟩

set_option maxHeartbeats 1000000 in
theorem refCauses_D (c : Int) (w : World) (h : c = 12 ∨ c = 13) : Calls Tryd.prog 30 #[.int .i64 c] w (RetI 3 [1, 4] w) := by
  rcases h with rfl | rfl
  all_goals
    go_enter Tryd.func30, Tryd.ntmps30
    go_wp2
    go_ret
    exact ⟨_, rfl, World.ownsRow_lit w #[.int .i64 1, .int .i64 4] 2 (Nat.le_refl _) (by decide) rfl, below_new _ _⟩

set_option maxHeartbeats 1000000 in
theorem refCauses_E (c : Int) (w : World) (h : c = 1 ∨ c = 5 ∨ c = 6 ∨ c = 10 ∨ c = 11 ∨ c = 15) : Calls Tryd.prog 30 #[.int .i64 c] w (RetI 3 [1] w) := by
  rcases h with rfl | rfl | rfl | rfl | rfl | rfl
  all_goals
    go_enter Tryd.func30, Tryd.ntmps30
    go_wp2
    go_ret
    exact ⟨_, rfl, World.ownsRow_lit w #[.int .i64 1] 1 (Nat.le_refl _) (by decide) rfl, below_new _ _⟩

set_option maxHeartbeats 1000000 in
theorem refCauses_F (c : Int) (w : World) (h : ∀ k : Nat, k < 16 → ¬ c = (k + 1 : Nat)) : Calls Tryd.prog 30 #[.int .i64 c] w (RetI 3 [] w) := by
  have e1 : (c == 1) = false := by have := h 0 (by decide); simpa using this
  have e2 : (c == 2) = false := by have := h 1 (by decide); simpa using this
  have e3 : (c == 3) = false := by have := h 2 (by decide); simpa using this
  have e4 : (c == 4) = false := by have := h 3 (by decide); simpa using this
  have e5 : (c == 5) = false := by have := h 4 (by decide); simpa using this
  have e6 : (c == 6) = false := by have := h 5 (by decide); simpa using this
  have e7 : (c == 7) = false := by have := h 6 (by decide); simpa using this
  have e8 : (c == 8) = false := by have := h 7 (by decide); simpa using this
  have e9 : (c == 9) = false := by have := h 8 (by decide); simpa using this
  have e10 : (c == 10) = false := by have := h 9 (by decide); simpa using this
  have e11 : (c == 11) = false := by have := h 10 (by decide); simpa using this
  have e12 : (c == 12) = false := by have := h 11 (by decide); simpa using this
  have e13 : (c == 13) = false := by have := h 12 (by decide); simpa using this
  have e14 : (c == 14) = false := by have := h 13 (by decide); simpa using this
  have e15 : (c == 15) = false := by have := h 14 (by decide); simpa using this
  have e16 : (c == 16) = false := by have := h 15 (by decide); simpa using this
  clear h
  go_enter Tryd.func30, Tryd.ntmps30
  go_wp2
  go_ret
  exact ⟨_, rfl, nil_own _ _ _, Below.refl _ _⟩

theorem both_causes (c : Int) : ∃ zs : List Int, zs.length ≤ 2 ∧ (∀ w, Calls Tryd.prog 29 #[.int .i64 c] w (RetI 61 zs w)) ∧ ∀ w, Calls Tryd.prog 30 #[.int .i64 c] w (RetI 3 zs w) := by
  rcases one_of c with h | h | h | h | h | h
  · exact ⟨_, by decide, fun w => causes_A c w h, fun w => refCauses_A c w h⟩
  · exact ⟨_, by decide, fun w => causes_B c w h, fun w => refCauses_B c w h⟩
  · exact ⟨_, by decide, fun w => causes_C c w h, fun w => refCauses_C c w h⟩
  · exact ⟨_, by decide, fun w => causes_D c w h, fun w => refCauses_D c w h⟩
  · exact ⟨_, by decide, fun w => causes_E c w h, fun w => refCauses_E c w h⟩
  · exact ⟨[], by decide, fun w => causes_F c w h, fun w => refCauses_F c w h⟩
end Go.Proofs.YtpokpkocinhbfabDoor
