/-
  The fixed fact; the law HangulJoins.
-/
import Derived.Test.YthmdapcieghbbaaHB
namespace Go.Proofs.Ythmdapcieghbbaa
set_option linter.unusedVariables false
set_option maxRecDepth 20000
open Go.RowKit

theorem split_44033 (w : World) : Calls Try.prog 9 #[.int .i32 44033] w (RetC 21 [.int .i32 4352, .int .i32 4449, .int .i32 4520] w) :=
  split_three 44033 0 0 1 w ⟨by decide, by decide, by decide, by decide⟩ (by decide)
theorem pair_44033 (w : World) : Calls Try.prog 11 #[.int .i32 44033] w fun e w' => e = .returned (.tuple #[.int .i32 44032, .int .i32 4520, .bool true]) ∧ w = w' :=
  pair_three 44033 0 0 1 w ⟨by decide, by decide, by decide, by decide⟩ (by decide)

set_option maxHeartbeats 1000000 in
theorem awake_any (w : World) : Calls Try.prog 6 #[] w (RetV (.bool true) w) := by
  go_enter Try.func6, Try.ntmps6
  go_wp2_with fail
  refine (split_44033 _).mono ?_
  rintro e w1 ⟨v, rfl, hown, hb⟩
  obtain ⟨g, cap, rfl, hcap, hg, hgl, hc⟩ := own_cells hown (by decide)
  have c0 : w1.cell? ⟨g, 0, none⟩ = some (.int .i32 4352) := hc 0 (by decide)
  have c1 : w1.cell? ⟨g, 1, none⟩ = some (.int .i32 4449) := hc 1 (by decide)
  have c2 : w1.cell? ⟨g, 2, none⟩ = some (.int .i32 4520) := hc 2 (by decide)
  clear hc hown
  go_wp2_with fail
  refine (pair_44033 _).mono ?_
  rintro e w' ⟨rfl, rfl⟩
  go_wp2
  go_ret
  exact ⟨rfl, hb⟩

set_option maxHeartbeats 2000000 in
theorem hangulJoins_walk (a b : Int) (w : World) (l1 : -2147483648 ≤ a) (u1 : a ≤ 2147483647) (l2 : -2147483648 ≤ b) (u2 : b ≤ 2147483647) :
    Calls Try.prog 4 #[.int .i32 a, .int .i32 b] w (RetV (.bool true) w) := by
  obtain ⟨x, hx⟩ : ∃ x, kindI a = x := ⟨_, rfl⟩
  obtain ⟨y, hy⟩ : ∃ y, kindI b = y := ⟨_, rfl⟩
  have HA := Lib.hid fun W => kind_val hx W l1 u1
  have HB := Lib.hid fun W => kind_val hy W l2 u2
  by_cases h1 : x = 1 ∧ y = 2
  · obtain ⟨rfl, rfl⟩ := h1
    obtain ⟨b1, b2⟩ : 4352 ≤ a ∧ a ≤ 4370 := by
      rcases kind_ways a with ⟨e, a, b⟩ | ⟨e, a, b⟩ | ⟨e, a, b⟩ | ⟨e, a, b, d, k⟩ | ⟨e, a, b, d⟩ | ⟨e, a, b, d⟩ <;> omega
    obtain ⟨b3, b4⟩ : 4449 ≤ b ∧ b ≤ 4469 := by
      rcases kind_ways b with ⟨e, a, b⟩ | ⟨e, a, b⟩ | ⟨e, a, b⟩ | ⟨e, a, b, d, k⟩ | ⟨e, a, b, d⟩ | ⟨e, a, b, d⟩ <;> omega
    have HJ := Lib.hid fun W => join_lv a b W b1 b2 b3 b4
    have HP := Lib.hid fun W => pair_two (44032 + (a - 4352) * 588 + (b - 4449) * 28) (a - 4352).toNat (b - 4449).toNat W ⟨by omega, by omega, by omega, by omega⟩
    have e1 : 4352 + (((a - 4352).toNat : Nat) : Int) = a := by omega
    have e2 : 4449 + (((b - 4449).toNat : Nat) : Int) = b := by omega
    rw [e1, e2] at HP
    clear hx hy e1 e2
    generalize 44032 + (a - 4352) * 588 + (b - 4449) * 28 = c at *
    go_enter Try.func4, Try.ntmps4
    go_wp2_with fail
    refine (awake_any _).mono ?_
    rintro e w1 ⟨rfl, y1⟩
    go_wp2_with fail
    refine (HJ.out _).mono ?_
    rintro e w' ⟨rfl, rfl⟩
    go_wp2_with fail
    refine (HA.out _).mono ?_
    rintro e w' ⟨rfl, rfl⟩
    go_wp2_with fail
    refine (HB.out _).mono ?_
    rintro e w' ⟨rfl, rfl⟩
    go_wp2_with fail
    refine (HP.out _).mono ?_
    rintro e w' ⟨rfl, rfl⟩
    go_wp2
    go_ret
    exact ⟨by simp, y1⟩
  · by_cases h2 : x = 4 ∧ y = 3
    · obtain ⟨rfl, rfl⟩ := h2
      obtain ⟨b1, b2, b5⟩ : 44032 ≤ a ∧ a ≤ 55203 ∧ (a - 44032) % 28 = 0 := by
        rcases kind_ways a with ⟨e, a, b⟩ | ⟨e, a, b⟩ | ⟨e, a, b⟩ | ⟨e, a, b, d, k⟩ | ⟨e, a, b, d⟩ | ⟨e, a, b, d⟩ <;> omega
      obtain ⟨b3, b4⟩ : 4520 ≤ b ∧ b ≤ 4546 := by
        rcases kind_ways b with ⟨e, a, b⟩ | ⟨e, a, b⟩ | ⟨e, a, b⟩ | ⟨e, a, b, d, k⟩ | ⟨e, a, b, d⟩ | ⟨e, a, b, d⟩ <;> omega
      have HJ := Lib.hid fun W => join_st a b W hx b3 b4
      obtain ⟨k, j, t, hs⟩ := syl_of a b1 b2
      have ht : t = 0 := by obtain ⟨h, h1, h2, h3⟩ := hs; omega
      subst ht
      have HP := Lib.hid fun W => pair_three (a + 1 + b - 4520) k j (b - 4519).toNat W (by obtain ⟨h, h1, h2, h3⟩ := hs; exact ⟨by omega, by omega, by omega, by omega⟩) (by omega)
      have e1 : a + 1 + b - 4520 - (((b - 4519).toNat : Nat) : Int) = a := by omega
      have e2 : 4519 + (((b - 4519).toNat : Nat) : Int) = b := by omega
      rw [e1, e2] at HP
      clear hx hy e1 e2 b5 hs h1
      generalize a + 1 + b - 4520 = c at *
      go_enter Try.func4, Try.ntmps4
      go_wp2_with fail
      refine (awake_any _).mono ?_
      rintro e w1 ⟨rfl, y1⟩
      go_wp2_with fail
      refine (HJ.out _).mono ?_
      rintro e w' ⟨rfl, rfl⟩
      go_wp2_with fail
      refine (HA.out _).mono ?_
      rintro e w' ⟨rfl, rfl⟩
      go_wp2_with fail
      refine (HB.out _).mono ?_
      rintro e w' ⟨rfl, rfl⟩
      go_wp2_with fail
      refine (HP.out _).mono ?_
      rintro e w' ⟨rfl, rfl⟩
      go_wp2
      go_ret
      exact ⟨by simp, y1⟩
    · have HJ := Lib.hid fun W => join_no a b W l1 u1 l2 u2 x y hx hy h1 h2
      have bx := kind_lt a
      have by' := kind_lt b
      rw [hx] at bx
      rw [hy] at by'
      clear hx hy
      rcases bx with rfl | rfl | rfl | rfl | rfl | rfl
      all_goals rcases by' with rfl | rfl | rfl | rfl | rfl | rfl
      all_goals first | (exfalso; exact h1 ⟨rfl, rfl⟩) | (exfalso; exact h2 ⟨rfl, rfl⟩) | skip
      all_goals
        clear h1 h2
        go_enter Try.func4, Try.ntmps4
        go_wp2_with fail
        refine (awake_any _).mono ?_
        rintro e w1 ⟨rfl, y1⟩
        go_wp2_with fail
        refine (HJ.out _).mono ?_
        rintro e w' ⟨rfl, rfl⟩
        go_wp2_with fail
        refine (HA.out _).mono ?_
        rintro e w' ⟨rfl, rfl⟩
        go_wp2_with fail
        refine (HB.out _).mono ?_
        rintro e w' ⟨rfl, rfl⟩
        go_wp2
        go_ret
        exact ⟨rfl, y1⟩
end Go.Proofs.Ythmdapcieghbbaa
