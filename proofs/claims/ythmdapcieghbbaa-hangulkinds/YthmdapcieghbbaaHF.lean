/-
  The law HangulKinds.
-/
import Derived.Test.YthmdapcieghbbaaHC
import Derived.Test.YthmdapcieghbbaaHD
import Derived.Deep.QuietTactic
import Derived.BigQuiet
namespace Go.Proofs.Ythmdapcieghbbaa
set_option linter.unusedVariables false
set_option maxRecDepth 20000
open Go.RowKit

set_option maxHeartbeats 4000000 in
theorem hangulKinds_walk (c : Int) (w : World) (l1 : -2147483648 ≤ c) (u1 : c ≤ 2147483647) :
    Calls Try.prog 3 #[.int .i32 c] w (RetV (.bool true) w) := by
  obtain ⟨x, hx⟩ : ∃ x, kindI c = x := ⟨_, rfl⟩
  have HK := Lib.hid fun W => kind_val hx W l1 u1
  have HO := Lib.hid fun W => of_val hx W l1 u1
  by_cases h1 : c < 44032 ∨ 55203 < c
  · have HS := Lib.hid fun W => split_none c W l1 u1 h1
    have HP := Lib.hid fun W => pair_none c W l1 u1 h1
    have HT : Hid (∀ W, Calls Try.prog 10 #[.int .i64 c] W fun e w' => e = .returned (.slice none 0 0) ∧ W = w') := Lib.hid fun W => by
      rcases h1 with h | h
      · exact parts_low c W l1 h
      · exact parts_high c W u1 h
    have hb : x = 0 ∨ x = 1 ∨ x = 2 ∨ x = 3 := by
      rcases kind_ways c with ⟨e, a, b⟩ | ⟨e, a, b⟩ | ⟨e, a, b⟩ | ⟨e, a, b, d, k⟩ | ⟨e, a, b, d⟩ | ⟨e, a, b, d⟩ <;> omega
    clear hx h1
    rcases hb with rfl | rfl | rfl | rfl
    all_goals
      go_enter Try.func3, Try.ntmps3
      go_wp2_with fail
      refine (awake_any _).mono ?_
      rintro e w1 ⟨rfl, y1⟩
      go_wp2_with fail
      refine (HO.out _).mono ?_
      rintro e w' ⟨rfl, rfl⟩
      go_wp2_with fail
      refine (HK.out _).mono ?_
      rintro e w' ⟨rfl, rfl⟩
      go_wp2_with fail
      refine (HS.out _).mono ?_
      rintro e w' ⟨rfl, rfl⟩
      go_wp2_with fail
      refine (HT.out _).mono ?_
      rintro e w' ⟨rfl, rfl⟩
      go_wp2_with fail
      refine (HO.out _).mono ?_
      rintro e w' ⟨rfl, rfl⟩
      go_wp2_with fail
      refine (HO.out _).mono ?_
      rintro e w' ⟨rfl, rfl⟩
      go_wp2
      go_loopw [49] (fun u wr => u = .int .i64 0 ∧ Below w.heap.size w wr) (fun u _ => 0)
      case atStart => exact ⟨rfl, y1⟩
      case round =>
        obtain ⟨rfl, hb⟩ := hrel
        go_wp2_with fail
        refine (HP.out _).mono ?_
        rintro e w' ⟨rfl, rfl⟩
        go_wp2
        go_ret
        exact ⟨rfl, hb⟩
  · obtain ⟨k, j, t, hs⟩ := syl_of c (by omega) (by omega)
    have HT := Lib.hid fun W => parts_syl c k j t W hs
    by_cases ht : t = 0
    · subst ht
      obtain rfl : x = 4 := hx.symm.trans hs.kind4
      have HS := Lib.hid fun W => split_two c k j W hs
      have HP := Lib.hid fun W => pair_two c k j W hs
      obtain ⟨hs, hk, hj, _⟩ := hs
      have HJ := Lib.hid fun W => join_lv (4352 + (k : Int)) (4449 + (j : Int)) W (by omega) (by omega) (by omega) (by omega)
      rw [show 44032 + (4352 + (k : Int) - 4352) * 588 + (4449 + (j : Int) - 4449) * 28 = c by omega] at HJ
      clear hs h1 hx
      go_enter Try.func3, Try.ntmps3
      go_wp2_with fail
      refine (awake_any _).mono ?_
      rintro e w1 ⟨rfl, y1⟩
      go_wp2_with fail
      refine (HO.out _).mono ?_
      rintro e w' ⟨rfl, rfl⟩
      go_wp2_with fail
      refine (HK.out _).mono ?_
      rintro e w' ⟨rfl, rfl⟩
      go_wp2_with fail
      refine (HS.out _).mono ?_
      rintro e w2 ⟨v, rfl, hown, y2⟩
      obtain ⟨g1, cap1, rfl, q1, q2, q3, q4⟩ := own_cells hown (by simp)
      have c0 : w2.cell? ⟨g1, 0, none⟩ = some (.int .i32 (4352 + (k : Int))) := q4 0 (by simp)
      have c1 : w2.cell? ⟨g1, 1, none⟩ = some (.int .i32 (4449 + (j : Int))) := q4 1 (by simp)
      have y3 := below_step y1 y2
      clear q4 hown y1 y2 q2
      go_wp2_with fail
      refine (HT.out _).mono ?_
      rintro e w3 ⟨v, rfl, hown, y4⟩
      rw [partsV, if_pos rfl] at hown
      obtain ⟨g2, cap2, rfl, p1, p2, p3, p4⟩ := own_cells hown (by simp)
      have d0 : w3.cell? ⟨g2, 0, none⟩ = some (.int .i64 (4352 + (k : Int))) := p4 0 (by simp)
      have d1 : w3.cell? ⟨g2, 1, none⟩ = some (.int .i64 (4449 + (j : Int))) := p4 1 (by simp)
      have b0 := cell_on y4 c0 q3
      have b1 := cell_on y4 c1 q3
      have y5 := below_step y3 y4
      clear p4 hown y3 y4 p2 c0 c1
      go_wp2_with fail
      refine (HO.out _).mono ?_
      rintro e w' ⟨rfl, rfl⟩
      go_wp2_with fail
      refine (HO.out _).mono ?_
      rintro e w' ⟨rfl, rfl⟩
      go_wp2
      clear HT HS
      go_loopw [49] (fun u wr => ∃ i : Nat, i ≤ 2 ∧ u = .int .i64 (i : Nat) ∧ Below w.heap.size w wr ∧ wr.cell? ⟨g1, 0, none⟩ = some (.int .i32 (4352 + (k : Int))) ∧ wr.cell? ⟨g1, 1, none⟩ = some (.int .i32 (4449 + (j : Int))) ∧ wr.cell? ⟨g2, 0, none⟩ = some (.int .i64 (4352 + (k : Int))) ∧ wr.cell? ⟨g2, 1, none⟩ = some (.int .i64 (4449 + (j : Int)))) (fun u _ => 2 - (intOf u).toNat)
      case atStart => exact ⟨0, by omega, rfl, y5, b0, b1, d0, d1⟩
      case round =>
        clear b0 b1 d0 d1 y5
        obtain ⟨i, hi, rfl, hb, b0, b1, d0, d1⟩ := hrel
        rcases (show i = 0 ∨ i = 1 ∨ i = 2 by omega) with rfl | rfl | rfl
        · go_wp2
          go_quiet (fail)
          go_wp2
          go_roundw
          case rel => exact ⟨1, by omega, by go_num, ⟨hb.os, hb.tape, hb.output, hb.size, hb.block⟩, b0, b1, d0, d1⟩
          case measure => simp [intOf]
        · go_wp2
          go_quiet (fail)
          go_wp2
          go_roundw
          case rel => exact ⟨2, by omega, by go_num, ⟨hb.os, hb.tape, hb.output, hb.size, hb.block⟩, b0, b1, d0, d1⟩
          case measure => simp [intOf]
        · go_wp2_with fail
          refine (HP.out _).mono ?_
          rintro e w' ⟨rfl, rfl⟩
          go_wp2_with fail
          refine (HJ.out _).mono ?_
          rintro e w' ⟨rfl, rfl⟩
          go_wp2
          go_ret
          exact ⟨by simp, hb⟩
    · obtain rfl : x = 5 := hx.symm.trans (hs.kind5 (by omega))
      have HS := Lib.hid fun W => split_three c k j t W hs (by omega)
      have HP := Lib.hid fun W => pair_three c k j t W hs (by omega)
      have hk4 := hs.rest.kind4
      have ht28 : t < 28 := hs.2.2.2
      have hk19 : k < 19 := hs.2.1
      have hj21 : j < 21 := hs.2.2.1
      have HJ := Lib.hid fun W => join_st (c - (t : Int)) (4519 + (t : Int)) W hk4 (by omega) (by omega)
      rw [show c - (t : Int) + 1 + (4519 + (t : Int)) - 4520 = c by omega] at HJ
      have b1' : 44032 ≤ c - (t : Int) := by have := hs.rest.1; omega
      have b2' : c - (t : Int) ≤ 55203 := by have := hs.rest.1; omega
      generalize c - (t : Int) = s at *
      clear hk4
      clear hs h1 hx
      go_enter Try.func3, Try.ntmps3
      go_wp2_with fail
      refine (awake_any _).mono ?_
      rintro e w1 ⟨rfl, y1⟩
      go_wp2_with fail
      refine (HO.out _).mono ?_
      rintro e w' ⟨rfl, rfl⟩
      go_wp2_with fail
      refine (HK.out _).mono ?_
      rintro e w' ⟨rfl, rfl⟩
      go_wp2_with fail
      refine (HS.out _).mono ?_
      rintro e w2 ⟨v, rfl, hown, y2⟩
      obtain ⟨g1, cap1, rfl, q1, q2, q3, q4⟩ := own_cells hown (by simp)
      have c0 : w2.cell? ⟨g1, 0, none⟩ = some (.int .i32 (4352 + (k : Int))) := q4 0 (by simp)
      have c1 : w2.cell? ⟨g1, 1, none⟩ = some (.int .i32 (4449 + (j : Int))) := q4 1 (by simp)
      have c2 : w2.cell? ⟨g1, 2, none⟩ = some (.int .i32 (4519 + (t : Int))) := q4 2 (by simp)
      have y3 := below_step y1 y2
      clear q4 hown y1 y2 q2
      go_wp2_with fail
      refine (HT.out _).mono ?_
      rintro e w3 ⟨v, rfl, hown, y4⟩
      rw [partsV, if_neg ht] at hown
      obtain ⟨g2, cap2, rfl, p1, p2, p3, p4⟩ := own_cells hown (by simp)
      have d0 : w3.cell? ⟨g2, 0, none⟩ = some (.int .i64 (4352 + (k : Int))) := p4 0 (by simp)
      have d1 : w3.cell? ⟨g2, 1, none⟩ = some (.int .i64 (4449 + (j : Int))) := p4 1 (by simp)
      have d2 : w3.cell? ⟨g2, 2, none⟩ = some (.int .i64 (4519 + (t : Int))) := p4 2 (by simp)
      have b0 := cell_on y4 c0 q3
      have b1 := cell_on y4 c1 q3
      have b2 := cell_on y4 c2 q3
      have y5 := below_step y3 y4
      clear p4 hown y3 y4 p2 c0 c1 c2
      go_wp2_with fail
      refine (HO.out _).mono ?_
      rintro e w' ⟨rfl, rfl⟩
      go_wp2_with fail
      refine (HO.out _).mono ?_
      rintro e w' ⟨rfl, rfl⟩
      go_wp2
      clear HT HS
      go_loopw [49] (fun u wr => ∃ i : Nat, i ≤ 3 ∧ u = .int .i64 (i : Nat) ∧ Below w.heap.size w wr ∧ wr.cell? ⟨g1, 0, none⟩ = some (.int .i32 (4352 + (k : Int))) ∧ wr.cell? ⟨g1, 1, none⟩ = some (.int .i32 (4449 + (j : Int))) ∧ wr.cell? ⟨g1, 2, none⟩ = some (.int .i32 (4519 + (t : Int))) ∧ wr.cell? ⟨g2, 0, none⟩ = some (.int .i64 (4352 + (k : Int))) ∧ wr.cell? ⟨g2, 1, none⟩ = some (.int .i64 (4449 + (j : Int))) ∧ wr.cell? ⟨g2, 2, none⟩ = some (.int .i64 (4519 + (t : Int)))) (fun u _ => 3 - (intOf u).toNat)
      case atStart => exact ⟨0, by omega, rfl, y5, b0, b1, b2, d0, d1, d2⟩
      case round =>
        clear b0 b1 b2 d0 d1 d2 y5
        obtain ⟨i, hi, rfl, hb, b0, b1, b2, d0, d1, d2⟩ := hrel
        rcases (show i = 0 ∨ i = 1 ∨ i = 2 ∨ i = 3 by omega) with rfl | rfl | rfl | rfl
        · go_wp2
          go_quiet (fail)
          go_wp2
          go_roundw
          case rel => exact ⟨1, by omega, by go_num, ⟨hb.os, hb.tape, hb.output, hb.size, hb.block⟩, b0, b1, b2, d0, d1, d2⟩
          case measure => simp [intOf]
        · go_wp2
          go_quiet (fail)
          go_wp2
          go_roundw
          case rel => exact ⟨2, by omega, by go_num, ⟨hb.os, hb.tape, hb.output, hb.size, hb.block⟩, b0, b1, b2, d0, d1, d2⟩
          case measure => simp [intOf]
        · go_wp2
          go_quiet (fail)
          go_wp2
          go_roundw
          case rel => exact ⟨3, by omega, by go_num, ⟨hb.os, hb.tape, hb.output, hb.size, hb.block⟩, b0, b1, b2, d0, d1, d2⟩
          case measure => simp [intOf]
        · go_wp2_with fail
          refine (HP.out _).mono ?_
          rintro e w' ⟨rfl, rfl⟩
          go_wp2_with fail
          refine (HJ.out _).mono ?_
          rintro e w' ⟨rfl, rfl⟩
          go_wp2
          go_ret
          exact ⟨by simp, hb⟩
end Go.Proofs.Ythmdapcieghbbaa
