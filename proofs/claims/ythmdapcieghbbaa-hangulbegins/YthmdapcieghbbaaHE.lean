/-
  The laws HangulBegins and HangulKinds.
-/
import Derived.Test.YthmdapcieghbbaaHC
import Derived.Test.YthmdapcieghbbaaHD
import Derived.Deep.QuietTactic
import Derived.BigQuiet
namespace Go.Proofs.Ythmdapcieghbbaa
set_option linter.unusedVariables false
set_option maxRecDepth 20000
open Go.RowKit

theorem partsV_len (k j t : Nat) : (partsV k j t).length = 2 ∨ (partsV k j t).length = 3 := by
  unfold partsV
  split <;> simp

set_option maxHeartbeats 4000000 in
theorem hangulBegins_walk (c : Int) (w : World) (l1 : -2147483648 ≤ c) (u1 : c ≤ 2147483647) :
    Calls Try.prog 5 #[.int .i32 c] w (RetV (.bool true) w) := by
  obtain ⟨x, hx⟩ : ∃ x, kindI c = x := ⟨_, rfl⟩
  have HA := Lib.hid fun W => kind_val hx W l1 u1
  by_cases h1 : 4352 ≤ c ∧ c ≤ 4370
  · obtain ⟨b1, b2⟩ := h1
    have e1 : x = 1 := by rcases kind_ways c with ⟨e, a, b⟩ | ⟨e, a, b⟩ | ⟨e, a, b⟩ | ⟨e, a, b, d, k⟩ | ⟨e, a, b, d⟩ | ⟨e, a, b, d⟩ <;> omega
    subst e1
    clear hx
    have HB := Lib.hid fun W => begins_any c W b1 b2
    go_enter Try.func5, Try.ntmps5
    go_wp2_with fail
    refine (awake_any _).mono ?_
    rintro e w1 ⟨rfl, y1⟩
    go_wp2_with fail
    refine (HB.out _).mono ?_
    rintro e w2 ⟨g, cs, rfl, hB, hcs, y2⟩
    have y3 := below_step y1 y2
    have HC := Lib.hid hcs
    clear hcs y1 y2
    go_wp2_with fail
    refine (HA.out _).mono ?_
    rintro e w' ⟨rfl, rfl⟩
    go_wp2
    go_loopw [23] (fun u wr => ∃ i : Nat, i ≤ 588 ∧ u = .int .i64 (i : Nat) ∧ Blk wr g 21 cs ∧ Below w.heap.size w wr) (fun u _ => 588 - (intOf u).toNat)
    case atStart => exact ⟨0, by omega, rfl, hB, y3⟩
    case round =>
      obtain ⟨i, hi, rfl, hBr, hb⟩ := hrel
      by_cases h3 : i < 588
      · have cX := hBr.cell i
        rw [HC.out i h3] at cX
        have cP : 0 < i → wr.cell? ⟨g, i - 1, none⟩ = some (.int .i32 (44032 + (c - 4352) * 588 + ((i - 1 : Nat) : Int))) := fun h => by rw [hBr.cell]; exact HC.out _ (by omega)
        obtain ⟨x, hxd⟩ : ∃ x, x = 44032 + (c - 4352) * 588 + (i : Int) := ⟨_, rfl⟩
        rw [← hxd] at cX
        obtain ⟨k, hk⟩ : ∃ k : Nat, (k : Int) = c - 4352 := ⟨(c - 4352).toNat, by omega⟩
        have HP := Lib.hid fun W => parts_syl x k (i / 28) (i % 28) W ⟨by omega, by omega, by omega, by omega⟩
        have hlen := partsV_len k (i / 28) (i % 28)
        have hfirst : (partsV k (i / 28) (i % 28))[0]? = some (.int .i64 c) := by
          have e : (4352 : Int) + (k : Int) = c := by omega
          unfold partsV
          split <;> simp [e]
        have hprev : ∀ y : Int, 0 < i → y = 44032 + (c - 4352) * 588 + ((i - 1 : Nat) : Int) → ¬ x ≤ y := fun y h e => by omega
        have bx1 : 44032 ≤ x := by omega
        have bx2 : x ≤ 55203 := by omega
        generalize partsV k (i / 28) (i % 28) = ps at *
        clear hk hxd
        have HF := Lib.hid hfirst
        have HPR := Lib.hid hprev
        have HCP := Lib.hid cP
        clear hfirst hprev cP
        obtain ⟨n, hn⟩ : ∃ n, ps.length = n := ⟨_, rfl⟩
        go_wp2_with fail
        refine (HP.out _).mono ?_
        rintro e w4 ⟨v, rfl, hown, y4⟩
        rw [hn] at hlen hown
        clear hn
        obtain ⟨g2, cap2, rfl, q1, q2, q3, q4⟩ := own_cells hown (by omega)
        have c0 : w4.cell? ⟨g2, 0, none⟩ = some (.int .i64 c) := (q4 0 (by omega)).trans HF.out
        have hb4 := below_step hb y4
        have hB4 := hBr.on y4
        clear q4 hown cX
        by_cases hi0 : 0 < i
        · obtain ⟨y, hy⟩ : ∃ y, y = 44032 + (c - 4352) * 588 + ((i - 1 : Nat) : Int) := ⟨_, rfl⟩
          have cY := hB4.cell (i - 1)
          rw [HC.out _ (by omega), ← hy] at cY
          have hxy := HPR.out y hi0 hy
          clear hy
          have ei : ((i - 1 : Nat) : Int) = (i : Int) - 1 := by omega
          have hgt : (0 : Int) < (i : Int) := by omega
          rcases hlen with rfl | rfl
          all_goals
            go_wp2
            go_roundw
            case rel => exact ⟨i + 1, by omega, by go_num, hB4, hb4⟩
            case measure => simp [intOf]; omega
        · obtain rfl : i = 0 := by omega
          rcases hlen with rfl | rfl
          all_goals
            go_wp2
            go_roundw
            case rel => exact ⟨1, by omega, by go_num, hB4, hb4⟩
            case measure => simp [intOf]
      · obtain rfl : i = 588 := by omega
        go_wp2
        go_ret
        exact ⟨rfl, hb⟩
  · have HB := Lib.hid fun W => begins_none c W l1 u1 h1
    have hb : x = 0 ∨ x = 2 ∨ x = 3 ∨ x = 4 ∨ x = 5 := by
      rcases kind_ways c with ⟨e, a, b⟩ | ⟨e, a, b⟩ | ⟨e, a, b⟩ | ⟨e, a, b, d, k⟩ | ⟨e, a, b, d⟩ | ⟨e, a, b, d⟩ <;> omega
    clear hx h1
    rcases hb with rfl | rfl | rfl | rfl | rfl
    all_goals
      go_enter Try.func5, Try.ntmps5
      go_wp2_with fail
      refine (awake_any _).mono ?_
      rintro e w1 ⟨rfl, y1⟩
      go_wp2_with fail
      refine (HB.out _).mono ?_
      rintro e w' ⟨rfl, rfl⟩
      go_wp2_with fail
      refine (HA.out _).mono ?_
      rintro e w' ⟨rfl, rfl⟩
      go_wp2
      go_ret
      exact ⟨rfl, y1⟩
end Go.Proofs.Ythmdapcieghbbaa
