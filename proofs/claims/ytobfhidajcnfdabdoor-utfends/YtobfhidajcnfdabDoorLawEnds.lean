/-
  The walk of the law on the first, and the last, character.
-/
import Derived.Test.YtobfhidajcnfdabDoorUG
namespace Go.Proofs.YtobfhidajcnfdabDoor
set_option linter.unusedVariables false
set_option maxRecDepth 20000
open Go.RowKit Go.Lib

set_option maxHeartbeats 4000000 in
theorem utfEnds_walk (s0 : ByteArray) (w : World) (he : Env w) : Calls Tryd.prog 5 #[.string s0] w (RetV (.bool true) w) := by
  go_enter Tryd.func5, Tryd.ntmps5
  go_wp2_with fail
  refine (awake_any _ he).mono ?_
  rintro e w1 ⟨rfl, b1⟩
  go_wp2_with fail
  refine (cut_any s0 60 _).mono ?_
  rintro e w2 ⟨s, rfl, hs, b2⟩
  have b2 := below_step b1 b2
  have he2 := he.kept b2
  obtain ⟨c, k, hck⟩ := firstIs_total s.data.toList
  obtain ⟨d, m, hdm⟩ := lastIs_total s.data.toList
  have hlen : s.data.toList.length = s.size := Array.length_toList
  have hle := hdm.le
  rw [hlen] at hle
  have hkl := hck.le
  rw [hlen] at hkl
  have H1 := Lib.hid fun W hW => next_any s W hW (by omega) c k hck
  have H2 := Lib.hid fun W => first_any s W (by omega) c k hck
  have H3 := Lib.hid fun W hW => last_any s W hW (by omega) d m hdm
  have hfirst : ∀ j x t W, j ≤ s.size → FirstIs (s.data.toList.drop (s.size - j)) x t → Calls Tryd.prog 21 #[.string (s.extract (s.size - j) s.size)] W (RetV (.tuple #[.int .i64 (x : Nat), .int .i64 (t : Nat)]) W) := fun j x t W hj hx =>
    first_any _ W (by rw [ByteArray.size_extract]; omega) x t (by rw [drop_list s _ (by omega)]; exact hx)
  replace hfirst := Lib.hid hfirst
  replace hdm := Lib.hid hdm
  simp only [nextV] at H1 H3
  have hb : (decide (0 < k) != decide ((0 : Int) < (k : Int))) = false := by
    rcases Nat.eq_zero_or_pos k with rfl | h
    · rfl
    · simp [h]
  have hdl : d ≤ 1114111 := by
    rcases hdm.out with ⟨_, rfl, _⟩ | ⟨_, _, _, h8, _⟩
    · omega
    · exact h8.le.1
  clear hck
  go_wp2_with fail
  refine (H1.out _ he2).mono ?_
  rintro e w3 ⟨rfl, b3⟩
  have b3 := below_step b2 b3
  go_wp2_with fail
  refine (H2.out _).mono ?_
  rintro e w4 ⟨rfl, b4⟩
  have b4 := below_step b3 b4
  go_wp2_with fail
  refine (H3.out _ (he.kept b4)).mono ?_
  rintro e w5 ⟨rfl, b5⟩
  have b5 := below_step b4 b5
  clear H1 H2 H3 b1 b2 b3 b4 hb hkl he2
  go_wp2_with fail
  go_loopw [11] (fun j11 wr => Below w.heap.size w wr ∧ ∃ j : Nat, 1 ≤ j ∧ j ≤ 5 ∧ j11 = .int .i64 j ∧ (m = 0 ∨ j ≤ m)) (fun j11 _ => 5 - (intOf j11).toNat)
  case atStart => exact ⟨b5, 1, by omega, by omega, rfl, by omega⟩
  case round =>
    obtain ⟨hbw, j, hj1, hj5, rfl, hjm⟩ := hrel
    by_cases hin : j ≤ 4 ∧ j ≤ s.size
    · obtain ⟨hj4, hjs⟩ := hin
      obtain ⟨x, t, hxt⟩ := firstIs_total (s.data.toList.drop (s.size - j))
      have HX := Lib.hid fun W => hfirst.out j x t W hjs hxt
      have hcmp : (t = j ∧ x = d ∧ j = m) ∨ (t ≠ j ∧ j ≠ m) := by
        have hh : j = m → t = m ∧ x = d := fun e => by
          subst e
          have h8 := hdm.out.here (by omega)
          rw [hlen] at h8
          obtain ⟨e1, e2⟩ := hxt.inj h8
          exact ⟨e2, e1⟩
        rcases Classical.em (t = j) with h1 | h1
        · subst h1
          obtain ⟨e1, e2⟩ := hdm.out.found hj1 hj4 (by omega) hjm (by rw [hlen]; exact hxt)
          exact .inl ⟨rfl, e1, e2⟩
        · exact .inr ⟨h1, fun e => h1 (by have := hh e; omega)⟩
      have hj5' : (j : Int) < 5 := by omega
      rcases hcmp with ⟨rfl, rfl, rfl⟩ | ⟨htj, hne⟩
      · have hd0 : decide (0 < t) = true := by simp; omega
        clear hfirst hxt hle hjm hdm
        go_wp2_with fail
        refine (HX.out _).mono ?_
        rintro e w1 ⟨rfl, y1⟩
        go_wp2
        go_ret
        exact ⟨by simp, below_step hbw y1⟩
      · have htb : ((t : Int) == (j : Int)) = false := by rw [beq_eq_false_iff_ne]; omega
        clear hfirst hxt hdm
        go_wp2_with fail
        refine (HX.out _).mono ?_
        rintro e w1 ⟨rfl, y1⟩
        go_wp2
        go_roundw
        case rel => exact ⟨below_step hbw y1, j + 1, by omega, by omega, by go_num, by omega⟩
        case measure => simp [intOf]; omega
    · have hm0 : m = 0 := by omega
      subst hm0
      obtain rfl := hle.2.2 rfl
      clear hfirst hdm
      by_cases hj4 : j < 5
      · have hjs : (s.size : Int) < j := by omega
        go_wp2
        go_ret
        exact ⟨rfl, hbw⟩
      · obtain rfl : j = 5 := by omega
        go_wp2
        go_ret
        exact ⟨rfl, hbw⟩
end Go.Proofs.YtobfhidajcnfdabDoor
