/-
  The law NatSmall.
-/
import Derived.Test.YthionbkdlmiaoaaIs
namespace Go.Proofs.Ythionbkdlmiaoaa
open Go.RowKit

set_option maxHeartbeats 2000000 in
theorem natSmall_walk (x y : Nat) (w : World) (hx : x < 18446744073709551616) (hy : y < 18446744073709551616) :
    Calls Try.prog 5 #[.int .u64 x, .int .u64 y] w (RetV (.bool true) w) := by
  go_enter Try.func5, Try.ntmps5
  go_wp2_with fail
  refine (awake_any _).mono ?_
  rintro e w1 ⟨rfl, b1⟩
  go_wp2_with fail
  refine (of_any x _ hx).mono ?_
  rintro e w2 ⟨v2, rfl, hN2, b2⟩
  obtain ⟨A2, n2, c2, rfl⟩ := hN2.shape
  go_wp2_with fail
  refine (of_any y _ hy).mono ?_
  rintro e w3 ⟨v3, rfl, hM3, b3⟩
  obtain ⟨A3, n3, c3, rfl⟩ := hM3.shape
  have hX : Blk ((w3.alloc (Obj.cells #[Value.slice A2 n2 c2] 26)).alloc (Obj.cells #[Value.slice A3 n3 c3] 26)) w3.heap.size 26 #[.slice A2 n2 c2] := (Blk.new w3 26 _).alloc _
  have hY : Blk ((w3.alloc (Obj.cells #[Value.slice A2 n2 c2] 26)).alloc (Obj.cells #[Value.slice A3 n3 c3] 26)) (w3.heap.size + 1) 26 #[.slice A3 n3 c3] := by
    have := Blk.new (w3.alloc (Obj.cells #[Value.slice A2 n2 c2] 26)) 26 #[.slice A3 n3 c3]
    simpa using this
  have hN := ((hN2.below b3).alloc (Obj.cells #[Value.slice A2 n2 c2] 26)).alloc (Obj.cells #[Value.slice A3 n3 c3] 26)
  have hM := (hM3.alloc (Obj.cells #[Value.slice A2 n2 c2] 26)).alloc (Obj.cells #[Value.slice A3 n3 c3] 26)
  have bW : Below w.heap.size w ((w3.alloc (Obj.cells #[Value.slice A2 n2 c2] 26)).alloc (Obj.cells #[Value.slice A3 n3 c3] 26)) := below_step (below_step (below_step (below_step b1 b2) b3) (below_new _ _)) (below_new _ _)
  clear hN2 hM3 b1 b2 b3
  go_wp2_with fail
  generalize hW : (w3.alloc (Obj.cells #[Value.slice A2 n2 c2] 26)).alloc (Obj.cells #[Value.slice A3 n3 c3] 26) = W at *
  clear hW
  have hc5 := hX.cell0
  have hc6 := hY.cell0
  have tok1 : True := trivial
  have tok2 : True := trivial
  have tok3 : True := trivial
  have hz : ((decide (x = 0)) != ((x : Int) == 0)) = false := by
    rcases Nat.eq_zero_or_pos x with h | h
    · subst h; rfl
    · have : x ≠ 0 := by omega
      simp [this]
  go_region_held3 (fun w' => w'.cell? ⟨w3.heap.size, 0, none⟩ = some (.slice A2 n2 c2) ∧ w'.cell? ⟨w3.heap.size + 1, 0, none⟩ = some (.slice A3 n3 c3))
    (first | exact keep2 hX hY (below_drew _) | exact keep2 hX hY hw4 | exact keep2 hX hY hw5 | exact keep2 hX hY hw6)
    (first
      | (go_at_call 26; have _t := tok1; clear tok1; refine (numD_any x _ hx).mono ?_; rintro e w4 ⟨v4, rfl, hD4, b4⟩; have hw4 : Below W.heap.size W w4 := below_step (below_drew _) b4)
      | (go_at_call 16; have _t := tok2; clear tok2; refine (is_any _ v4 2 20 x x true _ (hN.below hw4) hD4 (by decide) (by decide) (by simp)).mono ?_; rintro e w5 ⟨rfl, b5⟩; have hw5 : Below W.heap.size W w5 := below_step hw4 b5)
      | (go_at_call 22; have _t := tok3; clear tok3; refine (zero_any _ 2 x (decide (x = 0)) _ (hN.below hw5) rfl).mono ?_; rintro e w6 ⟨rfl, b6⟩; have hw6 : Below W.heap.size W w6 := below_step hw5 b6))
  have hzz : (!(decide (x = 0) == ((x : Int) == 0))) = false := by
    rcases Nat.eq_zero_or_pos x with h | h
    · subst h; rfl
    · have : x ≠ 0 := by omega
      simp [this]
  have hX6 := hX.on hw6
  have hY6 := hY.on hw6
  have hN6 := hN.below hw6
  have hM6 := hM.below hw6
  have bW6 := below_step bW hw6
  rw [hzz]
  clear hX hY hN hM bW hc5 hc6 hz hzz hw4 hw5 hw6 b4 b5 b6 hD4
  have hc5 := hX6.cell0
  have hc6 := hY6.cell0
  go_wp2_with fail
  refine (uint64_in _ 2 x _ hN6 (by decide) hx).mono ?_
  rintro e w7 ⟨rfl, b7⟩
  have hc57 := (hX6.on b7).cell0
  have hc67 := (hY6.on b7).cell0
  clear hc5 hc6
  go_wp2_with fail
  refine (add_any _ _ 2 2 x y _ (hN6.below b7) (hM6.below b7) (by decide) (by decide)).mono ?_
  rintro e w8 ⟨v8, rfl, hS8, b8⟩
  have b8' := below_step b7 b8
  by_cases hfit : x + y < 18446744073709551616
  · go_wp2_with fail
    refine (uint64_in _ _ _ _ hS8 (by decide) hfit).mono ?_
    rintro e w9 ⟨rfl, b9⟩
    have b9' := below_step b8' b9
    clear hc57 hc67
    go_wp2
    go_loop [11, 12] (fun t u => ∃ n k : Nat, t = .int .i64 n ∧ u = .int .u64 k ∧ k ≤ x ∧ n + bl k = bl x) (fun _ u => (intOf u).toNat)
    case atStart => exact ⟨0, x, rfl, rfl, Nat.le_refl _, by omega⟩
    case round =>
      obtain ⟨n, k, rfl, rfl, hk, hbk⟩ := hrel
      have hb64 := (bl_spec x 64).2 hx
      have hnb : n ≤ 64 := by omega
      by_cases hk0 : k = 0
      · subst hk0
        have hn : bl x = n := by have : bl 0 = 0 := rfl; omega
        have BT := Lib.hid (bits_any _ 2 x w9 (hN6.below b9') (by decide))
        rw [hn] at BT
        have hc59 := (hX6.on b9').cell0
        have hc69 := (hY6.on b9').cell0
        have hle : (x : Int) ≤ 18446744073709551615 - (y : Int) := by omega
        have hsame : (decide (x = y) == ((x : Int) == (y : Int))) = true := by
          by_cases h : x = y
          · subst h; simp
          · have : ¬ ((x : Int) = (y : Int)) := by omega
            simp [h, this]
        clear hn hbk hk
        go_wp2_with fail
        refine BT.out.mono ?_
        rintro e w10 ⟨rfl, b10⟩
        have b10' := below_step b9' b10
        have hc510 := (hX6.on b10').cell0
        have hc610 := (hY6.on b10').cell0
        clear hc59 hc69
        go_wp2_with fail
        refine (same_any _ _ 2 2 x y (decide (x = y)) _ (hN6.below b10') (hM6.below b10') (by decide) (by decide) rfl).mono ?_
        rintro e w11 ⟨rfl, b11⟩
        go_wp2
        go_ret
        exact ⟨rfl, below_step (below_step bW6 b10') b11⟩
      · have hk1 : 0 < k := by omega
        have hbk2 : n + 1 + bl (k / 2) = bl x := by rw [← hbk, bl_half (by omega : k ≠ 0)]; omega
        have HB := Lib.hid hbk2
        clear hbk hbk2
        go_wp2
        go_round
        case rel => exact ⟨n + 1, k / 2, by go_num, by go_num, by omega, HB.out⟩
        case measure => simp [intOf]; omega
  · go_wp2_with fail
    refine (uint64_out _ _ _ _ hS8 (by decide) hfit).mono ?_
    rintro e w9 ⟨rfl, b9⟩
    have b9' := below_step b8' b9
    clear hc57 hc67
    go_wp2
    go_loop [11, 12] (fun t u => ∃ n k : Nat, t = .int .i64 n ∧ u = .int .u64 k ∧ k ≤ x ∧ n + bl k = bl x) (fun _ u => (intOf u).toNat)
    case atStart => exact ⟨0, x, rfl, rfl, Nat.le_refl _, by omega⟩
    case round =>
      obtain ⟨n, k, rfl, rfl, hk, hbk⟩ := hrel
      have hb64 := (bl_spec x 64).2 hx
      have hnb : n ≤ 64 := by omega
      by_cases hk0 : k = 0
      · subst hk0
        have hn : bl x = n := by have : bl 0 = 0 := rfl; omega
        have BT := Lib.hid (bits_any _ 2 x w9 (hN6.below b9') (by decide))
        rw [hn] at BT
        have hc59 := (hX6.on b9').cell0
        have hc69 := (hY6.on b9').cell0
        have hle : decide ((x : Int) ≤ 18446744073709551615 - (y : Int)) = false := decide_eq_false (by omega)
        have hsame : (decide (x = y) == ((x : Int) == (y : Int))) = true := by
          by_cases h : x = y
          · subst h; simp
          · have : ¬ ((x : Int) = (y : Int)) := by omega
            simp [h, this]
        clear hn hbk hk
        go_wp2_with fail
        refine BT.out.mono ?_
        rintro e w10 ⟨rfl, b10⟩
        have b10' := below_step b9' b10
        have hc510 := (hX6.on b10').cell0
        have hc610 := (hY6.on b10').cell0
        clear hc59 hc69
        go_wp2_with fail
        refine (same_any _ _ 2 2 x y (decide (x = y)) _ (hN6.below b10') (hM6.below b10') (by decide) (by decide) rfl).mono ?_
        rintro e w11 ⟨rfl, b11⟩
        go_wp2
        go_ret
        exact ⟨rfl, below_step (below_step bW6 b10') b11⟩
      · have hk1 : 0 < k := by omega
        have hbk2 : n + 1 + bl (k / 2) = bl x := by rw [← hbk, bl_half (by omega : k ≠ 0)]; omega
        have HB := Lib.hid hbk2
        clear hbk hbk2
        go_wp2
        go_round
        case rel => exact ⟨n + 1, k / 2, by go_num, by go_num, by omega, HB.out⟩
        case measure => simp [intOf]; omega
end Go.Proofs.Ythionbkdlmiaoaa
