/-
  Pair, Join and Split: their contracts.
-/
import Derived.Test.YthmdapcieghbbaaHA
import Derived.Laws.AppendOwnNone
import Derived.OwnWalk
namespace Go.Proofs.Ythmdapcieghbbaa
set_option linter.unusedVariables false
set_option maxRecDepth 20000
open Go.RowKit

/-- The syllable of the leading part k, the vowel j and the trailing part t (0: none). -/
def Syl (c : Int) (k j t : Nat) : Prop := c = 44032 + 588 * (k : Int) + 28 * (j : Int) + (t : Int) ∧ k < 19 ∧ j < 21 ∧ t < 28
theorem syl_of (c : Int) (h1 : 44032 ≤ c) (h2 : c ≤ 55203) : ∃ k j t, Syl c k j t :=
  ⟨((c - 44032) / 588).toNat, ((c - 44032) % 588 / 28).toNat, ((c - 44032) % 28).toNat, by omega, by omega, by omega, by omega⟩
theorem Syl.kind4 {c : Int} {k j : Nat} (h : Syl c k j 0) : kindI c = 4 := by
  obtain ⟨h, h1, h2, h3⟩ := h
  rcases kind_ways c with ⟨e, a, b⟩ | ⟨e, a, b⟩ | ⟨e, a, b⟩ | ⟨e, a, b, d, k⟩ | ⟨e, a, b, d⟩ | ⟨e, a, b, d⟩ <;> omega
theorem Syl.kind5 {c : Int} {k j t : Nat} (h : Syl c k j t) (ht : 0 < t) : kindI c = 5 := by
  obtain ⟨h, h1, h2, h3⟩ := h
  rcases kind_ways c with ⟨e, a, b⟩ | ⟨e, a, b⟩ | ⟨e, a, b⟩ | ⟨e, a, b, d, k⟩ | ⟨e, a, b, d⟩ | ⟨e, a, b, d⟩ <;> omega
theorem Syl.rest {c : Int} {k j t : Nat} (h : Syl c k j t) : Syl (c - t) k j 0 := by
  obtain ⟨h, h1, h2, h3⟩ := h
  exact ⟨by omega, h1, h2, by omega⟩
theorem kind_lt (c : Int) : kindI c = 0 ∨ kindI c = 1 ∨ kindI c = 2 ∨ kindI c = 3 ∨ kindI c = 4 ∨ kindI c = 5 := by
  rcases kind_ways c with ⟨e, a, b⟩ | ⟨e, a, b⟩ | ⟨e, a, b⟩ | ⟨e, a, b, d, k⟩ | ⟨e, a, b, d⟩ | ⟨e, a, b, d⟩ <;> omega
theorem of_val {c : Int} {v : Int} (h : kindI c = v) (w : World) (hl : -2147483648 ≤ c) (hc : c ≤ 2147483647) :
    Calls Try.prog 7 #[.int .i32 c] w fun e w' => e = .returned (.int .i64 v) ∧ w = w' := h ▸ of_any c w hl hc
theorem kind_val {c : Int} {v : Int} (h : kindI c = v) (w : World) (hl : -2147483648 ≤ c) (hc : c ≤ 2147483647) :
    Calls Try.prog 8 #[.int .i64 c] w fun e w' => e = .returned (.int .i64 v) ∧ w = w' := h ▸ kind_any c w hl hc

theorem ret_tup3 {k k' : IntKind} {a b a' b' : Int} {z : Bool} (h : a = a') (h' : b = b') : Ending.returned (.tuple #[.int k a, .int k' b, .bool z]) = .returned (.tuple #[.int k a', .int k' b', .bool z]) := by rw [h, h']

set_option maxHeartbeats 1000000 in
theorem pair_two (c : Int) (k j : Nat) (w : World) (h : Syl c k j 0) :
    Calls Try.prog 11 #[.int .i32 c] w fun e w' => e = .returned (.tuple #[.int .i32 (4352 + (k : Int)), .int .i32 (4449 + (j : Int)), .bool true]) ∧ w = w' := by
  have hk := h.kind4
  obtain ⟨h, h1, h2, h3⟩ := h
  have a1 : 44032 ≤ c := by omega
  have a2 : c ≤ 55203 := by omega
  have m1 : 0 ≤ (c - 44032) % 588 := by omega
  have m2 : (c - 44032) % 588 < 588 := by omega
  have e1 : Hid ((c - 44032) / 588 = k) := Lib.hid (by omega)
  have e2 : Hid ((c - 44032) % 588 / 28 = j) := Lib.hid (by omega)
  have HO := Lib.hid fun W => of_val hk W (by omega) (by omega)
  clear h h3 hk
  go_enter Try.func11, Try.ntmps11
  go_wp2_with fail
  refine (HO.out _).mono ?_
  rintro e w' ⟨rfl, rfl⟩
  go_wp2
  go_ret3
  exact ⟨ret_tup3 (by rw [e1.out]) (by rw [e2.out]), rfl⟩

set_option maxHeartbeats 1000000 in
theorem pair_three (c : Int) (k j t : Nat) (w : World) (h : Syl c k j t) (ht : 0 < t) :
    Calls Try.prog 11 #[.int .i32 c] w fun e w' => e = .returned (.tuple #[.int .i32 (c - (t : Int)), .int .i32 (4519 + (t : Int)), .bool true]) ∧ w = w' := by
  have hk := h.kind5 ht
  obtain ⟨h, h1, h2, h3⟩ := h
  have a1 : 44032 ≤ c := by omega
  have a2 : c ≤ 55203 := by omega
  have m1 : 0 ≤ (c - 44032) % 28 := by omega
  have m2 : (c - 44032) % 28 < 28 := by omega
  have e1 : Hid ((c - 44032) % 28 = t) := Lib.hid (by omega)
  have HO := Lib.hid fun W => of_val hk W (by omega) (by omega)
  clear h h3 hk
  go_enter Try.func11, Try.ntmps11
  go_wp2_with fail
  refine (HO.out _).mono ?_
  rintro e w' ⟨rfl, rfl⟩
  go_wp2
  go_ret3
  exact ⟨ret_tup3 (by rw [e1.out]) (by rw [e1.out]; omega), rfl⟩

set_option maxHeartbeats 1000000 in
theorem pair_none (c : Int) (w : World) (hl : -2147483648 ≤ c) (hc : c ≤ 2147483647) (h : c < 44032 ∨ 55203 < c) :
    Calls Try.prog 11 #[.int .i32 c] w fun e w' => e = .returned (.tuple #[.int .i32 0, .int .i32 0, .bool false]) ∧ w = w' := by
  obtain ⟨v, hv⟩ : ∃ v, kindI c = v := ⟨_, rfl⟩
  have hb : v = 0 ∨ v = 1 ∨ v = 2 ∨ v = 3 := by
    rcases kind_ways c with ⟨e, a, b⟩ | ⟨e, a, b⟩ | ⟨e, a, b⟩ | ⟨e, a, b, d, k⟩ | ⟨e, a, b, d⟩ | ⟨e, a, b, d⟩ <;> omega
  have HO := Lib.hid fun W => of_val hv W (by omega) (by omega)
  clear hv h
  rcases hb with rfl | rfl | rfl | rfl
  all_goals
    go_enter Try.func11, Try.ntmps11
    go_wp2_with fail
    refine (HO.out _).mono ?_
    rintro e w' ⟨rfl, rfl⟩
    go_wp2
    go_ret3
    exact ⟨rfl, rfl⟩

theorem ret_tup2 {k : IntKind} {a a' : Int} {z : Bool} (h : a = a') : Ending.returned (.tuple #[.int k a, .bool z]) = .returned (.tuple #[.int k a', .bool z]) := by rw [h]

set_option maxHeartbeats 1000000 in
theorem join_lv (a b : Int) (w : World) (h1 : 4352 ≤ a) (h2 : a ≤ 4370) (h3 : 4449 ≤ b) (h4 : b ≤ 4469) :
    Calls Try.prog 12 #[.int .i32 a, .int .i32 b] w fun e w' => e = .returned (.tuple #[.int .i32 (44032 + (a - 4352) * 588 + (b - 4449) * 28), .bool true]) ∧ w = w' := by
  have ka : kindI a = 1 := by rcases kind_ways a with ⟨e, a, b⟩ | ⟨e, a, b⟩ | ⟨e, a, b⟩ | ⟨e, a, b, d, k⟩ | ⟨e, a, b, d⟩ | ⟨e, a, b, d⟩ <;> omega
  have kb : kindI b = 2 := by rcases kind_ways b with ⟨e, a, b⟩ | ⟨e, a, b⟩ | ⟨e, a, b⟩ | ⟨e, a, b, d, k⟩ | ⟨e, a, b, d⟩ | ⟨e, a, b, d⟩ <;> omega
  have HA := Lib.hid fun W => of_val ka W (by omega) (by omega)
  have HB := Lib.hid fun W => of_val kb W (by omega) (by omega)
  clear ka kb
  go_enter Try.func12, Try.ntmps12
  go_wp2_with fail
  refine (HA.out _).mono ?_
  rintro e w' ⟨rfl, rfl⟩
  go_wp2_with fail
  refine (HB.out _).mono ?_
  rintro e w' ⟨rfl, rfl⟩
  go_wp2
  go_ret2
  exact ⟨rfl, rfl⟩

set_option maxHeartbeats 1000000 in
theorem join_st (a b : Int) (w : World) (ka : kindI a = 4) (h3 : 4520 ≤ b) (h4 : b ≤ 4546) :
    Calls Try.prog 12 #[.int .i32 a, .int .i32 b] w fun e w' => e = .returned (.tuple #[.int .i32 (a + 1 + b - 4520), .bool true]) ∧ w = w' := by
  have a12 : 44032 ≤ a ∧ a ≤ 55203 := by rcases kind_ways a with ⟨e, a, b⟩ | ⟨e, a, b⟩ | ⟨e, a, b⟩ | ⟨e, a, b, d, k⟩ | ⟨e, a, b, d⟩ | ⟨e, a, b, d⟩ <;> omega
  obtain ⟨a1, a2⟩ := a12
  have kb : kindI b = 3 := by rcases kind_ways b with ⟨e, a, b⟩ | ⟨e, a, b⟩ | ⟨e, a, b⟩ | ⟨e, a, b, d, k⟩ | ⟨e, a, b, d⟩ | ⟨e, a, b, d⟩ <;> omega
  have HA := Lib.hid fun W => of_val ka W (by omega) (by omega)
  have HB := Lib.hid fun W => of_val kb W (by omega) (by omega)
  clear ka kb
  go_enter Try.func12, Try.ntmps12
  go_wp2_with fail
  refine (HA.out _).mono ?_
  rintro e w' ⟨rfl, rfl⟩
  go_wp2_with fail
  refine (HB.out _).mono ?_
  rintro e w' ⟨rfl, rfl⟩
  go_wp2
  go_ret2
  exact ⟨rfl, rfl⟩

set_option maxHeartbeats 1000000 in
theorem join_no (a b : Int) (w : World) (l1 : -2147483648 ≤ a) (u1 : a ≤ 2147483647) (l2 : -2147483648 ≤ b) (u2 : b ≤ 2147483647) (x y : Int) (hx : kindI a = x) (hy : kindI b = y)
    (h1 : ¬ (x = 1 ∧ y = 2)) (h2 : ¬ (x = 4 ∧ y = 3)) :
    Calls Try.prog 12 #[.int .i32 a, .int .i32 b] w fun e w' => e = .returned (.tuple #[.int .i32 0, .bool false]) ∧ w = w' := by
  have HA := Lib.hid fun W => of_val hx W (by omega) (by omega)
  have HB := Lib.hid fun W => of_val hy W (by omega) (by omega)
  have bx := kind_lt a
  have by' := kind_lt b
  rw [hx] at bx
  rw [hy] at by'
  clear hx hy
  rcases bx with rfl | rfl | rfl | rfl | rfl | rfl
  all_goals rcases by' with rfl | rfl | rfl | rfl | rfl | rfl
  all_goals first | (exfalso; exact h1 ⟨rfl, rfl⟩) | (exfalso; exact h2 ⟨rfl, rfl⟩) | skip
  all_goals
    clear h1 h2
    go_enter Try.func12, Try.ntmps12
    go_wp2_with fail
    refine (HA.out _).mono ?_
    rintro e w' ⟨rfl, rfl⟩
    go_wp2_with fail
    refine (HB.out _).mono ?_
    rintro e w' ⟨rfl, rfl⟩
    go_wp2
    go_ret2
    exact ⟨rfl, rfl⟩

/-- It answers a slice of its own making with these values, and nothing that was there has turned. -/
def RetC (t : TypeId) (xs : List Value) (w : World) (e : Ending) (w' : World) : Prop := ∃ v, e = .returned v ∧ w'.ownsRow w.heap.size t 1 v xs.length xs ∧ Below w.heap.size w w'

theorem own_fresh (w : World) (B : Nat) (t : TypeId) (xs : List Value) (hB : B ≤ w.heap.size) (n : Nat) (hn : xs.length = n) (hm : n ≤ maxLen) : (w.alloc (.cells xs.toArray t)).ownsRow B t 1 (.slice (some ⟨w.heap.size, 0, none⟩) n n) n xs :=
  ⟨by omega, .inr ⟨w.heap.size, n, xs.toArray, rfl, hB, heap_alloc_new w _, Nat.le_refl _, hm, by simp; omega, by rw [Nat.mul_one, ← hn]; simp⟩⟩

theorem own_cells {w : World} {B n : Nat} {t : TypeId} {v : Value} {xs : List Value} (h : w.ownsRow B t 1 v n xs) (hn : 0 < n) : ∃ g cap, v = .slice (some ⟨g, 0, none⟩) n cap ∧ n ≤ cap ∧ B ≤ g ∧ g < w.heap.size ∧ ∀ i, i < n → w.cell? ⟨g, i, none⟩ = xs[i]? := by
  obtain ⟨h1, ⟨rfl, h2⟩ | ⟨g, cap, cur, rfl, hb, hh, hnc, hm, hs, hx⟩⟩ := h
  · omega
  · refine ⟨g, cap, rfl, hnc, hb, ?_, fun i hi => ?_⟩
    · rcases Nat.lt_or_ge g w.heap.size with hl | hl
      · exact hl
      · rw [Array.getElem?_eq_none hl] at hh; cases hh
    · rw [cell_of_row w g i cur t (0, 0) hh, ← hx, List.getElem?_take, if_pos (by omega)]
      simp

theorem rune_info : (Try.prog.info? 21).map (fun i => (i.zero, i.size, i.bytes)) = some (some (.int .i32 0), 1, 4) := by kernel_rfl

set_option maxHeartbeats 1000000 in
theorem split_two (c : Int) (k j : Nat) (w : World) (h : Syl c k j 0) :
    Calls Try.prog 9 #[.int .i32 c] w (RetC 21 [.int .i32 (4352 + (k : Int)), .int .i32 (4449 + (j : Int))] w) := by
  have HP := Lib.hid fun W => pair_two c k j W h
  have hk : k < 19 := h.2.1
  have ka : kindI (4352 + (k : Int)) = 1 := by rcases kind_ways (4352 + (k : Int)) with ⟨e, a, b⟩ | ⟨e, a, b⟩ | ⟨e, a, b⟩ | ⟨e, a, b, d, k⟩ | ⟨e, a, b, d⟩ | ⟨e, a, b, d⟩ <;> omega
  have HO := Lib.hid fun W => of_val ka W (by omega) (by omega)
  clear h ka
  go_enter Try.func9, Try.ntmps9
  go_wp2_with fail
  refine (HP.out _).mono ?_
  rintro e w' ⟨rfl, rfl⟩
  go_wp2_with fail
  refine (HO.out _).mono ?_
  rintro e w' ⟨rfl, rfl⟩
  go_wp2
  go_ret
  exact ⟨_, rfl, own_fresh _ _ _ _ (Nat.le_refl _) 2 rfl (by decide), below_new _ _⟩

theorem split_none (c : Int) (w : World) (hl : -2147483648 ≤ c) (hc : c ≤ 2147483647) (h : c < 44032 ∨ 55203 < c) :
    Calls Try.prog 9 #[.int .i32 c] w fun e w' => e = .returned (.slice none 0 0) ∧ w = w' := by
  have HP := Lib.hid fun W => pair_none c W hl hc h
  clear h
  go_enter Try.func9, Try.ntmps9
  go_wp2_with fail
  refine (HP.out _).mono ?_
  rintro e w' ⟨rfl, rfl⟩
  go_wp2
  go_ret
  exact ⟨rfl, rfl⟩

set_option maxHeartbeats 1000000 in
theorem split_three (c : Int) (k j t : Nat) (w : World) (h : Syl c k j t) (ht : 0 < t) :
    Calls Try.prog 9 #[.int .i32 c] w (RetC 21 [.int .i32 (4352 + (k : Int)), .int .i32 (4449 + (j : Int)), .int .i32 (4519 + (t : Int))] w) := by
  obtain ⟨i0, hi0, hz0, hz1, hz2⟩ := info_parts rune_info
  have HP := Lib.hid fun W => pair_three c k j t W h ht
  have HS := Lib.hid fun W => split_two (c - (t : Int)) k j W h.rest
  have hk := h.rest.kind4
  have ht28 : t < 28 := h.2.2.2
  obtain ⟨b1, b2⟩ : 44032 ≤ c - (t : Int) ∧ c - (t : Int) ≤ 55203 := by obtain ⟨h, h1, h2, h3⟩ := h; omega
  have HO := Lib.hid fun W => of_val hk W (by omega) (by omega)
  generalize c - (t : Int) = s at *
  clear h hk
  go_enter Try.func9, Try.ntmps9
  go_wp2_with fail
  refine (HP.out _).mono ?_
  rintro e w' ⟨rfl, rfl⟩
  go_wp2_with fail
  refine (HO.out _).mono ?_
  rintro e w' ⟨rfl, rfl⟩
  go_wp2_with fail
  refine (HS.out _).mono ?_
  rintro e w1 ⟨v, rfl, hown, hb⟩
  have ho2 := hown.alloc (.cells #[.int .i32 (4519 + (t : Int))] 21)
  have hb2 := below_step hb (below_new w1 (.cells #[.int .i32 (4519 + (t : Int))] 21))
  have hs := hb.size
  have HC : Hid (∀ (j : Nat) (u : Value), [Value.int .i32 (4519 + (t : Int))][j]? = some u → (w1.alloc (.cells #[.int .i32 (4519 + (t : Int))] 21)).cell? ((⟨w1.heap.size, 0, none⟩ : Addr).add j) = some u) := by
    apply Lib.hid
    intro j u hu
    have hj : j = 0 := by
      rcases j with _ | j
      · rfl
      · simp at hu
    subst hj
    rw [add_off, (Blk.new w1 21 #[.int .i32 (4519 + (t : Int))]).cell]
    simpa using hu
  clear hb hown
  go_wp2_with (at_builtin; refine wpList_append_own _ rfl (.tmp 18) (.tmp 20) 26 rfl w.heap.size 21 i0 (.int .i32 0) 1 4 Try.underlying26 hi0 hz0 hz1 hz2 rfl (by decide) _ 2 _ rfl ho2 ⟨w1.heap.size, 0, none⟩ 1 1 [.int .i32 (4519 + (t : Int))] rfl rfl HC.out (by simp [Value.oneCell']) (by unfold maxLen; omega) (by omega) (by simp; omega) ?_; intro v' w4 hown4 hgrow _; have hb4 : Below w.heap.size w w4 := hb2.grown hgrow (by simp; omega) (fun k hk => by have := (ho2.lt k hk).1; omega); clear hgrow)
  go_ret
  exact ⟨_, rfl, hown4, hb4⟩
end Go.Proofs.Ythmdapcieghbbaa
