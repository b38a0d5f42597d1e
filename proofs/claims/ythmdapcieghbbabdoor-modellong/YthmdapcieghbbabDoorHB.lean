/-
  Pair, Join and Split: their contracts.
-/
import Derived.Test.YthmdapcieghbbabDoorHA
import Derived.Laws.AppendOwnNone
import Derived.OwnWalk
namespace Go.Proofs.YthmdapcieghbbabDoor
set_option linter.unusedVariables false
set_option maxRecDepth 20000
open Go.RowKit

/-- The syllable of the leading part k, the vowel j and the trailing part t (0: none). -/
def Syl (c : Int) (k j t : Nat) : Prop := c = 44032 + 588 * (k : Int) + 28 * (j : Int) + (t : Int) ∧ k < 19 ∧ j < 21 ∧ t < 28
theorem syl_of (c : Int) (h1 : 44032 ≤ c) (h2 : c ≤ 55203) : ∃ k j t, Syl c k j t :=
  ⟨((c - 44032) / 588).toNat, ((c - 44032) % 588 / 28).toNat, ((c - 44032) % 28).toNat, by omega, by omega, by omega, by omega⟩
theorem Syl.kind4 {c : Int} {k j : Nat} (h : Syl c k j 0) : kindI c = 4 := by
  obtain ⟨h, h1, h2, h3⟩ := h
  rcases kind_ways c with ⟨e, a, b⟩ | ⟨e, a, b⟩ | ⟨e, a, b⟩ | ⟨e, a, b, d, k⟩ | ⟨e, a, b, d⟩ | ⟨e, a, b, d⟩ <;> omega
theorem Syl.kind5 {c : Int} {k j t : Nat} (h : Syl c k j t) (ht : 0 < t) : kindI c = 5 := by
  obtain ⟨h, h1, h2, h3⟩ := h
  rcases kind_ways c with ⟨e, a, b⟩ | ⟨e, a, b⟩ | ⟨e, a, b⟩ | ⟨e, a, b, d, k⟩ | ⟨e, a, b, d⟩ | ⟨e, a, b, d⟩ <;> omega
theorem Syl.rest {c : Int} {k j t : Nat} (h : Syl c k j t) : Syl (c - t) k j 0 := by
  obtain ⟨h, h1, h2, h3⟩ := h
  exact ⟨by omega, h1, h2, by omega⟩
theorem kind_lt (c : Int) : kindI c = 0 ∨ kindI c = 1 ∨ kindI c = 2 ∨ kindI c = 3 ∨ kindI c = 4 ∨ kindI c = 5 := by
  rcases kind_ways c with ⟨e, a, b⟩ | ⟨e, a, b⟩ | ⟨e, a, b⟩ | ⟨e, a, b, d, k⟩ | ⟨e, a, b, d⟩ | ⟨e, a, b, d⟩ <;> omega
theorem of_val {c : Int} {v : Int} (h : kindI c = v) (w : World) (hl : -2147483648 ≤ c) (hc : c ≤ 2147483647) :
    Calls Tryd.prog 20 #[.int .i32 c] w fun e w' => e = .returned (.int .i64 v) ∧ w = w' := h ▸ of_any c w hl hc
theorem ret_tup3 {k k' : IntKind} {a b a' b' : Int} {z : Bool} (h : a = a') (h' : b = b') : Ending.returned (.tuple #[.int k a, .int k' b, .bool z]) = .returned (.tuple #[.int k a', .int k' b', .bool z]) := by rw [h, h']

set_option maxHeartbeats 1000000 in
theorem pair_two (c : Int) (k j : Nat) (w : World) (h : Syl c k j 0) :
    Calls Tryd.prog 32 #[.int .i32 c] w fun e w' => e = .returned (.tuple #[.int .i32 (4352 + (k : Int)), .int .i32 (4449 + (j : Int)), .bool true]) ∧ w = w' := by
  have hk := h.kind4
  obtain ⟨h, h1, h2, h3⟩ := h
  have a1 : 44032 ≤ c := by omega
  have a2 : c ≤ 55203 := by omega
  have m1 : 0 ≤ (c - 44032) % 588 := by omega
  have m2 : (c - 44032) % 588 < 588 := by omega
  have e1 : Hid ((c - 44032) / 588 = k) := Lib.hid (by omega)
  have e2 : Hid ((c - 44032) % 588 / 28 = j) := Lib.hid (by omega)
  have HO := Lib.hid fun W => of_val hk W (by omega) (by omega)
  clear h h3 hk
  go_enter Tryd.func32, Tryd.ntmps32
  go_wp2_with fail
  refine (HO.out _).mono ?_
  rintro e w' ⟨rfl, rfl⟩
  go_wp2
  go_ret3
  exact ⟨ret_tup3 (by rw [e1.out]) (by rw [e2.out]), rfl⟩

set_option maxHeartbeats 1000000 in
theorem pair_three (c : Int) (k j t : Nat) (w : World) (h : Syl c k j t) (ht : 0 < t) :
    Calls Tryd.prog 32 #[.int .i32 c] w fun e w' => e = .returned (.tuple #[.int .i32 (c - (t : Int)), .int .i32 (4519 + (t : Int)), .bool true]) ∧ w = w' := by
  have hk := h.kind5 ht
  obtain ⟨h, h1, h2, h3⟩ := h
  have a1 : 44032 ≤ c := by omega
  have a2 : c ≤ 55203 := by omega
  have m1 : 0 ≤ (c - 44032) % 28 := by omega
  have m2 : (c - 44032) % 28 < 28 := by omega
  have e1 : Hid ((c - 44032) % 28 = t) := Lib.hid (by omega)
  have HO := Lib.hid fun W => of_val hk W (by omega) (by omega)
  clear h h3 hk
  go_enter Tryd.func32, Tryd.ntmps32
  go_wp2_with fail
  refine (HO.out _).mono ?_
  rintro e w' ⟨rfl, rfl⟩
  go_wp2
  go_ret3
  exact ⟨ret_tup3 (by rw [e1.out]) (by rw [e1.out]; omega), rfl⟩

set_option maxHeartbeats 1000000 in
theorem pair_none (c : Int) (w : World) (hl : -2147483648 ≤ c) (hc : c ≤ 2147483647) (h : c < 44032 ∨ 55203 < c) :
    Calls Tryd.prog 32 #[.int .i32 c] w fun e w' => e = .returned (.tuple #[.int .i32 0, .int .i32 0, .bool false]) ∧ w = w' := by
  obtain ⟨v, hv⟩ : ∃ v, kindI c = v := ⟨_, rfl⟩
  have hb : v = 0 ∨ v = 1 ∨ v = 2 ∨ v = 3 := by
    rcases kind_ways c with ⟨e, a, b⟩ | ⟨e, a, b⟩ | ⟨e, a, b⟩ | ⟨e, a, b, d, k⟩ | ⟨e, a, b, d⟩ | ⟨e, a, b, d⟩ <;> omega
  have HO := Lib.hid fun W => of_val hv W (by omega) (by omega)
  clear hv h
  rcases hb with rfl | rfl | rfl | rfl
  all_goals
    go_enter Tryd.func32, Tryd.ntmps32
    go_wp2_with fail
    refine (HO.out _).mono ?_
    rintro e w' ⟨rfl, rfl⟩
    go_wp2
    go_ret3
    exact ⟨rfl, rfl⟩

theorem ret_tup2 {k : IntKind} {a a' : Int} {z : Bool} (h : a = a') : Ending.returned (.tuple #[.int k a, .bool z]) = .returned (.tuple #[.int k a', .bool z]) := by rw [h]

/-- It answers a slice of its own making with these values, and nothing that was there has turned. -/
def RetC (t : TypeId) (xs : List Value) (w : World) (e : Ending) (w' : World) : Prop := ∃ v, e = .returned v ∧ w'.ownsRow w.heap.size t 1 v xs.length xs ∧ Below w.heap.size w w'

theorem own_fresh (w : World) (B : Nat) (t : TypeId) (xs : List Value) (hB : B ≤ w.heap.size) (n : Nat) (hn : xs.length = n) (hm : n ≤ maxLen) : (w.alloc (.cells xs.toArray t)).ownsRow B t 1 (.slice (some ⟨w.heap.size, 0, none⟩) n n) n xs :=
  ⟨by omega, .inr ⟨w.heap.size, n, xs.toArray, rfl, hB, heap_alloc_new w _, Nat.le_refl _, hm, by simp; omega, by rw [Nat.mul_one, ← hn]; simp⟩⟩

theorem own_cells {w : World} {B n : Nat} {t : TypeId} {v : Value} {xs : List Value} (h : w.ownsRow B t 1 v n xs) (hn : 0 < n) : ∃ g cap, v = .slice (some ⟨g, 0, none⟩) n cap ∧ n ≤ cap ∧ B ≤ g ∧ g < w.heap.size ∧ ∀ i, i < n → w.cell? ⟨g, i, none⟩ = xs[i]? := by
  obtain ⟨h1, ⟨rfl, h2⟩ | ⟨g, cap, cur, rfl, hb, hh, hnc, hm, hs, hx⟩⟩ := h
  · omega
  · refine ⟨g, cap, rfl, hnc, hb, ?_, fun i hi => ?_⟩
    · rcases Nat.lt_or_ge g w.heap.size with hl | hl
      · exact hl
      · rw [Array.getElem?_eq_none hl] at hh; cases hh
    · rw [cell_of_row w g i cur t (0, 0) hh, ← hx, List.getElem?_take, if_pos (by omega)]
      simp

theorem rune_info : (Tryd.prog.info? 21).map (fun i => (i.zero, i.size, i.bytes)) = some (some (.int .i32 0), 1, 4) := by kernel_rfl

end Go.Proofs.YthmdapcieghbbabDoor
