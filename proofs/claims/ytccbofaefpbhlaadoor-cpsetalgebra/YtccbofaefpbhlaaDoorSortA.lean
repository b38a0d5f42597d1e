/-
  slices.Sort at runes, of at most twelve: its contract.
-/
import Derived.Test.YtccbofaefpbhlaaDoorSortM
import Derived.Test.YtccbofaefpbhlaaDoorUA
import Derived.BigQuiet
import Derived.Deep.QuietTactic
import Derived.Lib.Hide
namespace Go.Proofs.YtccbofaefpbhlaaDoor
set_option linter.unusedVariables false
set_option maxRecDepth 20000
open Go.RowKit Go.Lib

theorem nan_any (x : Int) (w : World) : Calls Tryd.prog 121 #[.int .i32 x] w fun e w' => e = .returned (.bool false) ∧ w = w' := by
  go_enter Tryd.func121, Tryd.ntmps121
  go_wp2
  go_ret
  exact ⟨rfl, rfl⟩
theorem less_any (x y : Nat) (w : World) (hx : x < 2147483648) (hy : y < 2147483648) : Calls Tryd.prog 153 #[.int .i32 x, .int .i32 y] w fun e w' => e = .returned (.bool (decide (x < y))) ∧ w = w' := by
  go_enter Tryd.func153, Tryd.ntmps153
  go_wp2_with (go_at_call 121; refine (nan_any _ _).mono ?_; rintro e w' ⟨rfl, rfl⟩)
  go_ret
  exact ⟨rfl, rfl⟩

theorem lt_of_mem_getD' {b : Nat} {l : List Nat} (h : ∀ x ∈ l, x < b) {i : Nat} (hi : i < l.length) : l.getD i 0 < b := by
  rw [List.getD_eq_getElem?_getD, List.getElem?_eq_getElem hi]
  exact h _ (List.getElem_mem hi)

theorem less_q (x y : Nat) (b : Bool) (w : World) (hx : x < 2147483648) (hy : y < 2147483648) (hb : decide (x < y) = b) : Calls Tryd.prog 153 #[.int .i32 x, .int .i32 y] w fun e w' => e = .returned (.bool b) ∧ w' = w :=
  (less_any x y w hx hy).mono fun e w' ⟨h1, h2⟩ => ⟨by rw [h1, hb], h2.symm⟩

/-- The cells of a block of runes: these numbers first, then others. -/
def runeBlk (l : List Nat) (tl : List Value) : Array Value := (cellsOf .i32 l ++ tl).toArray
theorem runeBlk_get (l : List Nat) (tl : List Value) {i : Nat} (h : i < l.length) : (runeBlk l tl)[i]? = some (.int .i32 (l.getD i 0 : Nat)) := by
  simp only [runeBlk, List.getElem?_toArray]
  rw [List.getElem?_append_left (by rw [cellsOf_length]; exact h), cellsOf_get .i32 l h]
theorem runeBlk_set (l : List Nat) (tl : List Value) (i x : Nat) (h : i < l.length) : (runeBlk l tl).setIfInBounds i (.int .i32 (x : Nat)) = runeBlk (l.set i x) tl := by
  simp only [runeBlk, List.setIfInBounds_toArray]
  rw [List.set_append_left _ _ (by rw [cellsOf_length]; exact h)]
  simp [cellsOf, List.map_set]

/-- Only the block g has turned. -/
structure Only (g : Nat) (w w' : World) : Prop where
  os : w'.os = w.os
  tape : w'.tape = w.tape
  output : w'.output = w.output
  size : w'.heap.size = w.heap.size
  block : ∀ k, k ≠ g → w'.heap[k]? = w.heap[k]?

theorem Only.refl (g : Nat) (w : World) : Only g w w := ⟨rfl, rfl, rfl, rfl, fun _ _ => rfl⟩
theorem Only.trans {g : Nat} {a b c : World} (h : Only g a b) (k : Only g b c) : Only g a c := ⟨k.os.trans h.os, k.tape.trans h.tape, k.output.trans h.output, k.size.trans h.size, fun i hi => (k.block i hi).trans (h.block i hi)⟩
theorem Only.drewN {g : Nat} {a b : World} (h : Only g a b) (n : Nat) : Only g a (b.drewN n) := ⟨h.os, h.tape, h.output, h.size, h.block⟩
theorem Only.drew {g : Nat} {a b : World} (h : Only g a b) : Only g a b.drew := ⟨h.os, h.tape, h.output, h.size, h.block⟩
theorem Only.set_ {g : Nat} {a b : World} (h : Only g a b) (i : Nat) (u : Value) : Only g a (b.setCell ⟨g, i, none⟩ u) :=
  h.trans ⟨rfl, rfl, rfl, by simp [World.setCell], fun k hk => Below.heap_setCell b ⟨g, i, none⟩ u k hk⟩
theorem Only.below {g B : Nat} {w w' : World} (h : Only g w w') (hB : B ≤ g) : Below B w w' := ⟨h.os, h.tape, h.output, Nat.le_of_eq h.size.symm, fun k hk => h.block k (by omega)⟩
theorem Blk.only {w w' : World} {g g' : Nat} {t : TypeId} {cs : Array Value} (h : Blk w g' t cs) (ho : Only g w w') (hne : g' ≠ g) : Blk w' g' t cs := (ho.block g' hne).trans h


theorem Only.drop {g : Nat} {a b : World} (h : Only g a b) (n : Nat) : Only g a (b.drewN n) := h.drewN n

/-- A sort leaves the block's first cells in order, the same numbers. -/
def RetSort (g n : Nat) (l : List Nat) (tl : List Value) (w : World) (e : Ending) (w' : World) : Prop :=
  ∃ m : List Nat, e = .returned (.tuple #[]) ∧ Blk w' g 21 (runeBlk m tl) ∧ m.Perm l ∧ Ord n m ∧ Only g w w'

set_option maxHeartbeats 4000000 in
theorem insertion_any (g n c : Nat) (l : List Nat) (tl : List Value) (w : World) (hB : Blk w g 21 (runeBlk l tl)) (hl : l.length = n) (hb : ∀ x ∈ l, x < 2147483648) (hn : n ≤ 1000) (hn1 : 1 ≤ n) :
    Calls Tryd.prog 147 #[.slice (some ⟨g, 0, none⟩) n c, .int .i64 0, .int .i64 n] w (RetSort g n l tl w) := by
  have HB := Lib.hid hb
  have HL := Lib.hid hl
  clear hb hl
  go_enter Tryd.func147, Tryd.ntmps147
  go_wp2
  go_loopw [6] (fun t wr => ∃ (i : Nat) (m : List Nat), 1 ≤ i ∧ i ≤ n ∧ t = .int .i64 (i : Int) ∧ Blk wr g 21 (runeBlk m tl) ∧ m.Perm l ∧ Ord i m ∧ Only g w wr) (fun t _ => n - (intOf t).toNat)
  case atStart => exact ⟨1, l, Nat.le_refl _, hn1, rfl, hB, List.Perm.refl _, fun p q hp hq => by omega, Only.refl _ _⟩
  case round =>
    obtain ⟨i, m, hi1, hin, rfl, hBm, hpm, ho, hon⟩ := hrel
    by_cases hlt : i < n
    · have HPM := Lib.hid hpm
      have HO := Lib.hid ho
      clear hpm ho
      go_wp2
      go_loopw [7] (fun t wr => ∃ (j : Nat) (m : List Nat), j ≤ i ∧ t = .int .i64 (j : Int) ∧ Blk wr g 21 (runeBlk m tl) ∧ m.Perm l ∧ OrdBut i j m ∧ Only g w wr) (fun t _ => (intOf t).toNat)
      case atStart => exact ⟨i, m, Nat.le_refl _, rfl, hBm, HPM.out, HO.out.but, hon⟩
      case round =>
        clear hBm HPM HO hon
        obtain ⟨j, m, hji, rfl, hBm, hpm, ho, hon⟩ := hrel
        have hml : m.length = n := hpm.length_eq.trans HL.out
        have hmb : ∀ x ∈ m, x < 2147483648 := fun x hx => HB.out x (hpm.mem_iff.1 hx)
        have HPM := Lib.hid hpm
        have HO := Lib.hid ho
        have HML := Lib.hid hml
        by_cases hj0 : j = 0
        · subst hj0
          have hd : decide ((0 : Int) < 0) = false := by decide
          clear hpm ho hml hmb
          go_wp2_with fail
          go_quiet (fail)
          go_wp2
          go_roundw
          case rel => exact ⟨i + 1, m, by omega, by omega, by go_num, hBm, HPM.out, HO.out.ord_zero, hon.drewN _⟩
          case measure => simp [intOf]; omega
        · obtain ⟨k, rfl⟩ : ∃ k, j = k + 1 := ⟨j - 1, by omega⟩
          have c1 := (hBm.cell (k + 1)).trans (runeBlk_get m tl (by omega))
          have c0 := (hBm.cell k).trans (runeBlk_get m tl (by omega))
          have x1 := lt_of_mem_getD' hmb (show k + 1 < m.length by omega)
          have x0 := lt_of_mem_getD' hmb (show k < m.length by omega)
          obtain ⟨X1, hX1⟩ : ∃ X, m.getD (k + 1) 0 = X := ⟨_, rfl⟩
          obtain ⟨X0, hX0⟩ : ∃ X, m.getD k 0 = X := ⟨_, rfl⟩
          rw [hX1] at c1 x1
          rw [hX0] at c0 x0
          have H1 := Lib.hid hX1
          have H0 := Lib.hid hX0
          have hsub : ((k + 1 : Nat) : Int) - 1 = (k : Int) := by omega
          have hk0 : (0 : Int) < ((k + 1 : Nat) : Int) := by omega
          have hkn : k + 1 < n := by omega
          clear hpm ho hml hmb hX1 hX0 hj0
          by_cases hx : X1 < X0
          · have hd : decide (X1 < X0) = true := by simpa using hx
            have LQ := fun W => less_q X1 X0 true W x1 x0 hd
            go_wp2_with fail
            go_quiet ((go_at_call 153; exact Calls.quiet_of_same (LQ _)))
            have hBq : Blk (wr.drewN nq) g 21 (runeBlk m tl) := hBm
            have c1q : (wr.drewN nq).cell? ⟨g, k + 1, none⟩ = some (.int .i32 (X1 : Int)) := c1
            have c0q : (wr.drewN nq).cell? ⟨g, k, none⟩ = some (.int .i32 (X0 : Int)) := c0
            have honq : Only g w (wr.drewN nq) := hon.drewN nq
            clear hBm c1 c0 hon
            generalize wr.drewN nq = W at *
            have f1 := hBq.free (k + 1)
            have hB1 := hBq.set_ (k + 1) (.int .i32 (X0 : Int))
            rw [runeBlk_set _ _ _ _ (show k + 1 < m.length by rw [HML.out]; exact hkn)] at hB1
            have c0' := (hB1.cell k).trans (runeBlk_get _ tl (by rw [List.length_set, HML.out]; omega))
            rw [getD_set _ _ _ _ (show k + 1 < m.length by rw [HML.out]; exact hkn), if_neg (by omega), H0.out] at c0'
            have f0' := hB1.free k
            have hB2 := hB1.set_ k (.int .i32 (X1 : Int))
            rw [runeBlk_set _ _ _ _ (show k < (m.set (k + 1) X0).length by rw [List.length_set, HML.out]; omega)] at hB2
            have hsw : (m.set (k + 1) X0).set k X1 = swapAt m (k + 1) k := by rw [swapAt, H1.out, H0.out]
            rw [hsw] at hB2
            clear hsw hd LQ
            go_wp2_with fail
            go_region
            go_wp2
            go_roundw
            case rel => exact ⟨k, swapAt m (k + 1) k, by omega, by go_num, hB2, (swapAt_perm m (k + 1) k (by rw [HML.out]; exact hkn) (by rw [HML.out]; omega)).trans HPM.out, HO.out.swap (by rw [H1.out, H0.out]; exact hx) (by omega) (by rw [HML.out]; omega), ((honq.set_ _ _).set_ _ _).drew⟩
            case measure => simp [intOf]
          · have hd : decide (X1 < X0) = false := by simpa using hx
            have LQ := fun W => less_q X1 X0 false W x1 x0 hd
            go_wp2_with fail
            go_quiet ((go_at_call 153; exact Calls.quiet_of_same (LQ _)))
            go_wp2
            go_roundw
            case rel => exact ⟨i + 1, m, by omega, by omega, by go_num, hBm, HPM.out, HO.out.ord (by rw [H1.out, H0.out]; omega), hon.drewN _⟩
            case measure => simp [intOf]; omega
    · obtain rfl : i = n := by omega
      go_wp2
      go_end0
      exact ⟨m, rfl, hBm, hpm, ho, hon⟩
end Go.Proofs.YtccbofaefpbhlaaDoor
