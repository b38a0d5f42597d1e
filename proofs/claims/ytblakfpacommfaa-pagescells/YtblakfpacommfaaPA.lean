/-
  pages: within, split, Blocks, Get; what a table of pages is in memory.
-/
import Derived.Test.YtblakfpacommfaaWords
import Derived.Test.YtblakfpacommfaaProg
import Derived.WalkKit
import Derived.ProofKit
import Derived.Lib.Hide
import Derived.Deep.QuietTactic
import Derived.BigQuiet
namespace Go.Proofs.Ytblakfpacommfaa
set_option linter.unusedVariables false
set_option maxRecDepth 20000
open Go.RowKit

theorem below_dn (w : World) (n : Nat) : Below w.heap.size w (w.drewN n) := ⟨rfl, rfl, rfl, Nat.le_refl _, fun _ _ => rfl⟩

/-- Is it a character? -/
def isChar (c : Int) : Bool := decide (0 ≤ c ∧ c ≤ 1114111)

theorem within_any (c : Int) (w : World) (hl : -2147483648 ≤ c) (hc : c ≤ 2147483647) :
    Calls Try.prog 14 #[.int .i32 c] w fun e w' => e = .returned (.bool (isChar c)) ∧ w = w' := by
  unfold isChar
  by_cases h0 : 0 ≤ c
  · by_cases h1 : c ≤ 1114111
    · rw [decide_eq_true (p := 0 ≤ c ∧ c ≤ 1114111) ⟨h0, h1⟩]
      go_enter Try.func14, Try.ntmps14
      go_wp2
      go_ret
      exact ⟨rfl, rfl⟩
    · rw [decide_eq_false (p := 0 ≤ c ∧ c ≤ 1114111) (fun h => h1 h.2)]
      go_enter Try.func14, Try.ntmps14
      go_wp2
      go_ret
      exact ⟨rfl, rfl⟩
  · rw [decide_eq_false (p := 0 ≤ c ∧ c ≤ 1114111) (fun h => h0 h.1)]
    go_enter Try.func14, Try.ntmps14
    go_wp2
    go_ret
    exact ⟨rfl, rfl⟩

theorem split_any (c : Nat) (w : World) (hc : c ≤ 1114111) :
    Calls Try.prog 15 #[.int .i32 (c : Int)] w fun e w' => e = .returned (.tuple #[.int .i64 ((c / 256 : Nat) : Int), .int .i64 ((c % 256 : Nat) : Int)]) ∧ w = w' := by
  obtain ⟨q, hq⟩ : ∃ q, c / 256 = q := ⟨_, rfl⟩
  obtain ⟨r, hr⟩ : ∃ r, c % 256 = r := ⟨_, rfl⟩
  have h1 : (c : Int) / 256 = (q : Int) := by omega
  have h2 : (c : Int) % 256 = (r : Int) := by omega
  have h3 : q ≤ 4351 := by omega
  have h4 : r < 256 := by omega
  rw [hq, hr]
  clear hq hr
  go_enter Try.func15, Try.ntmps15
  go_wp2
  go_ret2
  refine ⟨?_, rfl⟩
  rw [← h2]
  rfl

/-- A table of pages: the address of one, with the blocks K (each its 256 numbers), and what block each of the 4352 is. -/
structure PagesAt (w : World) (g : Nat) (n : Nat) (K : Nat → Nat → Nat) (W : Nat → Nat) : Prop where
  lt : g < w.heap.size
  kept : ∃ h o q, h < w.heap.size ∧ w.cell? ⟨g, 0, none⟩ = some (.slice (some ⟨h, o, none⟩) n q) ∧ ∀ j i, j < n → i < 256 → w.cell? ⟨h, o + j * 256 + i, none⟩ = some (.int .u16 (K j i : Nat))
  where_ : ∀ i, i < 4352 → w.cell? ⟨g, 1 + i, none⟩ = some (.int .u16 (W i : Nat))
  most : n ≤ 4353
  ok : ∀ i, i < 4352 → W i < n

theorem PagesAt.below {w w' : World} {g n : Nat} {K : Nat → Nat → Nat} {W : Nat → Nat} (h : PagesAt w g n K W) (hb : Below w.heap.size w w') : PagesAt w' g n K W := by
  obtain ⟨h1, ⟨hh, o, q, h2, h3, h4⟩, h5, h6, h7⟩ := h
  refine ⟨Nat.lt_of_lt_of_le h1 hb.size, ⟨hh, o, q, Nat.lt_of_lt_of_le h2 hb.size, (hb.cell (p := ⟨g, 0, none⟩) h1).trans h3, fun j i hj hi => (hb.cell (p := ⟨hh, _, none⟩) h2).trans (h4 j i hj hi)⟩, fun i hi => (hb.cell (p := ⟨g, 1 + i, none⟩) h1).trans (h5 i hi), h6, h7⟩

/-- The table lies in blocks from B on. -/
def PgUp (w : World) (g B : Nat) : Prop := B ≤ g ∧ ∀ h o n q, w.cell? ⟨g, 0, none⟩ = some (.slice (some ⟨h, o, none⟩) n q) → B ≤ h
theorem PgUp.below {w w' : World} {g B : Nat} (h : PgUp w g B) (hg : g < w.heap.size) (hb : Below w.heap.size w w') : PgUp w' g B := ⟨h.1, fun h' o n q e => h.2 h' o n q (by rw [← hb.cell (p := ⟨g, 0, none⟩) hg]; exact e)⟩
theorem PgUp.down {w : World} {g B B' : Nat} (h : PgUp w g B) (hB : B' ≤ B) : PgUp w g B' := ⟨Nat.le_trans hB h.1, fun h' o n q e => Nat.le_trans hB (h.2 h' o n q e)⟩
theorem PagesAt.far {w : World} {g n B : Nat} {K : Nat → Nat → Nat} {W : Nat → Nat} (h : PagesAt w g n K W) (hu : PgUp w g B) {p : Addr} (hp : p.block < B) (v : Value) : PagesAt (w.setCell p v) g n K W ∧ PgUp (w.setCell p v) g B := by
  obtain ⟨h1, ⟨hh, o, q, h2, h3, h4⟩, h5, h6, h7⟩ := h
  have hg := hu.1
  have hhB := hu.2 _ _ _ _ h3
  have hne : ∀ (b i : Nat), B ≤ b → (w.setCell p v).cell? ⟨b, i, none⟩ = w.cell? ⟨b, i, none⟩ := fun b i hb => World.cell?_of_block (a := ⟨b, i, none⟩) (Below.heap_setCell w p v b (by omega))
  refine ⟨⟨by simp only [World.setCell, Array.size_modify]; exact h1, ⟨hh, o, q, by simp only [World.setCell, Array.size_modify]; exact h2, (hne _ _ hg).trans h3, fun j i hj hi => (hne _ _ hhB).trans (h4 j i hj hi)⟩, fun i hi => (hne _ _ hg).trans (h5 i hi), h6, h7⟩, hg, fun h' o' n' q' e => hu.2 h' o' n' q' (by rw [← hne g 0 hg]; exact e)⟩

theorem blocks_any (w : World) (g n : Nat) (K : Nat → Nat → Nat) (W : Nat → Nat) (hp : PagesAt w g n K W) :
    Calls Try.prog 12 #[.pointer (some ⟨g, 0, none⟩)] w fun e w' => e = .returned (.int .i64 (n : Int)) ∧ w = w' := by
  obtain ⟨h1, ⟨hh, o, q, h2, h3, h4⟩, h5, h6, h7⟩ := hp
  clear h4 h5 h7
  go_enter Try.func12, Try.ntmps12
  go_wp2
  go_ret
  exact ⟨rfl, rfl⟩

theorem get_no (c : Int) (w : World) (v : Option Addr) (hl : -2147483648 ≤ c) (hc : c ≤ 2147483647) (h : isChar c = false) :
    Calls Try.prog 9 #[.pointer v, .int .i32 c] w fun e w' => e = .returned (.int .u16 0) ∧ w = w' := by
  have HC := Lib.hid fun W => within_any c W hl hc
  rw [h] at HC
  go_enter Try.func9, Try.ntmps9
  go_wp2_with fail
  refine (HC.out _).mono ?_
  rintro e w1 ⟨rfl, rfl⟩
  go_wp2
  go_ret
  exact ⟨rfl, rfl⟩

theorem get_yes (c : Nat) (w : World) (g n : Nat) (K : Nat → Nat → Nat) (W : Nat → Nat) (hp : PagesAt w g n K W) (hc : c ≤ 1114111) :
    Calls Try.prog 9 #[.pointer (some ⟨g, 0, none⟩), .int .i32 (c : Int)] w fun e w' => e = .returned (.int .u16 (K (W (c / 256)) (c % 256) : Nat)) ∧ Below w.heap.size w w' := by
  have HW := Lib.hid fun W => within_any (c : Int) W (by omega) (by omega)
  have hi : isChar (c : Int) = true := by unfold isChar; exact decide_eq_true ⟨by omega, by omega⟩
  rw [hi] at HW
  have HS := Lib.hid fun W => split_any c W hc
  obtain ⟨hlt, ⟨hh, o, q, h2, h3, h4⟩, h5, h6, h7⟩ := hp
  have k1 := h5 (c / 256) (by omega)
  have k3 := h7 (c / 256) (by omega)
  have k2 := h4 (W (c / 256)) (c % 256) k3 (Nat.mod_lt _ (by omega))
  have k4 : c / 256 < 4352 := by omega
  have k5 : c % 256 < 256 := Nat.mod_lt _ (by omega)
  clear h4 h5 h7 hi
  generalize hK : K (W (c / 256)) (c % 256) = v at *
  generalize hj : W (c / 256) = j at *
  generalize c / 256 = a at *
  generalize c % 256 = b at *
  clear hK hj
  have z1 : (0 : Int) ≤ (a : Int) := by omega
  have z2 : (a : Int) < 4352 := by omega
  have z3 : (0 : Int) ≤ (b : Int) := by omega
  have z4 : (b : Int) < 256 := by omega
  have z5 : (0 : Int) ≤ (j : Int) := by omega
  have z6 : (j : Int) < (n : Int) := by omega
  go_enter Try.func9, Try.ntmps9
  go_wp2_with fail
  refine (HW.out _).mono ?_
  rintro e w1 ⟨rfl, rfl⟩
  clear HW
  go_wp2_with fail
  refine (HS.out _).mono ?_
  rintro e w1 ⟨rfl, rfl⟩
  clear HS
  go_wp2
  go_quiet (fail)
  go_wp2
  go_ret
  exact ⟨rfl, below_dn _ _⟩
end Go.Proofs.Ytblakfpacommfaa
