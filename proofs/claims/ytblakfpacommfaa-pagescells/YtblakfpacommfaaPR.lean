/-
  pages: Get by its numbers; awake; the law PagesGets.
-/
import Derived.Test.YtblakfpacommfaaPQ
namespace Go.Proofs.Ytblakfpacommfaa
set_option linter.unusedVariables false
set_option maxRecDepth 20000
open Go.RowKit

/-- A character's number: nought of what is none. -/
def getP (f : Nat → Nat) (c : Int) : Nat := if c < 0 ∨ 1114111 < c then 0 else f c.toNat
theorem get_any {f : Nat → Nat} {n : Nat} {K : Nat → Nat → Nat} {W : Nat → Nat} (ho : PagesOf f n K W) (c : Int) (w : World) (g : Nat) (hp : PagesAt w g n K W) (hl : -2147483648 ≤ c) (hc : c ≤ 2147483647) :
    Calls Try.prog 9 #[.pointer (some ⟨g, 0, none⟩), .int .i32 c] w (RetV (.int .u16 (getP f c : Nat)) w) := by
  unfold getP
  by_cases h : c < 0 ∨ 1114111 < c
  · rw [if_pos h]
    refine (get_no c w _ hl hc (by unfold isChar; exact decide_eq_false (by omega))).mono ?_
    rintro e w' ⟨rfl, rfl⟩
    exact ⟨rfl, Below.refl _ _⟩
  · rw [if_neg h]
    obtain ⟨c, rfl⟩ := Int.eq_ofNat_of_zero_le (by omega : 0 ≤ c)
    have := ho.val (c / 256) (c % 256) (by omega) (by omega)
    rw [show c / 256 * 256 + c % 256 = c by omega] at this
    rw [Int.toNat_natCast, ← this]
    exact get_yes c w g n K W hp (by omega)

/-- The two of the fixed fact. -/
def twoL : List (Int × Nat) := [(65, 1), (321, 1)]
theorem twoL_at (c : Nat) : valAt twoL c = if c = 65 ∨ c = 321 then 1 else 0 := by
  unfold valAt twoL
  simp only [List.foldl_cons, List.foldl_nil]
  by_cases h1 : c = 321
  · subst h1; rfl
  · by_cases h2 : c = 65
    · subst h2; rfl
    · rw [if_neg (by omega), if_neg (by omega), if_neg (by omega)]
theorem twoL_pages : PagesOf (valAt twoL) 2 (fun j i => if j = 1 ∧ i = 65 then 1 else 0) (fun a => if a < 2 then 1 else 0) where
  pos := by decide
  val a i ha hi := by
    rw [twoL_at]
    by_cases h : a < 2
    · rw [if_pos h]
      by_cases e : i = 65
      · rw [if_pos ⟨rfl, e⟩, if_pos (by omega)]
      · rw [if_neg (fun h => e h.2), if_neg (by omega)]
    · rw [if_neg h, if_neg (by omega), if_neg (by omega)]
  lt a ha := by
    show (if a < 2 then 1 else 0) < 2
    split <;> omega
  zero i hi := by rw [if_neg (by omega)]
  one j hj h0 := ⟨0, by decide, by rw [if_pos (by decide)]; omega⟩
  apart j j' hj hj' h := by
    have := h 65 (by decide)
    by_cases e : j = 1 <;> by_cases e' : j' = 1
    · omega
    · rw [if_pos ⟨e, rfl⟩, if_neg (fun h => e' h.1)] at this; omega
    · rw [if_neg (fun h => e h.1), if_pos ⟨e', rfl⟩] at this; omega
    · omega

set_option maxHeartbeats 2000000 in
theorem awake_any (w : World) : Calls Try.prog 6 #[] w (RetV (.bool true) w) := by
  have hA := Blk.new w 38 #[.int .i32 65, .int .u16 1, .int .i32 321, .int .u16 1]
  have hC : CellsAt (w.alloc (.cells #[.int .i32 65, .int .u16 1, .int .i32 321, .int .u16 1] 38)) (some ⟨w.heap.size, 0, none⟩) twoL := fun _ => ⟨w.heap.size, 0, rfl, by simp, fun i hi => by
    rcases i with _ | _ | i
    · exact ⟨hA.cell 0, hA.cell 1⟩
    · exact ⟨hA.cell 2, hA.cell 3⟩
    · exact absurd hi (by simp [twoL])⟩
  have HN := Lib.hid (new_pages (some ⟨w.heap.size, 0, none⟩) 2 twoL _ hC (by decide) (by decide))
  have b0 := below_new w (.cells #[.int .i32 65, .int .u16 1, .int .i32 321, .int .u16 1] 38)
  clear hA hC
  go_enter Try.func6, Try.ntmps6
  go_wp2_with fail
  refine HN.out.mono ?_
  rintro e w1 ⟨g, n, K, W, rfl, h1, h2, y1, _⟩
  obtain rfl : n = 2 := h1.count twoL_pages
  have HB := Lib.hid fun W' (hb : Below w1.heap.size w1 W') => blocks_any W' g 2 K W (h2.below hb)
  have HG := Lib.hid fun (c : Nat) (hc : c ≤ 1114111) W' (hb : Below w1.heap.size w1 W') => get_any h1 (c : Int) W' g (h2.below hb) (by omega) (by omega)
  have g1 : getP (valAt twoL) ((65 : Nat) : Int) = 1 := by unfold getP; rw [if_neg (by omega), Int.toNat_natCast, twoL_at]; rfl
  have g2 : getP (valAt twoL) ((321 : Nat) : Int) = 1 := by unfold getP; rw [if_neg (by omega), Int.toNat_natCast, twoL_at]; rfl
  have g3 : getP (valAt twoL) ((66 : Nat) : Int) = 0 := by unfold getP; rw [if_neg (by omega), Int.toNat_natCast, twoL_at]; rfl
  have HG1 := HG.out 65 (by omega)
  have HG2 := HG.out 321 (by omega)
  have HG3 := HG.out 66 (by omega)
  rw [g1] at HG1
  rw [g2] at HG2
  rw [g3] at HG3
  have HG1 := Lib.hid HG1
  have HG2 := Lib.hid HG2
  have HG3 := Lib.hid HG3
  clear HG g1 g2 g3 h1 h2
  go_wp2_with fail
  refine (HB.out _ (Below.refl _ _)).mono ?_
  rintro e w2 ⟨rfl, rfl⟩
  go_wp2_with fail
  refine (HG1.out _ (Below.refl _ _)).mono ?_
  rintro e w3 ⟨rfl, y3⟩
  go_wp2_with fail
  refine (HG2.out _ y3).mono ?_
  rintro e w4 ⟨rfl, y4⟩
  go_wp2_with fail
  refine (HG3.out _ (below_step y3 y4)).mono ?_
  rintro e w5 ⟨rfl, y5⟩
  go_wp2
  go_ret
  exact ⟨rfl, below_step b0 (below_step y1 (below_step y3 (below_step y4 y5)))⟩
end Go.Proofs.Ytblakfpacommfaa
