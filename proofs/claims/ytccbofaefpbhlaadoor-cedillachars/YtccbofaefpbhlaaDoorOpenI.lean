/-
  Slices of numbers that came in, in the walks' words.
-/
import Derived.Test.YtccbofaefpbhlaaDoorLawC
import Derived.Test.YtccbofaefpbhlaaDoorUJ
import Derived.ChangeSlices
namespace Go.Proofs.YtccbofaefpbhlaaDoor
set_option linter.unusedVariables false
set_option maxRecDepth 20000
open Go.ChangeShapes Go.WideShapes Go.RowKit

def CameInts (W : World) (a : Option Addr) (n c : Nat) : Prop := ∃ L : List Int, L.length = n ∧ Utf.RowI .i64 W a L ∧ n ≤ c ∧ n ≤ 9223372036854775807
theorem came_ints {H : Type} {enc : TypeId × Value → H} {W : World} {base : Nat} {spare : Nat → Bool} {held : Bool} {fuel : Nat} {a : Option Addr} {n c : Nat} {x : DataW H × List MemPlace}
    (h : DataW.trod enc Tryd.prog W base spare held fuel 38 [.slice a n c] = some x) : CameInts W a n c := by
  rcases Go.ChangeShapes.open_ints Tryd.underlying38 Tryd.underlying3 (by kernel_rfl) h with ⟨hcs, _⟩ | ⟨ad, len, cap, zs, hcs, hb, hl, hm, hz, _, hcell, _⟩
  · simp at hcs
    obtain ⟨rfl, rfl, rfl⟩ := hcs
    exact ⟨[], rfl, fun hn => absurd rfl hn, Nat.le_refl _, by omega⟩
  · simp at hcs
    obtain ⟨rfl, rfl, rfl⟩ := hcs
    have hlz : n ≤ zs.length := by rw [hz]; split <;> omega
    unfold maxLen at hm
    refine ⟨zs.take n, by rw [List.length_take]; omega, fun hne => ⟨ad, rfl, ?_, fun i hi => ?_⟩, hl, by omega⟩
    · have h0 : 0 < zs.length := by
        rcases Nat.eq_zero_or_pos zs.length with h0 | h0
        · exact absurd (by rw [List.length_eq_zero_iff.1 h0]; simp) hne
        · exact h0
      have hbl := World.block_lt_of_cell? W _ (hcell 0 h0)
      rw [add_block] at hbl
      exact hbl
    · rw [List.length_take] at hi
      rw [hcell i (by omega)]
      simp [List.getD, show i < n by omega]
end Go.Proofs.YtccbofaefpbhlaaDoor
