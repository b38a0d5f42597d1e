/-
  The fixed fact of the number package's laws.
-/
import Derived.Test.YthionbkdlmiaoaaNatC
namespace Go.Proofs.Ythionbkdlmiaoaa
set_option linter.unusedVariables false
open Go.RowKit

theorem IsN.limbs {w : World} {v : Value} {k N : Nat} (h : IsN w v k N) : ∃ A c l, v = .agg #[.slice A l.length c] ∧ Arr 47 .u32 w A l ∧ Norm 4294967296 l ∧ val 4294967296 l = N ∧ l.length ≤ k ∧ l.length ≤ c := h

/-- '(Nat).Limbs', of a number. -/
theorem limbsN_any (v : Value) (k N : Nat) (w : World) (h : IsN w v k N) (hk : k ≤ 1000000) (l : List Nat) (hl : Norm 4294967296 l) (hv : val 4294967296 l = N) :
    Calls Try.prog 34 #[v] w (RetL 47 .u32 l w) := by
  obtain ⟨A, c, l', rfl, hr, hn, hv', hlk, _⟩ := h
  have : l' = l := Norm.inj (by decide) hn hl (hv'.trans hv.symm)
  subst this
  exact limbsOf_any A c l' w hr (by omega)

theorem norm_top : Norm 4294967296 [0, 0, 1] := ⟨by decide, fun _ => by simp⟩

set_option maxHeartbeats 1000000 in
theorem awake_any (w : World) : Calls Try.prog 12 #[] w (RetV (.bool true) w) := by
  have e0 := of_any 18446744073709551615
  have e1 := of_any 1
  have e3 := of_any 3
  have e4 := of_any 4
  have E0 := Lib.hid e0
  have E1 := Lib.hid e1
  have E3 := Lib.hid e3
  have E4 := Lib.hid e4
  clear e0 e1 e3 e4
  go_enter Try.func12, Try.ntmps12
  go_wp2_with fail
  refine (E0.out _ (by decide)).mono ?_
  rintro e w1 ⟨v1, rfl, h1, b1⟩
  go_wp2_with fail
  refine (E1.out _ (by decide)).mono ?_
  rintro e w2 ⟨v2, rfl, h2, b2⟩
  go_wp2_with fail
  refine (add_any v1 v2 2 2 _ _ _ (h1.below b2) h2 (by decide) (by decide)).mono ?_
  rintro e w3 ⟨v3, rfl, h3, b3⟩
  have h3' := h3
  obtain ⟨A3, n3, c3, rfl⟩ := h3.shape
  go_wp2_with fail
  refine (limbsN_any _ 3 _ _ (h3.alloc _) (by decide) [0, 0, 1] norm_top (by decide)).mono ?_
  rintro e w4 ⟨v4, rfl, ⟨A4, c4, rfl, hr4, hc4⟩, b4⟩
  go_wp2_with fail
  refine (E3.out _ (by decide)).mono ?_
  rintro e w5 ⟨v5, rfl, h5, b5⟩
  go_wp2_with fail
  refine (E4.out _ (by decide)).mono ?_
  rintro e w6 ⟨v6, rfl, h6, b6⟩
  go_wp2_with fail
  refine (sub_less v5 v6 2 2 _ _ _ (h5.below b6) h6 (by decide) (by decide) (by decide)).mono ?_
  rintro e w7 ⟨rfl, b7⟩
  have bb := below_step (below_step (below_step b4 b5) b6) b7
  have hX := (Blk.over bb).cell0
  obtain ⟨g, o, cs, rfl, hg, hcs⟩ := (((hr4.below b5).below b6).below b7) (by simp)
  have hg' := fun u => hg.alloc u
  have k0 : ∀ u, (w7.alloc u).cell? ⟨g, o, none⟩ = some (.int .u32 0) := fun u => by rw [(hg' u).cell]; simpa using hcs 0 (by decide)
  have k1 : ∀ u, (w7.alloc u).cell? ⟨g, o + 1, none⟩ = some (.int .u32 0) := fun u => by rw [(hg' u).cell]; simpa using hcs 1 (by decide)
  have k2 : ∀ u, (w7.alloc u).cell? ⟨g, o + 2, none⟩ = some (.int .u32 1) := fun u => by rw [(hg' u).cell]; simpa using hcs 2 (by decide)
  have hX' : ∀ u, (w7.alloc u).cell? ⟨w3.heap.size, 0, none⟩ = some (.slice A3 n3 c3) := fun u => ((Blk.over bb).alloc u).cell0
  have h3b := fun u => ((h3.alloc _).below bb).alloc (w := w7) u
  clear hX hcs hg hg' hr4
  go_wp2_with fail
  refine (bits_any _ _ _ _ (h3b _) (by decide)).mono ?_
  rintro e w8 ⟨rfl, b8⟩
  rw [show bl (18446744073709551615 + 1) = 65 from by decide +kernel]
  go_wp2
  go_ret
  exact ⟨rfl, below_step (below_step (below_step (below_step (below_step (below_step b1 b2) b3) (below_new _ _)) bb) (below_new _ _)) b8⟩
end Go.Proofs.Ythionbkdlmiaoaa
