/-
  The fixed fact of the product package's laws.
-/
import Derived.Test.YtpokpkocinhbfaaPow
namespace Go.Proofs.Ytpokpkocinhbfaa
set_option linter.unusedVariables false
set_option maxRecDepth 20000
open Go.RowKit

set_option maxHeartbeats 4000000 in
theorem awake02_any (w : World) : Calls Try.prog 4 #[] w (RetV (.bool true) w) := by
  have E100 := Lib.hid (of_any 100)
  have E7 := Lib.hid (of_any 7)
  have E14 := Lib.hid (of_any 14)
  have E2 := Lib.hid (of_any 2)
  have E28 := Lib.hid (of_any 28)
  go_enter Try.func4, Try.ntmps4
  go_wp2_with fail
  refine (E100.out _ (by decide)).mono ?_
  rintro e w1 ⟨v1, rfl, h1, b1⟩
  go_wp2_with fail
  refine (E7.out _ (by decide)).mono ?_
  rintro e w2 ⟨v2, rfl, h2, b2⟩
  go_wp2_with fail
  refine (divMod_short v1 v2 2 100 7 2 _ (h1.below b2) h2 (by decide) (by decide) (by decide) (by decide) (by decide)).mono ?_
  rintro e w3 ⟨v3, u3, rfl, hQ3, hR3, b3⟩
  obtain ⟨A3, n3, c3, rfl⟩ := hQ3.shape
  obtain ⟨A4, n4, c4, rfl⟩ := hR3.shape
  have bb := below_step (below_step b1 b2) b3
  clear b1 b2 b3 h1 h2
  go_wp2_with fail
  have hX : Blk ((w3.alloc (Obj.cells #[Value.slice A3 n3 c3] 25)).alloc (Obj.cells #[Value.slice A4 n4 c4] 25)) w3.heap.size 25 #[.slice A3 n3 c3] := (Blk.new w3 25 _).alloc _
  have hY : Blk ((w3.alloc (Obj.cells #[Value.slice A3 n3 c3] 25)).alloc (Obj.cells #[Value.slice A4 n4 c4] 25)) (w3.heap.size + 1) 25 #[.slice A4 n4 c4] := by
    have := Blk.new (w3.alloc (Obj.cells #[Value.slice A3 n3 c3] 25)) 25 #[.slice A4 n4 c4]
    simpa using this
  have hQ := (hQ3.alloc (Obj.cells #[Value.slice A3 n3 c3] 25)).alloc (Obj.cells #[Value.slice A4 n4 c4] 25)
  have hR := (hR3.alloc (Obj.cells #[Value.slice A3 n3 c3] 25)).alloc (Obj.cells #[Value.slice A4 n4 c4] 25)
  have bc := below_step (below_step bb (below_new _ (Obj.cells #[Value.slice A3 n3 c3] 25))) (below_new _ (Obj.cells #[Value.slice A4 n4 c4] 25))
  generalize hU : (w3.alloc (Obj.cells #[Value.slice A3 n3 c3] 25)).alloc (Obj.cells #[Value.slice A4 n4 c4] 25) = U at *
  clear hU hQ3 hR3 bb
  refine (E2.out _ (by decide)).mono ?_
  rintro e w5 ⟨v5, rfl, h5, b5⟩
  go_wp2_with fail
  refine (pow_any v5 2 2 64 4097 _ h5 (by decide) (by decide) (by decide +kernel) (by decide) (by decide)).mono ?_
  rintro e w6 ⟨v6, rfl, hP6, b6⟩
  rw [show (2 : Nat) ^ 64 = 18446744073709551616 from rfl] at hP6
  obtain ⟨A6, n6, c6, rfl⟩ := hP6.shape
  have b56 := below_step b5 b6
  have hX := (hX.on b56).alloc (.cells #[.slice A6 n6 c6] 25)
  have hY := (hY.on b56).alloc (.cells #[.slice A6 n6 c6] 25)
  have hQ := (hQ.below b56).alloc (.cells #[.slice A6 n6 c6] 25)
  have hR := (hR.below b56).alloc (.cells #[.slice A6 n6 c6] 25)
  have hP := hP6.alloc (.cells #[.slice A6 n6 c6] 25)
  have hZ := Blk.new w6 25 #[.slice A6 n6 c6]
  have bd := below_step (below_step bc b56) (below_new _ (.cells #[.slice A6 n6 c6] 25))
  clear b5 b6 b56 bc h5 hP6
  have tok1 : True := trivial
  have tok2 : True := trivial
  have tok3 : True := trivial
  have tok4 : True := trivial
  have tok5 : True := trivial
  have tok6 : True := trivial
  have tok7 : True := trivial
  have tok8 : True := trivial
  go_wp2_with fail
  generalize hW : w6.alloc (.cells #[.slice A6 n6 c6] 25) = W at *
  clear hW
  go_region_held3 (fun w' => w'.cell? ⟨w3.heap.size, 0, none⟩ = some (.slice A3 n3 c3) ∧ w'.cell? ⟨w3.heap.size + 1, 0, none⟩ = some (.slice A4 n4 c4) ∧ w'.cell? ⟨w6.heap.size, 0, none⟩ = some (.slice A6 n6 c6))
    (first | exact keep3 hX hY hZ (below_drew _) | exact keep3 hX hY hZ hw1 | exact keep3 hX hY hZ hw2 | exact keep3 hX hY hZ hw3 | exact keep3 hX hY hZ hw4 | exact keep3 hX hY hZ hw5 | exact keep3 hX hY hZ hw6 | exact keep3 hX hY hZ hw7 | exact keep3 hX hY hZ hw8)
    (first
      | (go_at_call 9; have _t := tok1; clear tok1; refine (E14.out _ (by decide)).mono ?_; rintro e x1 ⟨s1, rfl, hS1, y1⟩; have hw1 : Below W.heap.size W x1 := below_step (below_drew _) y1)
      | (go_at_call 12; have _t := tok2; clear tok2; refine (same_any _ _ 2 2 (100 / 7) 14 true _ (hQ.below hw1) hS1 (by decide) (by decide) (by decide)).mono ?_; rintro e x2 ⟨rfl, y2⟩; have hw2 : Below W.heap.size W x2 := below_step hw1 y2)
      | (go_at_call 9; have _t := tok3; clear tok3; refine (E2.out _ (by decide)).mono ?_; rintro e x3 ⟨s3, rfl, hS3, y3⟩; have hw3 : Below W.heap.size W x3 := below_step hw2 y3)
      | (go_at_call 12; have _t := tok4; clear tok4; refine (same_any _ _ 2 2 (100 % 7) 2 true _ (hR.below hw3) hS3 (by decide) (by decide) (by decide)).mono ?_; rintro e x4 ⟨rfl, y4⟩; have hw4 : Below W.heap.size W x4 := below_step hw3 y4)
      | (go_at_call 14; have _t := tok5; clear tok5; refine (limbsN_any _ 4097 18446744073709551616 _ (hP.below hw4) (by decide) [0, 0, 1] norm_top (by decide)).mono ?_; rintro e x5 ⟨s5, rfl, ⟨A5, c5, rfl, hr5, hc5⟩, y5⟩; have hw5 : Below W.heap.size W x5 := below_step hw4 y5)
      | (go_at_call 11; have _t := tok6; clear tok6; refine (mul_any _ _ 2 2 (100 / 7) (100 % 7) _ (hQ.below hw5) (hR.below hw5) (by decide) (by decide)).mono ?_; rintro e x6 ⟨s6, rfl, hS6, y6⟩; have hw6 : Below W.heap.size W x6 := below_step hw5 y6)
      | (go_at_call 9; have _t := tok7; clear tok7; refine (E28.out _ (by decide)).mono ?_; rintro e x7 ⟨s7, rfl, hS7, y7⟩; have hw7 : Below W.heap.size W x7 := below_step hw6 y7)
      | (go_at_call 12; have _t := tok8; clear tok8; refine (same_any _ _ 4 2 (100 / 7 * (100 % 7)) 28 true _ (hS6.below y7) hS7 (by decide) (by decide) (by decide)).mono ?_; rintro e x8 ⟨rfl, y8⟩; have hw8 : Below W.heap.size W x8 := below_step hw7 y8))
  go_wp2
  go_ret
  exact ⟨rfl, below_step bd hw8⟩
end Go.Proofs.Ytpokpkocinhbfaa
