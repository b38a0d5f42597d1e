/-
  Between of a set of texts.
-/
import Derived.Test.YtanpncjnojjmkabSI
namespace Go.Proofs.Ytanpncjnojjmkab
set_option linter.unusedVariables false
set_option maxRecDepth 100000
open Go.RowKit

theorem keep1 {W w' : World} {g : Nat} {t : TypeId} {x : Value} (h : Blk W g t #[x]) (hb : Below W.heap.size W w') : w'.cell? ⟨g, 0, none⟩ = some x := (h.on hb).cell0
set_option maxHeartbeats 2000000 in
theorem between_any (v : Value) (l : List Tx) (x y : Tx) (w : World) (h : IsS w v l) : Calls Try.prog 23 #[v, .string ⟨x.toArray⟩, .string ⟨y.toArray⟩] w (RetS (midOf l x y) w) := by
  have hix := Lib.hid fun W hb => index_any v l x W (h.below hb)
  have hiy := Lib.hid fun W hb => index_any v l y W (h.below hb)
  obtain ⟨u, rfl, ht, hr, hn⟩ := h
  obtain ⟨A, c, rfl, hlc, _⟩ := ht.form
  have hlx := less_le l x
  have hly := less_le l y
  obtain ⟨A', hp, _, hsl⟩ := ht.part.from_ hlx (by omega)
  have hmid := midOf_eq hr x y
  have HP : Hid (∀ W, Below w.heap.size w W → Calls Try.prog 26 #[.slice A' (max (less l x) (less l y) - less l x) (c - less l x)] W (RetT (midOf l x y) W)) := Lib.hid fun W hb => by
    have h1 := ((hp.below hb).take (max (less l x) (less l y) - less l x)).copied (by rw [List.length_take, List.length_drop]; omega)
    rw [← hmid] at h1
    have h2 : (midOf l x y).length = max (less l x) (less l y) - less l x := by rw [hmid, List.length_take, List.length_drop]; omega
    rw [h2] at h1
    exact h1
  have hrise : Rise (midOf l x y) := hr.filter _
  have hsize : (midOf l x y).length ≤ 100 := Nat.le_trans (List.length_filter_le _ _) hn
  have HSL := Lib.hid (hsl (max (less l x) (less l y)) (by omega) (by omega))
  clear hsl hmid hp ht
  generalize midOf l x y = B at *
  generalize less l x = k at *
  generalize less l y = m at *
  generalize l.length = n at *
  obtain ⟨mx, hmx⟩ : ∃ q, Hid (max k m = q) := ⟨_, rfl⟩
  rw [hmx.out] at HSL HP
  go_enter Try.func23, Try.ntmps23
  go_wp2_with fail
  have hS1 : Blk ((w.alloc (.cells #[.slice A n c] 26)).alloc (.cells #[.slice none 0 0] 26)) w.heap.size 26 #[.slice A n c] := (Blk.new w 26 _).alloc _
  have hR1 := blk_two w (.cells #[.slice A n c] 26) 26 #[.slice none 0 0]
  have bW : Below w.heap.size w ((w.alloc (.cells #[.slice A n c] 26)).alloc (.cells #[.slice none 0 0] 26)) := below_step (below_new w _) (below_new _ _)
  generalize ((w.alloc (.cells #[.slice A n c] 26)).alloc (.cells #[.slice none 0 0] 26)) = W at *
  go_region_held3 (fun w' => w'.cell? ⟨w.heap.size, 0, none⟩ = some (.slice A n c))
    (first | exact keep1 hS1 (below_drew _) | exact keep1 hS1 hw1 | exact keep1 hS1 hw2)
    (first
      | (go_at_call 20; (with_reducible refine (hix.out _ (below_step bW (below_drew _))).mono ?_); rintro e x1 ⟨rfl, y1⟩; have hw1 : Below W.heap.size W x1 := below_step (below_drew _) y1)
      | (go_at_call 20; (with_reducible refine (hiy.out _ (below_step bW hw1)).mono ?_); rintro e x2 ⟨rfl, y2⟩; have hw2 : Below W.heap.size W x2 := below_step hw1 y2))
  have b2 := below_step bW hw2
  have hS2 := (hS1.on hw2).cell0
  have hR2 := hR1.on hw2
  have hsl := HSL.out
  have hmx1 : max (k : Int) (m : Int) = (mx : Int) := by rw [← hmx.out]; omega
  have hcp := Lib.hid (HP.out x2 b2)
  clear hix hiy HSL HP
  go_wp2_with fail
  with_reducible refine hcp.out.mono ?_
  rintro e w7 ⟨v7, rfl, ht7, y7⟩
  have hR7 := hR2.on y7
  have b7 := below_step b2 y7
  obtain ⟨a7, q7, rfl, _⟩ := ht7.form
  have hq := (hR7.set0 (.slice a7 B.length q7)).cell0
  have c7 := hR7.cell0
  have f7 := hR7.free 0
  have ht8 : IsT (w7.setCell ⟨w.heap.size + 1, 0, none⟩ (.slice a7 B.length q7)) (.slice a7 B.length q7) B := by
    rcases ht7 with h | ⟨g, c, cs, e, h1, h2, h3⟩
    · exact .inl h
    · exact .inr ⟨g, c, cs, e, h1, h2.far (h2.ne_ hR7 (by decide)) _, h3⟩
  have y8 := b7.setCell (p := ⟨w.heap.size + 1, 0, none⟩) (show w.heap.size ≤ w.heap.size + 1 by omega) (.slice a7 B.length q7)
  clear hS2 hsl hcp hmx1
  go_wp2
  exact bodyPost_ret (v := .agg #[.slice a7 B.length q7]) (by simp [results, Try.results23, go_sem, hq]) rfl ⟨_, rfl, ⟨_, rfl, ht8, hrise, hsize⟩, y8⟩
end Go.Proofs.Ytanpncjnojjmkab
