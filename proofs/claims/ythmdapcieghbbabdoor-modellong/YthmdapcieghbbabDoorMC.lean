/-
  Tables: where a character's row stands (find), the row itself (row), its class (Class).
-/
import Derived.Test.YthmdapcieghbbabDoorMB
namespace Go.Proofs.YthmdapcieghbbabDoor
set_option linter.unusedVariables false
set_option maxRecDepth 20000
open Go.RowKit

/-- A table of the program: its rows; the set of those that aren't composed lies at B. -/
theorem find_any (A B : Option Addr) (q b r : Nat) (T : List Rw) (x : Int) (w : World) (ht : TabAt w A T) (hr : Rises T) (hn : T.length ≤ 2000000) :
    Calls Tryd.prog 36 #[.agg #[.slice A T.length q, .slice B b r], .int .i32 x] w (RetV (.tuple #[.int .i64 (lessC T x : Nat), .bool (hasC T x)]) w) := by
  have HC0 : ∀ W, Below w.heap.size w W → Calls Tryd.prog 48 #[.slice A T.length q, .int .i32 x, .func (.func 49) #[] #[]] W (RetV (.tuple #[.int .i64 (lessC T x : Nat), .bool (hasC T x)]) W) := fun W hb => bin_any A q (lessC T x) T x W (ht.below hb) hn (lessC_le T x) (fun i hi => less_iff hr x hi)
  have HC := Lib.hid HC0
  clear HC0
  generalize lessC T x = m at *
  generalize hasC T x = z at *
  generalize T.length = n at *
  go_enter Tryd.func36, Tryd.ntmps36
  go_wp2_with fail
  refine (HC.out _ (below_new w _)).mono ?_
  rintro e w1 ⟨rfl, y1⟩
  go_wp2
  go_ret2
  exact ⟨rfl, below_step (below_new w _) y1⟩

theorem blk_three (w : World) (o1 o2 : Obj) (t : TypeId) (cs : Array Value) : Blk (((w.alloc o1).alloc o2).alloc (.cells cs t)) (w.heap.size + 1 + 1) t cs := by
  have := Blk.new ((w.alloc o1).alloc o2) t cs
  simpa using this
theorem blk_two (w : World) (o1 : Obj) (t : TypeId) (cs : Array Value) : Blk ((w.alloc o1).alloc (.cells cs t)) (w.heap.size + 1) t cs := by
  have := Blk.new (w.alloc o1) t cs
  simpa using this
theorem Blk.cells3 {w : World} {g : Nat} {t : TypeId} {x y z : Value} (h : Blk w g t #[x, y, z]) : w.cell? ⟨g, 0, none⟩ = some x ∧ w.cell? ⟨g, 1, none⟩ = some y ∧ w.cell? ⟨g, 2, none⟩ = some z := ⟨(h.cell 0).trans rfl, (h.cell 1).trans rfl, (h.cell 2).trans rfl⟩

/-- Three cells stored one after another. -/
theorem Blk.store3 {w : World} {g : Nat} {t : TypeId} {x y z : Value} (h : Blk w g t #[x, y, z]) (a b c : Value) :
    (w.cell? ⟨g, 0, none⟩ = some x ∧ w.frozen? ⟨g, 0, none⟩ = false) ∧ ((w.setCell ⟨g, 0, none⟩ a).cell? ⟨g, 1, none⟩ = some y ∧ (w.setCell ⟨g, 0, none⟩ a).frozen? ⟨g, 1, none⟩ = false) ∧
    (((w.setCell ⟨g, 0, none⟩ a).setCell ⟨g, 1, none⟩ b).cell? ⟨g, 2, none⟩ = some z ∧ ((w.setCell ⟨g, 0, none⟩ a).setCell ⟨g, 1, none⟩ b).frozen? ⟨g, 2, none⟩ = false) ∧
    Blk (((w.setCell ⟨g, 0, none⟩ a).setCell ⟨g, 1, none⟩ b).setCell ⟨g, 2, none⟩ c) g t #[a, b, c] := by
  have h5 : Blk (w.setCell ⟨g, 0, none⟩ a) g t #[a, y, z] := h.set_ 0 a
  have h6 : Blk ((w.setCell ⟨g, 0, none⟩ a).setCell ⟨g, 1, none⟩ b) g t #[a, b, z] := h5.set_ 1 b
  exact ⟨⟨h.cells3.1, h.free 0⟩, ⟨h5.cells3.2.1, h5.free 1⟩, ⟨h6.cells3.2.2, h6.free 2⟩, h6.set_ 2 c⟩
theorem below_set3 {B g : Nat} {V w : World} (h : Below B V w) (hg : B ≤ g) (a b c : Value) : Below B V (((w.setCell ⟨g, 0, none⟩ a).setCell ⟨g, 1, none⟩ b).setCell ⟨g, 2, none⟩ c) :=
  ((h.setCell (p := ⟨g, 0, none⟩) hg a).setCell (p := ⟨g, 1, none⟩) hg b).setCell (p := ⟨g, 2, none⟩) hg c

theorem keepCell {w : World} {g : Nat} {t : TypeId} {cs : Array Value} (h : Blk w g t cs) (i : Nat) : w.cell? ⟨g, i, none⟩ = cs[i]? := h.cell i

set_option maxHeartbeats 2000000 in
/-- The row of a character: its own, or one that says nothing. -/
theorem row_any (A B : Option Addr) (q b r : Nat) (T : List Rw) (x : Int) (w : World) (ht : TabAt w A T) (hr : Rises T) (hn : T.length ≤ 2000000) :
    Calls Tryd.prog 22 #[.agg #[.slice A T.length q, .slice B b r], .int .i32 x] w (RetV (rowC T x).val w) := by
  have HC0 : ∀ W, Below w.heap.size w W → Calls Tryd.prog 36 #[.agg #[.slice A T.length q, .slice B b r], .int .i32 x] W (RetV (.tuple #[.int .i64 (lessC T x : Nat), .bool (hasC T x)]) W) := fun W hb => find_any A B q b r T x W (ht.below hb) hr hn
  have HC := Lib.hid HC0
  clear HC0
  cases hh : hasC T x with
  | true =>
    have hlt : lessC T x < T.length := by
      unfold hasC at hh
      exact (of_decide_eq_true hh).1
    have hrow : rowC T x = T.getD (lessC T x) Rw.nil := by unfold rowC; rw [hh]; rfl
    rw [hrow]
    rw [hh] at HC
    obtain ⟨g, rfl, hg, c1, c2, c3⟩ := ht.at_ hlt
    unfold Rw.val Rw.slice
    unfold Rw.slice at c3
    clear ht hh hrow hr
    generalize lessC T x = m at *
    generalize (T.getD m Rw.nil).code = rc at *
    generalize (T.getD m Rw.nil).cls = rk at *
    generalize (T.getD m Rw.nil).at_ = ra at *
    generalize (T.getD m Rw.nil).map.length = rn at *
    generalize (T.getD m Rw.nil).cap = rq at *
    generalize T.length = n at *
    have hX2 := (Blk.new w 34 #[.slice (some ⟨g, 0, none⟩) n q, .slice B b r]).alloc (.cells #[.int .i32 0, .int .i64 0, .slice none 0 0] 45)
    have hX4 := blk_two w (.cells #[.slice (some ⟨g, 0, none⟩) n q, .slice B b r] 34) 45 #[.int .i32 0, .int .i64 0, .slice none 0 0]
    have bW := below_step (below_new w (.cells #[.slice (some ⟨g, 0, none⟩) n q, .slice B b r] 34)) (below_new _ (.cells #[.int .i32 0, .int .i64 0, .slice none 0 0] 45))
    have SE := Lib.hid (HC.out _ bW)
    clear HC
    have hg1 : w.heap.size ≤ w.heap.size + 1 := by omega
    go_enter Tryd.func22, Tryd.ntmps22
    go_wp2_with fail
    generalize (w.alloc (.cells #[.slice (some ⟨g, 0, none⟩) n q, .slice B b r] 34)).alloc (.cells #[.int .i32 0, .int .i64 0, .slice none 0 0] 45) = W at *
    refine SE.out.mono ?_
    rintro e w1 ⟨rfl, y1⟩
    have b1 := below_step bW y1
    have e0 := (keepCell (hX2.on y1) 0).trans rfl
    have c1 := (b1.cell (p := ⟨g, m * 3, none⟩) hg).trans c1
    have c2 := (b1.cell (p := ⟨g, m * 3 + 1, none⟩) hg).trans c2
    have c3 := (b1.cell (p := ⟨g, m * 3 + 2, none⟩) hg).trans c3
    obtain ⟨⟨z0, f0⟩, ⟨z1, f1⟩, ⟨z2, f2⟩, hX⟩ := (hX4.on y1).store3 (.int .i32 rc) (.int .i64 rk) (.slice ra rn rq)
    obtain ⟨q0, q1, q2⟩ := hX.cells3
    go_wp2
    exact bodyPost_ret (v := .agg #[.int .i32 rc, .int .i64 rk, .slice ra rn rq]) (by simp [results, Tryd.results22, go_sem, q0, q1, q2]) rfl ⟨rfl, below_set3 b1 hg1 _ _ _⟩
  | false =>
    have hrow : rowC T x = ⟨x, 0, none, 0, []⟩ := by unfold rowC; rw [hh]; rfl
    rw [hrow]
    rw [hh] at HC
    unfold Rw.val Rw.slice
    clear ht hh hrow hr
    generalize lessC T x = m at *
    generalize T.length = n at *
    have hX2 := (Blk.new w 34 #[.slice A n q, .slice B b r]).alloc (.cells #[.int .i32 0, .int .i64 0, .slice none 0 0] 45)
    have hX4 := blk_two w (.cells #[.slice A n q, .slice B b r] 34) 45 #[.int .i32 0, .int .i64 0, .slice none 0 0]
    have bW := below_step (below_new w (.cells #[.slice A n q, .slice B b r] 34)) (below_new _ (.cells #[.int .i32 0, .int .i64 0, .slice none 0 0] 45))
    have SE := Lib.hid (HC.out _ bW)
    clear HC
    have hg1 : w.heap.size ≤ w.heap.size + 1 := by omega
    go_enter Tryd.func22, Tryd.ntmps22
    go_wp2_with fail
    generalize (w.alloc (.cells #[.slice A n q, .slice B b r] 34)).alloc (.cells #[.int .i32 0, .int .i64 0, .slice none 0 0] 45) = W at *
    refine SE.out.mono ?_
    rintro e w1 ⟨rfl, y1⟩
    have b1 := below_step bW y1
    obtain ⟨⟨z0, f0⟩, ⟨z1, f1⟩, ⟨z2, f2⟩, hX⟩ := (hX4.on y1).store3 (.int .i32 x) (.int .i64 0) (.slice none 0 0)
    obtain ⟨q0, q1, q2⟩ := hX.cells3
    go_wp2
    exact bodyPost_ret (v := .agg #[.int .i32 x, .int .i64 0, .slice none 0 0]) (by simp [results, Tryd.results22, go_sem, q0, q1, q2]) rfl ⟨rfl, below_set3 b1 hg1 _ _ _⟩
end Go.Proofs.YthmdapcieghbbabDoor
