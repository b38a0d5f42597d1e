/-
  Tables: a character's class (Class).
-/
import Derived.Test.YthmdapcieghbbabDoorMC
namespace Go.Proofs.YthmdapcieghbbabDoor
set_option linter.unusedVariables false
set_option maxRecDepth 20000
open Go.RowKit

theorem run_cls (x y z : Value) (w : World) : Sem.run Tryd.prog (Instr.field 45 (.agg #[x, y, z]) 1) w = .ok y w := by
  simp [Instr.field, asAgg, go_sem]

theorem class_any (A B : Option Addr) (q b r : Nat) (T : List Rw) (x : Int) (w : World) (ht : TabAt w A T) (hr : Rises T) (hn : T.length ≤ 2000000) :
    Calls Tryd.prog 34 #[.agg #[.slice A T.length q, .slice B b r], .int .i32 x] w (RetV (.int .i64 (rowC T x).cls) w) := by
  have HC0 : ∀ W, Below w.heap.size w W → Calls Tryd.prog 22 #[.agg #[.slice A T.length q, .slice B b r], .int .i32 x] W (RetV (rowC T x).val W) := fun W hb => row_any A B q b r T x W (ht.below hb) hr hn
  unfold Rw.val Rw.slice at HC0
  have HC := Lib.hid HC0
  clear HC0 ht hr hn
  generalize (rowC T x).code = rc at *
  generalize (rowC T x).cls = rk at *
  generalize (rowC T x).at_ = ra at *
  generalize (rowC T x).map.length = rn at *
  generalize (rowC T x).cap = rq at *
  generalize T.length = n at *
  go_enter Tryd.func34, Tryd.ntmps34
  go_wp2_with fail
  refine (HC.out _ (below_new w _)).mono ?_
  rintro e w1 ⟨rfl, y1⟩
  go_wp2
  simp only [run_cls]
  go_wp2
  go_ret
  exact ⟨rfl, below_step (below_new w _) y1⟩
end Go.Proofs.YthmdapcieghbbabDoor
