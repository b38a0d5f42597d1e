/-
  What single operations owe, over any frame.
-/
import Derived.Test.YtanpncjnojjmkabInv
import Derived.Test.YtanpncjnojjmkabSA
namespace Go.Proofs.Ytanpncjnojjmkab
set_option linter.unusedVariables false
set_option maxRecDepth 20000
open Go.RowKit

theorem wanted_none {o : Oper} {y : Nat → Option Bool} (h : o.guard = none) : Region.wanted o y = true := by simp [Region.wanted, h]
theorem wanted_some {o oj : Oper} {ops : Array Oper} {t : Array Value} {j d : Nat} {b : Bool} (h : o.guard = some (j, b)) (hj : ops[j]? = some oj) (hd : oj.dst = some d) (ht : d < t.size) (hv : t.getD d undef = .bool b) : Region.wanted o (yielded ops t) = true := by
  have h1 : t[d]? = some (.bool b) := by
    rw [Array.getElem?_eq_getElem ht]
    simpa [ht] using hv
  simp [Region.wanted, h, yielded, hj, hd, h1]
section
variable {o : Oper} {a : Act} {w : World} {K : Act → World → Prop} {Q : Exit → Act → World → Prop}
theorem wp_move {x : Operand} (ho : o.op = .move x) (h : K (a.put o.dst (a.eval x)) w) : o.wp Try.prog a w K Q := by
  unfold Oper.wp
  rw [show (execOp a.eval o).run Try.prog w = .ok (.value (a.eval x)) w from by simp [execOp, ho]]
  exact h
theorem wp_load26 {t g : Nat} {v : Value} (ho : o.op = .load 26 (.tmp t)) (he : a.tmps.getD t undef = .pointer (some ⟨g, 0, none⟩)) (hc : w.cell? ⟨g, 0, none⟩ = some v) (h : K (a.put o.dst (.agg #[v])) w) : o.wp Try.prog a w K Q := by
  unfold Oper.wp
  have he' : a.tmps[t]?.getD undef = .pointer (some ⟨g, 0, none⟩) := by simpa using he
  simp [execOp, ho, he', go_sem, hc, Try.isAgg26, Try.sizeOf26]
  exact h
theorem wp_kinds1 {k : Int} (ho : o.op = .buildSlice 30 1 #[(0, .const (.int .i64 k))]) (h : K (a.put o.dst (.slice (some ⟨w.heap.size, 0, none⟩) 1 1)) (w.alloc (.cells #[.int .i64 k] 3))) : o.wp Try.prog a w K Q := by
  unfold Oper.wp
  simp [execOp, ho, go_sem, Act.eval]
  exact h
theorem wp_kinds2 {k k2 : Int} (ho : o.op = .buildSlice 30 2 #[(0, .const (.int .i64 k)), (1, .const (.int .i64 k2))]) (h : K (a.put o.dst (.slice (some ⟨w.heap.size, 0, none⟩) 2 2)) (w.alloc (.cells #[.int .i64 k, .int .i64 k2] 3))) : o.wp Try.prog a w K Q := by
  unfold Oper.wp
  simp [execOp, ho, go_sem, Act.eval]
  exact h
theorem wp_kinds3 {k k2 k3 : Int} (ho : o.op = .buildSlice 30 3 #[(0, .const (.int .i64 k)), (1, .const (.int .i64 k2)), (2, .const (.int .i64 k3))]) (h : K (a.put o.dst (.slice (some ⟨w.heap.size, 0, none⟩) 3 3)) (w.alloc (.cells #[.int .i64 k, .int .i64 k2, .int .i64 k3] 3))) : o.wp Try.prog a w K Q := by
  unfold Oper.wp
  simp [execOp, ho, go_sem, Act.eval]
  exact h
theorem wp_not {t : Nat} (ho : o.op = .unOp .not 4 (.tmp t)) (he : a.tmps.getD t undef = .bool true) (h : K (a.put o.dst (.bool false)) w) : o.wp Try.prog a w K Q := by
  unfold Oper.wp
  have he' : a.tmps[t]?.getD undef = .bool true := by simpa using he
  simp [execOp, ho, he', go_sem]
  exact h
theorem wp_pick {t : Nat} {x y : Operand} (ho : o.op = .pick (.tmp t) x y) (he : a.tmps.getD t undef = .bool false) (h : K (a.put o.dst (a.eval y)) w) : o.wp Try.prog a w K Q := by
  unfold Oper.wp
  have he' : a.eval (.tmp t) = .bool false := he
  rw [show (execOp a.eval o).run Try.prog w = .ok (.value (a.eval y)) w from by simp [execOp, ho, he', asBool]]
  exact h
theorem wp_call2 {f s1 s2 : Nat} {ts : Array TypeId} (ho : o.op = .call { callee := .value (.func f), args := #[.tmp s1, .tmp s2], argTypes := ts }) (eg : ∀ args w, (callFunc f args).run Try.prog w = .ok (.enter f args) w)
    (h : Calls Try.prog f #[a.tmps.getD s1 undef, a.tmps.getD s2 undef] w fun e w'' => ∃ v, e = .returned v ∧ K (a.put o.dst v) w'') : o.wp Try.prog a w K Q := by
  unfold Oper.wp
  rw [show (execOp a.eval o).run Try.prog w = .ok (.enter f #[a.tmps.getD s1 undef, a.tmps.getD s2 undef]) w from by simp [execOp, ho, resolve, invoke, Act.eval, eg, go_sem, Deferred.ofValue]]
  refine h.mono ?_
  rintro e w'' ⟨v, rfl, hk⟩
  exact hk
theorem wp_call3 {f s1 s2 s3 : Nat} {ts : Array TypeId} (ho : o.op = .call { callee := .value (.func f), args := #[.tmp s1, .tmp s2, .tmp s3], argTypes := ts }) (eg : ∀ args w, (callFunc f args).run Try.prog w = .ok (.enter f args) w)
    (h : Calls Try.prog f #[a.tmps.getD s1 undef, a.tmps.getD s2 undef, a.tmps.getD s3 undef] w fun e w'' => ∃ v, e = .returned v ∧ K (a.put o.dst v) w'') : o.wp Try.prog a w K Q := by
  unfold Oper.wp
  rw [show (execOp a.eval o).run Try.prog w = .ok (.enter f #[a.tmps.getD s1 undef, a.tmps.getD s2 undef, a.tmps.getD s3 undef]) w from by simp [execOp, ho, resolve, invoke, Act.eval, eg, go_sem, Deferred.ofValue]]
  refine h.mono ?_
  rintro e w'' ⟨v, rfl, hk⟩
  exact hk
theorem wp_call_n {f s1 s3 : Nat} {u : Value} {ts : Array TypeId} (ho : o.op = .call { callee := .value (.func f), args := #[.tmp s1, .const u, .tmp s3], argTypes := ts }) (eg : ∀ args w, (callFunc f args).run Try.prog w = .ok (.enter f args) w)
    (h : Calls Try.prog f #[a.tmps.getD s1 undef, u, a.tmps.getD s3 undef] w fun e w'' => ∃ v, e = .returned v ∧ K (a.put o.dst v) w'') : o.wp Try.prog a w K Q := by
  unfold Oper.wp
  rw [show (execOp a.eval o).run Try.prog w = .ok (.enter f #[a.tmps.getD s1 undef, u, a.tmps.getD s3 undef]) w from by simp [execOp, ho, resolve, invoke, Act.eval, eg, go_sem, Deferred.ofValue]]
  refine h.mono ?_
  rintro e w'' ⟨v, rfl, hk⟩
  exact hk
end
end Go.Proofs.Ytanpncjnojjmkab
