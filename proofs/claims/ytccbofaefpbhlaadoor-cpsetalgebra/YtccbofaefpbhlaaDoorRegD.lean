/-
  Ranges put behind a row of one's own.
-/
import Derived.Test.YtccbofaefpbhlaaDoorRegC
import Derived.Laws.OwnMore
namespace Go.Proofs.YtccbofaefpbhlaaDoor.Rg
set_option linter.unusedVariables false
set_option maxRecDepth 20000
open Go.RowKit

theorem wp_call0 {o : Oper} {a : Act} {w : World} {K : Act → World → Prop} {Q : Exit → Act → World → Prop} {f : Nat} {ts : Array TypeId} (ho : o.op = .call { callee := .value (.func f), args := #[], argTypes := ts }) (eg : ∀ args w, (callFunc f args).run Tryd.prog w = .ok (.enter f args) w)
    (h : Calls Tryd.prog f #[] w fun e w'' => ∃ v, e = .returned v ∧ K (a.put o.dst v) w'') : o.wp Tryd.prog a w K Q := by
  unfold Oper.wp
  rw [show (execOp a.eval o).run Tryd.prog w = .ok (.enter f #[]) w from by simp [execOp, ho, resolve, invoke, Act.eval, eg, go_sem, Deferred.ofValue]]
  refine h.mono ?_
  rintro e w'' ⟨v, rfl, hk⟩
  exact hk
theorem run_append_nothing {w : World} (base ty : TypeId) (i : TypeInfo) (hi : Tryd.prog.info? 26 = some i) (v : Value) (n c : Nat) (xs : List Value) (hown : w.ownsRow base 26 2 v n xs) :
    (Builtin.append_ #[22, 22] ty #[v, .slice none 0 c]).run Tryd.prog w = .ok v w := by
  rcases hown.2 with ⟨rfl, rfl⟩ | ⟨g, cap, cur, rfl, _, _, hnc, _⟩
  · simp [Builtin.append_, run_underlying Tryd.underlying22, sizeOf, typeInfo, hi, Builtin.lenOf, Builtin.firstCells]
  · simp [Builtin.append_, run_underlying Tryd.underlying22, sizeOf, typeInfo, hi, Builtin.lenOf, Builtin.firstCells, hnc, storeCells]

theorem wp_append_pairs {o : Oper} {a : Act} {w : World} {K : Act → World → Prop} {Q : Exit → Act → World → Prop} (s x : Nat) (ho : o.op = .call { callee := .builtin .append, args := #[.tmp s, .tmp x], argTypes := #[22, 22] })
    (base n : Nat) (u : Value) (xs : List Value) (hs : a.tmps.getD s undef = u) (hown : w.ownsRow base 26 2 u n xs) (ao : Option Addr) (L : List (Int × Int)) (c : Nat) (hx : a.tmps.getD x undef = .slice ao L.length c) (hp : PairAt w ao L) (hbase : base ≤ w.heap.size) (hn : n + L.length ≤ 1000000)
    (h : ∀ v' w', w'.ownsRow base 26 2 v' (n + L.length) (xs ++ prC L) → w.grownBy w' u.ownBlock → K (a.put o.dst v') w') : o.wp Tryd.prog a w K Q := by
  obtain ⟨i0, hi0, hz0, hz1, hz2⟩ := info_parts pr_info
  by_cases hL : L = []
  · subst hL
    rcases ao with _ | ad
    · have hrun := run_append_nothing (w := w) base o.type i0 hi0 u n c xs hown
      have hs' : a.tmps[s]?.getD undef = u := by simpa using hs
      have hx' : a.tmps[x]?.getD undef = .slice none 0 c := by simpa using hx
      have hh := h u w (by simpa [prC] using hown) ⟨rfl, rfl, rfl, Nat.le_refl _, fun _ _ _ => rfl⟩
      unfold Oper.wp
      simp [execOp, ho, resolve, invoke, builtin, Act.eval, hs', hx', hrun, Result.andThen]
      exact hh
    · exact wp_append_own w (.tmp s) (.tmp x) 22 ho base 26 i0 (.agg #[.int .i64 0, .int .i64 0]) 2 16 Tryd.underlying22 hi0 hz0 hz1 hz2 rfl (by decide) u n xs hs hown ad 0 c [] hx rfl (by simp) (by simp) (by unfold maxLen; simp at hn; omega) (by simp at hn; omega) hbase (fun v' w' h1 h2 _ => h v' w' h1 h2)
  · obtain ⟨g, rfl, hg, hc⟩ := hp hL
    refine wp_append_own w (.tmp s) (.tmp x) 22 ho base 26 i0 (.agg #[.int .i64 0, .int .i64 0]) 2 16 Tryd.underlying22 hi0 hz0 hz1 hz2 rfl (by decide) u n xs hs hown ⟨g, 0, none⟩ L.length c (prC L) hx (by rw [prC_length]; omega) (fun j v hv => ?_) (prC_one L) (by unfold maxLen; omega) (by omega) hbase (fun v' w' h1 h2 _ => h v' w' h1 h2)
    rw [add_zero_block]
    have hj : j < 2 * L.length := by
      rw [← prC_length]
      exact (List.getElem?_eq_some_iff.1 hv).1
    obtain ⟨k, hk⟩ : ∃ k, j = k * 2 ∨ j = k * 2 + 1 := ⟨j / 2, by omega⟩
    obtain ⟨c1, c2⟩ := hc k (by omega)
    obtain ⟨d1, d2⟩ := prC_get L k (by omega)
    rcases hk with rfl | rfl
    · rw [c1, ← d1, hv]
    · rw [c2, ← d2, hv]
end Go.Proofs.YtccbofaefpbhlaaDoor.Rg
