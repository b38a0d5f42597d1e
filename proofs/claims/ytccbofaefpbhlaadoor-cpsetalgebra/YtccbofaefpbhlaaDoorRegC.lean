/-
  More of what single operations of a drawn region owe: function values, truths, slices of ranges.
-/
import Derived.Test.YtccbofaefpbhlaaDoorRegB
import Derived.Test.YtccbofaefpbhlaaDoorLawC
namespace Go.Proofs.YtccbofaefpbhlaaDoor.Rg
set_option linter.unusedVariables false
set_option maxRecDepth 20000
open Go.RowKit
section
variable {o : Oper} {a : Act} {w : World} {K : Act → World → Prop} {Q : Exit → Act → World → Prop}
theorem wp_load41 {t g : Nat} {v : Value} (ho : o.op = .load 41 (.tmp t)) (he : a.tmps.getD t undef = .pointer (some ⟨g, 0, none⟩)) (hc : w.cell? ⟨g, 0, none⟩ = some v) (h : K (a.put o.dst v) w) : o.wp Tryd.prog a w K Q := by
  unfold Oper.wp
  have he' : a.tmps[t]?.getD undef = .pointer (some ⟨g, 0, none⟩) := by simpa using he
  simp [execOp, ho, he', go_sem, hc]
  exact h
theorem wp_load22 {t g : Nat} {v : Value} (ho : o.op = .load 22 (.tmp t)) (he : a.tmps.getD t undef = .pointer (some ⟨g, 0, none⟩)) (hc : w.cell? ⟨g, 0, none⟩ = some v) (h : K (a.put o.dst v) w) : o.wp Tryd.prog a w K Q := by
  unfold Oper.wp
  have he' : a.tmps[t]?.getD undef = .pointer (some ⟨g, 0, none⟩) := by simpa using he
  simp [execOp, ho, he', go_sem, hc]
  exact h
theorem wp_store22 {t s g n c : Nat} {ao : Option Addr} {u : Value} (ho : o.op = .store 22 (.tmp t) (.tmp s)) (hd : o.dst = none) (he : a.tmps.getD t undef = .pointer (some ⟨g, 0, none⟩)) (hv : a.tmps.getD s undef = .slice ao n c) (hc : w.cell? ⟨g, 0, none⟩ = some u) (hf : w.frozen? ⟨g, 0, none⟩ = false) (h : K a (w.setCell ⟨g, 0, none⟩ (.slice ao n c))) : o.wp Tryd.prog a w K Q := by
  unfold Oper.wp
  have he' : a.tmps[t]?.getD undef = .pointer (some ⟨g, 0, none⟩) := by simpa using he
  have hv' : a.tmps[s]?.getD undef = .slice ao n c := by simpa using hv
  simp [execOp, ho, he', hv', go_sem, hc, hf, hd]
  exact h
theorem wp_neqB {x y : Operand} {u v : Bool} (ho : o.op = .binOp .neq 4 x y 4) (hx : a.eval x = .bool u) (hy : a.eval y = .bool v) (h : K (a.put o.dst (.bool (u != v))) w) : o.wp Tryd.prog a w K Q := by
  unfold Oper.wp
  simp only [execOp, ho, hx, hy]
  simp [go_sem]
  exact h
theorem wp_eqlB {x y : Operand} {u v : Bool} (ho : o.op = .binOp .eql 4 x y 4) (hx : a.eval x = .bool u) (hy : a.eval y = .bool v) (h : K (a.put o.dst (.bool (u == v))) w) : o.wp Tryd.prog a w K Q := by
  unfold Oper.wp
  simp only [execOp, ho, hx, hy]
  simp [go_sem]
  exact h
theorem wp_callv {f s0 s1 : Nat} {cb : Array Value} {ts : Array TypeId} (ho : o.op = .call { callee := .value (.tmp s0), args := #[.tmp s1], argTypes := ts }) (hf : a.tmps.getD s0 undef = .func (.func f) #[] cb) (eg : ∀ args w, (callFunc f args).run Tryd.prog w = .ok (.enter f args) w)
    (h : Calls Tryd.prog f (#[a.tmps.getD s1 undef] ++ cb) w fun e w'' => ∃ v, e = .returned v ∧ K (a.put o.dst v) w'') : o.wp Tryd.prog a w K Q := by
  unfold Oper.wp
  have hf' : a.tmps[s0]?.getD undef = .func (.func f) #[] cb := by simpa using hf
  rw [show (execOp a.eval o).run Tryd.prog w = .ok (.enter f (#[a.tmps.getD s1 undef] ++ cb)) w from by simp [execOp, ho, hf', resolve, invoke, Act.eval, eg, go_sem, Deferred.ofValue]]
  refine h.mono ?_
  rintro e w'' ⟨v, rfl, hk⟩
  exact hk
end
/-- What is known of a slot; rows of ranges too. -/
inductive Wr where
  | eq (v : Value)
  | mem (p : Nat → Bool)
  | box
  | row (L : List (Int × Int))
def Wr.ok : Wr → World → Value → Prop
  | .eq u, _, v => v = u
  | .mem p, w, v => ∃ S, IsSet w v S ∧ ∀ c, memS S c = p c
  | .box, w, v => ∃ g, v = .pointer (some ⟨g, 0, none⟩) ∧ Blk w g 29 #[.slice none 0 0]
  | .row L, w, v => ∃ ao c, v = .slice ao L.length c ∧ PairAt w ao L
theorem Wr.stable {d : Wr} {w w' : World} {v : Value} (hb : Below w.heap.size w w') (h : d.ok w v) : d.ok w' v := by
  cases d with
  | eq u => exact h
  | mem p => obtain ⟨S, h1, h2⟩ := h; exact ⟨S, h1.below hb, h2⟩
  | box => obtain ⟨g, h1, h2⟩ := h; exact ⟨g, h1, h2.on hb⟩
  | row L => obtain ⟨ao, c, h1, h2⟩ := h; exact ⟨ao, c, h1, h2.below hb⟩
theorem wp_pick_no {o : Oper} {a : Act} {w : World} {K : Act → World → Prop} {Q : Exit → Act → World → Prop} {t : Nat} {x y : Operand} (ho : o.op = .pick (.tmp t) x y) (he : a.tmps.getD t undef = .bool false) (h : K (a.put o.dst (a.eval y)) w) : o.wp Tryd.prog a w K Q := by
  unfold Oper.wp
  have he' : a.eval (.tmp t) = .bool false := he
  rw [show (execOp a.eval o).run Tryd.prog w = .ok (.value (a.eval y)) w from by simp [execOp, ho, he', asBool]]
  exact h
theorem pairAt_far {w : World} {A : Option Addr} {L : List (Int × Int)} (h : PairAt w A L) {b n c : Nat} {a : Option Addr} (hc : w.cell? ⟨b, 0, none⟩ = some (.slice a n c)) (u : Value) : PairAt (w.setCell ⟨b, 0, none⟩ u) A L := fun hne => by
  obtain ⟨g, e1, hl, hcs⟩ := h hne
  have hgb : g ≠ b := by
    rintro rfl
    have h0 := (hcs 0 (List.length_pos_iff.2 hne)).1
    rw [Nat.zero_mul, hc] at h0
    cases h0
  exact ⟨g, e1, by simpa [World.setCell] using hl, fun i hi => ⟨cell_far (hcs i hi).1 hgb, cell_far (hcs i hi).2 hgb⟩⟩

/-! Two rows made, and laid into two boxes that were there. -/
def OldT (W0 : World) (g1 g2 m q : Nat) (ds : Nat → Nat) (fr : Nat → Value) (p1 p2 s1 s2 : Nat) (La Lb : List (Int × Int)) (k : Nat) (a : Act) (w : World) : Prop :=
  a.tmps.size = m ∧ a.defers = [] ∧ (∀ j, j < m → (∀ i, i < q → ds i ≠ j) → a.tmps.getD j undef = fr j) ∧
  ∃ (x y : Value) (aA aB : Option Addr) (cA cB : Nat), a.tmps.getD p1 undef = .pointer (some ⟨g1, 0, none⟩) ∧ a.tmps.getD p2 undef = .pointer (some ⟨g2, 0, none⟩) ∧
    a.tmps.getD s1 undef = .slice aA La.length cA ∧ a.tmps.getD s2 undef = .slice aB Lb.length cB ∧ Blk w g1 22 #[x] ∧ Blk w g2 22 #[y] ∧ (∃ b n c, x = .slice b n c) ∧ (∃ b n c, y = .slice b n c) ∧ (q < k → x = .slice aA La.length cA) ∧ (q + 1 < k → y = .slice aB Lb.length cB) ∧
    PairAt w aA La ∧ PairAt w aB Lb ∧ Below W0.heap.size W0 w
section
variable {W0 w : World} {g1 g2 m q p1 p2 s1 s2 : Nat} {ds : Nat → Nat} {fr : Nat → Value} {La Lb : List (Int × Int)} {a : Act} {o : Oper} {K : Act → World → Prop} {Q : Exit → Act → World → Prop}
theorem old_store1 (hz : W0.heap.size ≤ g1) (hne : g1 ≠ g2) (h : OldT W0 g1 g2 m q ds fr p1 p2 s1 s2 La Lb q a w) (ho : o.op = .store 22 (.tmp p1) (.tmp s1)) (hd : o.dst = none) (hK : ∀ a' w', OldT W0 g1 g2 m q ds fr p1 p2 s1 s2 La Lb (q + 1) a' w' → K a' w') : o.wp Tryd.prog a w K Q := by
  obtain ⟨h1, h2, h3, x, y, aA, aB, cA, cB, e1, e2, e3, e4, b1, b2, ⟨xb, xn, xc, rfl⟩, hy, _, _, i1, i2, hb⟩ := h
  exact wp_store22 ho hd e1 e3 b1.cell0 (b1.free 0) (hK _ _ ⟨h1, h2, h3, _, y, aA, aB, cA, cB, e1, e2, e3, e4, b1.set0 _, b2.far (p := ⟨g1, 0, none⟩) (Ne.symm hne) _, ⟨_, _, _, rfl⟩, hy, fun _ => rfl, fun h => absurd h (Nat.lt_irrefl _), pairAt_far i1 b1.cell0 _, pairAt_far i2 b1.cell0 _, hb.setCell (p := ⟨g1, 0, none⟩) hz _⟩)
theorem old_store2 (hz : W0.heap.size ≤ g2) (hne : g1 ≠ g2) (h : OldT W0 g1 g2 m q ds fr p1 p2 s1 s2 La Lb (q + 1) a w) (ho : o.op = .store 22 (.tmp p2) (.tmp s2)) (hd : o.dst = none) (hK : ∀ a' w', OldT W0 g1 g2 m q ds fr p1 p2 s1 s2 La Lb (q + 2) a' w' → K a' w') : o.wp Tryd.prog a w K Q := by
  obtain ⟨h1, h2, h3, x, y, aA, aB, cA, cB, e1, e2, e3, e4, b1, b2, hx, ⟨yb, yn, yc, rfl⟩, hxe, _, i1, i2, hb⟩ := h
  exact wp_store22 ho hd e2 e4 b2.cell0 (b2.free 0) (hK _ _ ⟨h1, h2, h3, x, _, aA, aB, cA, cB, e1, e2, e3, e4, b1.far (p := ⟨g2, 0, none⟩) hne _, b2.set0 _, hx, ⟨_, _, _, rfl⟩, fun _ => hxe (Nat.lt_succ_self _), fun _ => rfl, pairAt_far i1 b2.cell0 _, pairAt_far i2 b2.cell0 _, hb.setCell (p := ⟨g2, 0, none⟩) hz _⟩)
/-- The two rows in their boxes. -/
def OldTwo (W0 : World) (g1 g2 : Nat) (La Lb : List (Int × Int)) (w : World) : Prop :=
  ∃ (aA aB : Option Addr) (cA cB : Nat), Blk w g1 22 #[.slice aA La.length cA] ∧ Blk w g2 22 #[.slice aB Lb.length cB] ∧ PairAt w aA La ∧ PairAt w aB Lb ∧ Below W0.heap.size W0 w
theorem OldT.two (h : OldT W0 g1 g2 m q ds fr p1 p2 s1 s2 La Lb (q + 2) a w) : OldTwo W0 g1 g2 La Lb w := by
  obtain ⟨h1, h2, h3, x, y, aA, aB, cA, cB, e1, e2, e3, e4, b1, b2, hx, hy, hxe, hye, i1, i2, hb⟩ := h
  have ex := hxe (by omega)
  have ey := hye (by omega)
  subst ex
  subst ey
  exact ⟨aA, aB, cA, cB, b1, b2, i1, i2, hb⟩
end
end Go.Proofs.YtccbofaefpbhlaaDoor.Rg
