/-
  StrsetParts: its walk.
-/
import Derived.Test.YtanpncjnojjmkabSJ
import Derived.Laws.Cover1
namespace Go.Proofs.Ytanpncjnojjmkab
set_option linter.unusedVariables false
set_option maxRecDepth 100000
open Go.RowKit

section
variable {P : Program}
/-- An append to a row of one's own, and where the new row lies. -/
theorem run_append_where (w : World) (base : Nat) (t ty e : TypeId) (i : TypeInfo) (z : Value) (size bytes : Nat) (ht : P.underlying t = some (.slice e)) (hi : P.info? e = some i) (hz : i.zero = some z)
    (hsize : i.size = size) (hby : i.bytes = bytes) (hzs : z.cells.size = size) (hsz : 0 < size)
    (v : Value) (n : Nat) (xs : List Value) (hown : w.ownsRow base e size v n xs)
    (a : Addr) (m c : Nat) (news : List Value) (hl : news.length = m * size) (hnews : ∀ j u, news[j]? = some u → w.cell? (a.add j) = some u) (h1 : ∀ u ∈ news, u.oneCell' = true)
    (h63 : n + m ≤ maxLen) (hbytes : (n + m) * bytes ≤ 140737488355328) (hbase : base ≤ w.heap.size) :
    ∃ v' w', (Builtin.append_ #[t, t] ty #[v, .slice (some a) m c]).run P w = .ok v' w' ∧ w'.ownsRow base e size v' (n + m) (xs ++ news) ∧ w.grownBy w' v.ownBlock ∧
      (v'.ownBlock = v.ownBlock ∨ v'.ownBlock = some w.heap.size) := by
  obtain ⟨v', w', hr, h2, h3, h4⟩ := run_append_own (P := P) w base t ty e i z size bytes ht hi hz hsize hby hzs hsz v n xs hown a m c news hl hnews h1 h63 hbytes hbase
  refine ⟨v', w', hr, h2, h3, ?_⟩
  subst hsize
  subst hby
  have hsmall : n + m ≤ 9223372036854775807 := by simp only [maxLen] at h63; omega
  rcases hown.2 with ⟨rfl, rfl⟩ | ⟨g', cap, cur, rfl, hbg, hgg, hnc, hcm, hcs, htake⟩
  · by_cases hm : m = 0
    · left
      rw [h4.2 ⟨rfl, hm⟩]
    · right
      have hr' := run_append_nil (P := P) w t ty e i z ht hi hz a m c news hl hnews (by omega) (by omega) (by have hb := hbytes; simp only [Nat.zero_add] at hb; omega)
      rw [hr] at hr'
      injection hr' with e1 e2
      rw [e1]; rfl
  · by_cases hroom : n + m ≤ cap
    · left
      have hfit : n * i.size + news.length ≤ cur.size := by rw [hl, hcs, ← Nat.add_mul]; exact Nat.mul_le_mul_right _ hroom
      have hr' := run_append_room (P := P) w t ty e i ht hi g' n cap cur hgg a m c news hl hnews h1 hroom hfit
      rw [hr] at hr'
      injection hr' with e1 e2
      rw [e1]; rfl
    · right
      have hr' := run_append_grow (P := P) w t ty e i z ht hi hz ⟨g', 0, none⟩ n cap xs hown.1 (hown.cells (g := g') rfl) a m c news hl hnews (by omega) (by omega) (growslice_fits (by omega) hbytes)
      rw [hr] at hr'
      injection hr' with e1 e2
      rw [e1]; rfl

theorem wpList_append_where {w : World} {ops : Array Oper} {rest : List Oper} {o : Oper} {a : Act} {Q : Exit → Act → World → Prop} (hgd : o.guard = none) (s x : Operand) (t : TypeId)
    (ho : o.op = .call { callee := .builtin .append, args := #[s, x], argTypes := #[t, t] })
    (base : Nat) (e : TypeId) (i : TypeInfo) (z : Value) (size bytes : Nat) (ht : P.underlying t = some (.slice e)) (hi : P.info? e = some i) (hz : i.zero = some z)
    (hsize : i.size = size) (hby : i.bytes = bytes) (hzs : z.cells.size = size) (hsz : 0 < size)
    (v : Value) (n : Nat) (xs : List Value) (hs : a.eval s = v) (hown : w.ownsRow base e size v n xs)
    (ad : Addr) (m c : Nat) (news : List Value) (hx : a.eval x = .slice (some ad) m c) (hl : news.length = m * size) (hnews : ∀ j u, news[j]? = some u → w.cell? (ad.add j) = some u) (h1 : ∀ u ∈ news, u.oneCell' = true)
    (h63 : n + m ≤ maxLen) (hbytes : (n + m) * bytes ≤ 140737488355328) (hbase : base ≤ w.heap.size)
    (h : ∀ v' w', w'.ownsRow base e size v' (n + m) (xs ++ news) → w.grownBy w' v.ownBlock → (v'.ownBlock = v.ownBlock ∨ v'.ownBlock = some w.heap.size) → wpList P ops Q rest (a.put o.dst v') w') : wpList P ops Q (o :: rest) a w :=
  wpList_plain hgd fun _ hK => by
    obtain ⟨v', w', hr, h2, h3, h4⟩ := run_append_where (P := P) w base t o.type e i z size bytes ht hi hz hsize hby hzs hsz v n xs hown ad m c news hl hnews h1 h63 hbytes hbase
    unfold Oper.wp execOp
    simp only [ho, resolve, invoke, builtin, Sem.run_bind, Sem.run_pure, Result.andThen_ok, List.map_toArray, List.map_cons, List.map_nil, hs, hx, hr]
    exact hK _ _ (h v' w' h2 h3 h4)
end


/-- An append of one text, and where the new row lies. -/
theorem wpList_append_w {w : World} {ops : Array Oper} {rest : List Oper} {o : Oper} {a : Act} {Q : Exit → Act → World → Prop} (hgd : o.guard = none) (s x : Operand)
    (ho : o.op = .call { callee := .builtin .append, args := #[s, x], argTypes := #[22, 22] }) (base : Nat) (v : Value) (l : List Tx) (hs : a.eval s = v) (hown : w.ownsRow base 9 1 v l.length (strC l))
    (y : Tx) (g : Nat) (hx : a.eval x = .slice (some ⟨g, 0, none⟩) 1 1) (hc : w.cell? ⟨g, 0, none⟩ = some (.string ⟨y.toArray⟩)) (hsz : l.length + 1 ≤ 1000000) (hbase : base ≤ w.heap.size)
    (h : ∀ v' w', w'.ownsRow base 9 1 v' (l ++ [y]).length (strC (l ++ [y])) → w.grownBy w' v.ownBlock → (v'.ownBlock = v.ownBlock ∨ v'.ownBlock = some w.heap.size) → wpList Try.prog ops Q rest (a.put o.dst v') w') : wpList Try.prog ops Q (o :: rest) a w := by
  obtain ⟨i0, hi, hz0, hz1, hz2⟩ := info_parts str_info
  refine wpList_append_where hgd s x 22 ho base 9 i0 (.string ⟨#[]⟩) 1 16 Try.underlying22 hi hz0 hz1 hz2 rfl (by decide) v l.length (strC l) hs hown ⟨g, 0, none⟩ 1 1 [.string ⟨y.toArray⟩] hx rfl (fun j u hu => ?_) (by simp [Value.oneCell']) (by unfold maxLen; omega) (by omega) hbase fun v' w' q1 q2 q3 => h v' w' (by simpa [strC] using q1) q2 q3
  rcases j with _ | j
  · simp at hu; rw [add_zero_block, hc, hu]
  · simp at hu

/-- Two rows that don't lie in one block. -/
def Apart (u v : Value) : Prop := ∀ k, u.ownBlock = some k → v.ownBlock ≠ some k
theorem Apart.symm {u v : Value} (h : Apart u v) : Apart v u := fun k h1 h2 => h k h2 h1
/-- Two rows of one's own. -/
def Two (V : World) (M B : List Tx) (u v : Value) (w : World) : Prop := w.ownsRow V.heap.size 9 1 u M.length (strC M) ∧ w.ownsRow V.heap.size 9 1 v B.length (strC B) ∧ Apart u v ∧ Below V.heap.size V w
theorem Two.symm {V w : World} {M B : List Tx} {u v : Value} (h : Two V M B u v w) : Two V B M v u w := ⟨h.2.1, h.1, h.2.2.1.symm, h.2.2.2⟩
/-- Behind an append to the first. -/
theorem Two.more {V w w' : World} {M B M' : List Tx} {u v u' : Value} {o : Obj} (h : Two V M B u v w) (h1 : w'.ownsRow V.heap.size 9 1 u' M'.length (strC M')) (hg : (w.alloc o).grownBy w' u.ownBlock) (hw : u'.ownBlock = u.ownBlock ∨ u'.ownBlock = some (w.alloc o).heap.size) : Two V M' B u' v w' := by
  obtain ⟨q1, q2, q3, q4⟩ := h
  refine ⟨h1, (q2.alloc o).kept hg ?_, fun k hk hv => ?_, (q4.alloc q4.size o).grown hg (by have := q4.size; simp; omega) (fun k hk => (q1.lt k hk).1)⟩
  · cases hv : v.ownBlock with
    | none => exact .inl rfl
    | some k => exact .inr fun e => q3 k e.symm hv
  · rcases hw with hw | hw
    · rw [hw] at hk; exact q3 k hk hv
    · rw [hw] at hk
      have := (q2.lt k hv).2
      simp at hk
      omega
theorem mid_step (S : List Tx) (x y : Tx) {j : Nat} (h : j < S.length) : midOf (S.take (j + 1)) x y = midOf (S.take j) x y ++ if (!lt (S.getD j []) x && lt (S.getD j []) y) = true then [S.getD j []] else [] := by
  rw [take_getD h]
  unfold midOf
  rw [List.filter_append, List.filter_cons]
  simp
theorem beg_step (S : List Tx) (x : Tx) {j : Nat} (h : j < S.length) : begOf (S.take (j + 1)) x = begOf (S.take j) x ++ if beg x (S.getD j []) = true then [S.getD j []] else [] := by
  rw [take_getD h]
  unfold begOf
  rw [List.filter_append, List.filter_cons]
  simp
theorem beg_iff : ∀ (x y : Tx), beg x y = (decide (x.length ≤ y.length) && (y.take x.length == x))
  | [], y => by rw [beg_nil]; simp
  | a :: x, [] => by rw [beg_cons_nil]; simp
  | a :: x, b :: y => by
    rw [beg_cons, beg_iff x y, Bool.eq_iff_iff]
    simp only [Bool.and_eq_true, beq_iff_eq, decide_eq_true_eq, List.length_cons, List.take_succ_cons, List.cons.injEq, Nat.add_le_add_iff_right]
    constructor
    · rintro ⟨rfl, h2, h3⟩; exact ⟨h2, rfl, h3⟩
    · rintro ⟨h2, rfl, h3⟩; exact ⟨rfl, h2, h3⟩
theorem less_b {z x : Tx} {b : Bool} (h : Op.bytesLess z x = b) : Op.bytesLess (⟨z.toArray⟩ : ByteArray).toList (⟨x.toArray⟩ : ByteArray).toList = b := by
  rw [ByteArray.toList_eq, ByteArray.toList_eq]
  exact h
theorem slice_to (y : Tx) (n : Nat) (h : n ≤ y.length) (w : World) : (Instr.slice 9 (.string ⟨y.toArray⟩) none (some (.int .i64 (n : Int))) none).run Try.prog w = .ok (.string ⟨(y.take n).toArray⟩) w := by
  have hs : (⟨y.toArray⟩ : ByteArray).size = y.length := by simp [ByteArray.size]
  rw [run_slice_string_h w 9 ⟨y.toArray⟩ Try.underlying9 .i64 n (by omega) (by omega)]
  rw [Int.toNat_natCast, ext_take _ _ (by omega)]
end Go.Proofs.Ytanpncjnojjmkab
