/-
  Tables: how rows are measured from the start (measures).
-/
import Derived.Test.YthmdapcieghbbabDoorMI
import Derived.Deep.OwnRows
import Derived.Deep.RegionLaw
namespace Go.Proofs.YthmdapcieghbbabDoor
set_option linter.unusedVariables false
set_option maxRecDepth 20000
open Go.RowKit

theorem int_info : (Tryd.prog.info? 3).map (fun i => (i.zero, i.size, i.bytes)) = some (some (.int .i64 0), 1, 8) := by kernel_rfl
theorem ints_info : (Tryd.prog.info? 24).map (fun i => (i.zero, i.size, i.bytes)) = some (some (.slice none 0 0), 1, 24) := by kernel_rfl

/-- The box of what is told, new. -/
def MsBox (base n : Nat) (W : World) (u : Value) (wx : World) : Prop :=
  ∃ gM gL gW gU tag, u = .pointer (some ⟨gM, 0, none⟩) ∧ Blk wx gM 69 #[.slice (some ⟨gL, 0, none⟩) n n, .slice (some ⟨gW, 0, none⟩) n n, .slice (some ⟨gU, 0, none⟩) n n, .slice none 0 0] ∧
    MsIn wx base n gL gW gU (fun _ => .slice none 0 0) (.slice none 0 0) tag Ms.none_ ∧ Below W.heap.size W wx ∧ W.heap.size ≤ gM

theorem blk_new' {w : World} {g : Nat} {t : TypeId} {cs : Array Value} (h : g = w.heap.size) : Blk (w.alloc (.cells cs t)) g t cs := h ▸ Blk.new w t cs
theorem blk_drew {w : World} {g : Nat} {t : TypeId} {cs : Array Value} (h : Blk w g t cs) : Blk w.drew g t cs := h
theorem made_get (v : Value) (n i : Nat) (hi : i < n) : (madeCells #[v] n)[i]? = some v := by
  unfold madeCells
  simp [hi, Nat.mod_one]
theorem made_size (v : Value) (n : Nat) : (madeCells #[v] n).size = n := by
  unfold madeCells
  simp
theorem msBox_of {base n : Nat} {W wx : World} {gM gL gW gU : Nat} {z3 z24 : Array Value} (h3 : madeCells #[Value.int .i64 0] n = z3) (h24 : madeCells #[Value.slice none 0 0] n = z24) (hb : base ≤ W.heap.size)
    (hM : Blk wx gM 69 #[.slice (some ⟨gL, 0, none⟩) n n, .slice (some ⟨gW, 0, none⟩) n n, .slice (some ⟨gU, 0, none⟩) n n, .slice none 0 0])
    (hL : Blk wx gL 3 z3) (hW : Blk wx gW 3 z3) (hU : Blk wx gU 24 z24) (hne : gL ≠ gW) (lM : W.heap.size ≤ gM) (lL : W.heap.size ≤ gL) (lW : W.heap.size ≤ gW) (lU : W.heap.size ≤ gU) (hbx : Below W.heap.size W wx) :
    MsBox base n W (.pointer (some ⟨gM, 0, none⟩)) wx := by
  subst h3 h24
  refine ⟨gM, gL, gW, gU, fun k => if k = gL then 0 else 1, rfl, hM, ⟨⟨_, hL, made_size _ _, fun i hi => made_get _ n i hi⟩, ⟨_, hW, made_size _ _, fun i hi => made_get _ n i hi⟩, ⟨_, hU, made_size _ _, fun i hi => made_get _ n i hi⟩, fun i hi => own_nil _ _ _, own_nil _ _ _, by omega, by omega, by omega, by simp, by simp [Ne.symm hne], fun k hk => by simp [Value.ownBlock] at hk, fun i hi k hk => by simp [Value.ownBlock] at hk⟩, hbx, lM⟩
theorem foldl_take_succ {α β : Type} (f : α → β → α) (a : α) (l : List β) (d : β) {j : Nat} (hj : j < l.length) : (l.take (j + 1)).foldl f a = f ((l.take j).foldl f a) (l.getD j d) := by
  rw [List.take_succ_eq_append_getElem hj, List.foldl_append, List.getD_eq_getElem?_getD, List.getElem?_eq_getElem hj]
  rfl
theorem ret_agg4 {a b c d : Value} : ∀ {x : Value}, x = .agg #[a, b, c, d] → Ending.returned x = .returned (.agg #[a, b, c, d]) := fun h => by rw [h]

/-- The blocks that stay beside what is told. -/
structure Pk (W : World) (w0 n gM gL gW gU : Nat) (vR : Value) (A B : Option Addr) (q b r : Nat) : Prop where
  M : Blk W gM 69 #[.slice (some ⟨gL, 0, none⟩) n n, .slice (some ⟨gW, 0, none⟩) n n, .slice (some ⟨gU, 0, none⟩) n n, vR]
  X : Blk W w0 34 #[.slice A n q, .slice B b r]
  R : Blk W (w0 + 1) 69 #[.slice none 0 0, .slice none 0 0, .slice none 0 0, .slice none 0 0]
  ne : w0 + 1 ≠ gM
section
variable {W W' : World} {w0 n gM gL gW gU : Nat} {vR : Value} {A B : Option Addr} {q b r : Nat}
theorem Pk.on (h : Pk W w0 n gM gL gW gU vR A B q b r) (hb : Below W.heap.size W W') : Pk W' w0 n gM gL gW gU vR A B q b r := ⟨h.M.on hb, h.X.on hb, h.R.on hb, h.ne⟩
theorem Pk.set_ (h : Pk W w0 n gM gL gW gU vR A B q b r) {g : Nat} {t : TypeId} {cs : Array Value} (hg : Blk W g t cs) (h69 : 69 ≠ t) (h34 : 34 ≠ t) (i : Nat) (u : Value) : Pk (W.setCell ⟨g, i, none⟩ u) w0 n gM gL gW gU vR A B q b r :=
  ⟨h.M.far (h.M.ne_ hg h69) u, h.X.far (h.X.ne_ hg h34) u, h.R.far (h.R.ne_ hg h69) u, h.ne⟩
theorem Pk.grown (h : Pk W w0 n gM gL gW gU vR A B q b r) {v : Value} {base k : Nat} {xs : List Value} (ho : W.ownsRow base 3 1 v k xs) (hg : W.grownBy W' v.ownBlock) : Pk W' w0 n gM gL gW gU vR A B q b r :=
  ⟨h.M.grown hg (own_ne ho h.M (by decide)), h.X.grown hg (own_ne ho h.X (by decide)), h.R.grown hg (own_ne ho h.R (by decide)), h.ne⟩
theorem Pk.setR (h : Pk W w0 n gM gL gW gU vR A B q b r) (u : Value) : Pk (W.setCell ⟨gM, 3, none⟩ u) w0 n gM gL gW gU u A B q b r :=
  ⟨h.M.set_ 3 u, h.X.far (h.X.ne_ h.M (by decide)) u, h.R.far h.ne u, h.ne⟩
theorem Pk.m0 (h : Pk W w0 n gM gL gW gU vR A B q b r) : W.cell? ⟨gM, 0, none⟩ = some (.slice (some ⟨gL, 0, none⟩) n n) := (h.M.cell 0).trans rfl
theorem Pk.m1 (h : Pk W w0 n gM gL gW gU vR A B q b r) : W.cell? ⟨gM, 1, none⟩ = some (.slice (some ⟨gW, 0, none⟩) n n) := (h.M.cell 1).trans rfl
theorem Pk.m2 (h : Pk W w0 n gM gL gW gU vR A B q b r) : W.cell? ⟨gM, 2, none⟩ = some (.slice (some ⟨gU, 0, none⟩) n n) := (h.M.cell 2).trans rfl
theorem Pk.m3 (h : Pk W w0 n gM gL gW gU vR A B q b r) : W.cell? ⟨gM, 3, none⟩ = some vR := (h.M.cell 3).trans rfl
theorem Pk.x0 (h : Pk W w0 n gM gL gW gU vR A B q b r) : W.cell? ⟨w0, 0, none⟩ = some (.slice A n q) := (h.X.cell 0).trans rfl
theorem Pk.x1 (h : Pk W w0 n gM gL gW gU vR A B q b r) : W.cell? ⟨w0, 1, none⟩ = some (.slice B b r) := (h.X.cell 1).trans rfl
end
theorem users_few (T : List Rw) (hm : ∀ r ∈ T, r.map.length ≤ 1000000) : ∀ (k t : Nat), ((measC T k).users t).length ≤ k * 1000000
  | 0, t => by simp [measC, Ms.none_]
  | k + 1, t => by
    have h1 := users_few T hm k t
    have h2 := (target_fold T k (mp T k) ((measC T k).base k (T.getD k Rw.nil))).2.2.2.1 t
    rw [measC_succ]
    show ((Ms.isReady _ k).users t).length ≤ _
    rw [isReady_users]
    rw [base_users] at h2
    have h3 : (mp T k).length ≤ 1000000 := by
      unfold mp
      rcases Nat.lt_or_ge k T.length with h | h
      · exact hm _ (getD_mem h)
      · rw [List.getD_eq_getElem?_getD, List.getElem?_eq_none h]
        simp [Rw.nil]
    have e : (k + 1) * 1000000 = k * 1000000 + 1000000 := by omega
    rw [e]
    exact Nat.le_trans h2 (by omega)

theorem ms_drew {w : World} {base n gL gW gU : Nat} {us : Nat → Value} {vR : Value} {tag : Nat → Nat} {m : Ms} (h : MsIn w base n gL gW gU us vR tag m) : MsIn w.drew base n gL gW gU us vR tag m := h.on (below_drew w)
theorem after_user {w W5 w1 : World} {n gM gL gW gU t i g c q b r : Nat} {vR : Value} {A B : Option Addr} {us : Nat → Value} {tag : Nat → Nat} {m : Ms} (hI : MsIn W5 w.heap.size n gL gW gU us vR tag m) (hP : Pk W5 w.heap.size n gM gL gW gU vR A B q b r) (hb : Below w.heap.size w W5) (ht : t < n) (o : Obj)
    (hown : w1.ownsRow w.heap.size 3 1 (.slice (some ⟨g, 0, none⟩) ((m.users t).length + 1) c) ((m.users t).length + 1) (cellsOf .i64 (m.users t) ++ [.int .i64 (i : Nat)]))
    (hgr : ((W5.alloc o).drew).grownBy w1 (us t).ownBlock) (hat : (us t).ownBlock = some g ∨ g = W5.heap.size + 1) :
    ∃ us' tag', Pk (w1.setCell ⟨gU, t, none⟩ (.slice (some ⟨g, 0, none⟩) ((m.users t).length + 1) c)) w.heap.size n gM gL gW gU vR A B q b r ∧ MsIn (w1.setCell ⟨gU, t, none⟩ (.slice (some ⟨g, 0, none⟩) ((m.users t).length + 1) c)) w.heap.size n gL gW gU us' vR tag' ⟨m.len, m.wants, upd m.users t (m.users t ++ [i]), m.ready⟩ ∧
      Below w.heap.size w (w1.setCell ⟨gU, t, none⟩ (.slice (some ⟨g, 0, none⟩) ((m.users t).length + 1) c)) := by
  have hI6 := ms_drew (hI.alloc o)
  have b6 := below_step (below_new W5 o) (below_drew _)
  have hP6 := hP.on b6
  have hr := hI6.rows t ht
  obtain ⟨us', tag', h⟩ := hI6.setU ht i hown hgr (by rw [show ((W5.alloc o).drew).heap.size = W5.heap.size + 1 by simp]; exact hat)
  obtain ⟨cu, au, _⟩ := hI6.users
  have au' := au.grown hgr (own_ne hr au (by decide))
  refine ⟨us', tag', (hP6.grown hr hgr).set_ au' (by decide) (by decide) _ _, h, ?_⟩
  have b7 := (below_step hb b6).grown hgr (below_step hb b6).size (fun k hk => (hr.lt k hk).1)
  exact b7.setCell (p := ⟨gU, t, none⟩) hI.bU _
theorem after_ready {w W5 w1 : World} {n gM gL gW gU i g c q b r : Nat} {vR : Value} {A B : Option Addr} {us : Nat → Value} {tag : Nat → Nat} {m : Ms} (hI : MsIn W5 w.heap.size n gL gW gU us vR tag m) (hP : Pk W5 w.heap.size n gM gL gW gU vR A B q b r) (hb : Below w.heap.size w W5) (hM : w.heap.size ≤ gM) (o : Obj)
    (hown : w1.ownsRow w.heap.size 3 1 (.slice (some ⟨g, 0, none⟩) (m.ready.length + 1) c) (m.ready.length + 1) (cellsOf .i64 m.ready ++ [.int .i64 (i : Nat)]))
    (hgr : (W5.alloc o).grownBy w1 vR.ownBlock) (hat : vR.ownBlock = some g ∨ g = W5.heap.size + 1) :
    ∃ tag', Pk (w1.setCell ⟨gM, 3, none⟩ (.slice (some ⟨g, 0, none⟩) (m.ready.length + 1) c)) w.heap.size n gM gL gW gU (.slice (some ⟨g, 0, none⟩) (m.ready.length + 1) c) A B q b r ∧
      MsIn (w1.setCell ⟨gM, 3, none⟩ (.slice (some ⟨g, 0, none⟩) (m.ready.length + 1) c)) w.heap.size n gL gW gU us (.slice (some ⟨g, 0, none⟩) (m.ready.length + 1) c) tag' ⟨m.len, m.wants, m.users, m.ready ++ [i]⟩ ∧
      Below w.heap.size w (w1.setCell ⟨gM, 3, none⟩ (.slice (some ⟨g, 0, none⟩) (m.ready.length + 1) c)) := by
  have hI6 := hI.alloc o
  have b6 := below_new W5 o
  have hP6 := hP.on b6
  have hr := hI6.ready
  obtain ⟨tag', h⟩ := hI6.growR i hown hgr (by rw [show (W5.alloc o).heap.size = W5.heap.size + 1 by simp]; exact hat)
  have hP7 := hP6.grown hr hgr
  refine ⟨tag', hP7.setR _, h.far hP7.M (by decide) (by decide) _ _, ?_⟩
  have b7 := (below_step hb b6).grown hgr (below_step hb b6).size (fun k hk => (hr.lt k hk).1)
  exact b7.setCell (p := ⟨gM, 3, none⟩) hM _

theorem own_shape {w : World} {B : Nat} {e : TypeId} {s : Nat} {v : Value} {n : Nat} {xs : List Value} (h : w.ownsRow B e s v n xs) : ∃ A k c, v = .slice A k c := by
  rcases h.2 with ⟨rfl, _⟩ | ⟨g, cap, cur, rfl, _⟩
  · exact ⟨_, _, _, rfl⟩
  · exact ⟨_, _, _, rfl⟩
theorem store4 {W : World} {w : World} {n gM gL gW gU q b r : Nat} {vR : Value} {A B : Option Addr} {us : Nat → Value} {tag : Nat → Nat} {m : Ms} (hP : Pk W w.heap.size n gM gL gW gU vR A B q b r) (hI : MsIn W w.heap.size n gL gW gU us vR tag m) (hb : Below w.heap.size w W) :
    (W.cell? ⟨w.heap.size + 1, 0, none⟩ = some (.slice none 0 0) ∧ W.frozen? ⟨w.heap.size + 1, 0, none⟩ = false) ∧
    ((W.setCell ⟨w.heap.size + 1, 0, none⟩ (.slice (some ⟨gL, 0, none⟩) n n)).cell? ⟨w.heap.size + 1, 1, none⟩ = some (.slice none 0 0) ∧ (W.setCell ⟨w.heap.size + 1, 0, none⟩ (.slice (some ⟨gL, 0, none⟩) n n)).frozen? ⟨w.heap.size + 1, 1, none⟩ = false) ∧
    (((W.setCell ⟨w.heap.size + 1, 0, none⟩ (.slice (some ⟨gL, 0, none⟩) n n)).setCell ⟨w.heap.size + 1, 1, none⟩ (.slice (some ⟨gW, 0, none⟩) n n)).cell? ⟨w.heap.size + 1, 2, none⟩ = some (.slice none 0 0) ∧ ((W.setCell ⟨w.heap.size + 1, 0, none⟩ (.slice (some ⟨gL, 0, none⟩) n n)).setCell ⟨w.heap.size + 1, 1, none⟩ (.slice (some ⟨gW, 0, none⟩) n n)).frozen? ⟨w.heap.size + 1, 2, none⟩ = false) ∧
    ((((W.setCell ⟨w.heap.size + 1, 0, none⟩ (.slice (some ⟨gL, 0, none⟩) n n)).setCell ⟨w.heap.size + 1, 1, none⟩ (.slice (some ⟨gW, 0, none⟩) n n)).setCell ⟨w.heap.size + 1, 2, none⟩ (.slice (some ⟨gU, 0, none⟩) n n)).cell? ⟨w.heap.size + 1, 3, none⟩ = some (.slice none 0 0) ∧ (((W.setCell ⟨w.heap.size + 1, 0, none⟩ (.slice (some ⟨gL, 0, none⟩) n n)).setCell ⟨w.heap.size + 1, 1, none⟩ (.slice (some ⟨gW, 0, none⟩) n n)).setCell ⟨w.heap.size + 1, 2, none⟩ (.slice (some ⟨gU, 0, none⟩) n n)).frozen? ⟨w.heap.size + 1, 3, none⟩ = false) ∧
    Blk ((((W.setCell ⟨w.heap.size + 1, 0, none⟩ (.slice (some ⟨gL, 0, none⟩) n n)).setCell ⟨w.heap.size + 1, 1, none⟩ (.slice (some ⟨gW, 0, none⟩) n n)).setCell ⟨w.heap.size + 1, 2, none⟩ (.slice (some ⟨gU, 0, none⟩) n n)).setCell ⟨w.heap.size + 1, 3, none⟩ vR) (w.heap.size + 1) 69 #[.slice (some ⟨gL, 0, none⟩) n n, .slice (some ⟨gW, 0, none⟩) n n, .slice (some ⟨gU, 0, none⟩) n n, vR] ∧
    MsIn ((((W.setCell ⟨w.heap.size + 1, 0, none⟩ (.slice (some ⟨gL, 0, none⟩) n n)).setCell ⟨w.heap.size + 1, 1, none⟩ (.slice (some ⟨gW, 0, none⟩) n n)).setCell ⟨w.heap.size + 1, 2, none⟩ (.slice (some ⟨gU, 0, none⟩) n n)).setCell ⟨w.heap.size + 1, 3, none⟩ vR) w.heap.size n gL gW gU us vR tag m ∧
    Below w.heap.size w ((((W.setCell ⟨w.heap.size + 1, 0, none⟩ (.slice (some ⟨gL, 0, none⟩) n n)).setCell ⟨w.heap.size + 1, 1, none⟩ (.slice (some ⟨gW, 0, none⟩) n n)).setCell ⟨w.heap.size + 1, 2, none⟩ (.slice (some ⟨gU, 0, none⟩) n n)).setCell ⟨w.heap.size + 1, 3, none⟩ vR) := by
  have h0 := hP.R
  have h1 := h0.set_ 0 (.slice (some ⟨gL, 0, none⟩) n n)
  have h2 := h1.set_ 1 (.slice (some ⟨gW, 0, none⟩) n n)
  have h3 := h2.set_ 2 (.slice (some ⟨gU, 0, none⟩) n n)
  have i1 := hI.far h0 (by decide) (by decide) 0 (.slice (some ⟨gL, 0, none⟩) n n)
  have i2 := i1.far h1 (by decide) (by decide) 1 (.slice (some ⟨gW, 0, none⟩) n n)
  have i3 := i2.far h2 (by decide) (by decide) 2 (.slice (some ⟨gU, 0, none⟩) n n)
  have l : w.heap.size ≤ w.heap.size + 1 := by omega
  exact ⟨⟨(h0.cell 0).trans rfl, h0.free 0⟩, ⟨(h1.cell 1).trans rfl, h1.free 1⟩, ⟨(h2.cell 2).trans rfl, h2.free 2⟩, ⟨(h3.cell 3).trans rfl, h3.free 3⟩, h3.set_ 3 _, i3.far h3 (by decide) (by decide) 3 vR,
    (((hb.setCell (p := ⟨w.heap.size + 1, 0, none⟩) l _).setCell (p := ⟨w.heap.size + 1, 1, none⟩) l _).setCell (p := ⟨w.heap.size + 1, 2, none⟩) l _).setCell (p := ⟨w.heap.size + 1, 3, none⟩) l _⟩
set_option maxHeartbeats 4000000 in
theorem measures_any (A B : Option Addr) (q b r : Nat) (T : List Rw) (w : World) (ht : TabOk w A T) (hr : Rises T) :
    Calls Tryd.prog 26 #[.agg #[.slice A T.length q, .slice B b r]] w fun e w' => ∃ gL gW gU us vR tag, e = .returned (.agg #[.slice (some ⟨gL, 0, none⟩) T.length T.length, .slice (some ⟨gW, 0, none⟩) T.length T.length, .slice (some ⟨gU, 0, none⟩) T.length T.length, vR]) ∧
      MsIn w' w.heap.size T.length gL gW gU us vR tag (measC T T.length) ∧ Below w.heap.size w w' := by
  have hfew := ht.few
  obtain ⟨n, hn'⟩ : ∃ n, T.length = n := ⟨_, rfl⟩
  rw [hn'] at hfew ⊢
  have HN := Lib.hid hn'
  clear hn'
  have hm3 : ∀ (w : World), Sem.run Tryd.prog (Instr.makeSlice 24 (.int .i64 (n : Int)) (.int .i64 (n : Int))) w = _ := fun w => run_make_row' 24 3 (.int .i64 0) 8 Tryd.underlying24 int_info rfl .i64 .i64 n (by omega) (by omega) w
  have hm24 : ∀ (w : World), Sem.run Tryd.prog (Instr.makeSlice 67 (.int .i64 (n : Int)) (.int .i64 (n : Int))) w = _ := fun w => run_make_row' 67 24 (.slice none 0 0) 24 Tryd.underlying67 ints_info rfl .i64 .i64 n (by omega) (by omega) w
  generalize hz3 : madeCells #[Value.int .i64 0] n = z3 at *
  generalize hz24 : madeCells #[Value.slice none 0 0] n = z24 at *
  have HZ3 := Lib.hid hz3
  have HZ24 := Lib.hid hz24
  clear hz3 hz24
  go_enter Tryd.func26, Tryd.ntmps26
  go_upto_region 2 with fail
  generalize hW : (w.alloc (.cells #[.slice A n q, .slice B b r] 34)).alloc (.cells #[.slice none 0 0, .slice none 0 0, .slice none 0 0, .slice none 0 0] 69) = W at *
  have hWs : w.heap.size ≤ W.heap.size := by rw [← hW]; simp; omega
  have hWs2 : Hid (W.heap.size = w.heap.size + 2) := Lib.hid (by rw [← hW]; simp)
  have bW : Below w.heap.size w W := by rw [← hW]; exact below_step (below_new w _) (below_new _ _)
  have hX : Blk W w.heap.size 34 #[.slice A n q, .slice B b r] := by rw [← hW]; exact (Blk.new w 34 _).alloc _
  have hR : Blk W (w.heap.size + 1) 69 #[.slice none 0 0, .slice none 0 0, .slice none 0 0, .slice none 0 0] := by rw [← hW]; exact blk_two w _ 69 _
  clear hW
  go_cut [4] from 14 to 20 (fun u4 wx => MsBox w.heap.size n W u4 wx)
  case first =>
    go_region
    all_goals go_wp2
    all_goals go_meet
    all_goals
      exact msBox_of HZ3.out HZ24.out hWs (blk_drew (by repeat (first | (refine blk_new' ?_; simp; done) | refine Blk.alloc ?_ _)))
        (blk_drew (by repeat (first | (refine blk_new' ?_; simp; done) | refine Blk.alloc ?_ _))) (blk_drew (by repeat (first | (refine blk_new' ?_; simp; done) | refine Blk.alloc ?_ _))) (blk_drew (by repeat (first | (refine blk_new' ?_; simp; done) | refine Blk.alloc ?_ _)))
        (by omega) (by omega) (by omega) (by omega) (by omega) (below_step (below_step (below_step (below_step (below_new W _) (below_new _ _)) (below_new _ _)) (below_new _ _)) (below_drew _))
  case rest =>
    obtain ⟨gM, gL, gW, gU, tag0, rfl, hM0, hI0, hbx, hgM⟩ := hcut
    have hP0 : Pk wc w.heap.size n gM gL gW gU (.slice none 0 0) A B q b r := ⟨hM0, hX.on hbx, hR.on hbx, by have := hWs2.out; omega⟩
    have b0 := below_step bW hbx
    have e0 := hP0.x0
    have e1 := hP0.x1
    have HT := Lib.hid fun W (hb : Below w.heap.size w W) => ht.at_.below hb
    have HM := Lib.hid fun (i : Nat) (hi : i < T.length) W (hb : Below w.heap.size w W) => (ht.maps _ (getD_mem hi)).below hb
    have HF := Lib.hid fun (x : Int) W (hb : Below w.heap.size w W) => find_any A B q b r T x W (ht.at_.below hb) hr (by have := ht.few; omega)
    have HUF := Lib.hid (users_few T (fun r hr => (ht.maps r hr).len))
    rw [HN.out] at HM HF
    replace hgM : w.heap.size ≤ gM := by omega
    clear ht hX hR hbx bW hWs hWs2 hm3 hm24 HZ3 HZ24 hM0
    go_wp2
    clear e0 e1
    go_loopw [24] (fun s wr => ∃ (i : Nat) (us : Nat → Value) (vR : Value) (tag : Nat → Nat), s = .int .i64 (i : Int) ∧ i ≤ n ∧ Pk wr w.heap.size n gM gL gW gU vR A B q b r ∧
        MsIn wr w.heap.size n gL gW gU us vR tag (measC T i) ∧ Below w.heap.size w wr) (fun s _ => n - (intOf s).toNat)
    case atStart => exact ⟨0, _, _, tag0, rfl, by omega, hP0, hI0, b0⟩
    case round =>
      obtain ⟨i, us, vR, tag, rfl, hi0, hP, hI, hb⟩ := hrel
      clear hP0 hI0 b0
      have hgMl := hP.M.lt
      by_cases hi : i < n
      · have hiT : i < T.length := by rw [HN.out]; exact hi
        obtain ⟨g, rfl, hg, c1, c2, c3⟩ := (HT.out _ hb).at_ (i := i) hiT
        have hlen := (HM.out i hi _ hb).len
        have HMi := Lib.hid fun W (hb : Below w.heap.size w W) => (HM.out i hi W hb).row
        have HS := Lib.hid (show measC T (i + 1) = _ from measC_succ T i)
        unfold Ms.row at HS
        have hK := known_all T i
        have hw0 : Hid ((measC T i).wants i = 0) := Lib.hid (by rw [hK.wants, if_neg (by omega)]; rfl)
        have hl0 : Hid ((measC T i).len i = 0) := Lib.hid (by rw [hK.len, if_neg (by omega)])
        have hu0 : Hid (∀ t, ((measC T i).users t).length ≤ 1000000000000) := Lib.hid (fun t => by have := HUF.out i t; omega)
        have hr0 : Hid ((measC T i).ready.length ≤ i) := Lib.hid (nodup_le _ _ hK.nodup fun x hx => ((hK.ready x).1 hx).1)
        clear hK hiT
        unfold Rw.slice at c3
        generalize hrow : T.getD i Rw.nil = row at *
        have HROW := Lib.hid hrow
        clear hrow
        generalize row.code = rc at *
        generalize row.cls = rk at *
        generalize row.at_ = ra at *
        generalize row.cap = rq at *
        obtain ⟨l, hl⟩ : ∃ l, row.map = l := ⟨_, rfl⟩
        rw [hl] at HS c3 hlen HMi
        have HL := Lib.hid hl
        clear hl
        obtain ⟨p, hp⟩ : ∃ p, l.length = p := ⟨_, rfl⟩
        rw [hp] at c3 hlen
        have HP := Lib.hid hp
        clear hp
        generalize hmi : measC T i = mi at *
        have HMI := Lib.hid hmi
        clear hmi
        obtain ⟨m1, hm1⟩ : ∃ m1, mi.base i row = m1 := ⟨_, rfl⟩
        rw [hm1] at HS
        have HM1 := Lib.hid hm1
        clear hm1
        have hl1 : Hid (m1.len i ≤ 1) := Lib.hid (by rw [← HM1.out, base_len]; split <;> have := hl0.out <;> omega)
        have hw1 : Hid (m1.wants i = 0) := Lib.hid (by rw [← HM1.out, base_wants]; exact hw0.out)
        have hu1 : Hid (∀ t, (m1.users t).length ≤ 1000000000000) := Lib.hid (by rw [← HM1.out, base_users]; exact hu0.out)
        have hr1 : Hid (m1.ready.length ≤ i) := Lib.hid (by rw [← HM1.out, base_ready]; exact hr0.out)
        have hG1 := Blk.new wr 45 #[.int .i32 rc, .int .i64 rk, .slice ra p rq]
        have hI1 := hI.alloc (.cells #[.int .i32 rc, .int .i64 rk, .slice ra p rq] 45)
        have hP1 := hP.on (below_new wr (.cells #[.int .i32 rc, .int .i64 rk, .slice ra p rq] 45))
        have b1 := below_step hb (below_new wr (.cells #[.int .i32 rc, .int .i64 rk, .slice ra p rq] 45))
        obtain ⟨z0, z1, z2⟩ := hG1.cells3
        have y0 := hP1.m0
        obtain ⟨v0, f0, l0⟩ := hI1.cellL hi
        by_cases hle : l = []
        · have hp0 : p = 0 := by rw [← HP.out, hle]; rfl
          subst hp0
          have hLG : gL ≠ wr.heap.size := by
            obtain ⟨cs, a, _⟩ := hI.len
            have := a.lt
            omega
          have hI2 := hI1.setL hi 1
          have hm1e : (⟨upd mi.len i 1, mi.wants, mi.users, mi.ready⟩ : Ms) = m1 := by
            rw [← HM1.out]
            unfold Ms.base
            rw [if_pos (by rw [HL.out]; exact hle)]
          rw [hm1e] at hI2
          obtain ⟨cs, a, _⟩ := hI1.len
          have hP2 := hP1.set_ a (by decide) (by decide) i (.int .i64 ((1 : Nat) : Int))
          have hG2 := hG1.far (p := ⟨gL, i, none⟩) (Ne.symm hLG) (.int .i64 ((1 : Nat) : Int))
          have b2 := b1.setCell (p := ⟨gL, i, none⟩) (show w.heap.size ≤ gL from hI1.bL) (.int .i64 ((1 : Nat) : Int))
          have z3' := (hG2.cells3).2.2
          clear hm1e a
          go_wp2
          clear c1 c2 c3 z0 z1 z2 y0 v0 f0 z3' hG1 hG2 hI1 hP1 b1
          generalize ((wr.alloc (.cells #[.int .i32 rc, .int .i64 rk, .slice ra 0 rq] 45)).setCell ⟨gL, i, none⟩ (.int .i64 ((1 : Nat) : Int))) = X1 at *
          go_loopw [40] (fun s W2 => ∃ (j : Nat) (us' : Nat → Value) (tag' : Nat → Nat), s = .int .i64 (j : Int) ∧ j ≤ 0 ∧ Pk W2 w.heap.size n gM gL gW gU vR (some ⟨g, 0, none⟩) B q b r ∧
              MsIn W2 w.heap.size n gL gW gU us' vR tag' ((l.take j).foldl (Ms.target T i) m1) ∧ Below w.heap.size w W2) (fun s _ => 0 - (intOf s).toNat)
          case atStart => exact ⟨0, us, tag, rfl, by omega, hP2, hI2, b2⟩
          case round =>
            obtain ⟨j, us', tag', rfl, hj0, hP3, hI3, b3⟩ := hrel
            clear hP2 hI2 b2
            by_cases hj : j < 0
            · exact absurd hj (Nat.not_lt_zero _)
            · obtain rfl : j = 0 := by omega
              have htk : l.take 0 = l := by rw [← HP.out, List.take_length]
              rw [htk] at hI3
              clear htk
              have hw2 : (l.foldl (Ms.target T i) m1).wants i = ((l.countP (isS T) : Nat) : Int) := by
                have := (target_fold T i l m1).2.1 i
                rw [if_pos rfl, hw1.out] at this
                omega
              have hr2 : (l.foldl (Ms.target T i) m1).ready.length ≤ i := by rw [(target_fold T i l m1).2.2.2.2]; exact hr1.out
              generalize l.foldl (Ms.target T i) m1 = m2 at *
              obtain ⟨v1, f1, l1⟩ := hI3.cellW hi
              have n1 := hP3.m1
              by_cases hz : m2.wants i = 0
              · rw [hz] at v1
                have hS2 : Hid (m2.isReady i = ⟨m2.len, m2.wants, m2.users, m2.ready ++ [i]⟩) := Lib.hid (by unfold Ms.isReady; rw [if_pos hz])
                clear hw2 hz
                have n3 := hP3.m3
                have hown := hI3.ready
                have h63 : m2.ready.length + 1 ≤ maxLen := by unfold maxLen; omega
                have hby : (m2.ready.length + 1) * 8 ≤ 140737488355328 := by omega
                obtain ⟨i0, hi0', hz0, hz1, hz2⟩ := info_parts int_info
                have hown' := hown.alloc (.cells #[.int .i64 (i : Int)] 3)
                have hP4 := hP3.on (below_new _ (.cells #[.int .i64 (i : Int)] 3))
                have hbase := b3.size
                go_wp2_with (at_builtin; refine wpList_append_lies _ rfl _ _ _ rfl w.heap.size 3 i0 _ 1 8 Tryd.underlying24 hi0' hz0 hz1 hz2 rfl (by omega) _ m2.ready.length (cellsOf .i64 m2.ready) rfl hown' ⟨wr.heap.size, 0, none⟩ 1 1 [.int .i64 (i : Int)] rfl rfl (World.news_of_block (cs := #[.int .i64 (i : Int)]) (t := 3) (fr := (0, 0)) (heap_alloc_new wr _)) (by simp [Value.oneCell']) (by omega) h63 hby (by simp; omega) (wr.heap.size + 1) (by simp) ?_; intro gg cap w1 hown1 hgrow hat hlt; have kP := hP4.grown hown' hgrow; have k1 := kP.m3; have k2 := kP.M.free 3)
                go_roundw
                case rel =>
                  obtain ⟨tag'', hP6, hI6, b6⟩ := after_ready hI3 hP3 b3 hgM _ hown1 hgrow hat
                  exact ⟨i + 1, us', _, tag'', by go_num, by omega, hP6, by rw [HS.out, hS2.out]; exact hI6, b6⟩
                case measure => simp [intOf]; omega
              · have hS2 : Hid (m2.isReady i = m2) := Lib.hid (by unfold Ms.isReady; rw [if_neg hz])
                have hz' : (m2.wants i == 0) = false := by rw [beq_eq_false_iff_ne]; exact hz
                clear hw2
                go_wp2
                go_roundw
                case rel => exact ⟨i + 1, us', vR, tag', by go_num, by omega, hP3, by rw [HS.out, hS2.out]; exact hI3, b3⟩
                case measure => simp [intOf]; omega
        · have hp0 : 0 < p := by
            have := HP.out
            cases l with
            | nil => exact absurd rfl hle
            | cons x t => simp at this; omega
          have hm1e : mi = m1 := by
            rw [← HM1.out]
            unfold Ms.base
            rw [if_neg (by rw [HL.out]; exact hle)]
          have hI2 := hI1
          rw [hm1e] at hI2
          have hP2 := hP1
          have b2 := b1
          have hpz : ((p : Int) == 0) = false := by rw [beq_eq_false_iff_ne]; omega
          clear hm1e
          go_wp2
          clear c1 c2 c3 z0 z1 z2 y0 v0 f0 hG1 hI1 hP1 b1
          generalize wr.alloc (.cells #[.int .i32 rc, .int .i64 rk, .slice ra p rq] 45) = X1 at *
          go_loopw [40] (fun s W2 => ∃ (j : Nat) (us' : Nat → Value) (tag' : Nat → Nat), s = .int .i64 (j : Int) ∧ j ≤ p ∧ Pk W2 w.heap.size n gM gL gW gU vR (some ⟨g, 0, none⟩) B q b r ∧
              MsIn W2 w.heap.size n gL gW gU us' vR tag' ((l.take j).foldl (Ms.target T i) m1) ∧ Below w.heap.size w W2) (fun s _ => p - (intOf s).toNat)
          case atStart => exact ⟨0, us, tag, rfl, by omega, hP2, hI2, b2⟩
          case round =>
            obtain ⟨j, us', tag', rfl, hj0, hP3, hI3, b3⟩ := hrel
            clear hP2 hI2 b2
            by_cases hj : j < p
            · have hstep := foldl_take_succ (Ms.target T i) m1 l 0 (j := j) (by rw [HP.out]; exact hj)
              have hfold := target_fold T i (l.take j) m1
              have hlj : (l.take j).length ≤ 1000000 := by rw [List.length_take]; omega
              generalize (l.take j).foldl (Ms.target T i) m1 = m3 at *
              have hL3 : m3.len i ≤ 1000001 := by
                have h1 := hfold.1 i
                rw [if_pos rfl] at h1
                have h2 := List.countP_le_length (p := isN T) (l := l.take j)
                have := hl1.out
                omega
              have hW3 : 0 ≤ m3.wants i ∧ m3.wants i ≤ 1000000 := by
                have h1 := hfold.2.1 i
                rw [if_pos rfl, hw1.out] at h1
                have h2 := List.countP_le_length (p := isS T) (l := l.take j)
                omega
              obtain ⟨hW3a, hW3b⟩ := hW3
              have hU3 : ∀ t, (m3.users t).length ≤ 2000000000000 := fun t => by
                have h1 := hfold.2.2.2.1 t
                have h2 := hu1.out t
                omega
              have HST := Lib.hid hstep
              clear hstep hfold hlj
              obtain ⟨gm, rfl, hgm, hcm⟩ := HMi.out _ b3 (by intro e; rw [e] at HP; have := HP.out; simp at this; omega)
              have cm := hcm j (by rw [HP.out]; exact hj)
              clear hcm
              generalize l.getD j 0 = c at *
              have HC0 := fun W hb => HF.out c W hb
              have HI0 : idx T c = if hasC T c then some (lessC T c) else none := rfl
              have hlt : hasC T c = true → lessC T c < n := fun h => by
                unfold hasC at h
                have := (of_decide_eq_true h).1
                rw [HN.out] at this
                exact this
              have x0 := hP3.x0
              have x1 := hP3.x1
              cases hh : hasC T c with
              | true =>
                have ht := hlt hh
                rw [hh] at HC0 HI0
                rw [if_pos rfl] at HI0
                clear hlt hh
                generalize lessC T c = t at *
                have HC := Lib.hid HC0
                have HI := Lib.hid HI0
                have hTe : Hid (Ms.target T i m3 c = ⟨m3.len, upd m3.wants i (m3.wants i + 1), upd m3.users t (m3.users t ++ [i]), m3.ready⟩) := Lib.hid (by unfold Ms.target; rw [HI0])
                clear HC0 HI0
                go_wp2_with fail
                refine (HC.out _ b3).mono ?_
                rintro e W4 ⟨rfl, y4⟩
                clear x0 x1 cm
                have hI4 := hI3.on y4
                have hP4 := hP3.on y4
                have b4 := below_step b3 y4
                clear hI3 hP3 y4 b3
                obtain ⟨v1, f1, l1⟩ := hI4.cellW hi
                have hI5 := hI4.setW hi (m3.wants i + 1)
                obtain ⟨cw, aw, _⟩ := hI4.wants
                have hP5 := hP4.set_ aw (by decide) (by decide) i (.int .i64 (m3.wants i + 1))
                have b5 := b4.setCell (p := ⟨gW, i, none⟩) (show w.heap.size ≤ gW from hI4.bW) (.int .i64 (m3.wants i + 1))
                have n1 := hP4.m1
                go_upto_region 14 with fail
                clear v1 f1 n1 aw
                generalize W4.setCell ⟨gW, i, none⟩ (.int .i64 (m3.wants i + 1)) = W5 at *
                clear hI4 hP4 b4 l1
                go_cut [40] from 41 to 77 (fun s wx => s = .int .i64 (j : Int) ∧ ∃ (us' : Nat → Value) (tag' : Nat → Nat), Pk wx w.heap.size n gM gL gW gU vR (some ⟨g, 0, none⟩) B q b r ∧ MsIn wx w.heap.size n gL gW gU us' vR tag' (Ms.target T i m3 c) ∧ Below w.heap.size w wx)
                case first =>
                  obtain ⟨u1, f1, l1⟩ := hI5.cellU ht
                  have n2 := hP5.m2
                  have hgM' := hP5.M.lt
                  have hown := hI5.rows t ht
                  have hxs : (cellsOf .i64 (m3.users t)).length = (m3.users t).length := cellsOf_length _ _
                  have hu3 := hU3 t
                  have hbase := b5.size
                  have hi1 : (0 : Int) ≤ (t : Int) := Int.natCast_nonneg _
                  have hi2 : (t : Int) < (n : Int) := by omega
                  obtain ⟨i0, hi0', hz0, hz1, hz2⟩ := info_parts int_info
                  have aU := own_ne hown hP5.M (by decide)
                  obtain ⟨cu, au, _⟩ := hI5.users
                  have aU2 := own_ne hown au (by decide)
                  have hfz : W5.frozen? ⟨gU, t, none⟩ = false := f1
                  have hkeep : ∀ o, ((W5.alloc o).drew).cell? ⟨gM, 2, none⟩ = some (.slice (some ⟨gU, 0, none⟩) n n) ∧ ((W5.alloc o).drew).cell? ⟨gU, t, none⟩ = some (us' t) ∧ ((W5.alloc o).drew).frozen? ⟨gU, t, none⟩ = false := fun o => ⟨(hP5.on (below_new W5 o)).m2, ((hI5.alloc o).cellU ht).1, ((hI5.alloc o).cellU ht).2.1⟩
                  generalize hv : us' t = v at *
                  have HV := Lib.hid hv
                  clear hv au
                  have h63 : (m3.users t).length + 1 ≤ maxLen := by unfold maxLen; omega
                  have hby : ((m3.users t).length + 1) * 8 ≤ 140737488355328 := by omega
                  have hlU : ∀ o, gU < ((W5.alloc o).drew).heap.size := fun o => by simp; omega
                  have hlM : ∀ o, gM < ((W5.alloc o).drew).heap.size := fun o => by simp; omega
                  go_region_law ((refine step_append_lies _ (by rfl) _ _ _ (by rfl) w.heap.size 3 i0 _ 1 8 Tryd.underlying24 hi0' hz0 hz1 hz2 rfl (by omega) v (m3.users t).length (cellsOf .i64 (m3.users t)) (by rfl) ((hown.alloc _).drew) ⟨W5.heap.size, 0, none⟩ 1 1 [.int .i64 (i : Int)] (by rfl) (by rfl) (World.news_of_block (cs := #[.int .i64 (i : Int)]) (t := 3) (fr := (0, 0)) (heap_alloc_new W5 _)) (by simp [Value.oneCell']) (by omega) h63 hby (by simp; omega) (W5.heap.size + 1) (by simp) ?_; intro gg cap w1 hown1 hgrow hat hlt; have k1 := (hgrow.cell_far ⟨gU, t, none⟩ (hlU _) (Ne.symm aU2)).trans (hkeep _).2.1; have k2 := (hgrow.frozen_far ⟨gU, t, none⟩ (hlU _) (Ne.symm aU2)).trans (hkeep _).2.2; have k3 := (hgrow.cell_far ⟨gM, 2, none⟩ (hlM _) (Ne.symm aU)).trans (hkeep _).1))
                  all_goals go_wp2
                  all_goals go_meet
                  all_goals (have hv := HV.out; subst hv; exact ⟨rfl, by rw [hTe.out]; exact after_user hI5 hP5 b5 ht _ hown1 hgrow hat⟩)
                case rest =>
                  obtain ⟨rfl, us'', tag'', hP6, hI6, b6⟩ := hcut
                  go_wp2
                  go_roundw
                  case rel => exact ⟨j + 1, us'', tag'', by go_num, by omega, hP6, by rw [HST.out]; exact hI6, b6⟩
                  case measure => simp [intOf]; omega
              | false =>
                rw [hh] at HC0 HI0
                rw [if_neg (by decide)] at HI0
                clear hlt hh
                generalize lessC T c = t at *
                have HC := Lib.hid HC0
                have hTe : Hid (Ms.target T i m3 c = ⟨upd m3.len i (m3.len i + 1), m3.wants, m3.users, m3.ready⟩) := Lib.hid (by unfold Ms.target; rw [HI0])
                clear HC0 HI0
                go_wp2_with fail
                refine (HC.out _ b3).mono ?_
                rintro e W4 ⟨rfl, y4⟩
                clear x0 x1 cm
                have hI4 := hI3.on y4
                have hP4 := hP3.on y4
                have b4 := below_step b3 y4
                clear hI3 hP3 y4 b3
                obtain ⟨v1, f1, l1⟩ := hI4.cellL hi
                have hI5 := hI4.setL hi (m3.len i + 1)
                obtain ⟨cw, aw, _⟩ := hI4.len
                have hP5 := hP4.set_ aw (by decide) (by decide) i (.int .i64 ((m3.len i + 1 : Nat) : Int))
                have b5 := b4.setCell (p := ⟨gL, i, none⟩) (show w.heap.size ≤ gL from hI4.bL) (.int .i64 ((m3.len i + 1 : Nat) : Int))
                have n1 := hP4.m0
                clear aw
                go_wp2
                go_roundw
                case rel => exact ⟨j + 1, us', tag', by go_num, by omega, hP5, by rw [HST.out, hTe.out]; exact hI5, b5⟩
                case measure => simp [intOf]; omega
            · obtain rfl : j = p := by omega
              have htk : l.take j = l := by rw [← HP.out, List.take_length]
              rw [htk] at hI3
              clear htk
              have hw2 : (l.foldl (Ms.target T i) m1).wants i = ((l.countP (isS T) : Nat) : Int) := by
                have := (target_fold T i l m1).2.1 i
                rw [if_pos rfl, hw1.out] at this
                omega
              have hr2 : (l.foldl (Ms.target T i) m1).ready.length ≤ i := by rw [(target_fold T i l m1).2.2.2.2]; exact hr1.out
              generalize l.foldl (Ms.target T i) m1 = m2 at *
              obtain ⟨v1, f1, l1⟩ := hI3.cellW hi
              have n1 := hP3.m1
              by_cases hz : m2.wants i = 0
              · rw [hz] at v1
                have hS2 : Hid (m2.isReady i = ⟨m2.len, m2.wants, m2.users, m2.ready ++ [i]⟩) := Lib.hid (by unfold Ms.isReady; rw [if_pos hz])
                clear hw2 hz
                have n3 := hP3.m3
                have hown := hI3.ready
                have h63 : m2.ready.length + 1 ≤ maxLen := by unfold maxLen; omega
                have hby : (m2.ready.length + 1) * 8 ≤ 140737488355328 := by omega
                obtain ⟨i0, hi0', hz0, hz1, hz2⟩ := info_parts int_info
                have hown' := hown.alloc (.cells #[.int .i64 (i : Int)] 3)
                have hP4 := hP3.on (below_new _ (.cells #[.int .i64 (i : Int)] 3))
                have hbase := b3.size
                go_wp2_with (at_builtin; refine wpList_append_lies _ rfl _ _ _ rfl w.heap.size 3 i0 _ 1 8 Tryd.underlying24 hi0' hz0 hz1 hz2 rfl (by omega) _ m2.ready.length (cellsOf .i64 m2.ready) rfl hown' ⟨wr.heap.size, 0, none⟩ 1 1 [.int .i64 (i : Int)] rfl rfl (World.news_of_block (cs := #[.int .i64 (i : Int)]) (t := 3) (fr := (0, 0)) (heap_alloc_new wr _)) (by simp [Value.oneCell']) (by omega) h63 hby (by simp; omega) (wr.heap.size + 1) (by simp) ?_; intro gg cap w1 hown1 hgrow hat hlt; have kP := hP4.grown hown' hgrow; have k1 := kP.m3; have k2 := kP.M.free 3)
                go_roundw
                case rel =>
                  obtain ⟨tag'', hP6, hI6, b6⟩ := after_ready hI3 hP3 b3 hgM _ hown1 hgrow hat
                  exact ⟨i + 1, us', _, tag'', by go_num, by omega, hP6, by rw [HS.out, hS2.out]; exact hI6, b6⟩
                case measure => simp [intOf]; omega
              · have hS2 : Hid (m2.isReady i = m2) := Lib.hid (by unfold Ms.isReady; rw [if_neg hz])
                have hz' : (m2.wants i == 0) = false := by rw [beq_eq_false_iff_ne]; exact hz
                clear hw2
                go_wp2
                go_roundw
                case rel => exact ⟨i + 1, us', vR, tag', by go_num, by omega, hP3, by rw [HS.out, hS2.out]; exact hI3, b3⟩
                case measure => simp [intOf]; omega
      · obtain rfl : i = n := by omega
        obtain ⟨A', n', c', rfl⟩ := own_shape hI.ready
        obtain ⟨⟨z0, f0⟩, ⟨z1, f1⟩, ⟨z2, f2⟩, ⟨z3', f3⟩, hS, hI', hB'⟩ := store4 hP hI hb
        have n0 := hP.m0
        have n1 := hP.m1
        have n2 := hP.m2
        have n3 := hP.m3
        have q0 := (hS.cell 0).trans rfl
        have q1 := (hS.cell 1).trans rfl
        have q2 := (hS.cell 2).trans rfl
        have q3 := (hS.cell 3).trans rfl
        go_wp2
        exact bodyPost_ret (v := .agg #[.slice (some ⟨gL, 0, none⟩) i i, .slice (some ⟨gW, 0, none⟩) i i, .slice (some ⟨gU, 0, none⟩) i i, .slice A' n' c']) (by simp [results, Tryd.results26, go_sem, q0, q1, q2, q3]) rfl ⟨gL, gW, gU, us, _, tag, rfl, hI', hB'⟩
end Go.Proofs.YthmdapcieghbbabDoor
