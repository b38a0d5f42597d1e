/-
  Tables: a row's length is handed on to those that want it (tell).
-/
import Derived.Test.YthmdapcieghbbabDoorMI
import Derived.Deep.OwnRows
import Derived.Deep.RegionLaw
import Derived.OwnWalk
namespace Go.Proofs.YthmdapcieghbbabDoor
set_option linter.unusedVariables false
set_option maxRecDepth 20000
open Go.RowKit

theorem own_shape' {w : World} {B : Nat} {e : TypeId} {s : Nat} {v : Value} {n : Nat} {xs : List Value} (h : w.ownsRow B e s v n xs) : ∃ A k c, v = .slice A k c := by
  rcases h.2 with ⟨rfl, _⟩ | ⟨g, cap, cur, rfl, _⟩
  · exact ⟨_, _, _, rfl⟩
  · exact ⟨_, _, _, rfl⟩
theorem int_info' : (Tryd.prog.info? 3).map (fun i => (i.zero, i.size, i.bytes)) = some (some (.int .i64 0), 1, 8) := by kernel_rfl
/-- Blocks of other types than those of what is told. -/
def Oth (W w' : World) : Prop := ∀ (g : Nat) (t : TypeId) (cs : Array Value), t ≠ 3 → t ≠ 24 → t ≠ 69 → Blk W g t cs → Blk w' g t cs
theorem Oth.refl (W : World) : Oth W W := fun _ _ _ _ _ _ h => h
theorem Oth.set_ {W w' : World} (h : Oth W w') {g : Nat} {t : TypeId} {cs : Array Value} (hg : Blk w' g t cs) (ht : t = 3 ∨ t = 24 ∨ t = 69) (i : Nat) (u : Value) : Oth W (w'.setCell ⟨g, i, none⟩ u) := fun g' t' cs' h1 h2 h3 hb => by
  have := h g' t' cs' h1 h2 h3 hb
  refine this.far (this.ne_ hg ?_) u
  rintro rfl
  rcases ht with e | e | e
  · exact h1 e
  · exact h2 e
  · exact h3 e
theorem Oth.on {W w' w'' : World} (h : Oth W w') (hb : Below w'.heap.size w' w'') : Oth W w'' := fun g t cs h1 h2 h3 hg => (h g t cs h1 h2 h3 hg).on hb
theorem Oth.grown {W w' w'' : World} (h : Oth W w') {v : Value} {base k : Nat} {xs : List Value} (ho : w'.ownsRow base 3 1 v k xs) (hg : w'.grownBy w'' v.ownBlock) : Oth W w'' := fun g t cs h1 h2 h3 hb => by
  have := h g t cs h1 h2 h3 hb
  exact this.grown hg (own_ne ho this (Ne.symm h1))

/-- What is told, with its box. -/
structure Bx (W : World) (base n gM gL gW gU : Nat) (us : Nat → Value) (vR : Value) (tag : Nat → Nat) (m : Ms) : Prop where
  M : Blk W gM 69 #[.slice (some ⟨gL, 0, none⟩) n n, .slice (some ⟨gW, 0, none⟩) n n, .slice (some ⟨gU, 0, none⟩) n n, vR]
  I : MsIn W base n gL gW gU us vR tag m
  bM : base ≤ gM
section
variable {W W' : World} {base n gM gL gW gU : Nat} {us : Nat → Value} {vR : Value} {tag : Nat → Nat} {m : Ms}
theorem Bx.on (h : Bx W base n gM gL gW gU us vR tag m) (hb : Below W.heap.size W W') : Bx W' base n gM gL gW gU us vR tag m := ⟨h.M.on hb, h.I.on hb, h.bM⟩
theorem Bx.m0 (h : Bx W base n gM gL gW gU us vR tag m) : W.cell? ⟨gM, 0, none⟩ = some (.slice (some ⟨gL, 0, none⟩) n n) := (h.M.cell 0).trans rfl
theorem Bx.m1 (h : Bx W base n gM gL gW gU us vR tag m) : W.cell? ⟨gM, 1, none⟩ = some (.slice (some ⟨gW, 0, none⟩) n n) := (h.M.cell 1).trans rfl
theorem Bx.m2 (h : Bx W base n gM gL gW gU us vR tag m) : W.cell? ⟨gM, 2, none⟩ = some (.slice (some ⟨gU, 0, none⟩) n n) := (h.M.cell 2).trans rfl
theorem Bx.m3 (h : Bx W base n gM gL gW gU us vR tag m) : W.cell? ⟨gM, 3, none⟩ = some vR := (h.M.cell 3).trans rfl
theorem Bx.setL (h : Bx W base n gM gL gW gU us vR tag m) {i : Nat} (hi : i < n) (x : Nat) : Bx (W.setCell ⟨gL, i, none⟩ (.int .i64 (x : Nat))) base n gM gL gW gU us vR tag ⟨upd m.len i x, m.wants, m.users, m.ready⟩ := by
  obtain ⟨cs, a, _⟩ := h.I.len
  exact ⟨h.M.far (h.M.ne_ a (by decide)) _, h.I.setL hi x, h.bM⟩
theorem Bx.setW (h : Bx W base n gM gL gW gU us vR tag m) {i : Nat} (hi : i < n) (x : Int) : Bx (W.setCell ⟨gW, i, none⟩ (.int .i64 x)) base n gM gL gW gU us vR tag ⟨m.len, upd m.wants i x, m.users, m.ready⟩ := by
  obtain ⟨cs, a, _⟩ := h.I.wants
  exact ⟨h.M.far (h.M.ne_ a (by decide)) _, h.I.setW hi x, h.bM⟩
theorem bx_ready {w1 : World} {i g c : Nat} (h : Bx W base n gM gL gW gU us vR tag m) (o : Obj)
    (hown : w1.ownsRow base 3 1 (.slice (some ⟨g, 0, none⟩) (m.ready.length + 1) c) (m.ready.length + 1) (cellsOf .i64 m.ready ++ [.int .i64 (i : Nat)]))
    (hgr : (W.alloc o).grownBy w1 vR.ownBlock) (hat : vR.ownBlock = some g ∨ g = W.heap.size + 1) :
    ∃ tag', Bx (w1.setCell ⟨gM, 3, none⟩ (.slice (some ⟨g, 0, none⟩) (m.ready.length + 1) c)) base n gM gL gW gU us (.slice (some ⟨g, 0, none⟩) (m.ready.length + 1) c) tag' ⟨m.len, m.wants, m.users, m.ready ++ [i]⟩ := by
  have h6 := h.on (below_new W o)
  have hr := h6.I.ready
  obtain ⟨tag', h7⟩ := h6.I.growR i hown hgr (by rw [show (W.alloc o).heap.size = W.heap.size + 1 by simp]; exact hat)
  have hM7 := h6.M.grown hgr (own_ne hr h6.M (by decide))
  exact ⟨tag', hM7.set_ 3 _, h7.far hM7 (by decide) (by decide) _ _, h.bM⟩
end

set_option maxHeartbeats 4000000 in
theorem tell_any (W : World) (base n gM gL gW gU k : Nat) (us : Nat → Value) (vR : Value) (tag : Nat → Nat) (m : Ms) (h : Bx W base n gM gL gW gU us vR tag m) (hB : base ≤ W.heap.size) (hk : k < n) (hn : n ≤ 1000000) (hap : k ∉ m.users k)
    (hL : ∀ x, x < n → m.len x ≤ 40000000) (hk32 : m.len k ≤ 32) (hW : ∀ x, x < n → -1000000 ≤ m.wants x ∧ m.wants x ≤ 1000000) (hp : (m.users k).length ≤ 1000000000000) (hu : ∀ u ∈ m.users k, u < n) (hr : m.ready.length ≤ 1000000) :
    Calls Tryd.prog 27 #[.pointer (some ⟨gM, 0, none⟩), .int .i64 (k : Int)] W fun e w' => e = .returned (.tuple #[]) ∧ (∃ vR' tag', Bx w' base n gM gL gW gU us vR' tag' (m.tell k)) ∧ Oth W w' ∧ Below base W w' := by
  have hT : Hid (∀ j, j < (m.users k).length → ((m.users k).take (j + 1)).foldl (Ms.tell1 k) m = Ms.tell1 k (((m.users k).take j).foldl (Ms.tell1 k) m) ((m.users k).getD j 0)) := Lib.hid fun j hj => by
    rw [List.take_succ_eq_append_getElem hj, List.foldl_append, List.getD_eq_getElem?_getD, List.getElem?_eq_getElem hj]
    rfl
  have hF : Hid (∀ j, _) := Lib.hid fun j => tell_fold k ((m.users k).take j) m (fun hh => hap (List.mem_of_mem_take hh))
  have hU : Hid (∀ j, j < (m.users k).length → (m.users k).getD j 0 < n) := Lib.hid fun j hj => hu _ (getD_mem' hj)
  have hE : Hid (m.tell k = ((m.users k).take (m.users k).length).foldl (Ms.tell1 k) m) := Lib.hid (by rw [List.take_length]; rfl)
  have hcell : Hid (∀ j, j < (m.users k).length → (cellsOf .i64 (m.users k))[j]? = some (.int .i64 ((m.users k).getD j 0 : Nat))) := Lib.hid fun j hj => cellsOf_get _ _ hj
  have hcount : Hid (∀ j x, ((m.users k).take j).count x ≤ 1000000000000) := Lib.hid fun j x => by
    have h1 := List.count_le_length (a := x) (l := (m.users k).take j)
    rw [List.length_take] at h1
    omega
  have htl : Hid (∀ j, ((m.users k).take j).length ≤ 1000000000000) := Lib.hid fun j => by rw [List.length_take]; omega
  have hap0 := Lib.hid hap
  have HL := Lib.hid hL
  have HW := Lib.hid hW
  have hrow := h.I.rows k hk
  obtain ⟨A, nn, cc, hA⟩ := own_shape' hrow
  have hnn : nn = (m.users k).length := by
    rcases hrow.2 with ⟨e, e2⟩ | ⟨g, cap, cur, e, _⟩
    · rw [hA] at e; injection e with _ e _; omega
    · rw [hA] at e; injection e
  rw [hA] at hrow
  have c2 := h.m2
  obtain ⟨u1, f1, l1⟩ := h.I.cellU hk
  rw [hA] at u1
  have HA := Lib.hid hA
  clear hA hL hW hap hu hrow
  obtain ⟨p, hpp⟩ : ∃ p, (m.users k).length = p := ⟨_, rfl⟩
  rw [hpp] at hT hU hE hcell hp hnn
  subst hnn
  have HPP := Lib.hid hpp
  clear hpp
  go_enter Tryd.func27, Tryd.ntmps27
  go_wp2
  clear c2 u1 f1 l1
  go_loopw [14] (fun s wr => ∃ (j : Nat) (vR' : Value) (tag' : Nat → Nat), s = .int .i64 (j : Int) ∧ j ≤ nn ∧ Bx wr base n gM gL gW gU us vR' tag' (((m.users k).take j).foldl (Ms.tell1 k) m) ∧ Oth W wr ∧ Below base W wr) (fun s _ => nn - (intOf s).toNat)
  case atStart => exact ⟨0, vR, tag, rfl, by omega, h, Oth.refl W, Below.refl _ _⟩
  case round =>
    obtain ⟨j, vR', tag', rfl, hj0, hx, ho, hb⟩ := hrel
    clear h
    by_cases hj : j < nn
    · have hst := hT.out j hj
      have hf := hF.out j
      have hul := hU.out j hj
      have hcj := hcell.out j hj
      have hco := hcount.out j
      have htlj := htl.out j
      have hus : (((m.users k).take j).foldl (Ms.tell1 k) m).users = m.users := hf.2.2.1
      generalize ((m.users k).take j).foldl (Ms.tell1 k) m = m3 at *
      obtain ⟨hf1, hf2, _, hf4, _⟩ := hf
      have hrow := hx.I.rows k hk
      rw [hus, HA.out, HPP.out] at hrow
      obtain ⟨g, cap, hAe, hcap, hg1, hg2, hc⟩ := own_cells hrow (by omega)
      have cj := (hc j (by omega)).trans hcj
      injection hAe with hAe _ _
      subst hAe
      generalize (m.users k).getD j 0 = i at *
      have hlk : m3.len k ≤ 32 := by
        have h1 := hf1 k
        have h2 : ((m.users k).take j).count k = 0 := List.count_eq_zero.2 (fun hh => hap0.out (List.mem_of_mem_take hh))
        rw [h2] at h1
        omega
      have hli : m3.len i ≤ 40000000 + 1000000000000 * 32 := by
        have h1 := hf1 i
        have h2 := hco i
        have h3 := HL.out i hul
        have h4 : ((m.users k).take j).count i * m.len k ≤ 1000000000000 * 32 := Nat.mul_le_mul h2 hk32
        omega
      have hwi : -2000000000000 ≤ m3.wants i ∧ m3.wants i ≤ 1000000 := by
        have h1 := hf2 i
        have h2 := hco i
        have h3 := HW.out i hul
        omega
      obtain ⟨hwa, hwb⟩ := hwi
      have hr3 : m3.ready.length ≤ 2000000000000 := by omega
      have HST := Lib.hid hst
      clear hst hf1 hf2 hf4 hco htlj hus hrow hcj hc hcap
      go_wp2_with fail
      clear cj
      go_cut [14] from 15 to 61 (fun s wx => s = .int .i64 (j : Int) ∧ Bx wx base n gM gL gW gU us vR' tag' ⟨upd m3.len i (m3.len i + m3.len k), m3.wants, m3.users, m3.ready⟩ ∧ Oth W wx ∧ Below base W wx)
      case first =>
        have n0 := hx.m0
        obtain ⟨v1, f1, l1⟩ := hx.I.cellL hul
        obtain ⟨v2, f2, l2⟩ := hx.I.cellL hk
        have hlk' : (m3.len k : Int) ≤ 32 := by omega
        have hli' : (m3.len i : Int) ≤ 40000000 + 1000000000000 * 32 := by omega
        have hi1 : (0 : Int) ≤ (i : Int) := Int.natCast_nonneg _
        have hi2 : (i : Int) < (n : Int) := by omega
        have hk1 : (0 : Int) ≤ (k : Int) := Int.natCast_nonneg _
        have hk2 : (k : Int) < (n : Int) := by omega
        obtain ⟨cs, a, _⟩ := hx.I.len
        have hy := hx.setL hul (m3.len i + m3.len k)
        have hoy := ho.set_ a (.inl rfl) i (.int .i64 ((m3.len i + m3.len k : Nat) : Int))
        have hby := hb.setCell (p := ⟨gL, i, none⟩) (show base ≤ gL from hx.I.bL) (.int .i64 ((m3.len i + m3.len k : Nat) : Int))
        clear a
        rw [Int.natCast_add] at hy hoy hby
        go_region
        all_goals go_wp2
        all_goals go_meet
        all_goals exact ⟨rfl, hy.on (below_drew _), hoy.on (below_drew _), hby.drew⟩
      case rest =>
        obtain ⟨rfl, hx4, ho4, hb4⟩ := hcut
        have n1 := hx4.m1
        obtain ⟨v1, f1, l1⟩ := hx4.I.cellW hul
        have hx5 := hx4.setW hul (m3.wants i - 1)
        obtain ⟨cs, a, _⟩ := hx4.I.wants
        have ho5 := ho4.set_ a (.inl rfl) i (.int .i64 (m3.wants i - 1))
        have hb5 := hb4.setCell (p := ⟨gW, i, none⟩) (show base ≤ gW from hx4.I.bW) (.int .i64 (m3.wants i - 1))
        have n1' := hx5.m1
        obtain ⟨v1', f1', l1'⟩ := hx5.I.cellW hul
        have hm5 : Hid (Ms.tell1 k m3 i = Ms.isReady ⟨upd m3.len i (m3.len i + m3.len k), upd m3.wants i (m3.wants i - 1), m3.users, m3.ready⟩ i) := Lib.hid rfl
        have e1 : upd m3.wants i (m3.wants i - 1) i = m3.wants i - 1 := upd_same _ _ _
        have v1'' : (wc.setCell ⟨gW, i, none⟩ (.int .i64 (m3.wants i - 1))).cell? ⟨gW, i, none⟩ = some (.int .i64 (m3.wants i - 1)) := v1'.trans (congrArg (fun z => some (Value.int .i64 z)) e1)
        clear v1' a
        by_cases hz : m3.wants i - 1 = 0
        · have hS2 : Hid (Ms.isReady ⟨upd m3.len i (m3.len i + m3.len k), upd m3.wants i (m3.wants i - 1), m3.users, m3.ready⟩ i = ⟨upd m3.len i (m3.len i + m3.len k), upd m3.wants i (m3.wants i - 1), m3.users, m3.ready ++ [i]⟩) := Lib.hid (by
            unfold Ms.isReady
            exact if_pos (e1.trans hz))
          have hz' : (m3.wants i - 1 == 0) = true := by rw [beq_iff_eq]; exact hz
          have n3 := hx5.m3
          have hown := hx5.I.ready
          have h63 : m3.ready.length + 1 ≤ maxLen := by unfold maxLen; omega
          have hby : (m3.ready.length + 1) * 8 ≤ 140737488355328 := by omega
          obtain ⟨i0, hi0', hz0, hz1, hz2⟩ := info_parts int_info'
          have hown' := hown.alloc (.cells #[.int .i64 (i : Int)] 3)
          have hx6 := hx5.on (below_new _ (.cells #[.int .i64 (i : Int)] 3))
          have hbase := hb5.size
          have hbase' : base ≤ (wc.setCell ⟨gW, i, none⟩ (.int .i64 (m3.wants i - 1))).heap.size := by omega
          clear hz e1
          go_upto_region 6 with fail
          clear n1 v1 f1 n1' v1'' f1' hz'
          generalize wc.setCell ⟨gW, i, none⟩ (.int .i64 (m3.wants i - 1)) = W5 at *
          go_wp2_with (at_builtin; refine wpList_append_lies _ rfl _ _ _ rfl base 3 i0 _ 1 8 Tryd.underlying24 hi0' hz0 hz1 hz2 rfl (by omega) _ m3.ready.length (cellsOf .i64 m3.ready) rfl hown' ⟨W5.heap.size, 0, none⟩ 1 1 [.int .i64 (i : Int)] rfl rfl (World.news_of_block (cs := #[.int .i64 (i : Int)]) (t := 3) (fr := (0, 0)) (heap_alloc_new W5 _)) (by simp [Value.oneCell']) (by omega) h63 hby (by simp; omega) (W5.heap.size + 1) (by simp) ?_; intro gg cap w1 hown1 hgrow hat hlt; have kM := hx6.M.grown hgrow (own_ne hown' hx6.M (by decide)); have k1 := (kM.cell 3).trans rfl; have k2 := kM.free 3)
          go_roundw
          case rel =>
            obtain ⟨tag'', hx7⟩ := bx_ready hx5 _ hown1 hgrow hat
            have ho6 := (ho5.on (below_new _ (.cells #[.int .i64 (i : Int)] 3))).grown hown' hgrow
            have hb6 := (hb5.alloc hbase' (.cells #[.int .i64 (i : Int)] 3)).grown hgrow (by simp; omega) (fun k hk => (hown'.lt k hk).1)
            have hM6 := hx6.M.grown hgrow (own_ne hown' hx6.M (by decide))
            exact ⟨j + 1, by omega, by omega, ⟨_, tag'', by rw [HST.out, hm5.out, hS2.out]; exact hx7⟩, ho6.set_ hM6 (.inr (.inr rfl)) _ _, hb6.setCell (p := ⟨gM, 3, none⟩) hx5.bM _⟩
          case measure => simp [intOf]; omega
        · have hS2 : Hid (Ms.isReady ⟨upd m3.len i (m3.len i + m3.len k), upd m3.wants i (m3.wants i - 1), m3.users, m3.ready⟩ i = ⟨upd m3.len i (m3.len i + m3.len k), upd m3.wants i (m3.wants i - 1), m3.users, m3.ready⟩) := Lib.hid (by
            unfold Ms.isReady
            exact if_neg (fun h => hz (e1.symm.trans h)))
          have hz' : (m3.wants i - 1 == 0) = false := by rw [beq_eq_false_iff_ne]; exact hz
          clear hz e1
          go_wp2
          go_roundw
          case rel => exact ⟨j + 1, by omega, by omega, vR', tag', by rw [HST.out, hm5.out, hS2.out]; exact hx5⟩
          case measure => simp [intOf]; omega
    · obtain rfl : j = nn := by omega
      rw [← hE.out] at hx
      have hx := Lib.hid hx
      go_wp2
      go_end0
      exact ⟨rfl, ⟨vR', tag', hx.out⟩, ho, hb⟩
end Go.Proofs.YthmdapcieghbbabDoor
