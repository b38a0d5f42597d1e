/-
  The document's rows in memory; the program's row of one (rows' Own).
-/
import Derived.Test.YthmdapcieghbbabDoorMT
namespace Go.Proofs.YthmdapcieghbbabDoor
set_option linter.unusedVariables false
set_option maxRecDepth 20000
open Go.RowKit

/-- A row of the document. -/
structure Rf where
  code : Int
  cls : Int
  at_ : Option Addr
  cap : Nat
  map : List Int
def Rf.nil : Rf := ⟨0, 0, none, 0, []⟩
def Rf.slice (r : Rf) : Value := .slice r.at_ r.map.length r.cap
def Rf.val (r : Rf) : Value := .agg #[.int .i64 r.code, .int .i64 r.cls, r.slice]
/-- The slice with the address A leads to these numbers. -/
def RowJ (w : World) (A : Option Addr) (l : List Int) : Prop := l ≠ [] → ∃ g, A = some ⟨g, 0, none⟩ ∧ g < w.heap.size ∧ ∀ i, i < l.length → w.cell? ⟨g, i, none⟩ = some (.int .i64 (l.getD i 0))
theorem RowJ.below {w w' : World} {A : Option Addr} {l : List Int} (h : RowJ w A l) (hb : Below w.heap.size w w') : RowJ w' A l := fun hn => by
  obtain ⟨g, e, hl, hc⟩ := h hn
  exact ⟨g, e, Nat.lt_of_lt_of_le hl hb.size, fun i hi => (hb.cell (p := ⟨g, _, none⟩) hl).trans (hc i hi)⟩
/-- A row of the document such as the program may be handed. -/
structure RfOk (w : World) (r : Rf) : Prop where
  row : RowJ w r.at_ r.map
  code : In32 r.code
  map : ∀ x ∈ r.map, In32 x
  len : r.map.length ≤ 1000000
theorem RfOk.below {w w' : World} {r : Rf} (h : RfOk w r) (hb : Below w.heap.size w w') : RfOk w' r := ⟨h.row.below hb, h.code, h.map, h.len⟩

theorem own_mapAt {w : World} {B : Nat} {v : Value} {l : List Int} {code cls : Int} (h : w.ownsRow B 21 1 v l.length (cellsI l)) (hl : l.length ≤ 1000000) :
    ∃ r : Rw, v = r.slice ∧ r.code = code ∧ r.cls = cls ∧ r.map = l ∧ MapAt w r ∧ w.ownsRow B 21 1 r.slice r.map.length (cellsI r.map) := by
  obtain ⟨A, c, rfl⟩ := own_len' h
  refine ⟨⟨code, cls, A, c, l⟩, rfl, rfl, rfl, rfl, ⟨fun hn => ?_, fun hA => ?_, hl⟩, h⟩
  · obtain ⟨g, cap, e, h1, h2, h3, h4⟩ := own_cells h (List.length_pos_iff.2 hn)
    injection e with e _ _
    exact ⟨g, e, h3, fun i hi => (h4 i hi).trans (cellsI_get l hi)⟩
  · have hA : A = none := hA
    subst hA
    rcases h.2 with ⟨e, _⟩ | ⟨g, cap, cur, e, _⟩
    · injection e
    · cases e

set_option maxHeartbeats 4000000 in
theorem ownRow_any (r : Rf) (w : World) (h : RfOk w r) : Calls Tryd.prog 10 #[r.val] w (fun e w' => ∃ rw_ : Rw, e = .returned rw_.val ∧ rw_.code = r.code ∧ rw_.cls = r.cls ∧ rw_.map = r.map ∧ MapAt w' rw_ ∧ w'.ownsRow w.heap.size 21 1 rw_.slice rw_.map.length (cellsI rw_.map) ∧ Below w.heap.size w w') := by
  have HR := Lib.hid fun W (hb : Below w.heap.size w W) => h.row.below hb
  have HI := Lib.hid h.map
  obtain ⟨hc1, hc2⟩ := h.code
  have hlen := h.len
  unfold Rf.val
  unfold Rf.slice
  clear h
  generalize r.code = rc at *
  generalize r.cls = rk at *
  generalize r.at_ = ra at *
  generalize r.cap = rq at *
  generalize r.map = l at *
  obtain ⟨p, hp⟩ : ∃ p, l.length = p := ⟨_, rfl⟩
  have HP := Lib.hid hp
  rw [hp] at hlen ⊢
  clear hp
  have hX := ((Blk.new w 28 #[.int .i64 rc, .int .i64 rk, .slice ra p rq]).alloc (.cells #[.int .i32 0, .int .i64 0, .slice none 0 0] 45)).alloc (.cells #[.int .i32 rc, .int .i64 rk, .slice none 0 0] 45)
  have hR := (blk_two w (.cells #[.int .i64 rc, .int .i64 rk, .slice ra p rq] 28) 45 #[.int .i32 0, .int .i64 0, .slice none 0 0]).alloc (.cells #[.int .i32 rc, .int .i64 rk, .slice none 0 0] 45)
  have hO := blk_three w (.cells #[.int .i64 rc, .int .i64 rk, .slice ra p rq] 28) (.cells #[.int .i32 0, .int .i64 0, .slice none 0 0] 45) 45 #[.int .i32 rc, .int .i64 rk, .slice none 0 0]
  have bW := below_step (below_step (below_new w (.cells #[.int .i64 rc, .int .i64 rk, .slice ra p rq] 28)) (below_new _ (.cells #[.int .i32 0, .int .i64 0, .slice none 0 0] 45))) (below_new _ (.cells #[.int .i32 rc, .int .i64 rk, .slice none 0 0] 45))
  obtain ⟨x0, x1, x2⟩ := hX.cells3
  have hx' := (((Blk.new w 28 #[.int .i64 rc, .int .i64 rk, .slice ra p rq]).alloc (.cells #[.int .i32 0, .int .i64 0, .slice none 0 0] 45)).cells3)
  obtain ⟨w0, w1, w2⟩ := hx'
  have hwr : IntKind.i32.wrap rc = rc := by rw [IntKind.wrap_i32]; omega
  obtain ⟨i0, hi0', hz0, hz1, hz2⟩ := info_parts rune_info
  go_enter Tryd.func10, Tryd.ntmps10
  go_wp2
  generalize ((w.alloc (.cells #[.int .i64 rc, .int .i64 rk, .slice ra p rq] 28)).alloc (.cells #[.int .i32 0, .int .i64 0, .slice none 0 0] 45)).alloc (.cells #[.int .i32 rc, .int .i64 rk, .slice none 0 0] 45) = V at *
  clear x0 x1 x2 w0 w1 w2 hX hwr
  go_loopw [15] (fun s wr => ∃ (k : Nat) (v : Value), s = .int .i64 (k : Int) ∧ k ≤ p ∧ wr.ownsRow w.heap.size 21 1 v (l.take k).length (cellsI (l.take k)) ∧ Blk wr (w.heap.size + 1 + 1) 45 #[.int .i32 rc, .int .i64 rk, v] ∧ Blk wr (w.heap.size + 1) 45 #[.int .i32 0, .int .i64 0, .slice none 0 0] ∧ Below w.heap.size w wr) (fun s _ => p - (intOf s).toNat)
  case atStart => exact ⟨0, _, rfl, by omega, own_nil _ _ _, hO, hR, bW⟩
  case round =>
    obtain ⟨k, v, rfl, hk0, hv, hO1, hR1, hb⟩ := hrel
    clear hO hR bW
    by_cases hk : k < p
    · have hkl : (l.take k).length = k := by rw [List.length_take, HP.out]; omega
      rw [hkl] at hv
      obtain ⟨A, c, rfl⟩ := own_len' hv
      obtain ⟨g, rfl, hg, hc⟩ := HR.out _ hb (by intro e; have := HP.out; rw [e] at this; simp at this; omega)
      have c1 := hc k (by rw [HP.out]; exact hk)
      have hin := HI.out (l.getD k 0) (by rw [List.getD_eq_getElem?_getD, List.getElem?_eq_getElem (by rw [HP.out]; exact hk)]; exact List.getElem_mem _)
      have htk : Hid (l.take (k + 1) = l.take k ++ [l.getD k 0]) := Lib.hid (by rw [List.take_succ_eq_append_getElem (by rw [HP.out]; exact hk), List.getD_eq_getElem?_getD, List.getElem?_eq_getElem (by rw [HP.out]; exact hk)]; rfl)
      obtain ⟨hin1, hin2⟩ := hin
      have hwr : IntKind.i32.wrap (l.getD k 0) = l.getD k 0 := by rw [IntKind.wrap_i32]; omega
      clear hc
      generalize l.getD k 0 = x at *
      generalize l.take k = lk at *
      have HKL := Lib.hid hkl
      clear hkl
      have o2 := (hO1.cell 2).trans rfl
      have hv2 := hv.alloc (.cells #[.int .i32 x] 21)
      have hO2 := hO1.alloc (.cells #[.int .i32 x] 21)
      have h63 : k + 1 ≤ maxLen := by unfold maxLen; omega
      have hby : (k + 1) * 4 ≤ 140737488355328 := by omega
      have hbase := hb.size
      go_wp2_with (at_builtin; refine wpList_append_lies _ rfl _ _ _ rfl w.heap.size 21 i0 _ 1 4 Tryd.underlying41 hi0' hz0 hz1 hz2 rfl (by omega) (.slice A k c) k (cellsI lk) rfl hv2 ⟨wr.heap.size, 0, none⟩ 1 1 [.int .i32 x] rfl rfl (World.news_of_block (cs := #[.int .i32 x]) (t := 21) (fr := (0, 0)) (heap_alloc_new wr _)) (by simp [Value.oneCell']) (by omega) h63 hby (by simp; omega) (wr.heap.size + 1) (by simp) ?_; intro gg cap w3 hown3 hgrow hat hlt; have hO3 := hO2.grown hgrow (own_ne hv2 hO2 (by decide)); have k1 := (hO3.cell 2).trans rfl; have k2 := hO3.free 2)
      go_roundw
      case rel =>
        have hR3 := (hR1.alloc (.cells #[.int .i32 x] 21)).grown hgrow (own_ne hv2 (hR1.alloc _) (by decide))
        have hb3 := (below_step hb (below_new wr (.cells #[.int .i32 x] 21))).grown hgrow (by simp; omega) (fun kk h => (hv2.lt kk h).1)
        refine ⟨k + 1, _, by go_num, by omega, ?_, hO3.set_ 2 _, hR3.far (by simp) _, hb3.setCell (p := ⟨w.heap.size + 1 + 1, 2, none⟩) (by simp; omega) _⟩
        rw [htk.out, List.length_append, cellsI_append, HKL.out]
        exact ownsRow_setCell_other hown3 (own_ne hown3 hO3 (by decide)) _
      case measure => simp [intOf]; omega
    · obtain rfl : k = p := by omega
      have htk : l.take k = l := by rw [← HP.out, List.take_length]
      rw [htk, HP.out] at hv
      obtain ⟨A, c, rfl⟩ := own_len' hv
      obtain ⟨o0, o1, o2⟩ := hO1.cells3
      obtain ⟨⟨z0, f0⟩, ⟨z1, f1⟩, ⟨z2, f2⟩, hZ'⟩ := hR1.store3 (.int .i32 rc) (.int .i64 rk) (.slice A k c)
      obtain ⟨q0, q1, q2⟩ := hZ'.cells3
      have hb' := below_set3 hb (show w.heap.size ≤ w.heap.size + 1 by omega) (.int .i32 rc) (.int .i64 rk) (.slice A k c)
      have hv' := (ownsRow_setCell_other (ownsRow_setCell_other (ownsRow_setCell_other hv (own_ne hv hR1 (by decide)) (.int .i32 rc)) (own_ne hv hR1 (by decide)) (.int .i64 rk)) (own_ne hv hR1 (by decide)) (.slice A k c) : World.ownsRow (((wr.setCell ⟨w.heap.size + 1, 0, none⟩ (.int .i32 rc)).setCell ⟨w.heap.size + 1, 1, none⟩ (.int .i64 rk)).setCell ⟨w.heap.size + 1, 2, none⟩ (.slice A k c)) _ _ _ _ _ _)
      obtain ⟨rw_, e1, e2, e3, e4, e5, e6⟩ := own_mapAt (code := rc) (cls := rk) (l := l) (by rw [HP.out]; exact hv') (by rw [HP.out]; exact hlen)
      have HE : Hid (rw_.val = .agg #[.int .i32 rc, .int .i64 rk, .slice A k c]) := Lib.hid (by unfold Rw.val; rw [e2, e3, ← e1])
      clear e1 htk
      have E2 := Lib.hid e2
      have E3 := Lib.hid e3
      have E4 := Lib.hid e4
      clear e2 e3 e4
      go_wp2
      exact bodyPost_ret (v := .agg #[.int .i32 rc, .int .i64 rk, .slice A k c]) (by simp [results, Tryd.results10, go_sem, q0, q1, q2]) rfl ⟨rw_, by rw [HE.out], E2.out, E3.out, E4.out, e5, e6, hb'⟩
end Go.Proofs.YthmdapcieghbbabDoor
