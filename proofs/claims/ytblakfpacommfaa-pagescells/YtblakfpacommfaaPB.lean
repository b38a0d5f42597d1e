/-
  pages: New's loop.
-/
import Derived.Test.YtblakfpacommfaaPBm
import Derived.StillTailTactics
import Derived.Deep.MidRow
import Derived.Deep.Cut
namespace Go.Proofs.Ytblakfpacommfaa
set_option linter.unusedVariables false
set_option maxRecDepth 20000
open Go.RowKit
theorem getD_of {l : List (Int × Nat)} {i : Nat} (h : i < l.length) : l.getD i (0, 0) = l[i] := by simp [List.getD, h]
attribute [local go_sem] zero48 zero43

/-- The whole table is read. -/
theorem load43_list {ops : Array Oper} {rest : List Oper} {op : Oper} {a : Act} {w : World} {Q : Exit → Act → World → Prop} {g : Nat} {cs : Array Value} (hgd : op.guard = none) (x : Operand) (ho : op.op = .load 43 x)
    (hx : a.eval x = .pointer (some ⟨g, 0, none⟩)) (hb : Blk w g 43 cs) (hs : cs.size = 4352) (h : wpList Try.prog ops Q rest (a.put op.dst (.agg cs)) w) : wpList Try.prog ops Q (op :: rest) a w :=
  wpList_load_mid hgd 43 x ho g 0 hx cs.toList (.array 4352 42) (fun j v hv => by rw [Nat.zero_add, hb.cell]; simpa using hv) (by kernel_rfl) rfl (by rw [Array.length_toList, hs]; kernel_rfl) h

set_option maxHeartbeats 1000000 in
theorem new_any (A : Option Addr) (q : Nat) (l : List (Int × Nat)) (w : World) (ht : CellsAt w A l) (hn : l.length ≤ 2000000) (hx : ∀ x ∈ l, -2147483648 ≤ x.1 ∧ x.1 ≤ 2147483647 ∧ x.2 < 65536) (Q : Ending → World → Prop)
    (HK : ∀ w1 g P cs, Below w.heap.size w w1 → Filled w1 w.heap.size g l P cs → Calls Try.prog 16 #[.agg cs] w1 fun e w' => ∃ v, e = .returned v ∧ Q e w') :
    Calls Try.prog 8 #[.slice A l.length q] w Q := by
  have HT := Lib.hid fun W (hb : Below w.heap.size w W) => ht.below hb
  have HX := Lib.hid hx
  clear hx ht
  obtain ⟨n, hn'⟩ : ∃ n, l.length = n := ⟨_, rfl⟩
  rw [hn'] at hn ⊢
  go_enter Try.func8, Try.ntmps8
  go_wp2
  go_loopw [5, 6, 7, 10] (fun _ _ _ t wr => ∃ (i : Nat) (P : Nat → Option Nat) (cs : Array Value), t = .int .i64 (i : Int) ∧ i ≤ n ∧ Filled wr w.heap.size w.heap.size (l.take i) P cs ∧ Below w.heap.size w wr) (fun _ _ _ t _ => n - (intOf t).toNat)
  case atStart => exact ⟨0, _, _, rfl, by omega, Filled.start w, below_new w _⟩
  case round =>
    obtain ⟨i, P, cs, rfl, hin, hf, hb⟩ := hrel
    by_cases hlt : i < n
    · have hil : i < l.length := by omega
      obtain ⟨g, o, rfl, hg, c1, c2⟩ := (HT.out _ hb).at_ hil
      have hxi := HX.out (l.getD i (0, 0)) (by rw [getD_of hil]; exact List.getElem_mem hil)
      have htk : l.take (i + 1) = l.take i ++ [l.getD i (0, 0)] := by rw [List.take_add_one, List.getElem?_eq_getElem hil, getD_of hil]; rfl
      have htk' := Lib.hid htk
      clear htk
      generalize l.getD i (0, 0) = cv at *
      obtain ⟨c, v⟩ := cv
      obtain ⟨x1, x2, x3⟩ := hxi
      dsimp only at c1 c2 x1 x2 x3
      have HW := Lib.hid fun W => within_any c W x1 x2
      go_wp2_with fail
      refine (HW.out _).mono ?_
      rintro e w1 ⟨rfl, rfl⟩
      clear HW
      by_cases hic : 0 ≤ c ∧ c ≤ 1114111
      · rw [show isChar c = true from decide_eq_true hic]
        obtain ⟨y1, y2⟩ := hic
        obtain ⟨c, rfl⟩ := Int.eq_ofNat_of_zero_le y1
        have HS := Lib.hid fun W => split_any c W (by omega)
        have hf1 := hf.on (below_new wr (.cells #[.int .i32 (c : Int), .int .u16 (v : Int)] 38))
        have hb1 := below_step hb (below_new wr (.cells #[.int .i32 (c : Int), .int .u16 (v : Int)] 38))
        have cc := Lib.hid fun j => (Blk.new wr 38 #[.int .i32 (c : Int), .int .u16 (v : Int)]).cell j
        have hl1 := Lib.hid (show (wr.alloc (.cells #[.int .i32 (c : Int), .int .u16 (v : Int)] 38)).heap.size = wr.heap.size + 1 by simp)
        have k1 := hf1.at_ (c / 256) (by omega)
        rw [← hf1.tab.cell] at k1
        have hq : c / 256 < 4352 := by omega
        have hr : c % 256 < 256 := by omega
        go_wp2_with fail
        refine (HS.out _).mono ?_
        rintro e w1 ⟨rfl, rfl⟩
        clear HS
        generalize hG : wr.heap.size = G at *
        generalize wr.alloc (.cells #[.int .i32 (c : Int), .int .u16 (v : Int)] 38) = W at *
        have cv := cc.out 1
        have z1 : (0 : Int) ≤ ((c / 256 : Nat) : Int) := by omega
        have z2 : ((c / 256 : Nat) : Int) < 4352 := by omega
        have z3 : (0 : Int) ≤ ((c % 256 : Nat) : Int) := by omega
        have z4 : ((c % 256 : Nat) : Int) < 256 := by omega
        have hput := Lib.hid fun b (h : P (c / 256) = some b) => hf1.put (v := v) (show c ≤ 1114111 by omega) h
        generalize hA : c / 256 = a at *
        generalize hB : c % 256 = b at *
        rcases hpa : P a with _ | g1
        · rw [hpa] at k1
          have k1' : W.cell? ⟨w.heap.size, a, none⟩ = some (.pointer none) := k1
          have hbig := hb1.size
          have hlay := Lib.hid (hf1.lay (c := c) v (by omega) (by rw [hA]; exact hpa) hbig)
          rw [hA, hB] at hlay
          have hGW : W.heap.size = G + 1 := by rw [hl1.out]
          have hgG : w.heap.size < G := by have := hf.tab.lt; omega
          have hT := (hf1.tab.alloc (.cells noughts 48)).set_ a (.pointer (some ⟨W.heap.size, 0, none⟩))
          have hT1 := hf1.tab.alloc (.cells noughts 48)
          have fz1 : (W.alloc (.cells noughts 48)).frozen? ⟨w.heap.size, a, none⟩ = false := hT1.free a
          have e1 : (W.alloc (.cells noughts 48)).cell? ⟨w.heap.size, a, none⟩ = some (.pointer none) := by rw [cell_on (below_new W _) k1' hf1.tab.lt]
          have e2 : ((W.alloc (.cells noughts 48)).setCell ⟨w.heap.size, a, none⟩ (.pointer (some ⟨W.heap.size, 0, none⟩))).cell? ⟨w.heap.size, a, none⟩ = some (.pointer (some ⟨W.heap.size, 0, none⟩)) := by
            rw [hT.cell, Array.getElem?_setIfInBounds_self_of_lt (by rw [hf1.size]; exact hq)]
          have e3 : ((W.alloc (.cells noughts 48)).setCell ⟨w.heap.size, a, none⟩ (.pointer (some ⟨W.heap.size, 0, none⟩))).cell? ⟨G, 1, none⟩ = some (.int .u16 (v : Int)) :=
            cell_far (cell_on (below_new W _) (cc.out 1) (by omega)) (by omega)
          have hN := (Blk.new W 48 noughts).far (p := ⟨w.heap.size, a, none⟩) (by simp only; omega) (.pointer (some ⟨W.heap.size, 0, none⟩))
          have e4 := hN.cell b
          rw [noughts_at hr] at e4
          have e5 := hN.free b
          have hb3 : Below w.heap.size w ((W.alloc (.cells noughts 48)).setCell ⟨w.heap.size, a, none⟩ (.pointer (some ⟨W.heap.size, 0, none⟩))) := (below_step hb1 (below_new W _)).setCell (by simp) _
          have hcm : (W.alloc (.cells noughts 48)).setCell ⟨w.heap.size, a, none⟩ (.pointer (some ⟨W.heap.size, 0, none⟩)) = (W.setCell ⟨w.heap.size, a, none⟩ (.pointer (some ⟨G + 1, 0, none⟩))).alloc (.cells noughts 48) := by
            rw [World.setCell_alloc_past _ _ _ _ hf1.tab.lt, hGW]
          rw [hcm] at e2 e3 e4 e5 hb3 hlay
          rw [hGW] at e2 e4 e5 hlay
          clear hT hT1 hN
          go_wp2
          generalize hW3 : (W.setCell ⟨w.heap.size, a, none⟩ (.pointer (some ⟨G + 1, 0, none⟩))).alloc (.cells noughts 48) = W3 at *
          generalize hG2 : G + 1 = G2 at *
          go_still_tail 8, (by kernel_rfl)
          change wpList _ _ _ _ _ W3.drew
          obtain ⟨P', cs', _, hp1⟩ := hlay.out
          have hp2 : Filled (W3.drew.setCell ⟨G2, b, none⟩ (.int .u16 (v : Nat))) w.heap.size w.heap.size (l.take i ++ [((c : Int), v)]) P' cs' := hp1.on ⟨rfl, rfl, rfl, Nat.le_refl _, fun _ _ => rfl⟩
          have hb2 : Below w.heap.size w W3.drew := below_step hb3 (below_drew W3)
          have e4' : W3.drew.cell? ⟨G2, b, none⟩ = _ := e4
          have e5' : W3.drew.frozen? ⟨G2, b, none⟩ = false := e5
          clear hW3 hlay e4 e5 e1 e2 e3 fz1
          generalize W3.drew = W2 at *
          go_wp2
          go_roundw
          case rel => exact ⟨i + 1, P', cs', rfl, by omega, by rw [htk'.out]; exact hp2, hb2.setCell (by simp only; omega) _⟩
          case measure => simp [intOf]; omega
        · rw [hpa] at k1
          have k1' : W.cell? ⟨w.heap.size, a, none⟩ = some (.pointer (some ⟨g1, 0, none⟩)) := k1
          obtain ⟨hbn, ds, hd1, hd2, hd3⟩ := hf1.blk a g1 hq hpa
          have hd4 := hd3 b hr
          rw [← hd1.cell] at hd4
          have hd5 : W.drew.cell? ⟨g1, b, none⟩ = _ := hd4
          have hd6 : W.drew.frozen? ⟨g1, b, none⟩ = false := hd1.free b
          have hp1 := hput.out g1 hpa
          clear hd3 hd4 hput
          go_wp2
          go_still_tail 8, (by kernel_rfl)
          change wpList _ _ _ _ _ W.drew
          have hp2 : Filled (W.drew.setCell ⟨g1, b, none⟩ (.int .u16 (v : Nat))) w.heap.size w.heap.size (l.take i ++ [((c : Int), v)]) P cs := hp1.on ⟨rfl, rfl, rfl, Nat.le_refl _, fun _ _ => rfl⟩
          have hb2 : Below w.heap.size w W.drew := below_step hb1 (below_drew W)
          generalize W.drew = W2 at *
          go_wp2
          go_roundw
          case rel => exact ⟨i + 1, P, cs, rfl, by omega, by rw [htk'.out]; exact hp2, hb2.setCell (by exact hbn) _⟩
          case measure => simp [intOf]; omega
      · rw [show isChar c = false from decide_eq_false hic]
        go_wp2
        go_roundw
        case rel => exact ⟨i + 1, P, cs, rfl, by omega, by rw [htk'.out]; exact (hf.on (below_new _ _)).skip hic, below_step hb (below_new _ _)⟩
        case measure => simp [intOf]; omega
    · obtain rfl : i = n := by omega
      rw [← hn', List.take_length] at hf
      have hL := hf.tab
      have hS := hf.size
      have HC := HK wr w.heap.size P cs hb hf
      clear hf
      go_upto_region 11 with (fail)
      refine wp_region_list (load43_list rfl (.tmp 3) rfl rfl hL hS ?_)
      clear hL hS
      go_wp2_with fail
      refine HC.mono ?_
      rintro e w3 ⟨v, rfl, hv⟩
      go_wp2
      exact hv
end Go.Proofs.Ytblakfpacommfaa
