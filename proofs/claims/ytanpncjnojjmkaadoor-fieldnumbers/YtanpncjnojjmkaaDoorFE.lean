/-
  Rows of texts; the document's Split: its contract.
-/
import Derived.Test.YtanpncjnojjmkaaDoorFD
import Derived.Test.YtanpncjnojjmkaaDoorFMathB
import Derived.Maps.AppendAt
import Derived.Deep.LoopGhost
import Derived.Deep.Onto
import Derived.Lib.OwnKind
import Derived.Laws.MakeOwn
import Derived.OwnWalk
import Derived.BigQuiet
import Derived.Deep.QuietTactic
namespace Go.Proofs.YtanpncjnojjmkaaDoor
set_option linter.unusedVariables false
set_option maxRecDepth 20000
open Go.RowKit

theorem own_form {w : World} {B n : Nat} {e : TypeId} {u : Value} {xs : List Value} (h : w.ownsRow B e 1 u n xs) : ∃ ao cap, u = .slice ao n cap := by
  rcases h.2 with ⟨hv, h0⟩ | ⟨g, cap, cur, hv, _⟩
  · exact ⟨none, 0, by rw [hv, h0]⟩
  · exact ⟨_, _, hv⟩
theorem own_kept {w w' : World} {B n size : Nat} {e : TypeId} {u : Value} {xs : List Value} (h : w.ownsRow B e size u n xs) (hb : Below w.heap.size w w') : w'.ownsRow B e size u n xs := by
  refine ⟨h.1, ?_⟩
  rcases h.2 with h0 | ⟨g, cap, cur, hv, hB, hg, r⟩
  · exact .inl h0
  · refine .inr ⟨g, cap, cur, hv, hB, ?_, r⟩
    have hlt : g < w.heap.size := by
      rcases Nat.lt_or_ge g w.heap.size with h' | h'
      · exact h'
      · simp [Array.getElem?_eq_none h'] at hg
    exact (hb.block g hlt).trans hg
theorem own_empty (w : World) (e : TypeId) : (w.alloc (.cells #[] e)).ownsRow w.heap.size e 1 (.slice (some ⟨w.heap.size, 0, none⟩) 0 0) 0 [] :=
  ⟨rfl, .inr ⟨w.heap.size, 0, #[], rfl, Nat.le_refl _, Blk.new w e #[], Nat.le_refl _, by unfold maxLen; omega, rfl, rfl⟩⟩
theorem str_info : (Tryd.prog.info? 9).map (fun i => (i.zero, i.size, i.bytes)) = some (some (.string ⟨#[]⟩), 1, 16) := by kernel_rfl

/-- The cells of texts. -/
def strC (l : List (List UInt8)) : List Value := l.map fun x => Value.string ⟨x.toArray⟩
theorem strC_append (l r : List (List UInt8)) : strC (l ++ r) = strC l ++ strC r := by simp [strC]
theorem strC_get (l : List (List UInt8)) {i : Nat} (h : i < l.length) : (strC l)[i]? = some (.string ⟨(l.getD i []).toArray⟩) := by simp [strC, List.getD, h]
/-- A slice of texts. -/
def IsT (w : World) (v : Value) (l : List (List UInt8)) : Prop := ∃ A c, v = .slice A l.length c ∧ (l ≠ [] → ∃ g, A = some ⟨g, 0, none⟩ ∧ g < w.heap.size ∧ ∀ i, i < l.length → w.cell? ⟨g, i, none⟩ = some (.string ⟨(l.getD i []).toArray⟩))
theorem IsT.below {w w' : World} {v : Value} {l : List (List UInt8)} (h : IsT w v l) (hb : Below w.heap.size w w') : IsT w' v l := by
  obtain ⟨A, c, e, h1⟩ := h
  refine ⟨A, c, e, fun hn => ?_⟩
  obtain ⟨g, e1, h2, h3⟩ := h1 hn
  exact ⟨g, e1, Nat.lt_of_lt_of_le h2 hb.size, fun i hi => (hb.cell (p := ⟨g, i, none⟩) h2).trans (h3 i hi)⟩
theorem own_isT {w : World} {B : Nat} {v : Value} {l : List (List UInt8)} (h : w.ownsRow B 9 1 v l.length (strC l)) : IsT w v l := by
  rcases h.2 with ⟨rfl, hn⟩ | ⟨g, cap, cur, rfl, hb, hh, hnc, hm, hs, hx⟩
  · have : l = [] := List.eq_nil_of_length_eq_zero hn
    subst this
    exact ⟨none, 0, rfl, fun h => absurd rfl h⟩
  · refine ⟨some ⟨g, 0, none⟩, cap, rfl, fun hne => ⟨g, rfl, Blk.lt hh, fun i hi => ?_⟩⟩
    rw [Blk.cell hh i]
    have h1 := strC_get l hi
    rw [← hx, List.getElem?_take, if_pos (by omega)] at h1
    simpa using h1
/-- It answers a slice of texts. -/
def RetT (l : List (List UInt8)) (w : World) (e : Ending) (w' : World) : Prop := ∃ v, e = .returned v ∧ IsT w' v l ∧ Below w.heap.size w w'

theorem ext_one (s : ByteArray) (i : Nat) (h : i < s.size) : s.extract i (i + 1) = ⟨#[s.data.toList.getD i 0]⟩ := by
  apply ByteArray.ext
  apply Array.toList_inj.1
  have hl : i < s.data.toList.length := by rw [Array.length_toList]; exact h
  have h' : i < s.data.size := h
  rw [ByteArray.data_extract, Array.toList_extract, List.extract_eq_take_drop, List.drop_eq_getElem_cons hl, show i + 1 - i = 1 by omega]
  simp [List.getD, Array.getElem?_eq_getElem h']
theorem cat_one (x : List UInt8) (s : ByteArray) (i : Nat) (h : i < s.size) : (⟨x.toArray⟩ : ByteArray) ++ s.extract i (i + 1) = ⟨(x ++ [s.data.toList.getD i 0]).toArray⟩ := by
  rw [ext_one s i h]
  exact cat_arrays x [_]

theorem slice_one (s : ByteArray) (i : Nat) (h : i < s.size) (w : World) : (Instr.slice 9 (.string s) (some (.int .i64 (i : Int))) (some (.int .i64 ((i : Int) + 1))) none).run Tryd.prog w = .ok (.string (s.extract i (i + 1))) w := by
  rw [run_slice_string w 9 s .i64 .i64 i (i + 1) Tryd.underlying9 (by omega) (by omega) (by omega)]
  simp

set_option maxHeartbeats 4000000 in
theorem refSplit_any (s : ByteArray) (c : UInt8) (w : World) (hs : s.size ≤ 1000000) : Calls Tryd.prog 10 #[.string s, .int .u8 (c.toNat : Nat)] w (RetT (spl c s.data.toList []) w) := by
  obtain ⟨i0, hi, hz0, hz1, hz2⟩ := info_parts str_info
  obtain ⟨bs, hbs⟩ : ∃ bs, Hid (s.data.toList = bs) := ⟨_, rfl⟩
  rw [hbs.out]
  have hlen : bs.length = s.size := by rw [← hbs.out]; exact Array.length_toList
  go_enter Tryd.func10, Tryd.ntmps10
  go_wp2
  go_loopw [5, 6, 7] (fun u5 u6 t wr => ∃ (i : Nat) (dn : List (List UInt8)) (x : List UInt8), t = .int .i64 i ∧ u6 = .string ⟨x.toArray⟩ ∧ wr.ownsRow w.heap.size 9 1 u5 dn.length (strC dn) ∧ i ≤ s.size ∧ dn.length ≤ i ∧ x.length ≤ i ∧ spl c bs [] = dn ++ spl c (bs.drop i) x ∧ Below w.heap.size w wr) (fun _ _ t _ => s.size - (intOf t).toNat)
  case atStart => exact ⟨0, [], [], rfl, rfl, own_empty w 9, by omega, by simp, by simp, by simp, below_new _ _⟩
  case round =>
    obtain ⟨i, dn, x, rfl, rfl, hrow, hil, hdn, hx, hsp, hb⟩ := hrel
    have hbsz := hb.size
    obtain ⟨ao, cp, rfl⟩ := own_form hrow
    have HS := Lib.hid hsp
    clear hsp
    by_cases hlt : i < s.size
    · obtain ⟨b, hb1⟩ : ∃ b, bs.getD i 0 = b := ⟨_, rfl⟩
      have hb2 : s[i].toNat = b.toNat := by rw [← hb1, ← hbs.out, byte_at s i hlt]
      have hdr : bs.drop i = b :: bs.drop (i + 1) := by rw [drop_get 0 (by omega), hb1]
      by_cases hc : b = c
      · subst hc
        have hst : spl b (bs.drop i) x = x :: spl b (bs.drop (i + 1)) [] := by rw [hdr, spl, if_pos rfl]
        have HST := Lib.hid hst
        clear hst hdr
        go_wp2_with (at_builtin; refine wpList_append_own _ rfl (.tmp 20) (.tmp 22) 24 rfl w.heap.size 9 i0 (.string ⟨#[]⟩) 1 16 Tryd.underlying24 hi hz0 hz1 hz2 rfl (by decide) _ dn.length _ rfl (hrow.alloc _) ⟨wr.heap.size, 0, none⟩ 1 1 [.string ⟨x.toArray⟩] rfl rfl (cell_one_new _ _ _) (by simp [Value.oneCell']) (by unfold maxLen; omega) (by omega) (by simp; omega) ?_; intro v' w2 hown2 hgrow _; have hb2 : Below w.heap.size w w2 := (hb.alloc hbsz _).grown hgrow (by simp; omega) (fun k hk => (hrow.lt k hk).1); clear hgrow)
        go_roundw
        case rel => exact ⟨i + 1, dn ++ [x], [], by go_num, rfl, by rw [strC_append]; simpa [strC] using hown2, by omega, by simp; omega, by simp, by rw [HS.out, HST.out]; simp, hb2⟩
        case measure => simp [intOf]; omega
      · have hne : ((b.toNat : Int) == (c.toNat : Int)) = false := by
          rw [beq_eq_false_iff_ne]
          intro e
          exact hc (UInt8.toNat_inj.1 (by omega))
        have hst : spl c (bs.drop i) x = spl c (bs.drop (i + 1)) (x ++ [b]) := by rw [hdr, spl, if_neg hc]
        have hcat := cat_one x s i hlt
        rw [hbs.out, hb1] at hcat
        have HST := Lib.hid hst
        have HC := Lib.hid hcat
        clear hst hdr hcat
        have hsl := slice_one s i hlt wr
        have hsz : (s.extract i (i + 1)).size = 1 := by rw [ByteArray.size_extract]; omega
        go_wp2
        go_roundw
        case rel => exact ⟨i + 1, dn, x ++ [b], by go_num, congrArg Value.string HC.out, hrow, by omega, by omega, by simp; omega, by rw [HS.out, HST.out], hb⟩
        case measure => simp [intOf]; omega
    · obtain rfl : i = s.size := by omega
      have hend : spl c bs [] = dn ++ [x] := by rw [HS.out, List.drop_of_length_le (by omega), spl]
      have HE := Lib.hid hend
      clear HS hend
      go_wp2_with (at_builtin; refine wpList_append_own _ rfl (.tmp 31) (.tmp 33) 24 rfl w.heap.size 9 i0 (.string ⟨#[]⟩) 1 16 Tryd.underlying24 hi hz0 hz1 hz2 rfl (by decide) _ dn.length _ rfl (hrow.alloc _) ⟨wr.heap.size, 0, none⟩ 1 1 [.string ⟨x.toArray⟩] rfl rfl (cell_one_new _ _ _) (by simp [Value.oneCell']) (by unfold maxLen; omega) (by omega) (by simp; omega) ?_; intro v' w2 hown2 hgrow _; have hb2 : Below w.heap.size w w2 := (hb.alloc hbsz _).grown hgrow (by simp; omega) (fun k hk => (hrow.lt k hk).1); clear hgrow)
      go_ret
      exact ⟨_, rfl, own_isT (B := w.heap.size) (by rw [HE.out]; simpa [strC] using hown2), hb2⟩
end Go.Proofs.YtanpncjnojjmkaaDoor
