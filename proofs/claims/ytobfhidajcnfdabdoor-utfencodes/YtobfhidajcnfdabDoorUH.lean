/-
  utf.Decode: its contract.
-/
import Derived.Test.YtobfhidajcnfdabDoorUG
import Derived.Maps.AppendAt
import Derived.Deep.LoopGhost
import Derived.Deep.Onto
import Derived.Lib.OwnKind
import Derived.Laws.MakeOwn
import Derived.OwnWalk
import Derived.RangeFuncBox
namespace Go.Proofs.YtobfhidajcnfdabDoor
set_option linter.unusedVariables false
set_option maxRecDepth 20000
open Go.RowKit Go.Lib

theorem own_form {w : World} {B n : Nat} {e : TypeId} {u : Value} {xs : List Value} (h : w.ownsRow B e 1 u n xs) : ∃ ao cap, u = .slice ao n cap := by
  rcases h.2 with ⟨hv, h0⟩ | ⟨g, cap, cur, hv, _⟩
  · exact ⟨none, 0, by rw [hv, h0]⟩
  · exact ⟨_, _, hv⟩
theorem own_base {w : World} {B B' n size : Nat} {e : TypeId} {u : Value} {xs : List Value} (h : w.ownsRow B e size u n xs) (hb : B' ≤ B) : w.ownsRow B' e size u n xs := by
  refine ⟨h.1, ?_⟩
  rcases h.2 with h0 | ⟨g, cap, cur, hv, hB, r⟩
  · exact .inl h0
  · exact .inr ⟨g, cap, cur, hv, by omega, r⟩

theorem own_kept {w w' : World} {B n size : Nat} {e : TypeId} {u : Value} {xs : List Value} (h : w.ownsRow B e size u n xs) (hb : Below w.heap.size w w') : w'.ownsRow B e size u n xs := by
  refine ⟨h.1, ?_⟩
  rcases h.2 with h0 | ⟨g, cap, cur, hv, hB, hg, r⟩
  · exact .inl h0
  · refine .inr ⟨g, cap, cur, hv, hB, ?_, r⟩
    have hlt : g < w.heap.size := by
      rcases Nat.lt_or_ge g w.heap.size with h' | h'
      · exact h'
      · simp [Array.getElem?_eq_none h'] at hg
    exact (hb.block g hlt).trans hg
theorem bel_new {V W : World} (h : Below V.heap.size V W) (o : Obj) : Below V.heap.size V (W.alloc o) := h.alloc h.size o
theorem below_step' {B : Nat} {w w1 w2 : World} (h : Below B w w1) (h' : Below w1.heap.size w1 w2) (hB : B ≤ w1.heap.size := by omega) : Below B w w2 := h.trans (h'.mono hB)
theorem rune_info : (Tryd.prog.info? 21).map (fun i => (i.zero, i.size, i.bytes)) = some (some (.int .i32 0), 1, 4) := by kernel_rfl
theorem make_runes (w : World) (c : Nat) (hc : c ≤ 1000000000) : ∃ w', (Instr.makeSlice 29 (.int .i64 0) (.int .i64 (c : Int))).run Tryd.prog w = .ok (.slice (some ⟨w.heap.size, 0, none⟩) 0 c) w' ∧ w'.ownsRow w.heap.size 21 1 (.slice (some ⟨w.heap.size, 0, none⟩) 0 c) 0 [] ∧ w.grownBy w' none := by
  obtain ⟨i0, hi, hz0, hz1, hz2⟩ := info_parts rune_info
  exact run_make_own w w.heap.size 29 21 i0 (.int .i32 0) 1 Tryd.underlying29 hi hz0 hz1 .i64 .i64 c (by rw [hz2]; omega) (by unfold maxLen; omega) (Nat.le_refl _)

/-- It answers the characters, in a row of its own. -/
def RetC (cs : List Nat) (w : World) (e : Ending) (w' : World) : Prop := ∃ u, e = .returned (.tuple #[u, .int .i64 0]) ∧ w'.ownsRow w.heap.size 21 1 u cs.length (cellsOf .i32 cs) ∧ Below w.heap.size w w'

/-- The same, and the slice is not nil. -/
def RetC2 (cs : List Nat) (w : World) (e : Ending) (w' : World) : Prop := ∃ g cp, e = .returned (.tuple #[.slice (some ⟨g, 0, none⟩) cs.length cp, .int .i64 0]) ∧ w'.ownsRow w.heap.size 21 1 (.slice (some ⟨g, 0, none⟩) cs.length cp) cs.length (cellsOf .i32 cs) ∧ Below w.heap.size w w'

theorem decode_bad (s : ByteArray) (w : World) (he : Env w) (hs : s.size ≤ 1000000) (cs : List Nat) (rest : List UInt8) (h : Splits s.data.toList cs rest) (hr : rest ≠ []) :
    Calls Tryd.prog 12 #[.string s] w (RetV (.tuple #[.slice none 0 0, .int .i64 6]) w) := by
  have H := Lib.hid (valid_any s w he hs cs rest h _ false (.inr ⟨hr, rfl, rfl⟩))
  go_enter Tryd.func12, Tryd.ntmps12
  go_wp2_with fail
  refine H.out.mono ?_
  rintro e w1 ⟨rfl, y1⟩
  go_wp2
  go_ret2
  exact ⟨rfl, y1⟩

set_option maxHeartbeats 4000000 in
theorem decode_ok2 (s : ByteArray) (w : World) (he : Env w) (hs : s.size ≤ 1000000) (cs : List Nat) (h : Splits s.data.toList cs []) :
    Calls Tryd.prog 12 #[.string s] w (RetC2 cs w) := by
  have H := Lib.hid (valid_any s w he hs cs [] h _ true (.inl ⟨rfl, rfl, rfl⟩))
  have hbytes : s.data.toList = encs cs := by simpa using h.2.1
  have hlen : s.data.toList.length = s.size := Array.length_toList
  have hcl : cs.length ≤ 1000000 := by
    have := (encs_length_le cs).1
    rw [← hbytes, hlen] at this
    omega
  have hall := Lib.hid h.1
  obtain ⟨i0, hi, hz0, hz1, hz2⟩ := info_parts rune_info
  clear h
  go_enter Tryd.func12, Tryd.ntmps12
  go_wp2_with fail
  refine H.out.mono ?_
  rintro e w1 ⟨rfl, y1⟩
  obtain ⟨w2, hmk, hown2, hg2⟩ := make_runes w1 cs.length (by omega)
  have bw2 : Below w1.heap.size w1 w2 := (Below.refl _ w1).grown hg2 (Nat.le_refl _) (by simp)
  have b2 := below_step y1 bw2
  have hB := y1.size
  clear hg2
  go_wp2_with fail
  go_loopg [0, 6] cs.length (fun m s0 u6 wx => ∃ (dn left : List Nat) (s' : ByteArray), Hid (cs = dn ++ left) ∧ left.length = m ∧ s0 = .string s' ∧ Hid (s'.data.toList = encs left) ∧ (∃ g cp, u6 = .slice (some ⟨g, 0, none⟩) dn.length cp) ∧ wx.ownsRow w1.heap.size 21 1 u6 dn.length (cellsOf .i32 dn) ∧ Below w1.heap.size w1 wx)
  case atStart => exact ⟨[], cs, s, rfl, rfl, rfl, hbytes, ⟨_, _, rfl⟩, by simpa [cellsOf] using hown2, bw2⟩
  case round =>
    obtain ⟨dn, left, s', hsp, hm, rfl, hsb, ⟨ga, cp, rfl⟩, hrow, hb1⟩ := hrel
    have hb1s := hb1.size
    have hsl : s'.data.toList.length = s'.size := Array.length_toList
    rcases left with _ | ⟨c, left⟩
    · have hs0 : s'.size = 0 := by rw [← hsl, hsb.out]; rfl
      obtain rfl : s' = ⟨#[]⟩ := by
        apply ByteArray.ext
        exact Array.eq_empty_of_size_eq_zero hs0
      have hcs : cs = dn := by simpa using hsp.out
      go_wp2
      go_ret2
      exact ⟨ga, cp, rfl, own_base hrow hB, below_step y1 hb1⟩
    · have hc : isC c := hall.out c (by rw [hsp.out]; simp)
      have hallL : ∀ x ∈ c :: left, isC x := fun x hx => hall.out x (by rw [hsp.out]; exact List.mem_append_right _ hx)
      have hf : FirstIs s'.data.toList c (wid c) := by rw [hsb.out]; exact (splits_encs hallL).first
      have hwp := wid_pos c
      have hwl := wid_le c
      have hd0 : decide (0 < wid c) = true := by simp; omega
      have hes : (encs (c :: left)).length = wid c + (encs left).length := by rw [encs_cons, List.length_append, enc_length]
      have hall2 := (encs_length_le cs).2
      have hks : wid c ≤ s'.size := by rw [← hsl, hsb.out]; omega
      have hs6 : s'.size ≤ 1000000 := by
        have h1 : (encs cs).length = (encs dn).length + (encs (c :: left)).length := by rw [hsp.out, encs_append, List.length_append]
        rw [← hsb.out, hsl, ← hbytes, hlen] at h1
        omega
      have hne := full_list (s := s') (by omega)
      have HX := Lib.hid (next_any s' _ (he.kept (below_step y1 hb1)) hs6 c (wid c) hf)
      have hdl : (s'.extract (wid c) s'.size).data.toList = encs left := by
        rw [drop_list s' _ hks, hsb.out, encs_cons, ← enc_length c, List.drop_left]
      have hlenc : dn.length + 1 ≤ cs.length := by rw [hsp.out]; simp
      simp only [nextV, hd0] at HX
      generalize wid c = k at *
      replace hdl := Lib.hid hdl
      clear hf hes hall2 hallL hd0 hsl
      go_wp2_with fail
      refine HX.out.mono ?_
      rintro e w3 ⟨rfl, y3⟩
      have hrow3 := own_kept hrow y3
      have hb3 := below_step' hb1 y3
      have hb3s := hb3.size
      go_wp2_with (at_builtin; refine wpList_append_own _ rfl (.tmp 27) (.tmp 29) 29 rfl w1.heap.size 21 i0 (.int .i32 0) 1 4 Tryd.underlying29 hi hz0 hz1 hz2 rfl (by decide) _ dn.length _ rfl (hrow3.alloc _) ⟨w3.heap.size, 0, none⟩ 1 1 [.int .i32 (c : Nat)] rfl rfl (cell_one_new _ _ _) (by simp [Value.oneCell']) (by unfold maxLen; omega) (by omega) (by simp; omega) ?_; intro v' w4 hown4 hgrow _; have hb4 : Below w1.heap.size w1 w4 := (hb3.alloc hb3s _).grown hgrow (by simp; omega) (fun k hk => (hrow3.lt k hk).1); clear hgrow)
      go_roundg left.length
      case measure => simp at hm; omega
      case rel => exact ⟨dn ++ [c], left, _, by rw [Hid, hsp.out]; simp, rfl, rfl, hdl, (by simpa using ownsRow_succ hown4), by rw [cellsOf_append]; simpa [cellsOf] using hown4, hb4⟩
theorem decode_ok (s : ByteArray) (w : World) (he : Env w) (hs : s.size ≤ 1000000) (cs : List Nat) (h : Splits s.data.toList cs []) :
    Calls Tryd.prog 12 #[.string s] w (RetC cs w) := (decode_ok2 s w he hs cs h).mono fun _ _ ⟨_, _, h1, h2, h3⟩ => ⟨_, h1, h2, h3⟩
end Go.Proofs.YtobfhidajcnfdabDoor
