/-
  The document's Is, Bytes: their contracts.
  The document's number, First: their contracts.
  utf.Last: its contract.
  utf.Valid, the laws' Cut, their fixed fact.
  utf.Decode: its contract.
-/
import Derived.Test.YtccbofaefpbhlaaDoorUC
import Derived.Lib.AppendIntMem
import Derived.Maps.AppendAt
import Derived.Deep.LoopGhost
import Derived.Deep.Onto
import Derived.Lib.OwnKind
import Derived.Laws.MakeOwn
import Derived.OwnWalk
import Derived.RangeFuncBox
namespace Go.Proofs.YtccbofaefpbhlaaDoor.Utf
set_option linter.unusedVariables false
set_option maxRecDepth 100000
open Go.RowKit Go.Lib

theorem refIs_any (c : Int) (w : World) : Calls Tryd.prog 68 #[.int .i64 c] w (RetV (.bool (isI c)) w) := by
  have hr : (c < 0 ∧ isI c = false) ∨ (0 ≤ c ∧ 1114111 < c ∧ isI c = false) ∨ (0 ≤ c ∧ c ≤ 1114111 ∧ c < 55296 ∧ isI c = true) ∨ (0 ≤ c ∧ c ≤ 1114111 ∧ 55296 ≤ c ∧ c ≤ 57343 ∧ isI c = false) ∨ (0 ≤ c ∧ c ≤ 1114111 ∧ 55296 ≤ c ∧ 57343 < c ∧ isI c = true) := by
    unfold isI
    simp only [decide_eq_true_iff, decide_eq_false_iff_not]
    omega
  go_enter Tryd.func68, Tryd.ntmps68
  rcases hr with ⟨h1, e⟩ | ⟨h1, h2, e⟩ | ⟨h1, h2, h3, e⟩ | ⟨h1, h2, h3, h4, e⟩ | ⟨h1, h2, h3, h4, e⟩ <;> rw [e]
  all_goals
    go_wp2
    go_ret
    refine ⟨?_, Below.refl _ _⟩
    first
      | rfl
      | (simp; omega)

theorem conv_built (w : World) (bs : List UInt8) : (convert 103 9 (.slice (some ⟨w.heap.size, 0, none⟩) bs.length bs.length)).run Tryd.prog (w.alloc (.cells (Lib.byteCells bs).toArray 5)) = .ok (.string ⟨bs.toArray⟩) (w.alloc (.cells (Lib.byteCells bs).toArray 5)) :=
  run_convert_bytes_back (P := Tryd.prog) _ 103 9 5 ⟨w.heap.size, 0, none⟩ bs.length bs Tryd.underlying103 Tryd.underlying5 Tryd.underlying9 (fun j hj => by
    rw [add_zero_block, (Blk.new w 5 (Lib.byteCells bs).toArray).cell]
    simp [Lib.byteCells, hj])

end Go.Proofs.YtccbofaefpbhlaaDoor.Utf

namespace Go.Proofs.YtccbofaefpbhlaaDoor.Utf
set_option linter.unusedVariables false
set_option maxRecDepth 20000
open Go.RowKit Go.Lib

/-- The document's number of the first i bytes of a text of L bytes. -/
def numR (L : Nat) (bs : List UInt8) : Nat → Int
  | 0 => 0
  | 1 => ((bs.getD 0 0).toNat : Int) - (if L = 2 then 192 else if L = 3 then 224 else if L = 4 then 240 else 0)
  | i + 2 => numR L bs (i + 1) * 64 + ((bs.getD (i + 1) 0).toNat : Int) - 128
theorem numR_step (L : Nat) (bs : List UInt8) {i : Nat} (h : 1 ≤ i) : numR L bs (i + 1) = numR L bs i * 64 + ((bs.getD i 0).toNat : Int) - 128 := by
  obtain ⟨i, rfl⟩ : ∃ j, i = j + 1 := ⟨i - 1, by omega⟩
  rfl
theorem getB_lt (bs : List UInt8) (i : Nat) : (bs.getD i 0).toNat < 256 := UInt8.toNat_lt _
theorem numR_bound (L : Nat) (bs : List UInt8) {i : Nat} (h : 1 ≤ i) (hi : i ≤ 4) : -100000000 < numR L bs i ∧ numR L bs i < 100000000 := by
  have h1 : -300 < numR L bs 1 ∧ numR L bs 1 < 300 := by
    have := getB_lt bs 0
    show -300 < ((bs.getD 0 0).toNat : Int) - _ ∧ ((bs.getD 0 0).toNat : Int) - _ < 300
    (repeat' split) <;> omega
  have b1 := getB_lt bs 1
  have b2 := getB_lt bs 2
  have b3 := getB_lt bs 3
  have h2 : numR L bs 2 = _ := numR_step L bs (i := 1) (by omega)
  have h3 : numR L bs 3 = _ := numR_step L bs (i := 2) (by omega)
  have h4 : numR L bs 4 = _ := numR_step L bs (i := 3) (by omega)
  rcases (show i = 1 ∨ i = 2 ∨ i = 3 ∨ i = 4 by omega) with rfl | rfl | rfl | rfl <;> omega
theorem numR_enc {c : Nat} (hc : isC c) : numR (wid c) (enc c) (wid c) = c := by
  have hle := hc.le
  by_cases h1 : c < 128
  · have hw : wid c = 1 := by simp [wid, h1]
    rw [hw, enc1 h1]
    simp only [numR, List.getD_cons_zero, toNat_of (show c < 256 by omega)]; simp
  by_cases h2 : c < 2048
  · have hw : wid c = 2 := by simp [wid, h1, h2]
    rw [hw, enc2 h1 h2]
    have e0 : (UInt8.ofNat (192 + c / 64)).toNat = 192 + c / 64 := toNat_of (by omega)
    have e1 : (UInt8.ofNat (128 + c % 64)).toNat = 128 + c % 64 := toNat_of (by omega)
    simp only [numR, List.getD_cons_succ, List.getD_cons_zero, e0, e1, if_pos]; omega
  by_cases h3 : c < 65536
  · have hw : wid c = 3 := by simp [wid, h1, h2, h3]
    rw [hw, enc3 h1 h2 h3]
    have e0 : (UInt8.ofNat (224 + c / 4096)).toNat = 224 + c / 4096 := toNat_of (by omega)
    have e1 : (UInt8.ofNat (128 + c / 64 % 64)).toNat = 128 + c / 64 % 64 := toNat_of (by omega)
    have e2 : (UInt8.ofNat (128 + c % 64)).toNat = 128 + c % 64 := toNat_of (by omega)
    simp only [numR, List.getD_cons_succ, List.getD_cons_zero, e0, e1, e2, if_neg (show ¬ (3 : Nat) = 2 by decide), if_pos]; omega
  · have hw : wid c = 4 := by simp [wid, h1, h2, h3]
    rw [hw, enc4 h1 h2 h3]
    have e0 : (UInt8.ofNat (240 + c / 262144)).toNat = 240 + c / 262144 := toNat_of (by omega)
    have e1 : (UInt8.ofNat (128 + c / 4096 % 64)).toNat = 128 + c / 4096 % 64 := toNat_of (by omega)
    have e2 : (UInt8.ofNat (128 + c / 64 % 64)).toNat = 128 + c / 64 % 64 := toNat_of (by omega)
    have e3 : (UInt8.ofNat (128 + c % 64)).toNat = 128 + c % 64 := toNat_of (by omega)
    simp only [numR, List.getD_cons_succ, List.getD_cons_zero, e0, e1, e2, e3, if_neg (show ¬ (4 : Nat) = 2 by decide), if_neg (show ¬ (4 : Nat) = 3 by decide), if_pos]; omega

theorem take_list (s : ByteArray) (n : Nat) : (s.extract 0 n).data.toList = s.data.toList.take n := by
  simp [ByteArray.data_extract, Array.toList_extract, List.extract_eq_take_drop]
theorem str_eq {a b : List UInt8} {s : ByteArray} (h : s.data.toList = b) : ((⟨a.toArray⟩ : ByteArray) = s) ↔ a = b := by
  constructor
  · rintro rfl; simpa using h
  · rintro rfl
    apply ByteArray.ext
    apply Array.toList_inj.1
    simp [h]

end Go.Proofs.YtccbofaefpbhlaaDoor.Utf

namespace Go.Proofs.YtccbofaefpbhlaaDoor.Utf
set_option linter.unusedVariables false
set_option maxRecDepth 20000
open Go.RowKit Go.Lib

/-- No character makes the last j bytes. -/
def NoEnd (bs : List UInt8) (j : Nat) : Prop := ∀ d, ¬ FirstIs (bs.drop (bs.length - j)) d j
/-- The character c of m bytes is the last one, the one of the fewest bytes; m = 0: none is. -/
def LastIs (bs : List UInt8) (c m : Nat) : Prop :=
  (m = 0 ∧ c = 0 ∧ ∀ j, 1 ≤ j → j ≤ 4 → j ≤ bs.length → NoEnd bs j) ∨ (1 ≤ m ∧ m ≤ 4 ∧ m ≤ bs.length ∧ FirstIs (bs.drop (bs.length - m)) c m ∧ ∀ j, 1 ≤ j → j < m → NoEnd bs j)
theorem lastIs_total (bs : List UInt8) : ∃ c m, LastIs bs c m := by
  have hgo : ∀ t, (∀ j, 1 ≤ j → j ≤ t → j ≤ bs.length → NoEnd bs j) ∨ (∃ c m, 1 ≤ m ∧ m ≤ t ∧ m ≤ bs.length ∧ FirstIs (bs.drop (bs.length - m)) c m ∧ ∀ j, 1 ≤ j → j < m → NoEnd bs j) := by
    intro t
    induction t with
    | zero => exact .inl fun j h1 h2 => by omega
    | succ t ih =>
      rcases ih with h | ⟨c, m, h1, h2, h3⟩
      · rcases Classical.em (t + 1 ≤ bs.length ∧ ∃ d, FirstIs (bs.drop (bs.length - (t + 1))) d (t + 1)) with ⟨hl, d, hd⟩ | hn
        · exact .inr ⟨d, t + 1, by omega, by omega, hl, hd, fun j h1 h2 => h j h1 (by omega) (by omega)⟩
        · refine .inl fun j h1 h2 h3 => ?_
          rcases Nat.lt_or_ge j (t + 1) with h4 | h4
          · exact h j h1 (by omega) h3
          · obtain rfl : j = t + 1 := by omega
            exact fun d hd => hn ⟨h3, d, hd⟩
      · exact .inr ⟨c, m, h1, by omega, h3⟩
  rcases hgo 4 with h | ⟨c, m, h⟩
  · exact ⟨0, 0, .inl ⟨rfl, rfl, h⟩⟩
  · exact ⟨c, m, .inr h⟩
/-- What is found at j is the last one. -/
theorem LastIs.found {bs : List UInt8} {c m j d : Nat} (h : LastIs bs c m) (h1 : 1 ≤ j) (h4 : j ≤ 4) (hl : j ≤ bs.length) (hj : m = 0 ∨ j ≤ m) (hd : FirstIs (bs.drop (bs.length - j)) d j) : d = c ∧ j = m := by
  rcases h with ⟨rfl, rfl, h5⟩ | ⟨h5, h6, h7, h8, h9⟩
  · exact absurd hd (h5 j h1 h4 hl d)
  · rcases Nat.lt_or_ge j m with h10 | h10
    · exact absurd hd (h9 j h1 h10 d)
    · obtain rfl : j = m := by omega
      exact ⟨(hd.inj h8).1, rfl⟩
theorem LastIs.here {bs : List UInt8} {c m : Nat} (h : LastIs bs c m) (h0 : 0 < m) : FirstIs (bs.drop (bs.length - m)) c m := by
  rcases h with ⟨rfl, _⟩ | ⟨_, _, _, h8, _⟩
  · omega
  · exact h8
theorem LastIs.le {bs : List UInt8} {c m : Nat} (h : LastIs bs c m) : m ≤ 4 ∧ m ≤ bs.length ∧ (m = 0 → c = 0) := by
  rcases h with ⟨rfl, rfl, _⟩ | ⟨h1, h2, h3, _⟩
  · exact ⟨by omega, by omega, fun _ => rfl⟩
  · exact ⟨h2, h3, fun h => by omega⟩
theorem drop_list (s : ByteArray) (n : Nat) (h : n ≤ s.size) : (s.extract n s.size).data.toList = s.data.toList.drop n := by
  rw [ByteArray.data_extract, Array.toList_extract, List.extract_eq_take_drop, List.take_of_length_le]
  rw [List.length_drop, Array.length_toList]
  exact Nat.le_refl _

end Go.Proofs.YtccbofaefpbhlaaDoor.Utf

namespace Go.Proofs.YtccbofaefpbhlaaDoor.Utf
set_option linter.unusedVariables false
set_option maxRecDepth 20000
open Go.RowKit Go.Lib

theorem cut_any (s : ByteArray) (n : Nat) (w : World) : Calls Tryd.prog 64 #[.string s, .int .i64 (n : Nat)] w fun e w' => ∃ s' : ByteArray, e = .returned (.string s') ∧ s'.size ≤ n ∧ Below w.heap.size w w' := by
  go_enter Tryd.func64, Tryd.ntmps64
  by_cases h : n < s.size
  · go_wp2
    go_ret
    exact ⟨_, rfl, by rw [ByteArray.size_extract]; omega, Below.refl _ _⟩
  · go_wp2
    go_ret
    exact ⟨_, rfl, by omega, Below.refl _ _⟩

set_option maxHeartbeats 4000000 in
theorem valid_any (s : ByteArray) (w : World) (he : Env w) (hs : s.size ≤ 1000000) (cs : List Nat) (rest : List UInt8) (h : Splits s.data.toList cs rest) (n : Nat) (b : Bool)
    (hnb : (rest = [] ∧ n = cs.length ∧ b = true) ∨ (rest ≠ [] ∧ n = (encs cs).length ∧ b = false)) :
    Calls Tryd.prog 80 #[.string s] w (RetV (.tuple #[.int .i64 (n : Nat), .bool b]) w) := by
  have hlen : s.data.toList.length = s.size := Array.length_toList
  have hnext : ∀ j d k W, Env W → j ≤ s.size → FirstIs (s.data.toList.drop j) d k → Calls Tryd.prog 50 #[.string (s.extract j s.size)] W (RetV (nextV d k) W) := fun j d k W hW hj hd =>
    next_any _ W hW (by rw [ByteArray.size_extract]; omega) d k (by rw [drop_list s _ hj]; exact hd)
  replace hnext := Lib.hid hnext
  have htot : (encs cs).length + rest.length = s.size := by rw [← hlen, h.2.1, List.length_append]
  replace h := Lib.hid h
  go_enter Tryd.func80, Tryd.ntmps80
  go_wp2_with fail
  go_loopw [4, 5] (fun n4 a5 wr => Below w.heap.size w wr ∧ ∃ dn left : List Nat, cs = dn ++ left ∧ n4 = .int .i64 (dn.length : Nat) ∧ a5 = .int .i64 ((encs dn).length : Nat)) (fun _ a5 _ => s.size - (intOf a5).toNat)
  case atStart => exact ⟨Below.refl _ _, [], cs, rfl, rfl, rfl⟩
  case round =>
    obtain ⟨hbw, dn, left, rfl, rfl, rfl⟩ := hrel
    have hat := splits_at h.out
    rw [encs_append, List.length_append] at htot
    obtain ⟨a, ha⟩ : ∃ a, (encs dn).length = a := ⟨_, rfl⟩
    rw [ha] at hat htot ⊢
    have hdl := (encs_length_le dn).1
    by_cases hlt : a < s.size
    · have he1 := he.kept hbw
      rcases left with _ | ⟨c, left⟩
      · have HX := Lib.hid fun W hW => hnext.out a 0 0 W hW (by omega) hat.stop
        rcases hnb with ⟨rfl, _, _⟩ | ⟨_, rfl, rfl⟩
        · simp [encs] at htot; omega
        rw [List.append_nil] at *
        rw [ha]
        simp only [nextV] at HX
        clear hnext hat h htot
        go_wp2_with fail
        refine (HX.out _ he1).mono ?_
        rintro e w1 ⟨rfl, y1⟩
        go_wp2
        go_ret2
        exact ⟨rfl, below_step hbw y1⟩
      · have hf := hat.first
        have hwp := wid_pos c
        have hd0 : decide (0 < wid c) = true := by simp; omega
        have hst : (encs (dn ++ [c])).length = a + wid c := by rw [encs_snoc, List.length_append, ha, enc_length]
        rw [encs_cons, List.length_append, enc_length] at htot
        have HX := Lib.hid fun W hW => hnext.out a c (wid c) W hW (by omega) hf
        simp only [nextV, hd0] at HX
        generalize wid c = k at *
        generalize hdn : dn.length = q at *
        replace hst := Lib.hid hst
        replace htot : a + k ≤ s.size := by omega
        clear hnext hat h hf hnb
        go_wp2_with fail
        refine (HX.out _ he1).mono ?_
        rintro e w1 ⟨rfl, y1⟩
        go_wp2
        go_roundw
        case rel => exact ⟨below_step hbw y1, dn ++ [c], left, by simp, by rw [List.length_append, hdn]; go_num, by rw [hst.out]; go_num⟩
        case measure => simp [intOf]; omega
    · have hl0 : left = [] ∧ rest = [] := by
        have h1 : (encs left).length = 0 := by omega
        have h2 : rest.length = 0 := by omega
        have h3 := (encs_length_le left).1
        exact ⟨List.length_eq_zero_iff.1 (by omega), List.length_eq_zero_iff.1 h2⟩
      obtain ⟨rfl, rfl⟩ := hl0
      rcases hnb with ⟨_, rfl, rfl⟩ | ⟨h5, _, _⟩
      · rw [List.append_nil] at *
        clear hnext hat h htot
        generalize dn.length = q at *
        go_wp2
        go_ret2
        exact ⟨rfl, hbw⟩
      · exact absurd rfl h5

theorem euro : FirstIs [226, 130, 172] 8364 3 := .inl ⟨⟨by decide, [], by decide⟩, by decide⟩
theorem no_surrogate : Splits [237, 160, 128] [] [237, 160, 128] := ⟨by simp, rfl, fun d hd => by
  have h1 := begins_told hd
  have h2 : wid d = 3 := h1.1.symm.trans (by decide)
  have h3 := h1.2.2.2
  rw [h2] at h3
  have h4 : d = 55296 := h3.symm.trans (by decide)
  subst h4
  exact absurd hd.1 (by decide)⟩
end Go.Proofs.YtccbofaefpbhlaaDoor.Utf

namespace Go.Proofs.YtccbofaefpbhlaaDoor.Utf
set_option linter.unusedVariables false
set_option maxRecDepth 20000
open Go.RowKit Go.Lib

theorem own_form {w : World} {B n : Nat} {e : TypeId} {u : Value} {xs : List Value} (h : w.ownsRow B e 1 u n xs) : ∃ ao cap, u = .slice ao n cap := by
  rcases h.2 with ⟨hv, h0⟩ | ⟨g, cap, cur, hv, _⟩
  · exact ⟨none, 0, by rw [hv, h0]⟩
  · exact ⟨_, _, hv⟩
theorem own_base {w : World} {B B' n size : Nat} {e : TypeId} {u : Value} {xs : List Value} (h : w.ownsRow B e size u n xs) (hb : B' ≤ B) : w.ownsRow B' e size u n xs := by
  refine ⟨h.1, ?_⟩
  rcases h.2 with h0 | ⟨g, cap, cur, hv, hB, r⟩
  · exact .inl h0
  · exact .inr ⟨g, cap, cur, hv, by omega, r⟩

theorem own_kept {w w' : World} {B n size : Nat} {e : TypeId} {u : Value} {xs : List Value} (h : w.ownsRow B e size u n xs) (hb : Below w.heap.size w w') : w'.ownsRow B e size u n xs := by
  refine ⟨h.1, ?_⟩
  rcases h.2 with h0 | ⟨g, cap, cur, hv, hB, hg, r⟩
  · exact .inl h0
  · refine .inr ⟨g, cap, cur, hv, hB, ?_, r⟩
    have hlt : g < w.heap.size := by
      rcases Nat.lt_or_ge g w.heap.size with h' | h'
      · exact h'
      · simp [Array.getElem?_eq_none h'] at hg
    exact (hb.block g hlt).trans hg
theorem bel_new {V W : World} (h : Below V.heap.size V W) (o : Obj) : Below V.heap.size V (W.alloc o) := h.alloc h.size o
theorem below_step' {B : Nat} {w w1 w2 : World} (h : Below B w w1) (h' : Below w1.heap.size w1 w2) (hB : B ≤ w1.heap.size := by omega) : Below B w w2 := h.trans (h'.mono hB)
theorem rune_info : (Tryd.prog.info? 21).map (fun i => (i.zero, i.size, i.bytes)) = some (some (.int .i32 0), 1, 4) := by kernel_rfl
theorem make_runes (w : World) (c : Nat) (hc : c ≤ 1000000000) : ∃ w', (Instr.makeSlice 53 (.int .i64 0) (.int .i64 (c : Int))).run Tryd.prog w = .ok (.slice (some ⟨w.heap.size, 0, none⟩) 0 c) w' ∧ w'.ownsRow w.heap.size 21 1 (.slice (some ⟨w.heap.size, 0, none⟩) 0 c) 0 [] ∧ w.grownBy w' none := by
  obtain ⟨i0, hi, hz0, hz1, hz2⟩ := info_parts rune_info
  exact run_make_own w w.heap.size 53 21 i0 (.int .i32 0) 1 Tryd.underlying53 hi hz0 hz1 .i64 .i64 c (by rw [hz2]; omega) (by unfold maxLen; omega) (Nat.le_refl _)

/-- It answers the characters, in a row of its own. -/
def RetC (cs : List Nat) (w : World) (e : Ending) (w' : World) : Prop := ∃ u, e = .returned (.tuple #[u, .int .i64 0]) ∧ w'.ownsRow w.heap.size 21 1 u cs.length (cellsOf .i32 cs) ∧ Below w.heap.size w w'

/-- The same, and the slice is not nil. -/
def RetC2 (cs : List Nat) (w : World) (e : Ending) (w' : World) : Prop := ∃ g cp, e = .returned (.tuple #[.slice (some ⟨g, 0, none⟩) cs.length cp, .int .i64 0]) ∧ w'.ownsRow w.heap.size 21 1 (.slice (some ⟨g, 0, none⟩) cs.length cp) cs.length (cellsOf .i32 cs) ∧ Below w.heap.size w w'

theorem decode_bad (s : ByteArray) (w : World) (he : Env w) (hs : s.size ≤ 1000000) (cs : List Nat) (rest : List UInt8) (h : Splits s.data.toList cs rest) (hr : rest ≠ []) :
    Calls Tryd.prog 49 #[.string s] w (RetV (.tuple #[.slice none 0 0, .int .i64 6]) w) := by
  have H := Lib.hid (valid_any s w he hs cs rest h _ false (.inr ⟨hr, rfl, rfl⟩))
  go_enter Tryd.func49, Tryd.ntmps49
  go_wp2_with fail
  refine H.out.mono ?_
  rintro e w1 ⟨rfl, y1⟩
  go_wp2
  go_ret2
  exact ⟨rfl, y1⟩

set_option maxHeartbeats 4000000 in
theorem decode_ok2 (s : ByteArray) (w : World) (he : Env w) (hs : s.size ≤ 1000000) (cs : List Nat) (h : Splits s.data.toList cs []) :
    Calls Tryd.prog 49 #[.string s] w (RetC2 cs w) := by
  have H := Lib.hid (valid_any s w he hs cs [] h _ true (.inl ⟨rfl, rfl, rfl⟩))
  have hbytes : s.data.toList = encs cs := by simpa using h.2.1
  have hlen : s.data.toList.length = s.size := Array.length_toList
  have hcl : cs.length ≤ 1000000 := by
    have := (encs_length_le cs).1
    rw [← hbytes, hlen] at this
    omega
  have hall := Lib.hid h.1
  obtain ⟨i0, hi, hz0, hz1, hz2⟩ := info_parts rune_info
  clear h
  go_enter Tryd.func49, Tryd.ntmps49
  go_wp2_with fail
  refine H.out.mono ?_
  rintro e w1 ⟨rfl, y1⟩
  obtain ⟨w2, hmk, hown2, hg2⟩ := make_runes w1 cs.length (by omega)
  have bw2 : Below w1.heap.size w1 w2 := (Below.refl _ w1).grown hg2 (Nat.le_refl _) (by simp)
  have b2 := below_step y1 bw2
  have hB := y1.size
  clear hg2
  go_wp2_with fail
  go_loopg [0, 6] cs.length (fun m s0 u6 wx => ∃ (dn left : List Nat) (s' : ByteArray), Hid (cs = dn ++ left) ∧ left.length = m ∧ s0 = .string s' ∧ Hid (s'.data.toList = encs left) ∧ (∃ g cp, u6 = .slice (some ⟨g, 0, none⟩) dn.length cp) ∧ wx.ownsRow w1.heap.size 21 1 u6 dn.length (cellsOf .i32 dn) ∧ Below w1.heap.size w1 wx)
  case atStart => exact ⟨[], cs, s, rfl, rfl, rfl, hbytes, ⟨_, _, rfl⟩, by simpa [cellsOf] using hown2, bw2⟩
  case round =>
    obtain ⟨dn, left, s', hsp, hm, rfl, hsb, ⟨ga, cp, rfl⟩, hrow, hb1⟩ := hrel
    have hb1s := hb1.size
    have hsl : s'.data.toList.length = s'.size := Array.length_toList
    rcases left with _ | ⟨c, left⟩
    · have hs0 : s'.size = 0 := by rw [← hsl, hsb.out]; rfl
      obtain rfl : s' = ⟨#[]⟩ := by
        apply ByteArray.ext
        exact Array.eq_empty_of_size_eq_zero hs0
      have hcs : cs = dn := by simpa using hsp.out
      go_wp2
      go_ret2
      exact ⟨ga, cp, rfl, own_base hrow hB, below_step y1 hb1⟩
    · have hc : isC c := hall.out c (by rw [hsp.out]; simp)
      have hallL : ∀ x ∈ c :: left, isC x := fun x hx => hall.out x (by rw [hsp.out]; exact List.mem_append_right _ hx)
      have hf : FirstIs s'.data.toList c (wid c) := by rw [hsb.out]; exact (splits_encs hallL).first
      have hwp := wid_pos c
      have hwl := wid_le c
      have hd0 : decide (0 < wid c) = true := by simp; omega
      have hes : (encs (c :: left)).length = wid c + (encs left).length := by rw [encs_cons, List.length_append, enc_length]
      have hall2 := (encs_length_le cs).2
      have hks : wid c ≤ s'.size := by rw [← hsl, hsb.out]; omega
      have hs6 : s'.size ≤ 1000000 := by
        have h1 : (encs cs).length = (encs dn).length + (encs (c :: left)).length := by rw [hsp.out, encs_append, List.length_append]
        rw [← hsb.out, hsl, ← hbytes, hlen] at h1
        omega
      have hne := full_list (s := s') (by omega)
      have HX := Lib.hid (next_any s' _ (he.kept (below_step y1 hb1)) hs6 c (wid c) hf)
      have hdl : (s'.extract (wid c) s'.size).data.toList = encs left := by
        rw [drop_list s' _ hks, hsb.out, encs_cons, ← enc_length c, List.drop_left]
      have hlenc : dn.length + 1 ≤ cs.length := by rw [hsp.out]; simp
      simp only [nextV, hd0] at HX
      generalize wid c = k at *
      replace hdl := Lib.hid hdl
      clear hf hes hall2 hallL hd0 hsl
      go_wp2_with fail
      refine HX.out.mono ?_
      rintro e w3 ⟨rfl, y3⟩
      have hrow3 := own_kept hrow y3
      have hb3 := below_step' hb1 y3
      have hb3s := hb3.size
      go_wp2_with (at_builtin; refine wpList_append_own _ rfl (.tmp 27) (.tmp 29) 53 rfl w1.heap.size 21 i0 (.int .i32 0) 1 4 Tryd.underlying53 hi hz0 hz1 hz2 rfl (by decide) _ dn.length _ rfl (hrow3.alloc _) ⟨w3.heap.size, 0, none⟩ 1 1 [.int .i32 (c : Nat)] rfl rfl (cell_one_new _ _ _) (by simp [Value.oneCell']) (by unfold maxLen; omega) (by omega) (by simp; omega) ?_; intro v' w4 hown4 hgrow _; have hb4 : Below w1.heap.size w1 w4 := (hb3.alloc hb3s _).grown hgrow (by simp; omega) (fun k hk => (hrow3.lt k hk).1); clear hgrow)
      go_roundg left.length
      case measure => simp at hm; omega
      case rel => exact ⟨dn ++ [c], left, _, by rw [Hid, hsp.out]; simp, rfl, rfl, hdl, (by simpa using ownsRow_succ hown4), by rw [cellsOf_append]; simpa [cellsOf] using hown4, hb4⟩
theorem decode_ok (s : ByteArray) (w : World) (he : Env w) (hs : s.size ≤ 1000000) (cs : List Nat) (h : Splits s.data.toList cs []) :
    Calls Tryd.prog 49 #[.string s] w (RetC cs w) := (decode_ok2 s w he hs cs h).mono fun _ _ ⟨_, _, h1, h2, h3⟩ => ⟨_, h1, h2, h3⟩
end Go.Proofs.YtccbofaefpbhlaaDoor.Utf
