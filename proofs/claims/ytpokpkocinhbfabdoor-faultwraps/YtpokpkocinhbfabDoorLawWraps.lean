/-
  The walk of the law on wraps.
-/
import Derived.Test.YtpokpkocinhbfabDoorLawTells
namespace Go.Proofs.YtpokpkocinhbfabDoor
set_option linter.unusedVariables false
set_option maxRecDepth 20000
open Go.RowKit Go.Extern.Stop Go.Stop Go.Extern

/-- A slice of texts: the address A leads to ss. -/
def Strs (w : World) (A : Option Addr) (ss : List ByteArray) : Prop :=
  ss ≠ [] → ∃ ad, A = some ad ∧ ad.block < w.heap.size ∧ ∀ i s, ss[i]? = some s → w.cell? (ad.add i) = some (.string s)
theorem Strs.kept {w w' : World} {A : Option Addr} {l : List ByteArray} (h : Strs w A l) (hb : Below w.heap.size w w') : Strs w' A l := fun hn => by
  obtain ⟨ad, e, hlt, hc⟩ := h hn
  exact ⟨ad, e, Nat.lt_of_lt_of_le hlt hb.size, fun i x hx => (hb.cell (by rw [add_block]; exact hlt)).trans (hc i x hx)⟩
theorem Strs.at_ {w : World} {A : Option Addr} {l : List ByteArray} (h : Strs w A l) {i : Nat} {x : ByteArray} (hx : l[i]? = some x) : ∃ ad, A = some ad ∧ w.cell? (ad.add i) = some (.string x) := by
  obtain ⟨ad, e, hlt, hc⟩ := h (by rintro rfl; simp at hx)
  exact ⟨ad, e, hc i x hx⟩

theorem Links.src {w : World} {ad : Addr} {l : List Lk} (h : Links w (some ad) l) : ∀ (j : Nat) (u : Value), (linkCells l)[j]? = some u → w.cell? (ad.add j) = some u := by
  intro j u hu
  have hj : j < l.length * 3 := by
    rcases Nat.lt_or_ge j (l.length * 3) with h1 | h1
    · exact h1
    · rw [List.getElem?_eq_none (by rw [linkCells_length]; exact h1)] at hu; cases hu
  have hi : j / 3 < l.length := by omega
  have hx : l[j / 3]? = some l[j / 3] := List.getElem?_eq_getElem hi
  obtain ⟨ad', e, _, c0, c1, c2⟩ := h.at_ hx
  injection e with e
  subst e
  obtain ⟨d0, d1, d2⟩ := linkCells_at hx
  have hr : j % 3 = 0 ∨ j % 3 = 1 ∨ j % 3 = 2 := by omega
  rcases hr with hr | hr | hr
  · have ej : j = j / 3 * 3 := by omega
    rw [ej] at hu ⊢
    rw [d0] at hu
    rw [c0]; exact hu
  · have ej : j = j / 3 * 3 + 1 := by omega
    rw [ej] at hu ⊢
    rw [d1] at hu
    rw [c1]; exact hu
  · have ej : j = j / 3 * 3 + 2 := by omega
    rw [ej] at hu ⊢
    rw [d2] at hu
    rw [c2]; exact hu

/-- Where the loop of the law on wraps stands. -/
def WrapAt (w : World) (k : Nat) (s0 s5 : Value) (wx : World) : Prop :=
  ∃ A2 c2 l, s0 = .slice A2 l.length c2 ∧ l.length ≤ 12 + k ∧ (∀ y ∈ l, y.Fits) ∧ Chn wx s5 l ∧ Links wx A2 l ∧ (s5 = .nilIface ∨ ∃ q, s5 = .iface 36 q) ∧ Below w.heap.size w wx

theorem chn_shape {w : World} {v : Value} {l : List Lk} (h : Chn w v l) : v = .nilIface ∨ ∃ q, v = .iface 36 q := by
  cases l with
  | nil => exact .inl h
  | cons x r => obtain ⟨g, d, e, _⟩ := h; exact .inr ⟨_, e⟩

theorem wrapped_fits {s : ByteArray} {l : List Lk} (hs : s.size ≤ 20) (h : ∀ y ∈ l, y.Fits) : ∀ y ∈ wrapped s l, y.Fits := by
  intro y hy
  rcases List.mem_cons.1 hy with rfl | hy
  · exact ⟨codeOf_fits h, ⟨by show (-9223372036854775808 : Int) ≤ 0; decide, by show (0 : Int) ≤ 9223372036854775807; decide⟩, by show s.size ≤ 1000; omega⟩
  · exact h y hy

set_option maxHeartbeats 8000000 in
theorem faultWraps_walk (A : Option Addr) (n c : Nat) (l0 : List Lk) (B : Option Addr) (m d : Nat) (ss : List ByteArray) (w : World) (he : Env w) (h0 : CameL w A n c l0) (hm : ss.length = m) (hS : Strs w B ss) : Calls Tryd.prog 4 #[.slice A n c, .slice B m d] w (RetV (.bool true) w) := by
  subst hm
  obtain ⟨i0, hi0, hz0, hz1', hz2⟩ := info_parts link_info
  obtain ⟨l, hl, hf, _, FW⟩ := h0.few
  have FW := Lib.hid FW
  have hf := Lib.hid hf
  clear h0
  go_enter Tryd.func4, Tryd.ntmps4
  go_wp2_with fail
  refine (awake_any w he).mono ?_
  rintro e w1 ⟨rfl, b1⟩
  go_wp2_with fail
  refine (FW.out _ b1).mono ?_
  rintro e w2 ⟨u, rfl, hrow, b2⟩
  have b2 := below_step b1 b2
  obtain ⟨A2, c2, rfl, hL⟩ := own_links hrow
  clear FW b1 hrow
  go_wp2_with fail
  refine (chain_any A2 c2 l _ hL (by omega)).mono ?_
  rintro e w3 ⟨v, rfl, hC, b3⟩
  have hL := hL.kept b3
  have b3 := below_step b2 b3
  have hsh := chn_shape hC
  clear b2
  go_wp2
  go_loopg [0, 5, 6, 7] 10 (fun n s0 s5 s6 s7 wx => ∃ k : Nat, k + n = 10 ∧ k ≤ ss.length ∧ s6 = .int .i64 k ∧ WrapAt w k s0 s5 wx)
  case atStart => exact ⟨0, by omega, by omega, rfl, A2, c2, l, rfl, by omega, hf.out, hC, hL, hsh, b3⟩
  case round =>
    clear hf hC hL hsh b3 hl
    obtain ⟨k, hk, hks, rfl, A2, c2, l, rfl, hl, hf, hC, hL, hsh, hb⟩ := hrel
    have hf := Lib.hid hf
    by_cases hgo : k < ss.length ∧ k < 10
    · obtain ⟨hlt, h10⟩ := hgo
      obtain ⟨s, hs⟩ : ∃ s, ss[k]? = some s := ⟨_, List.getElem?_eq_getElem hlt⟩
      obtain ⟨ad, rfl, hc⟩ := (hS.kept hb).at_ hs
      have HK := Lib.hid hk
      clear hs hk
      by_cases h20 : 20 < s.size
      · have hcs : (s.extract 0 20).size ≤ 20 := by rw [ByteArray.size_extract]; omega
        cases l with
        | nil =>
          obtain rfl := (hC : _ = Value.nilIface)
          go_wp2_with fail
          refine (wrap_nil _ _).mono ?_
          rintro e x1 ⟨rfl, rfl⟩
          go_wp2
          go_roundg (10 - (k + 1))
          case measure => have := HK.out; omega
          case rel => exact ⟨k + 1, by omega, by omega, by go_num, A2, c2, [], rfl, by simp, hf.out, rfl, hL, .inl rfl, hb⟩
        | cons x r =>
          obtain ⟨ad2, rfl, _⟩ := hL.at_ (i := 0) (x := x) rfl
          have hl1 : (x :: r).length ≤ 1000 := by omega
          have RC := Lib.hid (fun W' (h : Links W' (some ad2) (x :: r)) => refCode_any (some ad2) c2 (x :: r) W' h hl1)
          rw [show (x :: r).length = r.length + 1 from rfl] at RC
          have hrl : r.length ≤ 100 := by simp at hl; omega
          have hb32 : (1 + (r.length + 1)) * 32 ≤ 140737488355328 := by omega
          have hm63 : 1 + (r.length + 1) ≤ maxLen := by unfold maxLen; omega
          have WF := Lib.hid (wrapped_fits hcs hf.out)
          have LC := Lib.hid (linkCells_length (x :: r))
          have LO := Lib.hid (linkCells_one (x :: r))
          clear hl1
          go_wp2_with fail
          refine (wrap_any u5 x r _ _ (he.kept hb) hC).mono ?_
          rintro e x1 ⟨v1, rfl, hC1, y1⟩
          go_wp2_with fail
          refine (RC.out _ (hL.kept y1)).mono ?_
          rintro e x2 ⟨rfl, y2⟩
          have hC2 := hC1.kept y2
          have hL2 := hL.kept (below_step y1 y2)
          have b2 := below_step hb (below_step y1 y2)
          have hlit := Lib.hid (show (x2.alloc (.cells #[.int .i64 (codeOf (x :: r)), .int .i64 0, .string (s.extract 0 20)] 40)).ownsRow x2.heap.size 40 3 (.slice (some ⟨x2.heap.size, 0, none⟩) 1 1) 1 [.int .i64 (codeOf (x :: r)), .int .i64 0, .string (s.extract 0 20)] from World.ownsRow_lit x2 #[.int .i64 (codeOf (x :: r)), .int .i64 0, .string (s.extract 0 20)] 1 (Nat.le_refl _) (by decide) rfl)
          have hsrc := Lib.hid (hL2.alloc (.cells #[.int .i64 (codeOf (x :: r)), .int .i64 0, .string (s.extract 0 20)] 40)).src
          go_wp2_with (at_builtin; refine wpList_append_own _ rfl (.tmp 43) (.tmp 44) 22 rfl x2.heap.size 40 i0 (.agg #[.int .i64 0, .int .i64 0, .string ⟨#[]⟩]) 3 32 Tryd.underlying22 hi0 hz0 hz1' hz2 rfl (by decide) (.slice (some ⟨x2.heap.size, 0, none⟩) 1 1) 1 [.int .i64 (codeOf (x :: r)), .int .i64 0, .string (s.extract 0 20)] rfl hlit.out ad2 (r.length + 1) c2 (linkCells (x :: r)) rfl LC.out hsrc.out LO.out hm63 hb32 (by simp) ?_; intro v' Y hown1 hgrow _; have yY : Below x2.heap.size x2 Y := (below_new x2 _).grown hgrow (by simp) (fun k hk => by simp [Value.ownBlock] at hk; omega); clear hgrow)
          have hown2 : Y.ownsRow x2.heap.size 40 3 v' (wrapped (s.extract 0 20) (x :: r)).length (linkCells (wrapped (s.extract 0 20) (x :: r))) := by
            have e : (wrapped (s.extract 0 20) (x :: r)).length = 1 + (r.length + 1) := by simp [wrapped]; omega
            rw [e]; exact hown1
          obtain ⟨A', c', hv', hh⟩ := own_links hown2
          go_roundg (10 - (k + 1))
          case measure => have := HK.out; omega
          case rel => exact ⟨k + 1, by omega, by omega, by go_num, A', c', wrapped (s.extract 0 20) (x :: r), hv', by have := hl; simp [wrapped] at this ⊢; omega, WF.out, hC2.kept yY, hh, chn_shape hC2, below_step b2 yY⟩
      · have hcs : s.size ≤ 20 := by omega
        cases l with
        | nil =>
          obtain rfl := (hC : _ = Value.nilIface)
          go_wp2_with fail
          refine (wrap_nil _ _).mono ?_
          rintro e x1 ⟨rfl, rfl⟩
          go_wp2
          go_roundg (10 - (k + 1))
          case measure => have := HK.out; omega
          case rel => exact ⟨k + 1, by omega, by omega, by go_num, A2, c2, [], rfl, by simp, hf.out, rfl, hL, .inl rfl, hb⟩
        | cons x r =>
          obtain ⟨ad2, rfl, _⟩ := hL.at_ (i := 0) (x := x) rfl
          have hl1 : (x :: r).length ≤ 1000 := by omega
          have RC := Lib.hid (fun W' (h : Links W' (some ad2) (x :: r)) => refCode_any (some ad2) c2 (x :: r) W' h hl1)
          rw [show (x :: r).length = r.length + 1 from rfl] at RC
          have hrl : r.length ≤ 100 := by simp at hl; omega
          have hb32 : (1 + (r.length + 1)) * 32 ≤ 140737488355328 := by omega
          have hm63 : 1 + (r.length + 1) ≤ maxLen := by unfold maxLen; omega
          have WF := Lib.hid (wrapped_fits hcs hf.out)
          have LC := Lib.hid (linkCells_length (x :: r))
          have LO := Lib.hid (linkCells_one (x :: r))
          clear hl1
          go_wp2_with fail
          refine (wrap_any u5 x r _ _ (he.kept hb) hC).mono ?_
          rintro e x1 ⟨v1, rfl, hC1, y1⟩
          go_wp2_with fail
          refine (RC.out _ (hL.kept y1)).mono ?_
          rintro e x2 ⟨rfl, y2⟩
          have hC2 := hC1.kept y2
          have hL2 := hL.kept (below_step y1 y2)
          have b2 := below_step hb (below_step y1 y2)
          have hlit := Lib.hid (show (x2.alloc (.cells #[.int .i64 (codeOf (x :: r)), .int .i64 0, .string s] 40)).ownsRow x2.heap.size 40 3 (.slice (some ⟨x2.heap.size, 0, none⟩) 1 1) 1 [.int .i64 (codeOf (x :: r)), .int .i64 0, .string s] from World.ownsRow_lit x2 #[.int .i64 (codeOf (x :: r)), .int .i64 0, .string s] 1 (Nat.le_refl _) (by decide) rfl)
          have hsrc := Lib.hid (hL2.alloc (.cells #[.int .i64 (codeOf (x :: r)), .int .i64 0, .string s] 40)).src
          go_wp2_with (at_builtin; refine wpList_append_own _ rfl (.tmp 43) (.tmp 44) 22 rfl x2.heap.size 40 i0 (.agg #[.int .i64 0, .int .i64 0, .string ⟨#[]⟩]) 3 32 Tryd.underlying22 hi0 hz0 hz1' hz2 rfl (by decide) (.slice (some ⟨x2.heap.size, 0, none⟩) 1 1) 1 [.int .i64 (codeOf (x :: r)), .int .i64 0, .string s] rfl hlit.out ad2 (r.length + 1) c2 (linkCells (x :: r)) rfl LC.out hsrc.out LO.out hm63 hb32 (by simp) ?_; intro v' Y hown1 hgrow _; have yY : Below x2.heap.size x2 Y := (below_new x2 _).grown hgrow (by simp) (fun k hk => by simp [Value.ownBlock] at hk; omega); clear hgrow)
          have hown2 : Y.ownsRow x2.heap.size 40 3 v' (wrapped s (x :: r)).length (linkCells (wrapped s (x :: r))) := by
            have e : (wrapped s (x :: r)).length = 1 + (r.length + 1) := by simp [wrapped]; omega
            rw [e]; exact hown1
          obtain ⟨A', c', hv', hh⟩ := own_links hown2
          go_roundg (10 - (k + 1))
          case measure => have := HK.out; omega
          case rel => exact ⟨k + 1, by omega, by omega, by go_num, A', c', wrapped s (x :: r), hv', by have := hl; simp [wrapped] at this ⊢; omega, WF.out, hC2.kept yY, hh, chn_shape hC2, below_step b2 yY⟩
    · have hl1 : l.length ≤ 1000 := by omega
      have TA := Lib.hid (fun W' hE (h : Chn W' u5 l) => text_all u5 l W' hE h hl1 hf.out)
      have RT := Lib.hid (fun W' (h : Links W' A2 l) => refText_any A2 c2 l W' h hl1 hf.out)
      have hnil : (u5 = .nilIface ∧ l.length = 0) ∨ (∃ q, u5 = .iface 36 q) ∧ 0 < l.length := by
        cases l with
        | nil => exact .inl ⟨hC, rfl⟩
        | cons x r => obtain ⟨g, d, e, _⟩ := hC; exact .inr ⟨⟨_, e⟩, by simp⟩
      generalize textOf l = tx at *
      have hnil := Lib.hid hnil
      by_cases hk1 : k < ss.length
      · have hk2 : ¬ k < 10 := fun h => hgo ⟨hk1, h⟩
        clear hgo hk hsh
        go_wp2_with fail
        refine (TA.out _ (he.kept hb) hC).mono ?_
        rintro e x1 ⟨rfl, y1⟩
        go_wp2_with fail
        refine (RT.out _ (hL.kept y1)).mono ?_
        rintro e x2 ⟨rfl, y2⟩
        rcases hnil.out with ⟨rfl, hz⟩ | ⟨⟨q, rfl⟩, hz⟩
        · have hz1 : ((l.length : Int) == 0) = true := beq_iff_eq.2 (by omega)
          clear hz
          go_wp2
          go_ret
          exact ⟨rfl, below_step hb (below_step y1 y2)⟩
        · have hz1 : ((l.length : Int) == 0) = false := beq_eq_false_iff_ne.2 (by omega)
          go_wp2
          go_ret
          exact ⟨rfl, below_step hb (below_step y1 y2)⟩
      · clear hgo hk hsh
        go_wp2_with fail
        refine (TA.out _ (he.kept hb) hC).mono ?_
        rintro e x1 ⟨rfl, y1⟩
        go_wp2_with fail
        refine (RT.out _ (hL.kept y1)).mono ?_
        rintro e x2 ⟨rfl, y2⟩
        rcases hnil.out with ⟨rfl, hz⟩ | ⟨⟨q, rfl⟩, hz⟩
        · have hz1 : ((l.length : Int) == 0) = true := beq_iff_eq.2 (by omega)
          clear hz
          go_wp2
          go_ret
          exact ⟨rfl, below_step hb (below_step y1 y2)⟩
        · have hz1 : ((l.length : Int) == 0) = false := beq_eq_false_iff_ne.2 (by omega)
          go_wp2
          go_ret
          exact ⟨rfl, below_step hb (below_step y1 y2)⟩
end Go.Proofs.YtpokpkocinhbfabDoor
