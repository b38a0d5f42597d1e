/-
  utf.Encode: its contract.
-/
import Derived.Test.YtccbofaefpbhlaaDoorUI
import Derived.RangeFuncBox
namespace Go.Proofs.YtccbofaefpbhlaaDoor.Utf
set_option linter.unusedVariables false
set_option maxRecDepth 20000
open Go.RowKit Go.Lib

/-- The slice with the address A leads to the whole numbers l, of the kind k. -/
def RowI (k : IntKind) (w : World) (A : Option Addr) (l : List Int) : Prop :=
  l ≠ [] → ∃ ad, A = some ad ∧ ad.block < w.heap.size ∧ ∀ i, i < l.length → w.cell? (ad.add i) = some (.int k (l.getD i 0))
theorem RowI.below {k : IntKind} {w w' : World} {A : Option Addr} {l : List Int} (h : RowI k w A l) (hb : Below w.heap.size w w') : RowI k w' A l := fun hn => by
  obtain ⟨ad, e, hl, hcell⟩ := h hn
  exact ⟨ad, e, Nat.lt_of_lt_of_le hl hb.size, fun i hi => (hb.cell (by rw [add_block]; exact hl)).trans (hcell i hi)⟩
theorem RowI.at_ {k : IntKind} {w : World} {A : Option Addr} {l : List Int} (h : RowI k w A l) {i : Nat} (hi : i < l.length) : ∃ ad, A = some ad ∧ ad.block < w.heap.size ∧ w.cell? (ad.add i) = some (.int k (l.getD i 0)) := by
  obtain ⟨ad, e, hb, hc⟩ := h (by intro e; simp [e] at hi)
  exact ⟨ad, e, hb, hc i hi⟩
theorem Row.toI {k : IntKind} {w : World} {A : Option Addr} {l : List Nat} (h : Row k w A l) : RowI k w A (l.map fun x : Nat => (x : Int)) := fun hn => by
  obtain ⟨ad, e, hb, hc⟩ := h (by rintro rfl; exact hn rfl)
  refine ⟨ad, e, hb, fun i hi => ?_⟩
  rw [List.length_map] at hi
  rw [hc i hi]
  simp [List.getD, hi]
/-- Whole numbers as characters. -/
def chs (l : List Int) : List Nat := l.map Int.toNat
theorem chs_nat (l : List Nat) : chs (l.map fun x : Nat => (x : Int)) = l := by simp [chs, Function.comp_def]
theorem chs_take {l : List Int} {i : Nat} (hi : i < l.length) : chs (l.take (i + 1)) = chs (l.take i) ++ [(l.getD i 0).toNat] := by
  have : l.take (i + 1) = l.take i ++ [l.getD i 0] := by
    rw [List.take_add_one]
    simp [List.getD, hi]
  rw [this]
  simp [chs]

theorem make_bytes (w : World) (c : Nat) (hc : c ≤ 1000000000) : ∃ w', (Instr.makeSlice 103 (.int .i64 0) (.int .i64 (c : Int))).run Tryd.prog w = .ok (.slice (some ⟨w.heap.size, 0, none⟩) 0 c) w' ∧ w'.ownsRow w.heap.size 5 1 (.slice (some ⟨w.heap.size, 0, none⟩) 0 c) 0 [] ∧ w.grownBy w' none := by
  obtain ⟨i0, hi, hz0, hz1, hz2⟩ := info_parts byte_info
  exact run_make_own w w.heap.size 103 5 i0 (.int .u8 0) 1 Tryd.underlying103 hi hz0 hz1 .i64 .i64 c (by rw [hz2]; omega) (by unfold maxLen; omega) (Nat.le_refl _)
theorem conv_own {w : World} {B g cap : Nat} {bs : List UInt8} (h : w.ownsRow B 5 1 (.slice (some ⟨g, 0, none⟩) bs.length cap) bs.length (Lib.byteCells bs)) :
    (convert 103 9 (.slice (some ⟨g, 0, none⟩) bs.length cap)).run Tryd.prog w = .ok (.string ⟨bs.toArray⟩) w :=
  run_convert_bytes_back (P := Tryd.prog) w 103 9 5 ⟨g, 0, none⟩ cap bs Tryd.underlying103 Tryd.underlying5 Tryd.underlying9 (fun j hj => h.cells (g := g) rfl j (.int .u8 (bs[j].toNat : Int)) (by simp [Lib.byteCells, hj]))

set_option maxHeartbeats 4000000 in
theorem encode_any (A : Option Addr) (n c : Nat) (l : List Int) (w : World) (he : Env w) (hr : RowI .i32 w A l) (hln : l.length = n) (hn : n ≤ 1000000) (s : ByteArray) (er : Int)
    (hres : ((∀ x ∈ l, isI x = true) ∧ s = ⟨(encs (chs l)).toArray⟩ ∧ er = 0) ∨ ((∃ x ∈ l, isI x = false) ∧ s = ⟨#[]⟩ ∧ er = 1)) :
    Calls Tryd.prog 47 #[.slice A n c] w (RetV (.tuple #[.string s, .int .i64 er]) w) := by
  obtain ⟨w2, hmk, hown2, hg2⟩ := make_bytes w n (by omega)
  have bw2 : Below w.heap.size w w2 := (Below.refl _ w).grown hg2 (Nat.le_refl _) (by simp)
  clear hg2
  replace hres := Lib.hid hres
  go_enter Tryd.func47, Tryd.ntmps47
  go_wp2_with fail
  go_loopg [4, 13] n (fun m u4 i13 wx => ∃ i : Nat, i + m = n ∧ i13 = .int .i64 i ∧ Hid (∀ x ∈ l.take i, isI x = true) ∧ (u4 = .slice (some ⟨w.heap.size, 0, none⟩) 0 n ∧ i = 0 ∨ 0 < i) ∧ wx.ownsRow w.heap.size 5 1 u4 (encs (chs (l.take i))).length (Lib.byteCells (encs (chs (l.take i)))) ∧ Below w.heap.size w wx)
  case atStart => exact ⟨0, by omega, rfl, by simp [Hid], .inl ⟨rfl, rfl⟩, by simpa [chs, encs, Lib.byteCells] using hown2, bw2⟩
  case round =>
    obtain ⟨i, hi, rfl, hgood, hform, hrow, hb1⟩ := hrel
    have hb1s := hb1.size
    by_cases hlt : i < n
    · obtain ⟨ad, rfl, hbl, hcell⟩ := (hr.below hb1).at_ (i := i) (by omega)
      obtain ⟨ao, cp, rfl⟩ := own_form hrow
      obtain ⟨x, hx⟩ : ∃ x, l.getD i 0 = x := ⟨_, rfl⟩
      rw [hx] at hcell
      have hxm : x ∈ l := by
        rw [← hx]
        have : i < l.length := by omega
        simp only [List.getD, List.getElem?_eq_getElem this, Option.getD_some]
        exact List.getElem_mem _
      have he1 := he.kept hb1
      have HW := Lib.hid (width_any x _ he1)
      rcases hxi : isI x with _ | _
      · have hw0 : widI x = 0 := by simp [widI, hxi]
        rw [hw0] at HW
        rcases hres.out with ⟨h1, _, _⟩ | ⟨_, rfl, rfl⟩
        · rw [h1 x hxm] at hxi; cases hxi
        go_wp2_with fail
        refine HW.out.mono ?_
        rintro e w3 ⟨rfl, y3⟩
        go_wp2
        go_ret2
        exact ⟨rfl, below_step hb1 y3⟩
      · have hvc := (isI_iff x).1 hxi
        obtain ⟨d, rfl⟩ : ∃ d : Nat, x = d := ⟨x.toNat, by omega⟩
        have hdc : isC d := by simpa using hvc.2
        have hw1 : widI (d : Int) = wid d := by simp [widI, hxi]
        rw [hw1] at HW
        have hwp := wid_pos d
        have hwb : ((wid d : Int) == 0) = false := by rw [beq_eq_false_iff_ne]; omega
        have hel := (encs_length_le (chs (l.take i))).2
        have hcl : (chs (l.take i)).length ≤ n := by simp [chs]; omega
        obtain ⟨q, hq⟩ : ∃ q, (encs (chs (l.take i))).length = q := ⟨_, rfl⟩
        rw [hq] at hrow hel
        have hst : encs (chs (l.take (i + 1))) = encs (chs (l.take i)) ++ enc d := by rw [chs_take (by omega), hx, encs_snoc]; simp
        have hgood2 : ∀ x ∈ l.take (i + 1), isI x = true := fun x hx2 => by
          have : l.take (i + 1) = l.take i ++ [l.getD i 0] := by
            rw [List.take_add_one]
            simp [List.getD, show i < l.length by omega]
          rw [this, List.mem_append, hx] at hx2
          rcases hx2 with h5 | h5
          · exact hgood.out x h5
          · rw [List.mem_singleton.1 h5]; exact hxi
        replace hgood2 := Lib.hid hgood2
        have hlenst : (encs (chs (l.take (i + 1)))).length = q + wid d := by rw [hst, List.length_append, enc_length, hq]
        replace hst := Lib.hid hst
        replace hlenst := Lib.hid hlenst
        have HA := Lib.hid fun W hW hown hB => appendBytes_any w.heap.size q (.slice ao q cp) (Lib.byteCells (encs (chs (l.take i)))) d hdc W hW hown hB he.1 (by omega)
        generalize wid d = k at *
        clear hres hvc hel hcl hgood
        go_wp2_with fail
        refine HW.out.mono ?_
        rintro e w3 ⟨rfl, y3⟩
        have hrow3 := own_kept hrow y3
        have hb3 := below_step hb1 y3
        go_wp2_with fail
        refine (HA.out _ (he.kept hb3) hrow3 hb3.size).mono ?_
        rintro e w4 ⟨u4, rfl, hown4, hb4⟩
        obtain ⟨ao4, cp4, rfl⟩ := own_form hown4
        go_wp2
        go_roundg (n - (i + 1))
        case measure => omega
        case rel => exact ⟨i + 1, by omega, by go_num, hgood2, .inr (by omega), by rw [hlenst.out, hst.out, Lib.byteCells, List.map_append]; exact hown4, hb3.trans hb4⟩
    · obtain rfl : i = n := by omega
      rw [List.take_of_length_le (by omega)] at hgood hrow
      rcases hres.out with ⟨_, rfl, rfl⟩ | ⟨⟨x, h5, h6⟩, _, _⟩
      · have hconv : ∃ g cp, u4 = .slice (some ⟨g, 0, none⟩) (encs (chs l)).length cp ∧ (convert 103 9 u4).run Tryd.prog wr = .ok (.string ⟨(encs (chs l)).toArray⟩) wr := by
          rcases hform with ⟨rfl, rfl⟩ | h0
          · have hl0 : l = [] := List.length_eq_zero_iff.1 hln
            subst hl0
            exact ⟨w.heap.size, 0, rfl, conv_own (bs := []) hrow⟩
          · have hpos : 0 < (encs (chs l)).length := by
              have := (encs_length_le (chs l)).1
              have h7 : (chs l).length = l.length := by simp [chs]
              omega
            obtain ⟨k, hk⟩ : ∃ k, (encs (chs l)).length = k + 1 := ⟨(encs (chs l)).length - 1, by omega⟩
            obtain ⟨g, cap, e⟩ := ownsRow_succ (k := k) (hk ▸ hrow)
            rw [← hk] at e
            subst e
            exact ⟨g, cap, rfl, conv_own hrow⟩
        obtain ⟨g, cp, rfl, hcv⟩ := hconv
        generalize (encs (chs l)).toArray = E at *
        clear hres
        go_wp2
        go_ret2
        exact ⟨rfl, hb1⟩
      · rw [hgood.out x h5] at h6; cases h6
end Go.Proofs.YtccbofaefpbhlaaDoor.Utf
