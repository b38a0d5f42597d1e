/-
  The walk of the law on texts one behind the other.
-/
import Derived.Test.YtobfhidajcnfdabDoorLawDecodes
namespace Go.Proofs.YtobfhidajcnfdabDoor
set_option linter.unusedVariables false
set_option maxRecDepth 20000
open Go.RowKit Go.Lib

theorem Row.grown {k : IntKind} {w w' : World} {A : Option Addr} {l : List Nat} {row : Option Nat} (h : Row k w A l) (hg : w.grownBy w' row) (hne : ∀ ad, A = some ad → some ad.block ≠ row) : Row k w' A l := fun hn => by
  obtain ⟨ad, e, hl, hcell⟩ := h hn
  have hsz : w.heap.size ≤ w'.heap.size := by
    obtain ⟨_, _, _, h4, _⟩ := hg
    exact h4
  exact ⟨ad, e, Nat.lt_of_lt_of_le hl hsz, fun i hi => hg.cell (hcell i hi) (by rw [add_block]; exact hne ad e)⟩

/-- What is ahead of a wrong byte. -/
theorem ahead (s : ByteArray) (cs : List Nat) (rest : List UInt8) (h : Splits s.data.toList cs rest) (hr : rest ≠ []) : Splits (s.extract 0 (encs cs).length).data.toList cs [] ∧ (encs cs).length ≤ s.size := by
  have hlen : s.data.toList.length = s.size := Array.length_toList
  refine ⟨?_, ?_⟩
  · rw [take_list, h.2.1, List.take_left]
    exact splits_encs h.1
  · rw [← hlen, h.2.1, List.length_append]; omega

set_option maxHeartbeats 8000000 in
theorem utfJoins_walk (a0 b0 : ByteArray) (w : World) (he : Env w) : Calls Tryd.prog 7 #[.string a0, .string b0] w (RetV (.bool true) w) := by
  obtain ⟨i0, hi, hz0, hz1, hz2⟩ := info_parts rune_info
  go_enter Tryd.func7, Tryd.ntmps7
  go_wp2_with fail
  refine (awake_any _ he).mono ?_
  rintro e w1 ⟨rfl, b1⟩
  go_wp2_with fail
  refine (cut_any a0 100 _).mono ?_
  rintro e w2 ⟨a, rfl, ha, b2⟩
  have b2 := below_step b1 b2
  go_wp2_with fail
  refine (cut_any b0 100 _).mono ?_
  rintro e w3 ⟨b, rfl, hb, b3⟩
  have b3 := below_step b2 b3
  have he3 := he.kept b3
  clear b1 b2
  obtain ⟨cs, rest, hsp⟩ := splits_total _ a.data.toList rfl
  obtain ⟨ds, rest', hsp'⟩ := splits_total _ b.data.toList rfl
  have hnb : ∀ (cs : List Nat) (rest : List UInt8), ∃ n bb, (rest = [] ∧ n = cs.length ∧ bb = true) ∨ (rest ≠ [] ∧ n = (encs cs).length ∧ bb = false) := fun cs rest => by
    by_cases h : rest = []
    · exact ⟨_, _, .inl ⟨h, rfl, rfl⟩⟩
    · exact ⟨_, _, .inr ⟨h, rfl, rfl⟩⟩
  obtain ⟨n, bb, hn⟩ := hnb cs rest
  obtain ⟨n', bb', hn'⟩ := hnb ds rest'
  clear hnb
  have HA := Lib.hid (valid_any a _ he3 (by omega) cs rest hsp n bb hn)
  have HB := Lib.hid fun W hW => valid_any b W hW (by omega) ds rest' hsp' n' bb' hn'
  have hca : (rest = [] ∧ Splits a.data.toList cs [] ∧ bb = true) ∨ (bb = false ∧ Splits (a.extract 0 n).data.toList cs [] ∧ n ≤ a.size) := by
    rcases hn with ⟨rfl, _, rfl⟩ | ⟨h, rfl, rfl⟩
    · exact .inl ⟨rfl, hsp, rfl⟩
    · exact .inr ⟨rfl, ahead a cs rest hsp h⟩
  have hcb : (rest' = [] ∧ Splits b.data.toList ds [] ∧ bb' = true) ∨ (bb' = false ∧ Splits (b.extract 0 n').data.toList ds [] ∧ n' ≤ b.size) := by
    rcases hn' with ⟨rfl, _, rfl⟩ | ⟨h, rfl, rfl⟩
    · exact .inl ⟨rfl, hsp', rfl⟩
    · exact .inr ⟨rfl, ahead b ds rest' hsp' h⟩
  clear hn hn' hsp hsp'
  replace hca := Lib.hid hca
  replace hcb := Lib.hid hcb
  go_wp2_with fail
  refine HA.out.mono ?_
  rintro e w4 ⟨rfl, b4⟩
  have b4 := below_step b3 b4
  go_upto_if 31 with fail
  go_cut [0] (fun s0 wx => ∃ a' : ByteArray, s0 = .string a' ∧ a'.size ≤ 100 ∧ Hid (Splits a'.data.toList cs []) ∧ wx = w4)
  case first =>
    rcases hca.out with ⟨_, h1, rfl⟩ | ⟨rfl, h1, h2⟩
    · go_wp2
      go_meet
      exact ⟨_, rfl, ha, h1, rfl⟩
    · go_wp2
      go_meet
      exact ⟨_, rfl, by rw [ByteArray.size_extract]; omega, h1, rfl⟩
  case rest =>
    obtain ⟨a', rfl, ha', hsa, rfl⟩ := hcut
    clear hca HA
    go_wp2_with fail
    refine (HB.out _ (he.kept b4)).mono ?_
    rintro e w5 ⟨rfl, b5⟩
    have b5 := below_step b4 b5
    go_upto_if 41 with fail
    go_cut [1] (fun s0 wx => ∃ b' : ByteArray, s0 = .string b' ∧ b'.size ≤ 100 ∧ Hid (Splits b'.data.toList ds []) ∧ wx = w5)
    case first =>
      rcases hcb.out with ⟨_, h1, rfl⟩ | ⟨rfl, h1, h2⟩
      · go_wp2
        go_meet
        exact ⟨_, rfl, hb, h1, rfl⟩
      · go_wp2
        go_meet
        exact ⟨_, rfl, by rw [ByteArray.size_extract]; omega, h1, rfl⟩
    case rest =>
      obtain ⟨b', rfl, hb', hsb, rfl⟩ := hcut
      clear hcb HB ha hb b3 b4 he3
      have hla : a'.data.toList.length = a'.size := Array.length_toList
      have hlb : b'.data.toList.length = b'.size := Array.length_toList
      have ea : a'.data.toList = encs cs := by simpa using hsa.out.2.1
      have eb : b'.data.toList = encs ds := by simpa using hsb.out.2.1
      have hcl : cs.length ≤ 100 := by
        have h1 := (encs_length_le cs).1
        rw [← ea, hla] at h1
        omega
      have hdl : ds.length ≤ 100 := by
        have h1 := (encs_length_le ds).1
        rw [← eb, hlb] at h1
        omega
      have hsab : Splits (a' ++ b').data.toList (cs ++ ds) [] := by
        have : (a' ++ b').data.toList = encs (cs ++ ds) := by rw [ByteArray.data_append, Array.toList_append, ea, eb, encs_append]
        rw [this]
        refine splits_encs fun x hx => ?_
        rcases List.mem_append.1 hx with h1 | h1
        · exact hsa.out.1 x h1
        · exact hsb.out.1 x h1
      have hsz : (a' ++ b').size ≤ 200 := by rw [ByteArray.size_append]; omega
      have hov : ¬ 9223372036854775807 < a'.size + b'.size := by omega
      have H1 := Lib.hid fun W hW => decode_ok2 a' W hW (by omega) cs hsa.out
      have H2 := Lib.hid fun W hW => decode_ok2 b' W hW (by omega) ds hsb.out
      have H3 := Lib.hid fun W hW => decode_ok2 (a' ++ b') W hW (by omega) (cs ++ ds) hsab
      have H4 := Lib.hid fun W hW => valid_any (a' ++ b') W hW (by omega) (cs ++ ds) [] hsab _ true (.inl ⟨rfl, rfl, rfl⟩)
      rw [List.length_append] at H4
      clear hsab hsa hsb hla hlb ea eb hsz
      go_wp2_with fail
      refine (H1.out _ (he.kept b5)).mono ?_
      rintro e w6 ⟨gx, cx, rfl, hox, y6⟩
      have b6 := below_step b5 y6
      go_wp2_with fail
      refine (H2.out _ (he.kept b6)).mono ?_
      rintro e w7 ⟨gy, cy, rfl, hoy, y7⟩
      have b7 := below_step b6 y7
      have hox := own_kept hox y7
      have hgx := (hox.lt gx rfl).2
      go_wp2_with fail
      refine (H3.out _ (he.kept b7)).mono ?_
      rintro e w8 ⟨gz, cz, rfl, hoz, y8⟩
      have b8 := below_step b7 y8
      have hox := own_kept hox y8
      have hoy := own_kept hoy y8
      have hgz := (hoz.lt gz rfl).1
      go_wp2_with fail
      refine (H4.out _ (he.kept b8)).mono ?_
      rintro e w9 ⟨rfl, y9⟩
      have b9 := below_step b8 y9
      have hox := own_kept hox y9
      have hoy := own_kept hoy y9
      have hoz := own_kept hoz y9
      have s6 := y6.size
      have s7 := y7.size
      have s8 := y8.size
      have s9 := y9.size
      have hry := (own_isL hoy)
      obtain ⟨Ay, cy', ey, hAy, _⟩ := hry
      simp only [Value.slice.injEq, true_and] at ey
      obtain ⟨rfl, rfl⟩ := ey
      have hsrc := hAy.row.src
      obtain ⟨Az, cz', ez, hAz, _⟩ := own_isL hoz
      simp only [Value.slice.injEq, true_and] at ez
      obtain ⟨rfl, rfl⟩ := ez
      have hrz := hAz.row
      rw [List.length_append] at hoz
      obtain ⟨p, hp⟩ : ∃ p, cs.length = p := ⟨_, rfl⟩
      obtain ⟨q, hq⟩ : ∃ q, ds.length = q := ⟨_, rfl⟩
      rw [hp] at hox hcl ⊢
      rw [hq] at hdl ⊢
      have hcel : (cellsOf .i32 ds).length = q * 1 := by rw [cellsOf_length, hq]; omega
      have hone := cellsOf_one .i32 ds
      have hbase : wc.heap.size ≤ w9.heap.size := by omega
      have hwc := b5.size
      clear H1 H2 H3 H4 y6 y7 y8 y9 hoy hAy hAz hoz b5 b6 b7 b8
      go_wp2_with (at_builtin; refine wpList_append_own _ rfl (.tmp 99) (.tmp 100) 29 rfl _ 21 i0 (.int .i32 0) 1 4 Tryd.underlying29 hi hz0 hz1 hz2 rfl (by decide) _ p _ rfl hox ⟨gy, 0, none⟩ q cy (cellsOf .i32 ds) rfl hcel hsrc hone (by unfold maxLen; omega) (by omega) hbase ?_; intro v' w10 hown10 hgrow _; have hgr : w9.grownBy w10 (some gx) := hgrow; clear hgrow; obtain ⟨Av, cv, rfl⟩ := own_form hown10)
      have hb10 : Below w.heap.size w w10 := b9.grown hgr b9.size (fun k hk => by cases hk; have := (hox.lt gx rfl).1; omega)
      have hrz10 := hrz.grown hgr (fun ad e => by
        cases e
        intro e2
        have := Option.some.inj e2
        have e3 : gz = gx := this
        omega)
      rw [← cellsOf_append] at hown10
      have hlen2 : (cs ++ ds).length = p + q := by rw [List.length_append, hp, hq]
      rw [← hlen2] at hown10
      obtain ⟨Av', cv', ev, hAv, _⟩ := own_isL hown10
      simp only [Value.slice.injEq] at ev
      obtain ⟨rfl, _, rfl⟩ := ev
      have hrv := hAv.row
      clear hown10 hAv hgr hrz hox hsrc hcel hone
      generalize cs ++ ds = l at *
      go_loopg [103] (p + q) (fun m i103 wx => wx = w10 ∧ ∃ i : Nat, i + m = p + q ∧ i103 = .int .i64 i)
      case atStart => exact ⟨rfl, 0, by omega, rfl⟩
      case round =>
        obtain ⟨rfl, i, hi, rfl⟩ := hrel
        by_cases hlt : i < p + q
        · obtain ⟨ad, rfl, _, hc1⟩ := hrv.at_ (i := i) (by omega)
          obtain ⟨ad5, e5, _, hc2⟩ := hrz10.at_ (i := i) (by omega)
          cases e5
          rw [add_zero_block] at hc2
          generalize l.getD i 0 = x at *
          go_wp2
          go_roundg (p + q - (i + 1))
          case measure => omega
          case rel => exact ⟨rfl, i + 1, by omega, by go_num⟩
        · obtain rfl : i = p + q := by omega
          go_wp2
          go_ret
          exact ⟨rfl, hb10⟩
end Go.Proofs.YtobfhidajcnfdabDoor
