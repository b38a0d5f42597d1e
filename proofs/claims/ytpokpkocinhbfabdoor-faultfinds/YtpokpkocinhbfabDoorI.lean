/-
  Contracts of the document's answers: digits, Text.
-/
import Derived.Test.YtpokpkocinhbfabDoorH
namespace Go.Proofs.YtpokpkocinhbfabDoor
set_option linter.unusedVariables false
set_option maxRecDepth 20000
open Go.RowKit Go.Extern.Stop Go.Stop Go.Extern

theorem cat_str (a b : List UInt8) : (⟨a.toArray⟩ : ByteArray) ++ ⟨b.toArray⟩ = ⟨(a ++ b).toArray⟩ := by
  apply ByteArray.ext
  simp [ByteArray.data_append]

theorem dec_le (n : Int) (h0 : -9223372036854775808 ≤ n) (h1 : n ≤ 9223372036854775807) : (Lib.itoa n).length ≤ 21 := Lib.itoa_length_le n h0 h1

set_option maxHeartbeats 1000000 in
theorem refDigits_any (n : Int) (w : World) (h0 : -9223372036854775808 ≤ n) (h1 : n ≤ 9223372036854775807) : Calls Tryd.prog 35 #[.int .i64 n] w (RetV (.string ⟨(Lib.itoa n).toArray⟩) w) := by
  have hle := dec_le n h0 h1
  by_cases hn : n < 0
  · have e : Lib.itoa n = 45 :: Lib.decDigits n.natAbs := by rw [Lib.itoa, if_pos hn]
    rw [e] at hle ⊢
    clear e
    obtain ⟨m, hm⟩ : ∃ m : Nat, n.natAbs = m := ⟨_, rfl⟩
    rw [hm] at hle ⊢
    have hnm : n = -(m : Int) := by omega
    have hm1 : 1 ≤ m := by omega
    have hm2 : m ≤ 9223372036854775808 := by omega
    subst hnm
    clear hm h0 h1
    have W := Lib.hid (word_any m w (by omega))
    simp only [List.length_cons] at hle
    generalize Lib.decDigits m = dm at *
    go_enter Tryd.func35, Tryd.ntmps35
    go_wp2_with fail
    rw [show (-(-(m : Int) + 1) + 1) = (m : Int) by omega]
    refine W.out.mono ?_
    rintro e w1 ⟨rfl, hb⟩
    go_wp2
    go_ret
    exact ⟨by show Ending.returned (.string ((⟨[45].toArray⟩ : ByteArray) ++ ⟨dm.toArray⟩)) = _; rw [cat_str]; rfl, hb⟩
  · have e : Lib.itoa n = Lib.decDigits n.toNat := by rw [Lib.itoa, if_neg hn]
    rw [e]
    obtain ⟨m, rfl⟩ : ∃ m : Nat, n = m := ⟨n.toNat, by omega⟩
    simp only [Int.toNat_natCast]
    clear hle e
    go_enter Tryd.func35, Tryd.ntmps35
    go_wp2_with fail
    refine (word_any m w (by omega)).mono ?_
    rintro e w1 ⟨rfl, hb⟩
    go_wp2
    go_ret
    exact ⟨rfl, hb⟩

theorem textOf_nil : textOf [] = [] := rfl
theorem textOf_pos {l : List Lk} (h : l.length ≠ 0) : textOf l = notesText (notesOf l) ++ (lineText (lineOf l) ++ codeText (codeOf l)) := by rw [textOf, if_neg h]

set_option maxHeartbeats 4000000 in
theorem refText_any (A : Option Addr) (c : Nat) (l : List Lk) (w : World) (h : Links w A l) (hl : l.length ≤ 1000) (hf : ∀ y ∈ l, y.Fits) :
    Calls Tryd.prog 19 #[.slice A l.length c] w (RetV (.string ⟨(textOf l).toArray⟩) w) := by
  by_cases hl0 : l.length = 0
  · have : l = [] := List.eq_nil_of_length_eq_zero hl0
    subst this
    go_enter Tryd.func19, Tryd.ntmps19
    go_wp2
    go_ret
    exact ⟨rfl, Below.refl _ _⟩
  · have hn1 := notesOf_fits hf
    have hn2 := notesOf_le l
    have hlf := lineOf_fits hf
    have hcf := codeOf_fits hf
    rw [textOf_pos hl0]
    have hz0 : ((l.length : Int) == 0) = false := beq_eq_false_iff_ne.2 (by omega)
    have N := Lib.hid (refNotes_any A c l w h hl)
    have hm : (notesOf l).length ≤ 1000 := by omega
    generalize notesOf l = ss at *
    clear hl0 hf
    go_enter Tryd.func19, Tryd.ntmps19
    go_wp2_with fail
    refine N.out.mono ?_
    rintro e w1 ⟨u, rfl, hrow, hb1⟩
    obtain ⟨ao, cap, rfl⟩ := own_form hrow
    go_wp2
    go_loopg [3, 12] ss.length (fun n s i wx => ∃ k : Nat, k + n = ss.length ∧ i = .int .i64 k ∧ s = .string ⟨(notesText (ss.take k)).toArray⟩ ∧ w1 = wx)
    case atStart => exact ⟨0, by omega, rfl, rfl, rfl⟩
    case round =>
      obtain ⟨k, hk, rfl, rfl, rfl⟩ := hrel
      by_cases hlt : k < ss.length
      · obtain ⟨s, hs⟩ : ∃ s, ss[k]? = some s := ⟨_, List.getElem?_eq_getElem hlt⟩
        obtain ⟨g', cap', hv, hc⟩ := own_at hrow (strs_at hs)
        simp only [Value.slice.injEq] at hv
        obtain ⟨rfl, _, rfl⟩ := hv
        have hsm : s.size ≤ 1000 := hn1 s (List.mem_of_getElem? hs)
        have hle : (notesText (ss.take k)).length ≤ 1002 * 1000 := by
          have h1 := notesText_le (ss := ss.take k) (fun y hy => hn1 y (List.mem_of_mem_take hy))
          have h2 : (ss.take k).length ≤ 1000 := by rw [List.length_take]; omega
          omega
        have HT : Hid (notesText (ss.take (k + 1)) = notesText (ss.take k) ++ (s.data.toList ++ [58, 32])) := by
          have : ss.take (k + 1) = ss.take k ++ [s] := by
            rw [List.take_succ_eq_append_getElem hlt]
            rw [List.getElem?_eq_getElem hlt] at hs
            rw [Option.some.inj hs]
          rw [Hid, this, notesText_snoc]
        have HK := Lib.hid hk
        have hn1' := Lib.hid hn1
        clear hs hk hn1
        generalize notesText (ss.take k) = tx at *
        go_wp2
        go_roundg (ss.length - (k + 1))
        case measure => have := HK.out; omega
        case rel =>
          refine ⟨k + 1, by omega, by go_num, ?_, rfl⟩
          rw [HT.out, ← cat_str tx (s.data.toList ++ [58, 32]), ← cat_str s.data.toList [58, 32]]
      · have hk0 : k = ss.length := by omega
        subst hk0
        rw [List.take_length]
        have hle : (notesText ss).length ≤ 1002 * 1000 := by
          have h1 := notesText_le hn1
          omega
        have HN := Lib.hid hn1
        clear hn1 hk hrow
        generalize notesText ss = tx at *
        go_wp2_with fail
        refine (refLine_any A c l _ (h.kept hb1) hl).mono ?_
        rintro e w2 ⟨rfl, hb2⟩
        have bw2 := below_step hb1 hb2
        have IC := Lib.hid (fun W => refDigits_any (codeOf l) W hcf.1 hcf.2)
        have hic := Lib.itoa_length_le _ hcf.1 hcf.2
        have HCT : Hid (codeText (codeOf l) = [99, 111, 100, 101, 32] ++ Lib.itoa (codeOf l)) := rfl
        generalize hI : Lib.itoa (codeOf l) = ic at *
        clear hI
        by_cases hz : lineOf l = 0
        · have hzl : lineText (lineOf l) = [] := by simp [lineText, hz]
          have HZ := Lib.hid hzl
          rw [hz]
          clear hz hzl
          go_wp2_with fail
          refine (refCode_any A c l _ (h.kept bw2) hl).mono ?_
          rintro e w3 ⟨rfl, hb3⟩
          have bw3 := below_step bw2 hb3
          go_wp2_with fail
          refine (IC.out _).mono ?_
          rintro e w4 ⟨rfl, hb4⟩
          go_wp2
          go_ret
          refine ⟨?_, below_step bw3 hb4⟩
          show Ending.returned (.string (((⟨tx.toArray⟩ : ByteArray) ++ ⟨[99, 111, 100, 101, 32].toArray⟩) ++ ⟨ic.toArray⟩)) = _
          rw [cat_str, cat_str, HZ.out, HCT.out]
          simp
        · have hzl : lineText (lineOf l) = [108, 105, 110, 101, 32] ++ (Lib.itoa (lineOf l) ++ [58, 32]) := by rw [lineText, if_neg hz]
          have hz1 : (lineOf l != 0) = true := by simp [hz]
          have HZ := Lib.hid hzl
          have hil := Lib.itoa_length_le _ hlf.1 hlf.2
          have IT := Lib.hid (fun W => refDigits_any (lineOf l) W hlf.1 hlf.2)
          have LN := Lib.hid (fun W (hW : Links W A l) => refLine_any A c l W hW hl)
          clear hz hzl hlf
          generalize lineOf l = ln at *
          generalize Lib.itoa ln = li at *
          go_wp2_with fail
          refine (LN.out _ (h.kept bw2)).mono ?_
          rintro e w3 ⟨rfl, hb3⟩
          have bw3 := below_step bw2 hb3
          go_wp2_with fail
          refine (IT.out _).mono ?_
          rintro e w4 ⟨rfl, hb4⟩
          have bw4 := below_step bw3 hb4
          go_wp2_with fail
          refine (refCode_any A c l _ (h.kept bw4) hl).mono ?_
          rintro e w5 ⟨rfl, hb5⟩
          have bw5 := below_step bw4 hb5
          go_wp2_with fail
          refine (IC.out _).mono ?_
          rintro e w6 ⟨rfl, hb6⟩
          go_wp2
          go_ret
          refine ⟨?_, below_step bw5 hb6⟩
          show Ending.returned (.string ((((⟨tx.toArray⟩ : ByteArray) ++ (((⟨[108, 105, 110, 101, 32].toArray⟩ : ByteArray) ++ ⟨li.toArray⟩) ++ ⟨[58, 32].toArray⟩)) ++ ⟨[99, 111, 100, 101, 32].toArray⟩) ++ ⟨ic.toArray⟩)) = _
          rw [cat_str, cat_str, cat_str, cat_str, cat_str, HZ.out, HCT.out]
          simp
end Go.Proofs.YtpokpkocinhbfabDoor
