/-
  FieldParts' walk.
-/
import Derived.Test.YtanpncjnojjmkaaDoorFG
namespace Go.Proofs.YtanpncjnojjmkaaDoor
set_option linter.unusedVariables false
set_option maxRecDepth 20000
open Go.RowKit

theorem cut_any (s : ByteArray) (n : Nat) (w : World) : Calls Tryd.prog 7 #[.string s, .int .i64 (n : Nat)] w fun e w' => ∃ s' : ByteArray, e = .returned (.string s') ∧ s'.size ≤ n ∧ Below w.heap.size w w' := by
  go_enter Tryd.func7, Tryd.ntmps7
  by_cases h : n < s.size
  · go_wp2
    go_ret
    exact ⟨_, rfl, by rw [ByteArray.size_extract]; omega, Below.refl _ _⟩
  · go_wp2
    go_ret
    exact ⟨_, rfl, by omega, Below.refl _ _⟩
theorem jn_le (c : UInt8) : ∀ (l : List (List UInt8)) (b : Bool) (acc : List UInt8), acc.length ≤ (jn c b acc l).length
  | [], b, acc => Nat.le_refl _
  | x :: r, b, acc => by
    have := jn_le c r true ((if b then acc ++ [c] else acc) ++ x)
    rw [jn]
    refine Nat.le_trans ?_ this
    cases b <;> simp <;> omega

set_option maxHeartbeats 4000000 in
theorem fieldParts_walk (s0 : ByteArray) (w : World) (he : Env w) : Calls Tryd.prog 3 #[.string s0] w (RetV (.bool true) w) := by
  have H0 := Lib.hid (awake_any w he)
  have H1 : Hid (∀ W, Calls Tryd.prog 7 #[.string s0, .int .i64 300] W fun e w' => ∃ s' : ByteArray, e = .returned (.string s') ∧ s'.size ≤ 300 ∧ Below W.heap.size W w') := Lib.hid fun W => cut_any s0 300 W
  go_enter Tryd.func3, Tryd.ntmps3
  go_wp2_with fail
  refine H0.out.mono ?_
  rintro e w1 ⟨rfl, y1⟩
  have he := he.kept y1
  go_wp2_with fail
  refine (H1.out _).mono ?_
  rintro e w2 ⟨s, rfl, hs, y2⟩
  have he := he.kept y2
  have y2 := below_step y1 y2
  have H2 := Lib.hid (split_any s w2 he (by omega))
  have H3 : Hid (∀ W, Calls Tryd.prog 10 #[.string s, .int .u8 59] W (RetT (spl 59 s.data.toList []) W)) := Lib.hid fun W => refSplit_any s 59 W (by omega)
  have H4 := Lib.hid fun W hW => strip_any s _ W hW (by omega) rfl
  have H5 := Lib.hid fun W => refStrip_any s _ W (by omega) rfl
  have hjs := jn_spl 59 s.data.toList [] [] false
  have hlen : s.data.toList.length = s.size := Array.length_toList
  have hcnt : (spl 59 s.data.toList []).length ≤ 1000000 := by
    rw [← split_count]
    show Lib.count s.data.toList [59] + 1 ≤ _
    rw [Lib.count_one]
    have := List.count_le_length (a := (59 : UInt8)) (l := s.data.toList)
    omega
  simp only [Bool.false_eq_true, if_false, List.nil_append] at hjs
  have HJ := Lib.hid hjs
  have HJ2 := Lib.hid (str_of_list (s := s) rfl)
  generalize spl 59 s.data.toList [] = P at *
  generalize stripL s.data.toList = T at *
  clear H0 H1 hjs
  go_wp2_with fail
  refine H2.out.mono ?_
  rintro e w3 ⟨v, rfl, hv, y3⟩
  have he := he.kept y3
  have y3 := below_step y2 y3
  obtain ⟨A, c, rfl⟩ := hv.shape
  obtain ⟨n, hn⟩ : ∃ n, P.length = n := ⟨_, rfl⟩
  have HV := Lib.hid fun i hi => hv.at_ (i := i) hi
  have HV2 := Lib.hid hv
  rw [hn] at hcnt HV HV2 ⊢
  clear hv H2
  go_wp2
  go_loopw [4, 15] (fun u t wr => ∃ (i : Nat) (J : List UInt8), t = .int .i64 i ∧ u = .string ⟨J.toArray⟩ ∧ i ≤ n ∧ jn 59 (decide (0 < i)) J (P.drop i) = s.data.toList ∧ Below w3.heap.size w3 wr) (fun _ t _ => n - (intOf t).toNat)
  case atStart => exact ⟨0, [], rfl, rfl, by omega, HJ.out, Below.refl _ _⟩
  case round =>
    obtain ⟨i, J, rfl, rfl, hi, hj, hb⟩ := hrel
    have HH := Lib.hid hj
    have hJl : J.length ≤ 300 := by have := jn_le 59 (P.drop i) (decide (0 < i)) J; rw [hj, hlen] at this; omega
    clear hj
    by_cases hlt : i < n
    · obtain ⟨g, rfl, hg, hc⟩ := HV.out i hlt
      have hc1 := (hb.cell (p := ⟨g, i, none⟩) hg).trans hc
      have hdr : P.drop i = P.getD i [] :: P.drop (i + 1) := drop_get [] (by omega)
      generalize P.getD i [] = x at *
      have hst : jn 59 (decide (0 < i)) J (P.drop i) = jn 59 true ((if decide (0 < i) then J ++ [59] else J) ++ x) (P.drop (i + 1)) := by rw [hdr, jn]
      have hxl : ((if decide (0 < i) then J ++ [59] else J) ++ x).length ≤ 300 := by have := jn_le 59 (P.drop (i + 1)) true ((if decide (0 < i) then J ++ [59] else J) ++ x); rw [← hst, HH.out, hlen] at this; omega
      have HST := Lib.hid hst
      clear hst hdr hc HV
      by_cases h0 : 0 < i
      · have hd : decide (0 < i) = true := by simpa using h0
        rw [hd, if_pos rfl] at HST
        rw [hd, if_pos rfl] at hxl
        have hc2 := Lib.hid (cat_arrays J [59])
        have hc3 := Lib.hid (cat_arrays (J ++ [59]) x)
        have hx2 : J.length + 1 + x.length ≤ 300 := by simp at hxl; omega
        clear hxl hd
        go_wp2
        go_roundw
        case rel => exact ⟨i + 1, J ++ [59] ++ x, by go_num, congrArg Value.string ((congrArg (· ++ (⟨x.toArray⟩ : ByteArray)) hc2.out).trans hc3.out), by omega, by rw [show decide (0 < i + 1) = true by simp, ← HST.out]; have := HH.out; rwa [show decide (0 < i) = true by simpa using h0] at this, hb⟩
        case measure => simp [intOf]; omega
      · obtain rfl : i = 0 := by omega
        have hx2 : J.length + x.length ≤ 300 := by simpa using hxl
        have hc3 := Lib.hid (cat_arrays J x)
        clear hxl
        go_wp2
        go_roundw
        case rel => exact ⟨1, J ++ x, by go_num, congrArg Value.string hc3.out, by omega, HST.out.symm.trans HH.out, hb⟩
        case measure => simp [intOf]; omega
    · obtain rfl : i = n := by omega
      have hJ : J = s.data.toList := by have := HH.out; rwa [List.drop_of_length_le (by omega), jn] at this
      have hJs : (⟨J.toArray⟩ : ByteArray) = s := by rw [hJ]
      rw [hJs]
      clear HH hJ hJs HV
      go_wp2_with fail
      refine (H3.out _).mono ?_
      rintro e w4 ⟨u, rfl, hu, y4⟩
      have hb4 := below_step hb y4
      obtain ⟨B, d, rfl⟩ := hu.shape
      have HSM := Lib.hid (same_any _ _ P w4 (HV2.out.below hb4) hu (by omega))
      rw [hn] at HSM ⊢
      clear hu H3
      go_wp2_with fail
      refine HSM.out.mono ?_
      rintro e w5 ⟨rfl, y5⟩
      have hb5 := below_step hb4 y5
      go_wp2_with fail
      refine (H4.out _ (he.kept hb5)).mono ?_
      rintro e w6 ⟨rfl, y6⟩
      go_wp2_with fail
      refine (H5.out _).mono ?_
      rintro e w7 ⟨rfl, y7⟩
      go_wp2
      go_ret
      exact ⟨by simp, below_step y3 (below_step (below_step hb5 y6) y7)⟩
end Go.Proofs.YtanpncjnojjmkaaDoor
