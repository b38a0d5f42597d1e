/-
  The document's Strip; the laws' Cut; FieldParts' walk.
-/
import Derived.Test.YtanpncjnojjmkaaDoorFF
namespace Go.Proofs.YtanpncjnojjmkaaDoor
set_option linter.unusedVariables false
set_option maxRecDepth 20000
open Go.RowKit

def strLen : Value → Nat
  | .string s => s.size
  | _ => 0
theorem full_list {s : ByteArray} (h : ¬ s.size = 0) : s.toList.isEmpty = false := by
  rw [ByteArray.toList_eq]
  cases hl : s.data.toList with
  | nil => exact absurd (show s.size = 0 by show s.data.size = 0; simpa using congrArg List.length hl) h
  | cons _ _ => rfl
theorem empty_of {s : ByteArray} (h : s.size = 0) : s = ⟨#[]⟩ := by
  apply ByteArray.ext
  exact Array.eq_empty_of_size_eq_zero h
theorem drop_list (s : ByteArray) (n : Nat) (h : n ≤ s.size) : (s.extract n s.size).data.toList = s.data.toList.drop n := by
  have hl : s.data.toList.length = s.size := Array.length_toList
  simp only [ByteArray.data_extract, Array.toList_extract, List.extract_eq_take_drop]
  rw [List.take_of_length_le (by simp)]
theorem take_list (s : ByteArray) (n : Nat) : (s.extract 0 n).data.toList = s.data.toList.take n := by
  simp [ByteArray.data_extract, Array.toList_extract, List.extract_eq_take_drop]
theorem head_list (s : ByteArray) (h : 0 < s.size) : s.data.toList = s.data.toList.getD 0 0 :: s.data.toList.drop 1 := by
  have hl : s.data.toList.length = s.size := Array.length_toList
  have := drop_get (l := s.data.toList) (i := 0) 0 (by omega)
  simpa using this
theorem left_step (s : ByteArray) (h : 0 < s.size) (hc : s[0].toNat = 32) : Lib.trimLeftB s.data.toList 32 = Lib.trimLeftB (s.extract 1 s.size).data.toList 32 := by
  have hb : s.data.toList.getD 0 0 = 32 := UInt8.toNat_inj.1 (by rw [byte_at s 0 h, hc]; rfl)
  rw [drop_list s 1 (by omega), head_list s h, hb]
  simp [Lib.trimLeftB]
theorem left_stop (s : ByteArray) (h : 0 < s.size) (hc : s[0].toNat ≠ 32) : Lib.trimLeftB s.data.toList 32 = s.data.toList := by
  have hb : s.data.toList.getD 0 0 ≠ 32 := fun e => hc (by rw [← byte_at s 0 h, e]; rfl)
  rw [head_list s h]
  generalize s.data.toList.getD 0 0 = b at *
  simp [Lib.trimLeftB, hb]
theorem last_list (s : ByteArray) (h : 0 < s.size) : s.data.toList = s.data.toList.take (s.size - 1) ++ [s.data.toList.getD (s.size - 1) 0] := by
  have hl : s.data.toList.length = s.size := Array.length_toList
  have h1 : s.data.toList.take (s.size - 1 + 1) = s.data.toList.take (s.size - 1) ++ [s.data.toList.getD (s.size - 1) 0] := by
    rw [List.take_add_one, List.getElem?_eq_getElem (by omega), List.getD, List.getElem?_eq_getElem (by omega)]
    rfl
  rw [← h1, List.take_of_length_le (by omega)]
theorem right_step (s : ByteArray) (h : 0 < s.size) (hc : (s[s.size - 1]'(by omega)).toNat = 32) : Lib.trimRightB s.data.toList 32 = Lib.trimRightB (s.extract 0 (s.size - 1)).data.toList 32 := by
  have hb : s.data.toList.getD (s.size - 1) 0 = 32 := UInt8.toNat_inj.1 (by rw [byte_at s (s.size - 1) (by omega), hc]; rfl)
  have hl := last_list s h
  rw [take_list]
  conv => lhs; rw [hl, hb]
  simp [Lib.trimRightB]
theorem right_stop (s : ByteArray) (h : 0 < s.size) (hc : (s[s.size - 1]'(by omega)).toNat ≠ 32) : Lib.trimRightB s.data.toList 32 = s.data.toList := by
  have hb : s.data.toList.getD (s.size - 1) 0 ≠ 32 := fun e => hc (by rw [← byte_at s (s.size - 1) (by omega), e]; rfl)
  have hl := last_list s h
  conv => lhs; rw [hl]
  conv => rhs; rw [hl]
  generalize s.data.toList.getD (s.size - 1) 0 = b at *
  simp [Lib.trimRightB, hb]

theorem str_of_list {s : ByteArray} {l : List UInt8} (h : s.data.toList = l) : s = ⟨l.toArray⟩ := by
  apply ByteArray.ext
  apply Array.toList_inj.1
  simpa using h
theorem index_last (s : ByteArray) (h : 0 < s.size) (h2 : ((s.size : Int) - 1).toNat < s.size) : s[((s.size : Int) - 1).toNat] = s[s.size - 1]'(by omega) := by
  congr 1
  omega

set_option maxHeartbeats 4000000 in
theorem refStrip_any (s : ByteArray) (l : List UInt8) (w : World) (hs : s.size ≤ 1000000) (hl : stripL s.data.toList = l) : Calls Tryd.prog 12 #[.string s] w (RetV (.string ⟨l.toArray⟩) w) := by
  have H : Hid (Calls Tryd.prog 10 #[.string s, .int .u8 35] w (RetT (spl 35 s.data.toList []) w)) := Lib.hid (refSplit_any s 35 w hs)
  have hhd := cut_head 35 s.data.toList
  have hle := cut_le s.data.toList [35]
  have hln : s.data.toList.length = s.size := Array.length_toList
  have hpos : 0 < (spl 35 s.data.toList []).length := by rw [← split_count]; omega
  have hgd : (spl 35 s.data.toList []).getD 0 [] = (Lib.cut s.data.toList [35]).1 := by
    rw [hhd]
    cases spl 35 s.data.toList [] <;> rfl
  unfold stripL Lib.trimB at hl
  rw [← trim_swap] at hl
  generalize (Lib.cut s.data.toList [35]).1 = L at *
  generalize spl 35 s.data.toList [] = P at *
  have HL := Lib.hid hl
  have hle' : L.length ≤ 1000000 := by omega
  clear hl hhd hle hln
  go_enter Tryd.func12, Tryd.ntmps12
  go_wp2_with fail
  refine H.out.mono ?_
  rintro e w1 ⟨v, rfl, hv, y1⟩
  obtain ⟨A, c, rfl⟩ := hv.shape
  obtain ⟨g, rfl, hg, hc⟩ := hv.at_ hpos
  rw [hgd] at hc
  obtain ⟨n, hn⟩ : ∃ n, P.length = n := ⟨_, rfl⟩
  rw [hn] at hpos ⊢
  clear hv H hgd
  go_wp2
  go_loopw [3] (fun u wr => ∃ x : ByteArray, u = .string x ∧ x.size ≤ 1000000 ∧ Lib.trimLeftB x.data.toList 32 = Lib.trimLeftB L 32 ∧ Below w.heap.size w wr) (fun u _ => strLen u)
  case atStart => exact ⟨_, rfl, by simpa [ByteArray.size] using hle', rfl, y1⟩
  case round =>
    obtain ⟨x, rfl, hxs, hxl, hb⟩ := hrel
    have HX := Lib.hid hxl
    clear hxl
    by_cases h0 : x.size = 0
    · obtain rfl := empty_of h0
      have HX2 := Lib.hid (show ([] : List UInt8) = Lib.trimLeftB L 32 from HX.out)
      clear HX
      go_wp2
      go_loopw [3] (fun u wr => ∃ y : ByteArray, u = .string y ∧ y.size ≤ 1000000 ∧ Lib.trimRightB y.data.toList 32 = l ∧ Below w.heap.size w wr) (fun u _ => strLen u)
      case atStart => exact ⟨_, rfl, by first | exact hxs | decide, by rw [← HL.out, ← HX2.out], hb⟩
      case round =>
        obtain ⟨y, rfl, hys, hyl, hb2⟩ := hrel
        have HY := Lib.hid hyl
        clear hyl
        by_cases h0 : y.size = 0
        · obtain rfl := empty_of h0
          have e : l = [] := by rw [← HY.out]; rfl
          have HE := Lib.hid e
          clear e
          go_wp2
          go_ret
          exact ⟨by rw [HE.out]; rfl, hb2⟩
        · have hp : 0 < y.size := by omega
          have hne := full_list h0
          obtain ⟨b, hb'⟩ : ∃ b, (y[y.size - 1]'(by omega)).toNat = b := ⟨_, rfl⟩
          have hk : ((y.size : Int) - 1).toNat = y.size - 1 := by omega
          have hst := Lib.hid (right_step y hp)
          have hsp := Lib.hid (right_stop y hp)
          by_cases h32 : b = 32
          · subst h32
            have hs1 := Lib.hid (hst.out hb')
            have hsz : (y.extract 0 (y.size - 1)).size = y.size - 1 := by rw [ByteArray.size_extract]; omega
            clear hst hsp
            go_wp2
            go_roundw
            case rel => exact ⟨_, rfl, by omega, by rw [← hs1.out, HY.out], hb2⟩
            case measure => simp only [strLen]; omega
          · have h32' : ((b : Int) == 32) = false := by rw [beq_eq_false_iff_ne]; omega
            have HZ := Lib.hid (str_of_list ((hsp.out (by omega)).symm.trans HY.out))
            clear hst hsp
            go_wp2
            go_ret
            exact ⟨by rw [← HZ.out]; rfl, hb2⟩
    · have hp : 0 < x.size := by omega
      have hne := full_list h0
      obtain ⟨b, hb'⟩ : ∃ b, x[0].toNat = b := ⟨_, rfl⟩
      by_cases h32 : b = 32
      · subst h32
        have hs1 := Lib.hid (left_step x hp hb')
        have hsz : (x.extract 1 x.size).size = x.size - 1 := by rw [ByteArray.size_extract]; omega
        go_wp2
        go_roundw
        case rel => exact ⟨_, rfl, by omega, by rw [← hs1.out, HX.out], hb⟩
        case measure => simp only [strLen]; omega
      · have h32' : ((b : Int) == 32) = false := by rw [beq_eq_false_iff_ne]; omega
        have HX2 := Lib.hid ((left_stop x hp (by omega)).symm.trans HX.out)
        clear HX
        go_wp2
        go_loopw [3] (fun u wr => ∃ y : ByteArray, u = .string y ∧ y.size ≤ 1000000 ∧ Lib.trimRightB y.data.toList 32 = l ∧ Below w.heap.size w wr) (fun u _ => strLen u)
        case atStart => exact ⟨_, rfl, by first | exact hxs | decide, by rw [← HL.out, ← HX2.out], hb⟩
        case round =>
          obtain ⟨y, rfl, hys, hyl, hb2⟩ := hrel
          have HY := Lib.hid hyl
          clear hyl
          by_cases h0 : y.size = 0
          · obtain rfl := empty_of h0
            have e : l = [] := by rw [← HY.out]; rfl
            have HE := Lib.hid e
            clear e
            go_wp2
            go_ret
            exact ⟨by rw [HE.out]; rfl, hb2⟩
          · have hp : 0 < y.size := by omega
            have hne := full_list h0
            obtain ⟨b, hb'⟩ : ∃ b, (y[y.size - 1]'(by omega)).toNat = b := ⟨_, rfl⟩
            have hk : ((y.size : Int) - 1).toNat = y.size - 1 := by omega
            have hst := Lib.hid (right_step y hp)
            have hsp := Lib.hid (right_stop y hp)
            by_cases h32 : b = 32
            · subst h32
              have hs1 := Lib.hid (hst.out hb')
              have hsz : (y.extract 0 (y.size - 1)).size = y.size - 1 := by rw [ByteArray.size_extract]; omega
              clear hst hsp
              go_wp2
              go_roundw
              case rel => exact ⟨_, rfl, by omega, by rw [← hs1.out, HY.out], hb2⟩
              case measure => simp only [strLen]; omega
            · have h32' : ((b : Int) == 32) = false := by rw [beq_eq_false_iff_ne]; omega
              have HZ := Lib.hid (str_of_list ((hsp.out (by omega)).symm.trans HY.out))
              clear hst hsp
              go_wp2
              go_ret
              exact ⟨by rw [← HZ.out]; rfl, hb2⟩
end Go.Proofs.YtanpncjnojjmkaaDoor
