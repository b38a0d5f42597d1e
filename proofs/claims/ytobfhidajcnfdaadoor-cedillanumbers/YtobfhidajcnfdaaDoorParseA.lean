/-
  digits: isDecimal and groupValue.
-/
import Derived.Test.YtobfhidajcnfdaaDoorDec
import Derived.Test.YtobfhidajcnfdaaDoorNatC
namespace Go.Proofs.YtobfhidajcnfdaaDoor
set_option linter.unusedVariables false
set_option maxRecDepth 20000
open Go.RowKit

theorem decVal_take {bs : List UInt8} {i : Nat} (h : i < bs.length) : decVal (bs.take (i + 1)) = decVal (bs.take i) * 10 + (bs[i].toNat - 48) := by
  rw [List.take_succ_eq_append_getElem h, decVal_snoc]

theorem groupValue_any (s : ByteArray) (w : World) (hd : Digs s.data.toList) (hs : s.size ≤ 9) :
    Calls Tryd.prog 38 #[.string s] w fun e w' => e = .returned (.int .u64 (decVal s.data.toList : Nat)) ∧ w = w' := by
  have HD := Lib.hid hd
  clear hd
  go_enter Tryd.func38, Tryd.ntmps38
  go_wp2
  go_loop [3, 7] (fun v t => ∃ i : Nat, i ≤ s.size ∧ t = .int .i64 i ∧ v = .int .u64 (decVal (s.data.toList.take i) : Nat)) (fun _ t => s.size - (intOf t).toNat)
  case atStart => exact ⟨0, by omega, rfl, rfl⟩
  case round =>
    obtain ⟨i, hi, rfl, rfl⟩ := hrel
    by_cases hil : i < s.size
    · have hib : i < s.data.toList.length := by rw [Array.length_toList]; exact hil
      have HV := Lib.hid (decVal_take hib)
      have hlt := decVal_group _ (HD.out.take i) (by rw [List.length_take]; omega)
      obtain ⟨h1, h2⟩ := HD.out _ (List.getElem_mem hib)
      generalize hbe : s.data.toList[i].toNat = b at *
      have hbe' : s[i].toNat = b := hbe
      generalize decVal (s.data.toList.take i) = V at *
      go_wp2
      go_round
      case rel => exact ⟨i + 1, by omega, by go_num, by rw [HV.out]; go_num⟩
      case measure => simp [intOf]; omega
    · obtain rfl : i = s.size := by omega
      rw [List.take_of_length_le (by rw [Array.length_toList]; exact Nat.le_refl _)]
      go_wp2
      go_ret
      exact ⟨rfl, rfl⟩

theorem full_list {s : ByteArray} (h : 0 < s.size) : s.toList.isEmpty = false ∧ ¬ s.toList = [] := by
  rw [ByteArray.toList_eq]
  have : s.data.toList ≠ [] := fun e => by
    have := congrArg List.length e
    rw [Array.length_toList] at this
    exact absurd this (by show s.size ≠ 0; omega)
  exact ⟨by simpa using this, this⟩
theorem empty_list {s : ByteArray} (h : s.size = 0) : s.toList.isEmpty = true ∧ s.toList = [] := by
  rw [ByteArray.toList_eq]
  have : s.data.toList = [] := List.length_eq_zero_iff.1 (by rw [Array.length_toList]; exact h)
  exact ⟨by simp [this], this⟩

/-- Is the head no nought, or alone? -/
def HeadOk (s : ByteArray) : Prop := s.size ≤ 1 ∨ ∃ h : 0 < s.size, 1 < s.size ∧ ((s[0].toNat : Int) == 48) = false
theorem headOk_iff (s : ByteArray) : HeadOk s ↔ (1 < s.data.toList.length → s.data.toList[0]? ≠ some 48) := by
  have hl : s.data.toList.length = s.size := Array.length_toList
  rw [hl]
  constructor
  · rintro (h | ⟨h0, h1, h2⟩) h3 h4
    · omega
    · rw [List.getElem?_eq_getElem (by omega)] at h4
      have h5 : s[0] = 48 := Option.some.inj h4
      rw [h5] at h2
      exact absurd h2 (by decide)
  · intro h
    rcases Nat.lt_or_ge 1 s.size with h1 | h1
    · refine .inr ⟨by omega, h1, ?_⟩
      rw [beq_eq_false_iff_ne]
      intro e
      refine h h1 ?_
      rw [List.getElem?_eq_getElem (by omega)]
      refine congrArg some (UInt8.toNat_inj.1 ?_)
      show s[0].toNat = 48
      omega
    · exact .inl h1

theorem digs_take_succ {bs : List UInt8} {i : Nat} (hd : Digs (bs.take i)) (h : i < bs.length) (hx : 48 ≤ bs[i].toNat ∧ bs[i].toNat ≤ 57) : Digs (bs.take (i + 1)) := by
  rw [List.take_succ_eq_append_getElem h]
  intro b hb
  simp only [List.mem_append, List.mem_singleton] at hb
  rcases hb with hb | rfl
  · exact hd b hb
  · exact hx

theorem isDec_any (s : ByteArray) (w : World) (b : Bool) (hh : HeadOk s) (hp : 0 < s.size) (hs : s.size ≤ 1000000) (hb : Hid (b = true ↔ Digs s.data.toList)) :
    Calls Tryd.prog 37 #[.string s] w fun e w' => e = .returned (.bool b) ∧ w = w' := by
  obtain ⟨hE, hE2⟩ := full_list hp
  have hl : s.data.toList.length = s.size := Array.length_toList
  have HL := Lib.hid hl
  clear hl
  rcases hh with h1 | ⟨_, h1, hhead⟩
  all_goals
    go_enter Tryd.func37, Tryd.ntmps37
    go_wp2
    go_loop [18] (fun t => ∃ i : Nat, i ≤ s.size ∧ t = .int .i64 i ∧ Digs (s.data.toList.take i)) (fun t => s.size - (intOf t).toNat)
    case atStart => exact ⟨0, by omega, rfl, by intro x hx; simp at hx⟩
    case round =>
      obtain ⟨i, hi, rfl, hd⟩ := hrel
      have HD := Lib.hid hd
      clear hd
      by_cases hil : i < s.size
      · have hib : i < s.data.toList.length := by rw [HL.out]; exact hil
        have hby : s.data.toList[i].toNat < 256 := UInt8.toNat_lt _
        by_cases hx : 48 ≤ s.data.toList[i].toNat ∧ s.data.toList[i].toNat ≤ 57
        · have HN := Lib.hid (digs_take_succ HD.out hib hx)
          obtain ⟨hx1, hx2⟩ := hx
          generalize hbe : s.data.toList[i].toNat = c at *
          have hbe' : s[i].toNat = c := hbe
          go_wp2
          go_round
          case rel => exact ⟨i + 1, by omega, by go_num, HN.out⟩
          case measure => simp [intOf]; omega
        · have hbF : b = false := by
            cases hbb : b with
            | false => rfl
            | true => exact absurd (hb.out.1 hbb _ (List.getElem_mem hib)) hx
          subst hbF
          generalize hbe : s.data.toList[i].toNat = c at *
          have hbe' : s[i].toNat = c := hbe
          rcases Nat.lt_or_ge c 48 with h48 | h48
          · clear hx
            go_wp2
            go_ret
            exact ⟨rfl, rfl⟩
          · have h57 : 57 < c := by omega
            have h48' : ¬ c < 48 := by omega
            clear hx
            go_wp2
            go_ret
            exact ⟨rfl, rfl⟩
      · obtain rfl : i = s.size := by omega
        have hbT : b = true := hb.out.2 (by have := HD.out; rw [List.take_of_length_le (by rw [HL.out]; exact Nat.le_refl _)] at this; exact this)
        subst hbT
        go_wp2
        go_ret
        exact ⟨rfl, rfl⟩

theorem isDec_empty (s : ByteArray) (w : World) (hs : s.size = 0) :
    Calls Tryd.prog 37 #[.string s] w fun e w' => e = .returned (.bool false) ∧ w = w' := by
  obtain ⟨hE, hE2⟩ := empty_list hs
  clear hs
  go_enter Tryd.func37, Tryd.ntmps37
  go_wp2
  go_ret
  exact ⟨rfl, rfl⟩
theorem isDec_nought (s : ByteArray) (w : World) (h1 : 1 < s.size) (hs : s.size ≤ 1000000) (hx : ((s[0].toNat : Int) == 48) = true) :
    Calls Tryd.prog 37 #[.string s] w fun e w' => e = .returned (.bool false) ∧ w = w' := by
  obtain ⟨hE, hE2⟩ := full_list (s := s) (by omega)
  have h0 : 0 < s.size := by omega
  go_enter Tryd.func37, Tryd.ntmps37
  go_wp2
  go_ret
  exact ⟨rfl, rfl⟩

/-- 'isDecimal': it tells texts that write a number. -/
theorem isDec (s : ByteArray) (w : World) (b : Bool) (hs : s.size ≤ 1000000) (hb : b = true ↔ Decimal s.data.toList) :
    Calls Tryd.prog 37 #[.string s] w fun e w' => e = .returned (.bool b) ∧ w = w' := by
  have hl : s.data.toList.length = s.size := Array.length_toList
  rcases Nat.eq_zero_or_pos s.size with h0 | h0
  · have : b = false := by
      cases b with
      | false => rfl
      | true => exact absurd (List.length_eq_zero_iff.1 (hl.trans h0)) (hb.1 rfl).1
    subst this
    exact isDec_empty s w h0
  · by_cases hh : HeadOk s
    · refine isDec_any s w b hh h0 hs (hb.trans ⟨fun h => h.2.1, fun h => ⟨fun e => ?_, h, (headOk_iff s).1 hh⟩⟩)
      rw [e] at hl; simp at hl; omega
    · have : b = false := by
        cases b with
        | false => rfl
        | true => exact absurd ((headOk_iff s).2 (hb.1 rfl).2.2) hh
      subst this
      have h1 : 1 < s.size := by
        rcases Nat.lt_or_ge 1 s.size with h1 | h1
        · exact h1
        · exact absurd (.inl h1) hh
      refine isDec_nought s w h1 hs ?_
      cases hc : ((s[0].toNat : Int) == 48) with
      | true => rfl
      | false => exact absurd (.inr ⟨h0, h1, hc⟩) hh
end Go.Proofs.YtobfhidajcnfdaaDoor
