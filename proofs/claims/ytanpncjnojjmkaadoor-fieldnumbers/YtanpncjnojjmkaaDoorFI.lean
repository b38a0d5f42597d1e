/-
  The document's Digits and Hex: their contracts.
-/
import Derived.Test.YtanpncjnojjmkaaDoorFC
import Derived.Test.YtanpncjnojjmkaaDoorFMathC
namespace Go.Proofs.YtanpncjnojjmkaaDoor
set_option linter.unusedVariables false
set_option maxRecDepth 20000
open Go.RowKit

theorem str_ne {a b : ByteArray} (h : a ≠ b) : (a.toList == b.toList) = false := by
  rw [beq_eq_false_iff_ne, ByteArray.toList_eq, ByteArray.toList_eq]
  exact fun e => h (ByteArray.ext (Array.toList_inj.1 e))
theorem dw_le {n : Nat} (h : n < 10000000000) : dw n ≤ 10 := by
  obtain ⟨_, h2, _⟩ := dw_spec n
  rcases h2 with h2 | h2
  · omega
  · refine Decidable.byContradiction fun hn => ?_
    have := Nat.le_trans (Nat.pow_le_pow_right (n := 10) (by decide) (show 10 ≤ dw n - 1 by omega)) h2
    have e : (10 : Nat) ^ 10 = 10000000000 := rfl
    omega
theorem dw_stop {n i : Nat} (hi : i ≤ dw n) : (i = 0 ∨ 0 < n / 10 ^ i) ↔ i < dw n := by
  obtain ⟨h1, h2, h3⟩ := dw_spec n
  have key : 0 < n / 10 ^ i ↔ 10 ^ i ≤ n := by rw [Nat.div_pos_iff]; exact ⟨fun h => h.2, fun h => ⟨Nat.pow_pos (by decide), h⟩⟩
  rw [key]
  constructor
  · rintro (rfl | h)
    · omega
    · rcases Nat.lt_or_eq_of_le hi with hl | rfl
      · exact hl
      · omega
  · intro h
    rcases Nat.eq_zero_or_pos i with h0 | h0
    · exact .inl h0
    · rcases h2 with h2 | h2
      · omega
      · exact .inr (Nat.le_trans (Nat.pow_le_pow_right (n := 10) (by decide) (show i ≤ dw n - 1 by omega)) h2)

set_option maxHeartbeats 2000000 in
theorem refDigits_any (n : Nat) (hn : n < 10000000000) (w : World) : Calls Tryd.prog 24 #[.int .i64 (n : Nat)] w (RetV (.string ⟨(decText n).toArray⟩) w) := by
  go_enter Tryd.func24, Tryd.ntmps24
  go_wp2
  go_loopw [0, 3, 4] (fun a s t wr => ∃ i : Nat, t = .int .i64 i ∧ a = .int .i64 ((n / 10 ^ i : Nat) : Int) ∧ s = .string ⟨(decT i n).toArray⟩ ∧ i ≤ dw n ∧ Below w.heap.size w wr) (fun _ _ t _ => 12 - (intOf t).toNat)
  case atStart => exact ⟨0, rfl, by simp, rfl, by omega, Below.refl _ _⟩
  case round =>
    obtain ⟨i, rfl, rfl, rfl, hi, hb⟩ := hrel
    have hwr := dw_le hn
    have hstop := dw_stop hi
    by_cases hlt : i < dw n
    · have hor := hstop.2 hlt
      obtain ⟨q, hq⟩ : ∃ q, n / 10 ^ i = q := ⟨_, rfl⟩
      have hq1 : n / 10 ^ (i + 1) = q / 10 := by rw [Nat.pow_succ, ← Nat.div_div_eq_div_mul, hq]
      have hTs : decT (i + 1) n = hd (q % 10) :: decT i n := by rw [decT, hq]
      rw [hq] at hor ⊢
      have hqb : q < 10000000000 := by rw [← hq]; exact Nat.lt_of_le_of_lt (Nat.div_le_self _ _) hn
      have hdl : q % 10 < 10 := Nat.mod_lt _ (by decide)
      have hcat := Lib.hid (cat_arrays [hd (q % 10)] (decT i n))
      have hTl : (decT i n).length ≤ 10 := by rw [decT_length]; omega
      have HT := Lib.hid hTs
      have HQ := Lib.hid hq1
      clear hTs hq1 hq hstop
      generalize decT i n = T at *
      generalize dw n = W at *
      have hcv := conv_one wr (hd (q % 10)) (48 + (q : Int) % 10) (by rw [hd_toNat (by omega), if_pos hdl]; omega)
      by_cases h4 : i = 0
      · subst h4
        go_wp2
        go_roundw
        case rel => exact ⟨0 + 1, by go_num, by rw [HQ.out]; go_num, by rw [HT.out]; exact congrArg Value.string hcat.out, by omega, below_step hb (below_new _ _)⟩
        case measure => simp [intOf]
      · have hq0 : 0 < q := by omega
        have h4' : ((i : Int) == 0) = false := by rw [beq_eq_false_iff_ne]; omega
        go_wp2
        go_roundw
        case rel => exact ⟨i + 1, by go_num, by rw [HQ.out]; go_num, by rw [HT.out]; exact congrArg Value.string hcat.out, by omega, below_step hb (below_new _ _)⟩
        case measure => simp [intOf]; omega
    · have hno : ¬ (i = 0 ∨ 0 < n / 10 ^ i) := fun h => hlt (hstop.1 h)
      obtain rfl : i = dw n := by omega
      have e : ({ data := (decT (dw n) n).toArray } : ByteArray) = { data := (decText n).toArray } := rfl
      rw [e]
      clear hstop e
      generalize n / 10 ^ dw n = q at *
      have h4 : ¬ dw n = 0 := by omega
      have hq0 : q = 0 := by omega
      subst hq0
      generalize dw n = i at *
      have h4' : ((i : Int) == 0) = false := by rw [beq_eq_false_iff_ne]; omega
      go_wp2
      go_ret
      exact ⟨rfl, hb⟩

theorem hexRead_no {bs : List UInt8} {n : Nat} (h : hv bs 0 = some n) (hn : n > 1114111 ∨ hexText n ≠ bs) : hexRead bs = none := by
  cases e : hexRead bs with
  | none => rfl
  | some m =>
    obtain ⟨_, _, h3, h4, h5⟩ := (hexRead_iff bs m).1 e
    rw [h] at h3
    injection h3 with h3
    subst h3
    rcases hn with h' | h'
    · omega
    · exact absurd h5 h'
theorem hexRead_bad {bs : List UInt8} (h : hv bs 0 = none) : hexRead bs = none := by
  cases e : hexRead bs with
  | none => rfl
  | some m => rw [((hexRead_iff bs m).1 e).2.2.1] at h; cases h

set_option maxHeartbeats 4000000 in
theorem refHex_any (s : ByteArray) (o : Option Nat) (w : World) (hs : s.size ≤ 1000000) (ho : hexRead s.data.toList = o) : Calls Tryd.prog 15 #[.string s] w (RetV (.int .i64 (numI o)) w) := by
  obtain ⟨bs, hbs⟩ : ∃ bs, Hid (s.data.toList = bs) := ⟨_, rfl⟩
  rw [hbs.out] at ho
  have hlen : bs.length = s.size := by rw [← hbs.out]; exact Array.length_toList
  by_cases h4 : s.size < 4 ∨ 6 < s.size
  · rw [hexRead_short (by omega)] at ho
    subst ho
    rw [show numI none = -1 from rfl]
    rcases h4 with h4 | h4
    · go_enter Tryd.func15, Tryd.ntmps15
      go_wp2
      go_ret
      exact ⟨rfl, Below.refl _ _⟩
    · go_enter Tryd.func15, Tryd.ntmps15
      go_wp2
      go_ret
      exact ⟨rfl, Below.refl _ _⟩
  · have hr : ¬ s.size < 4 ∧ ¬ 6 < s.size := by omega
    obtain ⟨hr1, hr2⟩ := hr
    clear h4
    have HO := Lib.hid ho
    have hbd : ∀ i, i < s.size → ∃ b, b < 256 ∧ (bs.getD i 0).toNat = b ∧ ∀ h : i < s.size, s[i].toNat = b := fun i hi => ⟨_, UInt8.toNat_lt _, rfl, fun h => by rw [← hbs.out, byte_at s i h]⟩
    have HBD := Lib.hid hbd
    clear hbd ho
    go_enter Tryd.func15, Tryd.ntmps15
    go_wp2
    go_loopw [3, 4] (fun c t wr => ∃ i m : Nat, t = .int .i64 i ∧ c = .int .i64 m ∧ i ≤ s.size ∧ m < 16 ^ i ∧ hv bs 0 = hv (bs.drop i) m ∧ Below w.heap.size w wr) (fun _ t _ => s.size - (intOf t).toNat)
    case atStart => exact ⟨0, 0, rfl, rfl, by omega, by simp, by simp, Below.refl _ _⟩
    case round =>
      obtain ⟨i, m, rfl, rfl, hi, hm, hhv, hb⟩ := hrel
      have HH := Lib.hid hhv
      clear hhv
      by_cases hlt : i < s.size
      · have hm5 : m < 1048576 := Nat.lt_of_lt_of_le hm (Nat.pow_le_pow_right (n := 16) (by decide) (show i ≤ 5 by omega))
        obtain ⟨b, hb256, hb1, hb2⟩ := HBD.out i hlt
        have hb2 := hb2 hlt
        have hstep : hv (bs.drop i) m = match dv b with | none => none | some d => hv (bs.drop (i + 1)) (16 * m + d) := by rw [drop_get 0 (by omega), hv, hb1]; cases dv b <;> rfl
        by_cases hA : 48 ≤ b ∧ b ≤ 57
        · have hd : dv b = some (b - 48) := by unfold dv; rw [if_pos hA]
          rw [hd] at hstep
          have HS := Lib.hid hstep
          obtain ⟨hA1, hA2⟩ := hA
          have hB : ¬ 65 ≤ b := by omega
          have hdd : ((b - 48 : Nat) : Int) = (b : Int) - 48 := by omega
          clear hstep hd HBD
          go_wp2
          go_roundw
          case rel => exact ⟨i + 1, 16 * m + (b - 48), by go_num, by go_num, by omega, by rw [Nat.pow_succ]; omega, HH.out.trans HS.out, hb⟩
          case measure => simp [intOf]; omega
        · by_cases hB : 65 ≤ b ∧ b ≤ 70
          · have hd : dv b = some (b - 55) := by unfold dv; rw [if_neg hA, if_pos hB]
            rw [hd] at hstep
            have HS := Lib.hid hstep
            obtain ⟨hB1, hB2⟩ := hB
            have hA1 : ¬ b ≤ 57 := by omega
            have hA0 : 48 ≤ b := by omega
            clear hstep hd HBD hA
            go_wp2
            go_roundw
            case rel => exact ⟨i + 1, 16 * m + (b - 55), by go_num, by go_num, by omega, by rw [Nat.pow_succ]; omega, HH.out.trans HS.out, hb⟩
            case measure => simp [intOf]; omega
          · have hd : dv b = none := by unfold dv; rw [if_neg hA, if_neg hB]
            rw [hd] at hstep
            have e := HO.out
            rw [hexRead_bad (HH.out.trans hstep)] at e
            subst e
            rw [show numI none = -1 from rfl]
            clear HO HH hstep hd HBD
            have hc : b < 48 ∨ (57 < b ∧ b < 65) ∨ 70 < b := by omega
            clear hA hB
            rcases hc with hc | ⟨hc, hc2⟩ | hc
            · go_wp2
              go_ret
              exact ⟨rfl, hb⟩
            · go_wp2
              go_ret
              exact ⟨rfl, hb⟩
            · go_wp2
              go_ret
              exact ⟨rfl, hb⟩
      · obtain rfl : i = s.size := by omega
        have hhv : hv bs 0 = some m := by rw [HH.out, List.drop_of_length_le (by omega), hv]
        have hm6 : m < 16777216 := Nat.lt_of_lt_of_le hm (Nat.pow_le_pow_right (n := 16) (by decide) (show s.size ≤ 6 by omega))
        have hO := HO.out
        clear HO HH HBD hm
        by_cases hmx : m ≤ 1114111
        · have HT := Lib.hid (refHexText_any m (by omega) wr)
          by_cases ht : hexText m = bs
          · rw [(hexRead_iff bs m).2 ⟨by omega, by omega, hhv, hmx, ht⟩] at hO
            subst hO
            have hts : (⟨(hexText m).toArray⟩ : ByteArray) = s := by rw [ht, ← hbs.out]
            rw [hts] at HT
            rw [show numI (some m) = (m : Int) from rfl]
            clear ht hts hhv
            go_wp2_with fail
            refine HT.out.mono ?_
            rintro e w1 ⟨rfl, y1⟩
            go_wp2
            go_ret
            exact ⟨rfl, below_step hb y1⟩
          · rw [hexRead_no hhv (.inr ht)] at hO
            subst hO
            have hts : (⟨(hexText m).toArray⟩ : ByteArray) ≠ s := fun e => ht (by rw [← hbs.out, ← e])
            generalize (⟨(hexText m).toArray⟩ : ByteArray) = T at *
            have hbq := str_ne hts
            rw [show numI none = -1 from rfl]
            clear ht hhv
            go_wp2_with fail
            refine HT.out.mono ?_
            rintro e w1 ⟨rfl, y1⟩
            go_wp2
            go_ret
            exact ⟨rfl, below_step hb y1⟩
        · rw [hexRead_no hhv (.inl (by omega))] at hO
          subst hO
          rw [show numI none = -1 from rfl]
          clear hhv
          go_wp2
          go_ret
          exact ⟨rfl, hb⟩
end Go.Proofs.YtanpncjnojjmkaaDoor
