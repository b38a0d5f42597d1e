/-
  The document's Num, field.Num: their contracts.
-/
import Derived.Test.YtanpncjnojjmkaaDoorFI
import Derived.Test.YtanpncjnojjmkaaDoorFG
namespace Go.Proofs.YtanpncjnojjmkaaDoor
set_option linter.unusedVariables false
set_option maxRecDepth 20000
open Go.RowKit

theorem str_full {s : ByteArray} (h : ¬ s.size = 0) : s.toList.isEmpty = false := by
  rw [ByteArray.toList_eq]
  cases e : s.data.toList with
  | nil => exact absurd (by show s.data.size = 0; rw [← Array.length_toList, e]; rfl) h
  | cons a b => rfl
theorem numRead_no {bs : List UInt8} {n most : Nat} (hm : most ≤ 1000000000) (h : nv bs 0 = some n) (hn : n > most ∨ decText n ≠ bs) : numRead bs most = none := by
  cases e : numRead bs most with
  | none => rfl
  | some m =>
    obtain ⟨_, _, h3, h4, h5⟩ := (numRead_iff bs most m hm).1 e
    rw [h] at h3
    injection h3 with h3
    subst h3
    rcases hn with h' | h'
    · omega
    · exact absurd h5 h'
theorem numRead_bad {bs : List UInt8} {most : Nat} (hm : most ≤ 1000000000) (h : nv bs 0 = none ∨ bs.length = 0 ∨ 10 < bs.length) : numRead bs most = none := by
  cases e : numRead bs most with
  | none => rfl
  | some m =>
    obtain ⟨h1, h2, h3, _, _⟩ := (numRead_iff bs most m hm).1 e
    rcases h with h | h | h
    · rw [h3] at h; cases h
    · omega
    · omega
theorem numRead_big {bs : List UInt8} {most k i : Nat} (h : nv bs 0 = nv (bs.drop i) k) (hk : most < k) : numRead bs most = none := by
  unfold numRead
  split
  · rw [h]
    cases e : nv (bs.drop i) k with
    | none => rfl
    | some r =>
      have := nv_ge e
      simp only [Option.bind_some]
      rw [if_neg (by omega)]
  · rfl
theorem nd_pos {b : Nat} (h : 48 ≤ b ∧ b ≤ 57) : nd b = some (b - 48) := by unfold nd; rw [if_pos h]
theorem nd_neg {b : Nat} (h : b < 48 ∨ 57 < b) : nd b = none := by unfold nd; rw [if_neg (by omega)]
theorem nv_step {bs : List UInt8} {i b m : Nat} (hi : i < bs.length) (hb : (bs.getD i 0).toNat = b) : nv (bs.drop i) m = match nd b with | none => none | some d => nv (bs.drop (i + 1)) (10 * m + d) := by
  rw [drop_get 0 hi, nv, hb]
  cases nd b <;> rfl

set_option maxHeartbeats 4000000 in
theorem refNum_any (s : ByteArray) (most : Nat) (o : Option Nat) (w : World) (hs : s.size ≤ 1000000) (hmost : most ≤ 1000000000) (ho : numRead s.data.toList most = o) : Calls Tryd.prog 16 #[.string s, .int .i64 (most : Nat)] w (RetV (.int .i64 (numI o)) w) := by
  obtain ⟨bs, hbs⟩ : ∃ bs, Hid (s.data.toList = bs) := ⟨_, rfl⟩
  rw [hbs.out] at ho
  have hlen : bs.length = s.size := by rw [← hbs.out]; exact Array.length_toList
  by_cases h0 : s.size = 0
  · rw [numRead_bad hmost (.inr (.inl (by omega)))] at ho
    subst ho
    obtain rfl := empty_of h0
    rw [show numI none = -1 from rfl]
    go_enter Tryd.func16, Tryd.ntmps16
    go_wp2
    go_ret
    exact ⟨rfl, Below.refl _ _⟩
  · have hbe := str_full h0
    by_cases h10 : 10 < s.size
    · rw [numRead_bad hmost (.inr (.inr (by omega)))] at ho
      subst ho
      rw [show numI none = -1 from rfl]
      go_enter Tryd.func16, Tryd.ntmps16
      go_wp2
      go_ret
      exact ⟨rfl, Below.refl _ _⟩
    · have HO := Lib.hid ho
      have hbd : ∀ i, i < s.size → ∃ b, b < 256 ∧ (bs.getD i 0).toNat = b ∧ ∀ h : i < s.size, s[i].toNat = b := fun i hi => ⟨_, UInt8.toNat_lt _, rfl, fun h => by rw [← hbs.out, byte_at s i h]⟩
      have HBD := Lib.hid hbd
      clear hbd ho
      go_enter Tryd.func16, Tryd.ntmps16
      go_wp2
      clear hbe
      go_loopw [5, 6] (fun c t wr => ∃ i m : Nat, t = .int .i64 i ∧ c = .int .i64 m ∧ i ≤ s.size ∧ m < 10 ^ i ∧ nv bs 0 = nv (bs.drop i) m ∧ Below w.heap.size w wr) (fun _ t _ => s.size - (intOf t).toNat)
      case atStart => exact ⟨0, 0, rfl, rfl, by omega, by simp, by simp, Below.refl _ _⟩
      case round =>
        obtain ⟨i, m, rfl, rfl, hi, hm, hhv, hb⟩ := hrel
        have HH := Lib.hid hhv
        clear hhv
        by_cases hlt : i < s.size
        · have hm5 : m < 1000000000 := Nat.lt_of_lt_of_le hm (Nat.pow_le_pow_right (n := 10) (by decide) (show i ≤ 9 by omega))
          obtain ⟨b, hb256, hb1, hb2⟩ := HBD.out i hlt
          have hb2 := hb2 hlt
          have hstep := nv_step (m := m) (by omega) hb1
          by_cases hA : 48 ≤ b ∧ b ≤ 57
          · rw [nd_pos hA] at hstep
            have HS := Lib.hid hstep
            obtain ⟨hA1, hA2⟩ := hA
            clear hstep HBD
            go_wp2
            go_roundw
            case rel => exact ⟨i + 1, 10 * m + (b - 48), by go_num, by go_num, by omega, by rw [Nat.pow_succ]; omega, HH.out.trans HS.out, hb⟩
            case measure => simp [intOf]; omega
          · have hc : b < 48 ∨ 57 < b := by omega
            rw [nd_neg hc] at hstep
            have e := HO.out
            rw [numRead_bad hmost (.inl (HH.out.trans hstep))] at e
            subst e
            rw [show numI none = -1 from rfl]
            clear HO HH hstep HBD hA
            rcases hc with hc | hc
            · go_wp2
              go_ret
              exact ⟨rfl, hb⟩
            · go_wp2
              go_ret
              exact ⟨rfl, hb⟩
        · obtain rfl : i = s.size := by omega
          have hhv : nv bs 0 = some m := by rw [HH.out, List.drop_of_length_le (by omega), nv]
          have hm6 : m < 10000000000 := Nat.lt_of_lt_of_le hm (Nat.pow_le_pow_right (n := 10) (by decide) (show s.size ≤ 10 by omega))
          have hO := HO.out
          clear HO HH HBD hm
          by_cases hmx : m ≤ most
          · have HT := Lib.hid (refDigits_any m (by omega) wr)
            by_cases ht : decText m = bs
            · rw [(numRead_iff bs most m hmost).2 ⟨by omega, by omega, hhv, hmx, ht⟩] at hO
              subst hO
              have hts : (⟨(decText m).toArray⟩ : ByteArray) = s := by rw [ht, ← hbs.out]
              rw [hts] at HT
              rw [show numI (some m) = (m : Int) from rfl]
              clear ht hts hhv
              go_wp2_with fail
              refine HT.out.mono ?_
              rintro e w1 ⟨rfl, y1⟩
              go_wp2
              go_ret
              exact ⟨rfl, below_step hb y1⟩
            · rw [numRead_no hmost hhv (.inr ht)] at hO
              subst hO
              have hts : (⟨(decText m).toArray⟩ : ByteArray) ≠ s := fun e => ht (by rw [← hbs.out, ← e])
              generalize (⟨(decText m).toArray⟩ : ByteArray) = T at *
              have hbq := str_ne hts
              rw [show numI none = -1 from rfl]
              clear ht hhv
              go_wp2_with fail
              refine HT.out.mono ?_
              rintro e w1 ⟨rfl, y1⟩
              go_wp2
              go_ret
              exact ⟨rfl, below_step hb y1⟩
          · rw [numRead_no hmost hhv (.inl (by omega))] at hO
            subst hO
            rw [show numI none = -1 from rfl]
            clear hhv
            go_wp2
            go_ret
            exact ⟨rfl, hb⟩

/-- What Num answers. -/
def numV (o : Option Nat) : Value := .tuple #[.int .i64 ((o.getD 0 : Nat) : Int), .bool o.isSome]
theorem numRead_head {bs : List UInt8} {most : Nat} (h : 1 < bs.length) (h0 : (bs.getD 0 0).toNat = 48) : numRead bs most = none := by
  unfold numRead
  rw [if_neg]
  rintro ⟨_, h3⟩
  exact h3 h (UInt8.toNat_inj.1 h0)
theorem numRead_else {bs : List UInt8} {most : Nat} (h4 : 0 < bs.length) (h0 : 1 < bs.length → (bs.getD 0 0).toNat ≠ 48) : numRead bs most = (nv bs 0).bind fun n => if n ≤ most then some n else none := by
  unfold numRead
  rw [if_pos]
  exact ⟨h4, fun h e => h0 h (by rw [e]; rfl)⟩

set_option maxHeartbeats 4000000 in
theorem num_any (s : ByteArray) (most : Nat) (o : Option Nat) (w : World) (hs : s.size ≤ 1000000) (hmost : most ≤ 1000000000) (ho : numRead s.data.toList most = o) : Calls Tryd.prog 14 #[.string s, .int .i64 (most : Nat)] w (RetV (numV o) w) := by
  obtain ⟨bs, hbs⟩ : ∃ bs, Hid (s.data.toList = bs) := ⟨_, rfl⟩
  rw [hbs.out] at ho
  have hlen : bs.length = s.size := by rw [← hbs.out]; exact Array.length_toList
  by_cases h0 : s.size = 0
  · rw [numRead_bad hmost (.inr (.inl (by omega)))] at ho
    subst ho
    obtain rfl := empty_of h0
    rw [show numV none = .tuple #[.int .i64 0, .bool false] from rfl]
    go_enter Tryd.func14, Tryd.ntmps14
    go_wp2
    go_ret2
    exact ⟨rfl, Below.refl _ _⟩
  · have hbe := str_full h0
    have hpos : 0 < s.size := by omega
    obtain ⟨b0, hb0⟩ : ∃ b0, s[0].toNat = b0 := ⟨_, rfl⟩
    have hb0' : (bs.getD 0 0).toNat = b0 := by rw [← hbs.out, byte_at s 0 hpos, hb0]
    by_cases hz : 1 < s.size ∧ b0 = 48
    · obtain ⟨hz1, hz2⟩ := hz
      rw [numRead_head (by omega) (by omega)] at ho
      subst ho
      rw [show numV none = .tuple #[.int .i64 0, .bool false] from rfl]
      go_enter Tryd.func14, Tryd.ntmps14
      go_wp2
      go_ret2
      exact ⟨rfl, Below.refl _ _⟩
    · rw [numRead_else (by omega) (by omega)] at ho
      have HO := Lib.hid ho
      have hb48 : s.size ≤ 1 ∨ b0 ≠ 48 := by omega
      clear ho hz
      go_enter Tryd.func14, Tryd.ntmps14
      go_upto_region 1 with fail
      go_cut [20] (fun c wx => c = .bool false ∧ wx = w)
      case first =>
        rcases hb48 with h | h
        · go_wp2
          go_meet
          exact ⟨congrArg Value.bool (by simp [hbe]; try omega), rfl⟩
        · have hne : ((b0 : Int) == 48) = false := by rw [beq_eq_false_iff_ne]; omega
          by_cases h4 : s.size ≤ 1
          · go_wp2
            go_meet
            exact ⟨congrArg Value.bool (by simp [hbe]; try omega), rfl⟩
          · go_wp2
            go_meet
            exact ⟨congrArg Value.bool (by simp [hbe]; try omega), rfl⟩
      case rest =>
        obtain ⟨rfl, hcw⟩ := hcut
        obtain rfl : w = wc := hcw.symm
        clear hb48 hcw
        have hbd : ∀ i, i < s.size → ∃ b, b < 256 ∧ (bs.getD i 0).toNat = b ∧ ∀ h : i < s.size, s[i].toNat = b := fun i hi => ⟨_, UInt8.toNat_lt _, rfl, fun h => by rw [← hbs.out, byte_at s i h]⟩
        have HBD := Lib.hid hbd
        clear hbd hb0 hb0' hpos hbe
        go_wp2
        go_loopw [6, 23] (fun c t wr => ∃ i m : Nat, t = .int .i64 i ∧ c = .int .i64 m ∧ i ≤ s.size ∧ m ≤ most ∧ nv bs 0 = nv (bs.drop i) m ∧ Below w.heap.size w wr) (fun _ t _ => s.size - (intOf t).toNat)
        case atStart => exact ⟨0, 0, rfl, rfl, by omega, by omega, by simp, Below.refl _ _⟩
        case round =>
          obtain ⟨i, m, rfl, rfl, hi, hm, hhv, hb⟩ := hrel
          have HH := Lib.hid hhv
          clear hhv
          by_cases hlt : i < s.size
          · obtain ⟨b, hb256, hb1, hb2⟩ := HBD.out i hlt
            have hb2 := hb2 hlt
            have hstep := nv_step (m := m) (by omega) hb1
            by_cases hA : 48 ≤ b ∧ b ≤ 57
            · rw [nd_pos hA] at hstep
              have HS := Lib.hid hstep
              obtain ⟨hA1, hA2⟩ := hA
              clear hstep HBD
              by_cases hbig : most < 10 * m + (b - 48)
              · have e : o = none := by
                  rw [← HO.out]
                  cases e : nv bs 0 with
                  | none => rfl
                  | some r =>
                    have := nv_ge ((HH.out.trans HS.out).symm.trans e)
                    simp only [Option.bind_some]
                    rw [if_neg (by omega)]
                subst e
                rw [show numV none = .tuple #[.int .i64 0, .bool false] from rfl]
                clear HO HH HS
                by_cases hdm : most < b - 48
                · have hdm' : (most : Int) < (b : Int) - 48 := by omega
                  go_wp2
                  go_ret2
                  exact ⟨rfl, hb⟩
                · have hdm' : (b : Int) - 48 ≤ (most : Int) := by omega
                  have hq : ((most : Int) - ((b : Int) - 48)).tdiv 10 < (m : Int) := by rw [Int.tdiv_eq_ediv_of_nonneg (by omega)]; omega
                  go_wp2
                  go_ret2
                  exact ⟨rfl, hb⟩
              · have hdm' : (b : Int) - 48 ≤ (most : Int) := by omega
                have hq : (m : Int) ≤ ((most : Int) - ((b : Int) - 48)).tdiv 10 := by rw [Int.tdiv_eq_ediv_of_nonneg (by omega)]; omega
                go_wp2
                go_roundw
                case rel => exact ⟨i + 1, 10 * m + (b - 48), by go_num, by go_num, by omega, by omega, HH.out.trans HS.out, hb⟩
                case measure => simp [intOf]; omega
            · have hc : b < 48 ∨ 57 < b := by omega
              rw [nd_neg hc] at hstep
              have e := HO.out
              rw [HH.out, hstep] at e
              simp only [Option.bind_none] at e
              subst e
              rw [show numV none = .tuple #[.int .i64 0, .bool false] from rfl]
              clear HO HH hstep HBD hA
              rcases hc with hc | hc
              · go_wp2
                go_ret2
                exact ⟨rfl, hb⟩
              · go_wp2
                go_ret2
                exact ⟨rfl, hb⟩
          · obtain rfl : i = s.size := by omega
            rw [HH.out, List.drop_of_length_le (by omega), nv] at HO
            have hO := HO.out
            simp only [Option.bind_some] at hO
            rw [if_pos hm] at hO
            subst hO
            clear HO HH HBD
            rw [show numV (some m) = .tuple #[.int .i64 (m : Int), .bool true] from rfl]
            go_wp2
            go_ret2
            exact ⟨rfl, hb⟩
end Go.Proofs.YtanpncjnojjmkaaDoor
