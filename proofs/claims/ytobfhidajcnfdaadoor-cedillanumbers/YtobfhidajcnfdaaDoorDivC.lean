/-
  The guess of a quotient's digit is right, or one too great; the contracts of guessDigit and divideStep.
-/
import Derived.Test.YtobfhidajcnfdaaDoorDivB
namespace Go.Proofs.YtobfhidajcnfdaaDoor
set_option linter.unusedVariables false
set_option maxRecDepth 20000
open Go.RowKit

/-- A list by its lower digits and its highest two. -/
theorem val_top2 (b : Nat) (l : List Nat) (m : Nat) (h : l.length = m + 2) : val b l = val b (l.take m) + b ^ m * (l.getD m 0 + b * l.getD (m + 1) 0) := by
  have h1 := val_take_succ b l (m + 1) (by omega)
  have h2 := val_take_succ b l m (by omega)
  rw [List.take_of_length_le (by omega)] at h1
  rw [h1, h2, Nat.pow_succ, Nat.mul_add, Nat.mul_assoc, Nat.add_assoc]
theorem val_top3 (b : Nat) (l : List Nat) (m : Nat) (h : l.length = m + 3) : val b l = val b (l.take m) + b ^ m * (l.getD m 0 + b * (l.getD (m + 1) 0 + b * l.getD (m + 2) 0)) := by
  have h0 := val_take_succ b l (m + 2) (by omega)
  have h1 := val_take_succ b l (m + 1) (by omega)
  have h2 := val_take_succ b l m (by omega)
  rw [List.take_of_length_le (by omega)] at h0
  rw [h0, h1, h2]
  simp only [Nat.pow_succ, Nat.mul_add, Nat.mul_assoc, Nat.add_assoc]

section
variable {B D R Y Rlo Ylo u0 u1 u2 v1 v2 q : Nat}
/-- The true digit is at most each that goes into the highest limbs. -/
theorem digit_le (hR : R = Rlo + D * (u2 + B * (u1 + B * u0))) (hRlo : Rlo < D) (hY : Y = Ylo + D * (v2 + B * v1)) (hq : q * Y ≤ R) : q * (v2 + B * v1) ≤ u2 + B * (u1 + B * u0) := by
  have hD : 0 < D := by omega
  have h1 : D * (q * (v2 + B * v1)) ≤ q * Y := by
    have e : q * (Ylo + D * (v2 + B * v1)) = q * Ylo + D * (q * (v2 + B * v1)) := by rw [Nat.mul_add q Ylo, Nat.mul_left_comm q D]
    rw [hY, e]; omega
  have h2 : D * (q * (v2 + B * v1)) < D * (u2 + B * (u1 + B * u0) + 1) := by rw [Nat.mul_add D _ 1]; omega
  have := Nat.lt_of_mul_lt_mul_left h2
  omega
/-- .. and one more than it is the most that can be guessed so. -/
theorem digit_ge {g : Nat} (hR : R = Rlo + D * (u2 + B * (u1 + B * u0))) (hD : 0 < D) (hYlo : Ylo < D) (hY : Y = Ylo + D * (v2 + B * v1)) (hq : R < (q + 1) * Y) (hg : g * (v2 + B * v1) ≤ u2 + B * (u1 + B * u0)) (hgB : g < B) (hv : 1 ≤ v1) : g ≤ q + 1 := by
  rcases Nat.lt_or_ge (q + 1) g with h | h
  · exfalso
    have h1 : D * ((q + 2) * (v2 + B * v1)) ≤ R := by
      have : (q + 2) * (v2 + B * v1) ≤ g * (v2 + B * v1) := Nat.mul_le_mul_right _ h
      have h3 := Nat.mul_le_mul_left D (Nat.le_trans this hg)
      omega
    have h2 : (q + 1) * Y ≤ (q + 1) * (D * (v2 + B * v1 + 1)) := Nat.mul_le_mul_left _ (by rw [hY, Nat.mul_add D _ 1]; omega)
    have h3 : D * ((q + 2) * (v2 + B * v1)) < D * ((q + 1) * (v2 + B * v1 + 1)) := by rw [Nat.mul_left_comm D (q + 1)]; omega
    have h4 := Nat.lt_of_mul_lt_mul_left h3
    have h5 : B * 1 ≤ B * v1 := Nat.mul_le_mul_left _ hv
    generalize hV : v2 + B * v1 = V at *
    have h6 : (q + 2) * V = (q + 1) * V + V := by rw [show q + 2 = q + 1 + 1 from rfl, Nat.add_mul (q + 1) 1, Nat.one_mul]
    rw [h6, Nat.mul_add (q + 1), Nat.mul_one] at h4
    omega
  · exact h
/-- The highest limb is at most the divisor's. -/
theorem top_le (hR : R = Rlo + D * (u2 + B * (u1 + B * u0))) (hYlo : Ylo < D) (hY : Y = Ylo + D * (v2 + B * v1)) (hv2 : v2 < B) (hlt : R < B * Y) : u0 ≤ v1 := by
  rcases Nat.lt_or_ge v1 u0 with h | h
  · exfalso
    have h1 : Y < D * (B * (v1 + 1)) := by
      rw [hY, Nat.mul_add B]
      have : D * (v2 + B * v1 + 1) ≤ D * (B * v1 + B * 1) := Nat.mul_le_mul_left _ (by omega)
      rw [Nat.mul_add D _ 1] at this
      omega
    have h2 : B * Y ≤ B * (D * (B * (v1 + 1))) := Nat.mul_le_mul_left _ (Nat.le_of_lt h1)
    have h3 : D * (B * (B * (v1 + 1))) ≤ D * (B * (B * u0)) := Nat.mul_le_mul_left _ (Nat.mul_le_mul_left _ (Nat.mul_le_mul_left _ h))
    have h4 : D * (B * (B * u0)) ≤ R := by
      rw [hR]
      have : D * (B * (B * u0)) ≤ D * (u2 + B * (u1 + B * u0)) := Nat.mul_le_mul_left _ (by rw [Nat.mul_add B u1]; omega)
      omega
    rw [Nat.mul_left_comm B D] at h2
    omega
  · exact h
end

/-- It answers a digit that is right, or one too great. -/
def RetG (q : Nat) (w : World) (e : Ending) (w' : World) : Prop := ∃ (x n : Nat), e = .returned (.int .u32 x) ∧ x < 4294967296 ∧ q ≤ x ∧ x ≤ q + 1 ∧ w' = w.drewN n

set_option maxHeartbeats 2000000 in
/-- 'guessDigit'. -/
theorem guess_any (A : Option Addr) (sc c m g o q : Nat) (a r b l : List Nat) (w : World) (hm : m ≤ 1000000) (ho : a.length = o) (hr : r.length = m + 3) (hl : l.length = m + 2)
    (hB : Blk w g 43 (blkOf .u32 (a ++ r ++ b))) (hrb : ∀ x ∈ r, x < 4294967296) (hlb : ∀ x ∈ l, x < 4294967296) (hA : ArrO g 43 .u32 w A l) (hv : 1 ≤ l.getD (m + 1) 0)
    (hlt : val 4294967296 r < 4294967296 * val 4294967296 l) (hq : q = val 4294967296 r / val 4294967296 l) :
    Calls Tryd.prog 70 #[.slice (some ⟨g, o, none⟩) (m + 3) sc, .slice A (m + 2) c] w (RetG q w) := by
  have hR := val_top3 4294967296 r m hr
  have hY := val_top2 4294967296 l m hl
  have hRlo : val 4294967296 (r.take m) < 4294967296 ^ m := by
    have := val_lt (b := 4294967296) (by decide) (l := r.take m) fun x hx => hrb x (List.mem_of_mem_take hx)
    rwa [List.length_take, Nat.min_eq_left (by omega)] at this
  have hYlo : val 4294967296 (l.take m) < 4294967296 ^ m := by
    have := val_lt (b := 4294967296) (by decide) (l := l.take m) fun x hx => hlb x (List.mem_of_mem_take hx)
    rwa [List.length_take, Nat.min_eq_left (by omega)] at this
  have hu0l := getD_lt (b := 4294967296) (by decide) hrb (m + 2)
  have hu1l := getD_lt (b := 4294967296) (by decide) hrb (m + 1)
  have hu2l := getD_lt (b := 4294967296) (by decide) hrb m
  have hv1l := getD_lt (b := 4294967296) (by decide) hlb (m + 1)
  have hv2l := getD_lt (b := 4294967296) (by decide) hlb m
  have hYpos : 0 < val 4294967296 l := by
    rcases Nat.eq_zero_or_pos (val 4294967296 l) with h | h
    · rw [h] at hlt; omega
    · exact h
  have hqY : q * val 4294967296 l ≤ val 4294967296 r := by rw [hq]; exact Nat.div_mul_le_self _ _
  have hqR : val 4294967296 r < (q + 1) * val 4294967296 l := by rw [hq]; exact Nat.lt_mul_of_div_lt (Nat.lt_succ_self _) hYpos
  have hqB : q < 4294967296 := by rw [hq, Nat.div_lt_iff_lt_mul hYpos]; exact hlt
  have hu0v1 := top_le hR hYlo hY hv2l hlt
  have hD : 0 < 4294967296 ^ m := Nat.pow_pos (by decide)
  have hqt := digit_le hR hRlo hY hqY
  have hge := fun x (h1 : x * (l.getD m 0 + 4294967296 * l.getD (m + 1) 0) ≤ r.getD m 0 + 4294967296 * (r.getD (m + 1) 0 + 4294967296 * r.getD (m + 2) 0)) (h2 : x < 4294967296) => digit_ge hR hD hYlo hY hqR h1 h2 hv
  have hc := fun i (hi : i < m + 3) => (show w.cell? ⟨g, o + i, none⟩ = some (.int .u32 (r.getD i 0 : Nat)) by
    rw [hB.cell, blkOf_get .u32 _ (by rw [List.length_append, List.length_append, ho, hr]; omega), ← ho, mid_get a r b (by omega)])
  have hu0c := hc (m + 2) (by omega)
  have hu1c := hc (m + 1) (by omega)
  have hu2c := hc m (by omega)
  obtain ⟨g', o', cs', rfl, _, hb', hcs'⟩ := hA (by intro e; simp [e] at hl)
  have hv1c := (hb'.cell (o' + (m + 1))).trans (hcs' (m + 1) (by omega))
  have hv2c := (hb'.cell (o' + m)).trans (hcs' m (by omega))
  clear hb' hcs'
  generalize r.getD (m + 2) 0 = u0 at *
  generalize r.getD (m + 1) 0 = u1 at *
  generalize r.getD m 0 = u2 at *
  generalize l.getD (m + 1) 0 = v1 at *
  generalize l.getD m 0 = v2 at *
  have HQT := Lib.hid hqt
  have HGE := Lib.hid hge
  clear hR hY hRlo hYlo hqY hqR hlt hq hD hqt hge hc hA hB hrb hlb hr hl ho hYpos
  have hjoin := join_u64 u1 u0 hu1l hu0l
  rw [wrap_u64 (x := (u0 : Int)) (by omega) (by omega), wrap_u64 (x := (u0 : Int) * 4294967296) (by omega) (by omega), wrap_u64 (x := (u1 : Int)) (by omega) (by omega)] at hjoin
  obtain ⟨top, htop⟩ : ∃ top, top = u1 + 4294967296 * u0 := ⟨_, rfl⟩
  rw [← htop] at hjoin
  have HT := Lib.hid htop
  have htop1 : top < 18446744073709551616 := by omega
  clear htop
  have hi0 : (0 : Int) ≤ (m : Int) + 2 := by omega
  have hi1 : (m : Int) + 2 < (m : Int) + 3 := by omega
  have hi2 : (0 : Int) ≤ (m : Int) + 1 := by omega
  have hi3 : (m : Int) + 1 < (m : Int) + 3 := by omega
  have hi4 : (m : Int) + 1 < (m : Int) + 2 := by omega
  have hwm1 : IntKind.i64.wrap ((m : Int) + 2 - 1) = (m : Int) + 1 := by rw [IntKind.wrap_i64]; omega
  have hwu0 : IntKind.u64.wrap (u0 : Int) = (u0 : Int) := wrap_u64 (by omega) (by omega)
  have hwu1 : IntKind.u64.wrap (u1 : Int) = (u1 : Int) := wrap_u64 (by omega) (by omega)
  have hwu2 : IntKind.u64.wrap ((u0 : Int) * 4294967296) = (u0 : Int) * 4294967296 := wrap_u64 (by omega) (by omega)
  have htn2 : ((m : Int) + 2).toNat = m + 2 := by omega
  have htn1 : ((m : Int) + 1).toNat = m + 1 := by omega
  go_enter Tryd.func70, Tryd.ntmps70
  go_wp2
  go_quiet (fail)
  go_wp2
  clear hwm1 hwu0 hwu1 hwu2 hjoin
  have hqv : top / v1 ≤ top := Nat.div_le_self _ _
  have hwq : IntKind.u64.wrap ((top : Int) / (v1 : Int)) = ((top / v1 : Nat) : Int) := by
    have e : (top : Int) / (v1 : Int) = ((top / v1 : Nat) : Int) := by simp
    generalize top / v1 = tq at *
    rw [e]; exact wrap_u64 (by omega) (by omega)
  rw [hwq]
  have hqtop : q * v1 ≤ top := by
    have h1 := HQT.out
    rw [← HT.out, Nat.mul_add, Nat.mul_left_comm q] at h1
    have h2 : 4294967296 * (q * v1) < 4294967296 * (top + 1) := by omega
    have := Nat.lt_of_mul_lt_mul_left h2
    omega
  go_loopw [7, 8] (fun t7 t8 wr => ∃ gs lf n : Nat, t7 = .int .u64 gs ∧ t8 = .int .u64 lf ∧ gs * v1 + lf = top ∧ lf < 4294967296 ∧ q ≤ gs ∧ gs ≤ top ∧ wr = w.drewN n) (fun t7 _ _ => (intOf t7).toNat)
  case atStart => exact ⟨top / v1, top % v1, nq, by simp, by simp, by have := Nat.div_add_mod top v1; rw [Nat.mul_comm]; exact this, by have := Nat.mod_lt top hv; omega, (Nat.le_div_iff_mul_le hv).2 hqtop, Nat.div_le_self _ _, rfl⟩
  case round =>
    obtain ⟨gs, lf, n0, rfl, rfl, hgl, hlf, hqg, hgt, rfl⟩ := hrel
    have HGL := Lib.hid hgl
    clear hgl
    have hi5 : (0 : Int) ≤ (m : Int) := by omega
    have hi6 : (m : Int) < (m : Int) + 2 := by omega
    have hi7 : (m : Int) < (m : Int) + 3 := by omega
    have hwm2 : IntKind.i64.wrap ((m : Int) + 2 - 2) = (m : Int) := by rw [IntKind.wrap_i64]; omega
    have hwm1 : IntKind.i64.wrap ((m : Int) + 2 - 1) = (m : Int) + 1 := by rw [IntKind.wrap_i64]; omega
    have hjoin := join_u64 u2 lf hu2l hlf
    rw [wrap_u64 (x := (lf : Int)) (by omega) (by omega), wrap_u64 (x := (lf : Int) * 4294967296) (by omega) (by omega), wrap_u64 (x := (u2 : Int)) (by omega) (by omega)] at hjoin
    obtain ⟨z, hz⟩ : ∃ z, z = u2 + 4294967296 * lf := ⟨_, rfl⟩
    rw [← hz] at hjoin
    have hwv2 : IntKind.u64.wrap (v2 : Int) = (v2 : Int) := wrap_u64 (by omega) (by omega)
    have hwu2 : IntKind.u64.wrap (u2 : Int) = (u2 : Int) := wrap_u64 (by omega) (by omega)
    have hwlf : IntKind.u64.wrap ((lf : Int) * 4294967296) = (lf : Int) * 4294967296 := wrap_u64 (by omega) (by omega)
    -- what a guess that is small enough says
    have hexit : gs < 4294967296 → gs * v2 ≤ z → gs ≤ q + 1 := fun h1 h2 => HGE.out gs (by
      rw [← HT.out, ← HGL.out, Nat.mul_add gs, Nat.mul_left_comm gs, Nat.mul_add 4294967296]; omega) h1
    have hdown : (4294967296 ≤ gs ∨ z < gs * v2) → 1 ≤ gs ∧ q ≤ gs - 1 := fun h => by
      rcases h with h | h
      · omega
      · have hg1 : 1 ≤ gs := by rcases Nat.eq_zero_or_pos gs with h0 | h0; rw [h0] at h; simp at h; exact h0
        refine ⟨hg1, ?_⟩
        rcases Nat.lt_or_ge q gs with h2 | h2
        · omega
        · exfalso
          have e : gs = q := by omega
          subst e
          have h3 := HQT.out
          rw [← HT.out, ← HGL.out, Nat.mul_add gs, Nat.mul_left_comm gs, Nat.mul_add 4294967296] at h3
          omega
    have hbreak : 1 ≤ gs → 4294967296 ≤ lf + v1 → gs - 1 < 4294967296 ∧ gs - 1 ≤ q + 1 := fun h1 h2 => by
      have hg : (gs - 1) * v1 + (lf + v1) = top := by
        have h3 : gs * v1 = (gs - 1) * v1 + v1 := by
          conv => lhs; rw [← Nat.sub_add_cancel h1, Nat.add_mul, Nat.one_mul]
        have := HGL.out; omega
      have hlt : gs - 1 < 4294967296 := by
        rcases Nat.lt_or_ge (gs - 1) 4294967296 with h4 | h4
        · exact h4
        · exfalso
          have h5 : 4294967296 * v1 ≤ (gs - 1) * v1 := Nat.mul_le_mul_right _ h4
          have h6 := HT.out
          have h7 : 4294967296 * u0 ≤ 4294967296 * v1 := Nat.mul_le_mul_left _ hu0v1
          omega
      refine ⟨hlt, HGE.out (gs - 1) ?_ hlt⟩
      have h8 : (gs - 1) * v2 ≤ 4294967295 * 4294967295 := Nat.mul_le_mul (by omega) (by omega)
      rw [← HT.out, ← hg, Nat.mul_add (gs - 1), Nat.mul_left_comm (gs - 1), Nat.mul_add 4294967296]
      omega
    have hnext : 1 ≤ gs → (gs - 1) * v1 + (lf + v1) = top := fun h1 => by
      have h3 : gs * v1 = (gs - 1) * v1 + v1 := by
        conv => lhs; rw [← Nat.sub_add_cancel h1, Nat.add_mul, Nat.one_mul]
      have := HGL.out; omega
    have HEX := Lib.hid hexit
    have HDN := Lib.hid hdown
    have HBR := Lib.hid hbreak
    have HNX := Lib.hid hnext
    clear hexit hdown hbreak hnext
    have hz1 : z < 18446744073709551616 := by omega
    clear hz
    have hgs1 : gs < 18446744073709551616 := by omega
    by_cases hbig : 4294967296 ≤ gs
    · have hdv : ((gs : Int) / 4294967296 != 0) = true := by simp; omega
      have hd := HDN.out (.inl hbig)
      by_cases hbk : 4294967296 ≤ lf + v1
      · have hlv : (((lf : Int) + (v1 : Int)) / 4294967296 != 0) = true := by simp; omega
        have hb := HBR.out hd.1 hbk
        go_wp2
        go_quiet (fail)
        go_wp2
        go_ret
        exact ⟨gs - 1, n0 + nq, by rw [Int.ofNat_sub hd.1]; rfl, hb.1, hd.2, hb.2, rfl⟩
      · have hlv : (((lf : Int) + (v1 : Int)) / 4294967296 != 0) = false := by simp; omega
        have hn := HNX.out hd.1
        go_wp2
        go_quiet (fail)
        go_wp2
        go_roundw
        case measure => simp only [intOf]; omega
        exact ⟨gs - 1, lf + v1, n0 + nq, by rw [Int.ofNat_sub hd.1]; rfl, by simp, hn, by omega, hd.2, by omega, rfl⟩
    · have hdv : ((gs : Int) / 4294967296 != 0) = false := by simp; omega
      have hp1 : gs * v2 ≤ 4294967295 * 4294967295 := Nat.mul_le_mul (by omega) (by omega)
      have hpI : (gs : Int) * (v2 : Int) = ((gs * v2 : Nat) : Int) := by simp
      obtain ⟨p, hp⟩ : ∃ p, p = gs * v2 := ⟨_, rfl⟩
      rw [← hp] at hp1 hpI HDN HEX
      have hwp : IntKind.u64.wrap ((gs : Int) * (v2 : Int)) = (p : Int) := by rw [hpI]; exact wrap_u64 (by omega) (by omega)
      clear hp
      by_cases hzp : z < p
      · have hzd : decide ((z : Int) < (p : Int)) = true := by simp; omega
        have hd := HDN.out (.inr hzp)
        by_cases hbk : 4294967296 ≤ lf + v1
        · have hlv : (((lf : Int) + (v1 : Int)) / 4294967296 != 0) = true := by simp; omega
          have hb := HBR.out hd.1 hbk
          go_wp2
          go_quiet (fail)
          go_wp2
          go_ret
          exact ⟨gs - 1, n0 + nq, by rw [Int.ofNat_sub hd.1]; rfl, hb.1, hd.2, hb.2, rfl⟩
        · have hlv : (((lf : Int) + (v1 : Int)) / 4294967296 != 0) = false := by simp; omega
          have hn := HNX.out hd.1
          go_wp2
          go_quiet (fail)
          go_wp2
          go_roundw
          case measure => simp only [intOf]; omega
          exact ⟨gs - 1, lf + v1, n0 + nq, by rw [Int.ofNat_sub hd.1]; rfl, by simp, hn, by omega, hd.2, by omega, rfl⟩
      · have hzd : decide ((z : Int) < (p : Int)) = false := by simp; omega
        have he := HEX.out (by omega) (by omega)
        go_wp2
        go_quiet (fail)
        go_wp2
        go_ret
        exact ⟨gs, n0 + nq, rfl, by omega, hqg, he, rfl⟩
end Go.Proofs.YtobfhidajcnfdaaDoor
