/-
  The contract of divideStep: one limb of a quotient, and what is left in place.
-/
import Derived.Test.YtobfhidajcnfdaaDoorDivC
namespace Go.Proofs.YtobfhidajcnfdaaDoor
set_option linter.unusedVariables false
set_option maxRecDepth 20000
open Go.RowKit

/-- It answers one digit, and has left the rest in block g. -/
def RetDS (g m : Nat) (a b : List Nat) (q R : Nat) (w : World) (e : Ending) (w' : World) : Prop :=
  ∃ (r' : List Nat), e = .returned (.int .u32 q) ∧ r'.length = m ∧ (∀ x ∈ r', x < 4294967296) ∧ val 4294967296 r' = R ∧ Blk w' g 43 (blkOf .u32 (a ++ r' ++ b)) ∧ Only g w w'

/-- A guess that doesn't borrow is right .. -/
theorem step_right {R Y x q P v : Nat} (hY : 0 < Y) (hq : q = R / Y) (h1 : q ≤ x) (hv : v + x * Y = R) : x = q ∧ v = R % Y := by
  have hx : x ≤ q := by rw [hq, Nat.le_div_iff_mul_le hY]; omega
  have e : x = q := by omega
  refine ⟨e, ?_⟩
  have := Nat.div_add_mod R Y
  rw [← hq, ← e, Nat.mul_comm] at this
  omega
/-- .. and one that does is one too great. -/
theorem step_over {R Y x q P v v' c : Nat} (hY : 0 < Y) (hq : q = R / Y) (h2 : x ≤ q + 1) (hP : Y ≤ P) (hvP : v < P) (hv : v + x * Y = R + P) (hb : v' + P * c = v + Y) (hvb : v' < P) (hc : c ≤ 1) : 1 ≤ x ∧ x - 1 = q ∧ v' = R % Y := by
  have hm := Nat.div_add_mod R Y
  have hml := Nat.mod_lt R hY
  rw [← hq] at hm
  have hx : q < x := by
    rcases Nat.lt_or_ge q x with h | h
    · exact h
    · have := Nat.mul_le_mul_right Y h
      rw [Nat.mul_comm q] at this
      omega
  have e : x = q + 1 := by omega
  subst e
  rw [Nat.add_mul, Nat.one_mul, Nat.mul_comm q] at hv
  refine ⟨by omega, by omega, ?_⟩
  rcases Nat.eq_zero_or_pos c with h | h
  · subst h; omega
  · have : c = 1 := by omega
    subst this
    omega

set_option maxHeartbeats 2000000 in
/-- 'divideStep'. -/
theorem divStep_any (A : Option Addr) (sc c m g o q R : Nat) (a r b l : List Nat) (w : World) (hm : m + 2 ≤ 1000000) (ho : a.length = o) (hr : r.length = m + 3) (hl : l.length = m + 2)
    (hB : Blk w g 43 (blkOf .u32 (a ++ r ++ b))) (hrb : ∀ x ∈ r, x < 4294967296) (hlb : ∀ x ∈ l, x < 4294967296) (hA : ArrO g 43 .u32 w A l) (hv : 1 ≤ l.getD (m + 1) 0)
    (hlt : val 4294967296 r < 4294967296 * val 4294967296 l) (hq : q = val 4294967296 r / val 4294967296 l) (hR : R = val 4294967296 r % val 4294967296 l) :
    Calls Tryd.prog 63 #[.slice (some ⟨g, o, none⟩) (m + 3) sc, .slice A (m + 2) c] w (RetDS g (m + 3) a b q R w) := by
  have hYpos : 0 < val 4294967296 l := by
    rcases Nat.eq_zero_or_pos (val 4294967296 l) with h | h
    · rw [h] at hlt; omega
    · exact h
  have hYP : val 4294967296 l ≤ 4294967296 ^ (m + 3) := by
    have h1 := val_lt (b := 4294967296) (by decide) (l := l) hlb
    rw [hl] at h1
    have h2 : 4294967296 ^ (m + 2) ≤ 4294967296 ^ (m + 3) := Nat.pow_le_pow_right (by decide) (by omega)
    exact Nat.le_trans (Nat.le_of_lt h1) h2
  have GU := Lib.hid (fun n => guess_any A sc c m g o q a r b l (w.drewN n) (by omega) ho hr hl hB hrb hlb hA hv hlt hq)
  have SU := Lib.hid (fun w' x (hx : x < 4294967296) (hB' : Blk w' g 43 (blkOf .u32 (a ++ r ++ b))) (hA' : ArrO g 43 .u32 w' A l) => subTimes_any A sc c (m + 2) x g o a r b l w' hm ho (by omega) hl hB' hrb hlb hx hA')
  have AD := Lib.hid (fun w' r' (hr' : r'.length = m + 3) (hrb' : ∀ x ∈ r', x < 4294967296) (hB' : Blk w' g 43 (blkOf .u32 (a ++ r' ++ b))) (hA' : ArrO g 43 .u32 w' A l) => addBack_any A sc c (m + 2) g o a r' b l w' hm ho (by omega) hl hB' hrb' hlb hA')
  simp only [show ∀ k : Nat, k + 2 + 1 = k + 3 from fun _ => rfl] at SU AD
  have HQ := Lib.hid hq
  have HR := Lib.hid hR
  have HYP := Lib.hid hYP
  clear hq hR hYP hlt ho
  go_enter Tryd.func63, Tryd.ntmps63
  go_wp2_with fail
  refine (GU.out 0).mono ?_
  rintro e w1 ⟨x, n, rfl, hx, hqx, hxq, rfl⟩
  have S1 := Lib.hid (SU.out ((w.drewN 0).drewN n) x hx hB hA)
  go_wp2_with fail
  refine S1.out.mono ?_
  rintro e w2 ⟨r', bw, rfl, hr', hrb', hv', hB', hO'⟩
  have HV' := Lib.hid hv'
  clear hv' S1 SU GU
  cases bw with
  | false =>
    have h0 := HV'.out
    rw [Bool.toNat_false, Nat.mul_zero, Nat.add_zero] at h0
    obtain ⟨e, hv⟩ := step_right (P := 0) hYpos HQ.out hqx h0
    subst e
    clear h0
    go_wp2
    go_ret
    exact ⟨r', rfl, hr', hrb', hv.trans HR.out.symm, hB', (((Only.refl g w).drewN 0).drewN n).trans hO'⟩
  | true =>
    have h0 := HV'.out
    rw [Bool.toNat_true, Nat.mul_one] at h0
    have H0 := Lib.hid h0
    have hlr := val_lt (b := 4294967296) (by decide) (l := r') hrb'
    rw [hr'] at hlr
    have HLR := Lib.hid hlr
    clear h0 hlr
    have hx1 : 1 ≤ x := by
      rcases Nat.eq_zero_or_pos x with h | h
      · exfalso
        have h1 := H0.out
        have h2 := HLR.out
        rw [h, Nat.zero_mul] at h1
        clear HYP H0 HLR
        generalize 4294967296 ^ (m + 3) = P at h1 h2
        omega
      · exact h
    have hA2 := (show ArrO g 43 .u32 ((w.drewN 0).drewN n) A l from hA).only hO'
    have A1 := Lib.hid (fun n => AD.out (w2.drewN n) r' hr' hrb' hB' hA2)
    go_wp2_with fail
    refine (A1.out 0).mono ?_
    rintro e w3 ⟨r2, c2, rfl, hr2, hrb2, hv2, hc2, hB2, hO2⟩
    have hlr2 := val_lt (b := 4294967296) (by decide) (l := r2) hrb2
    rw [hr2] at hlr2
    obtain ⟨_, e, hv⟩ := step_over hYpos HQ.out hxq HYP.out HLR.out H0.out hv2 hlr2 hc2
    clear hv2 hlr2
    go_wp2
    go_ret
    exact ⟨r2, by rw [← e, Int.ofNat_sub hx1]; rfl, hr2, hrb2, hv.trans HR.out.symm, hB2, ((((Only.refl g w).drewN 0).drewN n).trans (hO'.drewN 0)).trans hO2⟩
end Go.Proofs.YtobfhidajcnfdaaDoor
