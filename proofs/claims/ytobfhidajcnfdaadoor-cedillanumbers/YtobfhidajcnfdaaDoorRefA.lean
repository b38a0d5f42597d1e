/-
  Contracts of the document's own arithmetic in decimal digits: Trim, at, Compare.
-/
import Derived.Test.YtobfhidajcnfdaaDoorNatC
namespace Go.Proofs.YtobfhidajcnfdaaDoor
set_option linter.unusedVariables false
set_option maxRecDepth 20000
open Go.RowKit

/-- A number of the document: its decimal digits lie in memory, normal, at most 'k' of them. -/
def IsD (w : World) (v : Value) (k N : Nat) : Prop := ∃ l, IsL 3 .i64 w v l ∧ Norm 10 l ∧ val 10 l = N ∧ l.length ≤ k
theorem IsD.below {w w' : World} {v : Value} {k N : Nat} (h : IsD w v k N) (hb : Below w.heap.size w w') : IsD w' v k N := by
  obtain ⟨l, h1, h2⟩ := h
  exact ⟨l, h1.below hb, h2⟩
theorem IsD.more {w : World} {v : Value} {k k' N : Nat} (h : IsD w v k N) (hk : k ≤ k') : IsD w v k' N := by
  obtain ⟨l, h1, h2, h3, h4⟩ := h
  exact ⟨l, h1, h2, h3, by omega⟩
def RetD (k N : Nat) (w : World) (e : Ending) (w' : World) : Prop := ∃ v, e = .returned v ∧ IsD w' v k N ∧ Below w.heap.size w w'

/-- 'at': a digit; 0 beyond the last one. -/
theorem at_any (A : Option Addr) (n c i : Nat) (l : List Nat) (w : World) (hln : l.length = n) (hr : Arr 3 .i64 w A l) (hn : n ≤ 1000000) (hi : i ≤ 2000000) :
    Calls Tryd.prog 57 #[.slice A n c, .int .i64 i] w fun e w' => e = .returned (.int .i64 (l.getD i 0 : Nat)) ∧ w = w' := by
  by_cases h : i < n
  · obtain ⟨ad, rfl, hab, hcell⟩ := hr.row.at_ (i := i) (by omega)
    obtain ⟨x, hx⟩ : ∃ x, x = l.getD i 0 := ⟨_, rfl⟩
    rw [← hx] at hcell ⊢
    clear hx hln
    go_enter Tryd.func57, Tryd.ntmps57
    go_wp2
    go_ret
    exact ⟨rfl, rfl⟩
  · have e : l.getD i 0 = 0 := by simp [List.getD, List.getElem?_eq_none (by omega : l.length ≤ i)]
    rw [e]
    clear e
    go_enter Tryd.func57, Tryd.ntmps57
    go_wp2
    go_ret
    exact ⟨rfl, rfl⟩

/-- 'Trim'. -/
theorem trimD_any (A : Option Addr) (n c : Nat) (l : List Nat) (w : World) (hln : l.length = n) (hr : Arr 3 .i64 w A l) (hb : ∀ x ∈ l, x < 10) (hn : n ≤ 1000000) (hc : n ≤ c) :
    Calls Tryd.prog 40 #[.slice A n c] w (RetD n (val 10 l) w) := by
  subst hln
  go_enter Tryd.func40, Tryd.ntmps40
  go_wp2
  go_loop [3] (fun t => ∃ k : Nat, k ≤ l.length ∧ t = .int .i64 k ∧ val 10 (l.take k) = val 10 l) (fun t => (intOf t).toNat)
  case atStart => exact ⟨l.length, Nat.le_refl _, rfl, by rw [List.take_length]⟩
  case round =>
    obtain ⟨k, hk, rfl, hv⟩ := hrel
    have HV := Lib.hid hv
    clear hv
    by_cases hk0 : k = 0
    · subst hk0
      go_wp2
      go_ret
      have hv0 : val 10 l = 0 := by rw [← HV.out]; simp [val]
      rw [hv0]
      exact ⟨_, rfl, ⟨[], ⟨A, c, rfl, Arr.empty, by simp⟩, Norm.nil _, rfl, by simp⟩, Below.refl _ _⟩
    · obtain ⟨m, rfl⟩ : ∃ m, k = m + 1 := ⟨k - 1, by omega⟩
      obtain ⟨ad, rfl, hab, hcell⟩ := hr.row.at_ (i := m) (by omega)
      obtain ⟨x, hx⟩ : ∃ x, x = l.getD m 0 := ⟨_, rfl⟩
      rw [← hx] at hcell
      have HX := Lib.hid hx
      clear hx hk0
      by_cases hz : x = 0
      · subst hz
        go_wp2
        go_round
        case rel => exact ⟨m, by omega, rfl, by rw [← HV.out, val_take_succ _ _ _ (by omega), ← HX.out]; simp⟩
        case measure => simp [intOf]
      · have hz1 : ((x : Int) == 0) = false := by simp; omega
        have hm1 : ((m : Int) + 1 == 0) = false := by simp; omega
        go_wp2
        go_ret
        have hlen : (l.take (m + 1)).length = m + 1 := by rw [List.length_take]; omega
        refine ⟨_, rfl, ⟨l.take (m + 1), ⟨some ad, c, by rw [hlen]; rfl, hr.take _, by omega⟩, norm_take hb (by omega) (by omega) ?_, HV.out, by omega⟩, Below.refl _ _⟩
        show l.getD m 0 ≠ 0
        rw [← HX.out]; exact hz

/-- 'Compare' of the document. -/
theorem compareD_any (v u : Value) (k m N M : Nat) (w : World) (h : IsD w v k N) (h' : IsD w u m M) (hk : k ≤ 1000000) (hm : m ≤ 1000000) :
    Calls Tryd.prog 43 #[v, u] w (RetV (.int .i64 (cmpN N M)) w) := by
  obtain ⟨l, ⟨A, c, rfl, hr, hlc⟩, hn, hv, hlk⟩ := h
  obtain ⟨l', ⟨A', c', rfl, hr', hlc'⟩, hn', hv', hlk'⟩ := h'
  rcases Nat.lt_trichotomy l.length l'.length with hlen | hlen | hlen
  · have hcN : cmpN N M = -1 := by
      have := hn.lt_of_length (by decide) hn' hlen
      rw [hv, hv'] at this
      exact cmpN_lt this
    rw [hcN]
    have hne : ((l.length : Int) != (l'.length : Int)) = true := by simp; omega
    clear hcN hv hv'
    go_enter Tryd.func43, Tryd.ntmps43
    go_wp2
    go_ret
    exact ⟨rfl, Below.refl _ _⟩
  · have HV := Lib.hid hv
    have HV' := Lib.hid hv'
    have HL := Lib.hid hlen
    have hle1 : l.length ≤ l'.length := by omega
    have hle2 : l'.length ≤ l.length := by omega
    have hne : ((l.length : Int) != (l'.length : Int)) = false := by simp; omega
    clear hv hv' hlen
    go_enter Tryd.func43, Tryd.ntmps43
    go_wp2
    clear hne
    go_loopw [5] (fun t wr => ∃ k : Nat, k ≤ l.length ∧ t = .int .i64 ((k : Int) - 1) ∧ l.drop k = l'.drop k ∧ Below w.heap.size w wr) (fun t _ => (intOf t + 1).toNat)
    case atStart => exact ⟨l.length, Nat.le_refl _, rfl, by rw [List.drop_length, HL.out, List.drop_length], Below.refl _ _⟩
    case round =>
      obtain ⟨j, hj, rfl, hd, hbw⟩ := hrel
      have HD := Lib.hid hd
      clear hd
      by_cases hj0 : j = 0
      · subst hj0
        have hfin : cmpN N M = 0 := by
          have h3 := HD.out
          rw [List.drop_zero, List.drop_zero] at h3
          rw [← HV.out, ← HV'.out, h3]
          exact cmpN_eq _
        have HF := Lib.hid hfin
        clear hfin
        go_wp2
        go_ret
        exact ⟨ret_int HF.out.symm, hbw⟩
      · obtain ⟨i, rfl⟩ : ∃ i, j = i + 1 := ⟨j - 1, by omega⟩
        rw [show ((i + 1 : Nat) : Int) - 1 = (i : Int) by omega]
        have hil : i < l.length := by omega
        have hil' : i < l'.length := by omega
        obtain ⟨ad, rfl, hab, hx⟩ := (hr.below hbw).row.at_ hil
        obtain ⟨ad', rfl, hab', hy⟩ := (hr'.below hbw).row.at_ hil'
        have hx1 := lt_of_mem_getD hn.1 hil
        have hy1 := lt_of_mem_getD hn'.1 hil'
        obtain ⟨x, hxe⟩ : ∃ x, x = l.getD i 0 := ⟨_, rfl⟩
        obtain ⟨y, hye⟩ : ∃ y, y = l'.getD i 0 := ⟨_, rfl⟩
        rw [← hxe] at hx hx1
        rw [← hye] at hy hy1
        have HX := Lib.hid hxe
        have HY := Lib.hid hye
        clear hxe hye hj0
        have hi0 : (0 : Int) ≤ (i : Int) := by omega
        have hi1 : (i : Int) < (l.length : Int) := by omega
        have hi2 : (i : Int) < (l'.length : Int) := by omega
        rcases Nat.lt_trichotomy x y with hxy | hxy | hxy
        · have hfin : cmpN N M = -1 := by
            have := val_lt_at (b := 10) (by decide) hn.1 hil HL.out HD.out (by rw [← HX.out, ← HY.out]; exact hxy)
            rw [HV.out, HV'.out] at this
            exact cmpN_lt this
          have HF := Lib.hid hfin
          clear hfin
          go_wp2_with fail
          go_quiet (fail)
          go_wp2
          go_ret
          exact ⟨ret_int HF.out.symm, below_drewN hbw _⟩
        · have hd2 : l.drop i = l'.drop i := by
            rw [List.drop_eq_getElem_cons hil, List.drop_eq_getElem_cons hil', HD.out]
            have h4 := HX.out
            have h5 := HY.out
            simp only [List.getD, List.getElem?_eq_getElem hil, List.getElem?_eq_getElem hil', Option.getD_some] at h4 h5
            rw [← h4, ← h5, hxy]
          have HD2 := Lib.hid hd2
          subst hxy
          clear hd2
          go_wp2_with fail
          go_quiet (fail)
          go_wp2_with fail
          go_quiet (fail)
          go_wp2
          go_roundw
          case rel => exact ⟨i, by omega, by go_num, HD2.out, below_drewN hbw _⟩
          case measure => simp [intOf]
        · have hfin : cmpN N M = 1 := by
            have := val_lt_at (b := 10) (by decide) hn'.1 hil' HL.out.symm HD.out.symm (by rw [← HX.out, ← HY.out]; exact hxy)
            rw [HV.out, HV'.out] at this
            exact cmpN_gt this
          have HF := Lib.hid hfin
          have hxy' : ¬ x < y := by omega
          clear hfin
          go_wp2_with fail
          go_quiet (fail)
          go_wp2_with fail
          go_quiet (fail)
          go_wp2
          go_ret
          exact ⟨ret_int HF.out.symm, below_drewN (below_drewN hbw _) _⟩
  · have hcN : cmpN N M = 1 := by
      have := hn'.lt_of_length (by decide) hn hlen
      rw [hv, hv'] at this
      exact cmpN_gt this
    rw [hcN]
    have hne : ((l.length : Int) != (l'.length : Int)) = true := by simp; omega
    clear hcN hv hv'
    go_enter Tryd.func43, Tryd.ntmps43
    go_wp2
    go_ret
    exact ⟨rfl, Below.refl _ _⟩
end Go.Proofs.YtobfhidajcnfdaaDoor
