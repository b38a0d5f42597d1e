/-
  Contracts of the number package's readers: Bits, Uint64, Compare, Same.
-/
import Derived.Test.YtobfhidajcnfdaaDoorNatA
import Derived.Test.YtobfhidajcnfdaaDoorLen
import Derived.Deep.RegionHeld3
import Derived.Deep.QuietTactic
import Derived.BigQuiet
namespace Go.Proofs.YtobfhidajcnfdaaDoor
set_option linter.unusedVariables false
set_option maxRecDepth 20000
open Go.RowKit

theorem lt_of_mem_getD {b : Nat} {l : List Nat} (h : ∀ x ∈ l, x < b) {i : Nat} (hi : i < l.length) : l.getD i 0 < b := by
  have : l.getD i 0 = l[i] := by simp [List.getD, hi]
  rw [this]; exact h _ (List.getElem_mem hi)

theorem bl_val {l : List Nat} (h : Norm 4294967296 l) (hl : l ≠ []) : bl (val 4294967296 l) = (l.length - 1) * 32 + bl (l.getD (l.length - 1) 0) := by
  have hlen : 0 < l.length := List.length_pos_iff.2 hl
  have e : val 4294967296 l = val 4294967296 (l.take (l.length - 1)) + 4294967296 ^ (l.length - 1) * l.getD (l.length - 1) 0 := by
    have := val_take_succ 4294967296 l (l.length - 1) (by omega)
    rw [Nat.sub_add_cancel hlen, List.take_length] at this
    exact this
  have hp : (4294967296 : Nat) ^ (l.length - 1) = 2 ^ ((l.length - 1) * 32) := by
    rw [show (4294967296 : Nat) = 2 ^ 32 from rfl, ← Nat.pow_mul, Nat.mul_comm]
  rw [e, hp]
  refine bl_top _ _ _ ?_ ?_
  · rw [← hp]
    have := val_lt (b := 4294967296) (by decide) (l := l.take (l.length - 1)) fun x hx => h.1 x (List.mem_of_mem_take hx)
    rwa [List.length_take, Nat.min_eq_left (by omega)] at this
  · have := h.2 hl
    rw [List.getLast_eq_getElem] at this
    simpa [List.getD, show l.length - 1 < l.length by omega] using this

theorem cmpN_cases (a b : Nat) : cmpN a b = -1 ∨ cmpN a b = 0 ∨ cmpN a b = 1 := by
  rcases Nat.lt_trichotomy a b with h | h | h
  · exact .inl (cmpN_lt h)
  · subst h; exact .inr (.inl (cmpN_eq a))
  · exact .inr (.inr (cmpN_gt h))
theorem IsN.lt {w : World} {v : Value} {k N : Nat} (h : IsN w v k N) : N < 4294967296 ^ k := by
  obtain ⟨A, c, l, _, _, hn, hv, hk, _⟩ := h
  rw [← hv]
  exact Nat.lt_of_lt_of_le (val_lt (by decide) hn.1) (Nat.pow_le_pow_right (by decide) hk)
theorem IsN.bl_le {w : World} {v : Value} {k N : Nat} (h : IsN w v k N) : bl N ≤ 32 * k := by
  rw [bl_spec, Nat.pow_mul]; exact h.lt

theorem flipped {P : Program} {f : FuncId} {args : Array Value} {w : World} {r : Ending} (h : Calls P f args w fun e w' => e = r ∧ w = w') : Calls P f args w fun e w' => e = r ∧ w' = w := h.mono fun _ _ ⟨a, b⟩ => ⟨a, b.symm⟩

theorem ret_int {k : IntKind} {a b : Int} (h : a = b) : Ending.returned (.int k a) = .returned (.int k b) := by rw [h]

/-- '(Nat).Bits'. -/
theorem bits_any (v : Value) (k N : Nat) (w : World) (h : IsN w v k N) (hk : k ≤ 1000000) :
    Calls Tryd.prog 19 #[v] w (RetV (.int .i64 (bl N : Nat)) w) := by
  have hN := h
  obtain ⟨A, c, l, rfl, hr, hn, hv, hlk, _⟩ := h
  by_cases hl : l = []
  · subst hl
    have hN0 : N = 0 := by rw [← hv]; rfl
    subst hN0
    go_enter Tryd.func19, Tryd.ntmps19
    go_wp2_with fail
    refine (zero_any _ k 0 true _ (hN.alloc _) rfl).mono ?_
    rintro e w1 ⟨rfl, hb1⟩
    go_wp2
    go_ret
    exact ⟨rfl, below_step (below_new _ _) hb1⟩
  · have hpos : 0 < l.length := List.length_pos_iff.2 hl
    have hN0 : decide (N = 0) = false := by
      rw [← hv]; simpa using mt (hn.zero (by decide)).1 hl
    have hbl : bl N = (l.length - 1) * 32 + bl (l.getD (l.length - 1) 0) := by rw [← hv]; exact bl_val hn hl
    have hx := lt_of_mem_getD hn.1 (i := l.length - 1) (by omega)
    have h32 := (bl_spec (l.getD (l.length - 1) 0) 32).2 hx
    rw [hbl]
    have HN0 := Lib.hid hN0
    clear hbl hN0 hv
    obtain ⟨x, hxe⟩ : ∃ x, x = l.getD (l.length - 1) 0 := ⟨_, rfl⟩
    rw [← hxe] at hx h32 ⊢
    obtain ⟨b, hbe⟩ : ∃ b, b = bl x := ⟨_, rfl⟩
    rw [← hbe] at h32 ⊢
    have HX := Lib.hid hxe
    have HB := Lib.hid hbe
    clear hxe hbe
    obtain ⟨m, hm⟩ : ∃ m, m + 1 = l.length := ⟨l.length - 1, by omega⟩
    go_enter Tryd.func19, Tryd.ntmps19
    go_wp2_with fail
    refine (zero_any _ k N false _ (hN.alloc _) HN0.out).mono ?_
    rintro e w1 ⟨rfl, hb1⟩
    have hB := (Blk.over hb1)
    have hc0 := hB.cell0
    obtain ⟨ad, rfl, hab, hcell⟩ := ((hr.alloc _).below hb1).row.at_ (i := l.length - 1) (by omega)
    rw [← HX.out] at hcell
    go_wp2_with fail
    refine (len32_any x _ hx).mono ?_
    rintro e w' ⟨rfl, rfl⟩
    rw [← HB.out]
    go_wp2
    go_ret
    refine ⟨ret_int ?_, below_step (below_new _ _) hb1⟩
    omega

theorem val_two : ∀ (l : List Nat), l.length ≤ 2 → val 4294967296 l = l.getD 0 0 + 4294967296 * l.getD 1 0
  | [], _ => rfl
  | [x], _ => by simp [val]
  | [x, y], _ => by simp [val]
  | _ :: _ :: _ :: _, h => by simp at h

/-- '(Nat).Uint64'. -/
theorem uint64_any (v : Value) (k N : Nat) (w : World) (h : IsN w v k N) (hk : k ≤ 1000000) :
    Calls Tryd.prog 53 #[v] w (RetV (.tuple #[.int .u64 (if N < 18446744073709551616 then N else 0 : Nat), .bool (decide (N < 18446744073709551616))]) w) := by
  have hN := h
  obtain ⟨A, c, l, rfl, hr, hn, hv, hlk, _⟩ := h
  by_cases hl : 2 < l.length
  · have hN0 : ¬ N < 18446744073709551616 := by
      have := hn.ge (by intro e; simp [e] at hl)
      have h2 : 4294967296 ^ 2 ≤ 4294967296 ^ (l.length - 1) := Nat.pow_le_pow_right (by decide) (by omega)
      rw [hv, ] at this
      have h3 : (4294967296 : Nat) ^ 2 = 18446744073709551616 := by decide
      rw [h3] at h2
      exact Nat.not_lt.2 (Nat.le_trans h2 this)
    rw [if_neg hN0, decide_eq_false hN0]
    clear hN0 hv
    go_enter Tryd.func53, Tryd.ntmps53
    go_wp2
    go_ret2
    exact ⟨rfl, below_new _ _⟩
  · have hlt := val_lt (b := 4294967296) (by decide) hn.1
    have hp : 4294967296 ^ l.length ≤ 4294967296 ^ 2 := Nat.pow_le_pow_right (by decide) (by omega)
    have h3 : (4294967296 : Nat) ^ 2 = 18446744073709551616 := by decide
    rw [h3] at hp
    have hN0 : N < 18446744073709551616 := by rw [← hv]; exact Nat.lt_of_lt_of_le hlt hp
    clear h3
    have hval : N = l.getD 0 0 + 4294967296 * l.getD 1 0 := by
      rw [← hv]; exact val_two l (by omega)
    have hd0 : l.getD 0 0 < 4294967296 := by
      by_cases h0 : 0 < l.length
      · exact lt_of_mem_getD hn.1 h0
      · simp [List.getD, List.getElem?_eq_none (by omega : l.length ≤ 0)]
    have hd1 : l.getD 1 0 < 4294967296 := by
      by_cases h0 : 1 < l.length
      · exact lt_of_mem_getD hn.1 h0
      · simp [List.getD, List.getElem?_eq_none (by omega : l.length ≤ 1)]
    rw [if_pos hN0, decide_eq_true hN0]
    have dg := fun (i : Nat) (hi : i ≤ 1000000) w' (hr' : Arr 43 .u32 w' A l) => digit_any A c i l w' hr' (by omega) hi
    obtain ⟨x0, hx0⟩ : ∃ x, x = l.getD 0 0 := ⟨_, rfl⟩
    obtain ⟨x1, hx1⟩ : ∃ x, x = l.getD 1 0 := ⟨_, rfl⟩
    have d0 : ∀ w', Arr 43 .u32 w' A l → Calls Tryd.prog 49 #[.agg #[.slice A l.length c], .int .i64 0] w' (RetV (.int .u32 x0) w') := fun w' hr' => by rw [hx0]; exact dg 0 (by omega) w' hr'
    have d1 : ∀ w', Arr 43 .u32 w' A l → Calls Tryd.prog 49 #[.agg #[.slice A l.length c], .int .i64 1] w' (RetV (.int .u32 x1) w') := fun w' hr' => by rw [hx1]; exact dg 1 (by omega) w' hr'
    rw [← hx0, ← hx1] at hval
    rw [← hx0] at hd0
    rw [← hx1] at hd1
    have D0 := Lib.hid d0
    have D1 := Lib.hid d1
    have HV := Lib.hid hval
    clear d0 d1 dg hx0 hx1 hval hv hp hlt hN0 hN
    go_enter Tryd.func53, Tryd.ntmps53
    go_wp2
    go_region_held3 (fun w' => w'.cell? ⟨w.heap.size, 0, none⟩ = some (.slice A l.length c))
      (first | (simp; done) | exact (hb1.cell (by simp)).trans (by simp) | exact (hb2.cell (by have := hb1.size; simp at this ⊢; omega)).trans ((hb1.cell (by simp)).trans (by simp)))
      (first
        | (go_at_call_of 49 (Value.int .i64 1); refine (D1.out _ ?_).mono ?_; (exact (hr.alloc _).below (below_drew _)); rintro e w1 ⟨rfl, hb1⟩)
        | (go_at_call_of 49 (Value.int .i64 0); refine (D0.out _ ?_).mono ?_; (exact ((hr.alloc _).below (below_drew _)).below hb1); rintro e w2 ⟨rfl, hb2⟩))
    rw [join_u64 x0 x1 hd0 hd1, ← HV.out]
    go_wp2
    go_ret2
    exact ⟨rfl, below_step (below_step (below_step (below_new _ _) (below_drew _)) hb1) hb2⟩

theorem uint64_in (v : Value) (k N : Nat) (w : World) (h : IsN w v k N) (hk : k ≤ 1000000) (hN : N < 18446744073709551616) : Calls Tryd.prog 53 #[v] w (RetV (.tuple #[.int .u64 (N : Nat), .bool true]) w) := by
  have := uint64_any v k N w h hk
  rwa [if_pos hN, decide_eq_true hN] at this
theorem uint64_out (v : Value) (k N : Nat) (w : World) (h : IsN w v k N) (hk : k ≤ 1000000) (hN : ¬ N < 18446744073709551616) : Calls Tryd.prog 53 #[v] w (RetV (.tuple #[.int .u64 (0 : Nat), .bool false]) w) := by
  have := uint64_any v k N w h hk
  rwa [if_neg hN, decide_eq_false hN] at this

/-- 'nat.Compare'. -/
theorem compare_any (v u : Value) (k m N M : Nat) (w : World) (h : IsN w v k N) (h' : IsN w u m M) (hk : k ≤ 1000000) (hm : m ≤ 1000000) :
    Calls Tryd.prog 26 #[v, u] w (RetV (.int .i64 (cmpN N M)) w) := by
  obtain ⟨A, c, l, rfl, hr, hn, hv, hlk, _⟩ := h
  obtain ⟨A', c', l', rfl, hr', hn', hv', hlk', _⟩ := h'
  rcases Nat.lt_trichotomy l.length l'.length with hlen | hlen | hlen
  · have hc : cmpN l.length l'.length = -1 := by simp [cmpN, hlen]
    have hcN : cmpN N M = -1 := by
      have := hn.lt_of_length (by decide) hn' hlen
      rw [hv, hv'] at this
      simp [cmpN, this]
    rw [hcN]
    have HC := Lib.hid hc
    clear hcN hc hv hv'
    go_enter Tryd.func26, Tryd.ntmps26
    go_wp2_with fail
    refine (cmpInt_any l.length l'.length _ (by omega) (by omega)).mono ?_
    rintro e w1 ⟨rfl, rfl⟩
    rw [HC.out]
    go_wp2
    go_ret
    exact ⟨rfl, below_step (below_new _ _) (below_new _ _)⟩
  · have hc : cmpN l.length l'.length = 0 := by simp [cmpN, hlen]
    have HC := Lib.hid hc
    have HV := Lib.hid hv
    have HV' := Lib.hid hv'
    have HL := Lib.hid hlen
    have hle1 : l.length ≤ l'.length := by omega
    have hle2 : l'.length ≤ l.length := by omega
    clear hc hv hv' hlen
    go_enter Tryd.func26, Tryd.ntmps26
    go_wp2_with fail
    refine (cmpInt_any l.length l'.length _ (by omega) (by omega)).mono ?_
    rintro e w1 ⟨rfl, rfl⟩
    rw [HC.out]
    go_wp2
    go_loopw [22] (fun t wr => ∃ k : Nat, k ≤ l.length ∧ t = .int .i64 k ∧ l.drop (l.length - k) = l'.drop (l.length - k) ∧ Below (w.heap.size + 2) ((w.alloc (Obj.cells #[Value.slice A l.length c] 26)).alloc (Obj.cells #[Value.slice A' l'.length c'] 26)) wr) (fun t _ => l.length - (intOf t).toNat)
    case atStart => exact ⟨0, Nat.zero_le _, rfl, by rw [Nat.sub_zero, List.drop_length, HL.out, List.drop_length], Below.refl _ _⟩
    case round =>
      obtain ⟨j, hj, rfl, hd, hbw⟩ := hrel
      have HD := Lib.hid hd
      clear hd
      have hcA : wr.cell? ⟨w.heap.size, 0, none⟩ = some (.slice A l.length c) := (hbw.cell (by simp)).trans (by simp)
      have hcB : wr.cell? ⟨w.heap.size + 1, 0, none⟩ = some (.slice A' l'.length c') := (hbw.cell (by simp)).trans (by simp)
      by_cases hjl : j < l.length
      · obtain ⟨i, hi⟩ : ∃ i, i + 1 + j = l.length := ⟨l.length - 1 - j, by omega⟩
        have HI := Lib.hid hi
        have hil : i < l.length := by omega
        have hil' : i < l'.length := by omega
        have ei : ((l.length : Int) - 1 - (j : Int)) = (i : Int) := by omega
        have EI := Lib.hid ei
        clear hi ei
        obtain ⟨ad, rfl, hab, hx⟩ := (((hr.alloc _).alloc _).below (hbw.mono (by simp))).row.at_ hil
        obtain ⟨ad', rfl, hab', hy⟩ := (((hr'.alloc _).alloc _).below (hbw.mono (by simp))).row.at_ hil'
        have hx1 := lt_of_mem_getD hn.1 hil
        have hy1 := lt_of_mem_getD hn'.1 hil'
        obtain ⟨x, hxe⟩ : ∃ x, x = l.getD i 0 := ⟨_, rfl⟩
        obtain ⟨y, hye⟩ : ∃ y, y = l'.getD i 0 := ⟨_, rfl⟩
        rw [← hxe] at hx hx1
        rw [← hye] at hy hy1
        have HX := Lib.hid hxe
        have HY := Lib.hid hye
        clear hxe hye
        have hi0 : (0 : Int) ≤ (i : Int) := by omega
        have hi1 : (i : Int) < (l.length : Int) := by omega
        have hi2 : (i : Int) < (l'.length : Int) := by omega
        by_cases hxy : x = y
        · have hne : (cmpN x y != 0) = false := by simp [cmpN, hxy]
          have hd2 : l.drop (l.length - (j + 1)) = l'.drop (l.length - (j + 1)) := by
            have e1 : l.length - (j + 1) = i := by have := HI.out; omega
            have e2 : l.length - j = i + 1 := by have := HI.out; omega
            have h3 := HD.out
            rw [e2] at h3
            rw [e1, List.drop_eq_getElem_cons hil, List.drop_eq_getElem_cons hil', h3]
            have h4 := HX.out
            have h5 := HY.out
            simp only [List.getD, List.getElem?_eq_getElem hil, List.getElem?_eq_getElem hil', Option.getD_some] at h4 h5
            rw [← h4, ← h5, hxy]
          have HD2 := Lib.hid hd2
          clear hd2 hxy
          go_wp2
          rw [EI.out]
          go_quiet ((go_at_call 47; exact Calls.quiet_of_same (flipped (cmpU32_any x y _ hx1 hy1))))
          go_wp2
          go_roundw
          case rel => exact ⟨j + 1, by omega, by go_num, HD2.out, below_drewN hbw _⟩
          case measure => simp [intOf]; omega
        · have hne : (cmpN x y != 0) = true := by simp [cmpN]; omega
          have hfin : cmpN x y = cmpN N M := by
            have e2 : l.length - j = i + 1 := by have := HI.out; omega
            have h3 := HD.out
            rw [e2] at h3
            rw [← HV.out, ← HV'.out]
            have h4 := HX.out
            have h5 := HY.out
            rcases Nat.lt_or_gt_of_ne hxy with h6 | h6
            · have := val_lt_at (b := 4294967296) (by decide) hn.1 hil HL.out h3 (by omega)
              rw [cmpN_lt h6, cmpN_lt this]
            · have := val_lt_at (b := 4294967296) (by decide) hn'.1 hil' HL.out.symm h3.symm (by omega)
              rw [cmpN_gt h6, cmpN_gt this]
          have HF := Lib.hid hfin
          clear hfin hxy
          go_wp2
          rw [EI.out]
          go_quiet ((go_at_call 47; exact Calls.quiet_of_same (flipped (cmpU32_any x y _ hx1 hy1))))
          go_wp2
          go_ret
          exact ⟨ret_int HF.out, below_drewN (below_step (below_step (below_new _ _) (below_new _ _)) (hbw.mono (by simp))) _⟩
      · have hfin : cmpN N M = 0 := by
          have h3 := HD.out
          rw [show l.length - j = 0 by omega, List.drop_zero, List.drop_zero] at h3
          rw [← HV.out, ← HV'.out, h3]
          exact cmpN_eq _
        have HF := Lib.hid hfin
        clear hfin
        go_wp2
        go_ret
        exact ⟨ret_int HF.out.symm, below_step (below_step (below_new _ _) (below_new _ _)) (hbw.mono (by simp))⟩
  · have hc : cmpN l.length l'.length = 1 := by simp [cmpN, hlen, Nat.le_of_lt hlen]
    have hcN : cmpN N M = 1 := by
      have := hn'.lt_of_length (by decide) hn hlen
      rw [hv, hv'] at this
      simp [cmpN, this, Nat.le_of_lt this]
    rw [hcN]
    have HC := Lib.hid hc
    clear hcN hc hv hv'
    go_enter Tryd.func26, Tryd.ntmps26
    go_wp2_with fail
    refine (cmpInt_any l.length l'.length _ (by omega) (by omega)).mono ?_
    rintro e w1 ⟨rfl, rfl⟩
    rw [HC.out]
    go_wp2
    go_ret
    exact ⟨rfl, below_step (below_new _ _) (below_new _ _)⟩

/-- 'nat.Same'. -/
theorem same_any (v u : Value) (k m N M : Nat) (b : Bool) (w : World) (h : IsN w v k N) (h' : IsN w u m M) (hk : k ≤ 1000000) (hm : m ≤ 1000000) (hb : decide (N = M) = b) :
    Calls Tryd.prog 16 #[v, u] w (RetV (.bool b) w) := by
  have hcb : (cmpN N M == 0) = b := by
    rw [← hb, Bool.eq_iff_iff]
    simp only [beq_iff_eq, decide_eq_true_eq, cmpN_zero]
  clear hb
  obtain ⟨A, n, c, rfl⟩ := h.shape
  obtain ⟨A', n', c', rfl⟩ := h'.shape
  go_enter Tryd.func16, Tryd.ntmps16
  go_wp2_with fail
  refine (compare_any _ _ k m N M _ ((h.alloc _).alloc _) ((h'.alloc _).alloc _) hk hm).mono ?_
  rintro e w1 ⟨rfl, hb1⟩
  go_wp2
  go_ret
  exact ⟨rfl, below_step (below_step (below_new _ _) (below_new _ _)) hb1⟩
end Go.Proofs.YtobfhidajcnfdaaDoor
