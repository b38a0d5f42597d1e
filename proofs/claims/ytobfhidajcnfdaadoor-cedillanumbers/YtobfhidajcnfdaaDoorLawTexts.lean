/-
  The walks of the laws on texts of numbers.
-/
import Derived.Test.YtobfhidajcnfdaaDoorParseB
import Derived.Test.YtobfhidajcnfdaaDoorParseC
import Derived.Test.YtobfhidajcnfdaaDoorPutB
import Derived.Test.YtobfhidajcnfdaaDoorLawA
import Derived.Deep.DeepCutAuto
import Derived.Deep.CutRange
namespace Go.Proofs.YtobfhidajcnfdaaDoor
set_option linter.unusedVariables false
set_option maxRecDepth 20000
open Go.RowKit

theorem dec_len (N m : Nat) (h : N < 10 ^ m) (hm : 1 ≤ m) : (Lib.decDigits N).length ≤ m := by
  by_cases h0 : N = 0
  · subst h0; rw [Lib.decDigits_one (by decide)]; exact hm
  · obtain ⟨b, r, e, hb⟩ := decDigits_head N h0
    have h1 := decVal_ge b r (e ▸ decDigits_digs N) hb
    rw [← e, decVal_decDigits] at h1
    have h2 : 10 ^ r.length < 10 ^ m := Nat.lt_of_le_of_lt h1 h
    have := (Nat.pow_lt_pow_iff_right (by decide : 1 < 10)).1 h2
    rw [e, List.length_cons]; omega
theorem pow_limb (k : Nat) : 4294967296 ^ k ≤ 10 ^ (10 * k) := by
  rw [Nat.pow_mul]; exact Nat.pow_le_pow_left (by decide) k
theorem dec_len_k {w : World} {v : Value} {k N : Nat} (h : IsN w v k N) (hk : 1 ≤ k) : (Lib.decDigits N).length ≤ 10 * k :=
  dec_len N (10 * k) (Nat.lt_of_lt_of_le h.lt (pow_limb k)) (by omega)
theorem dec_len_40 {w : World} {v : Value} {N : Nat} (h : IsN w v 40 N) : (Lib.decDigits N).length ≤ 400 := dec_len_k h (by decide)

set_option maxHeartbeats 4000000 in
theorem digitsTexts_walk (a0 : Option Addr) (len0 cap0 : Nat) (l0 : List Nat) (w : World) (he : Env w) (h0 : Came w a0 len0 cap0 l0) :
    Calls Tryd.prog 3 #[.slice a0 len0 cap0] w (RetV (.bool true) w) := by
  obtain ⟨t0, ht0, hl0, F0⟩ := h0.few
  clear h0
  go_enter Tryd.func3, Tryd.ntmps3
  go_wp2_with fail
  refine (awake03_any _ he).mono ?_
  rintro e w1 ⟨rfl, b1⟩
  go_wp2_with fail
  refine (F0.out _ b1).mono ?_
  rintro e w2 ⟨v2, rfl, ⟨A0, c0, rfl, hr0, hc0⟩, b2⟩
  have b2 := below_step b1 b2
  go_wp2_with fail
  refine (limbs_any A0 c0 _ _ hr0.row hl0 (by omega)).mono ?_
  rintro e w3 ⟨v3, rfl, hN3, y3⟩
  obtain ⟨B0, m0, d0, rfl⟩ := hN3.shape
  have hN := hN3.more ht0
  have hr3 := hr0.below y3
  have b3 := below_step b2 y3
  have hX := Blk.new w3 26 #[.slice B0 m0 d0]
  have hN := hN.alloc (.cells #[.slice B0 m0 d0] 26)
  have hr3 := hr3.alloc (.cells #[.slice B0 m0 d0] 26)
  have b3 := below_step b3 (below_new w3 (.cells #[.slice B0 m0 d0] 26))
  have OD := Lib.hid (fun W (hr : Row .u32 W A0 t0) => ofD_any A0 t0.length c0 t0 W rfl hr hl0 (by omega))
  have hdl := dec_len_40 hN
  clear hN3 y3 F0 hr0 b1 b2
  obtain ⟨N, hNe⟩ : ∃ N, val 4294967296 t0 = N := ⟨_, rfl⟩
  rw [hNe] at OD hN hdl
  clear hNe
  go_wp2_with fail
  refine (text_any _ 40 N _ hN (by decide) (he.kept b3)).mono ?_
  rintro e w4 ⟨rfl, y4⟩
  have hX := hX.on y4
  have hN := hN.below y4
  have hr4 := hr3.below y4
  have b4 := below_step b3 y4
  clear y4 hr3 b3
  obtain ⟨s, hs⟩ : ∃ s : ByteArray, s = ⟨(Lib.decDigits N).toArray⟩ := ⟨_, rfl⟩
  have hsd : s.data.toList = Lib.decDigits N := by rw [hs]
  have hsz : s.size ≤ 400 := by have := congrArg List.length hsd; rw [Array.length_toList] at this; have h9 : s.size = _ := this; omega
  have P := fun W => parse_ok s W (by omega) (hsd ▸ decDigits_decimal N)
  rw [hsd, decVal_decDigits] at P
  have HP := Lib.hid P
  have HS := Lib.hid hs
  rw [← hs]
  have RT := Lib.hid (fun W v k (h : IsD W v k N) (hk : k ≤ 1000000) => HS.out ▸ refText_any v k N W h hk)
  clear P hs hsd
  go_wp2_with fail
  refine (HP.out _).mono ?_
  rintro e w5 ⟨v5, rfl, hM, y5⟩
  obtain ⟨B1, m1, d1, rfl⟩ := hM.shape
  have hX := hX.on y5
  have hN := hN.below y5
  have hr5 := hr4.below y5
  have b5 := below_step b4 y5
  have hY := Blk.new w5 26 #[.slice B1 m1 d1]
  have hX := hX.alloc (.cells #[.slice B1 m1 d1] 26)
  have hN := hN.alloc (.cells #[.slice B1 m1 d1] 26)
  have hM := hM.alloc (.cells #[.slice B1 m1 d1] 26)
  have hr5 := hr5.alloc (.cells #[.slice B1 m1 d1] 26)
  have b5 := below_step b5 (below_new w5 (.cells #[.slice B1 m1 d1] 26))
  clear y5 hr4 b4
  go_wp2_with fail
  refine (OD.out _ hr5.row).mono ?_
  rintro e w6 ⟨v6, rfl, hD, y6⟩
  obtain ⟨A6, n6, c6, rfl⟩ := hD.shape
  have hX := hX.on y6
  have hY := hY.on y6
  have hN := hN.below y6
  have hM := hM.below y6
  have b6 := below_step b5 y6
  go_wp2_with fail
  refine (RT.out _ _ _ hD (by omega)).mono ?_
  rintro e w7 ⟨rfl, y7⟩
  have hX := hX.on y7
  have hY := hY.on y7
  have hN := hN.below y7
  have hM := hM.below y7
  have b7 := below_step b6 y7
  have cx := hX.cell0
  have cy := hY.cell0
  go_wp2_with fail
  refine (same_any _ _ 40 1112 N N true _ hN hM (by decide) (by decide) (by simp)).mono ?_
  rintro e w8 ⟨rfl, y8⟩
  go_wp2
  go_ret
  exact ⟨rfl, below_step b7 y8⟩

set_option maxHeartbeats 4000000 in
theorem digitsParses_walk (s : ByteArray) (w : World) (he : Env w) : Calls Tryd.prog 4 #[.string s] w (RetV (.bool true) w) := by
  go_enter Tryd.func4, Tryd.ntmps4
  go_wp2_with fail
  refine (awake03_any _ he).mono ?_
  rintro e w1 ⟨rfl, b1⟩
  go_upto_if 12 with fail
  go_cut [0] (fun s0 wx => ∃ s' : ByteArray, s0 = .string s' ∧ s'.size ≤ 10020 ∧ wx = w1)
  case first =>
    by_cases hs : 10020 < s.size
    · go_wp2
      go_meet
      exact ⟨_, rfl, by rw [ByteArray.size_extract]; omega, rfl⟩
    · go_wp2
      go_meet
      exact ⟨_, rfl, by omega, rfl⟩
  case rest =>
    obtain ⟨s', rfl, hs, rfl⟩ := hcut
    clear s
    have hl : s'.data.toList.length = s'.size := Array.length_toList
    have hway : (∃ er : Int, (er = 3 ∨ er = 4) ∧ (∀ W, Calls Tryd.prog 13 #[.string s'] W (RetPr 0 0 er W)) ∧ ∀ W, Calls Tryd.prog 17 #[.string s'] W (RetRP 0 0 er W)) ∨
        (∃ V : Nat, Hid (Decimal s'.data.toList) ∧ Hid (decVal s'.data.toList = V) ∧ s'.size ≤ 10000 ∧ (∀ W, Calls Tryd.prog 13 #[.string s'] W (RetPr 1112 V 0 W)) ∧ ∀ W, Calls Tryd.prog 17 #[.string s'] W (RetRP s'.size V 0 W)) := by
      by_cases hb : 10000 < s'.size
      · exact .inl ⟨4, .inr rfl, fun W => parse_big s' W 0 hb (by omega), fun W => refParse_big s' W hb (by omega)⟩
      by_cases hd : Decimal s'.data.toList
      · refine .inr ⟨_, hd, rfl, by omega, fun W => parse_ok s' W (by omega) hd, fun W => refParse_loop s' W 0 _ _ ((headOk_iff s').2 hd.2.2) ?_ (by omega) (fun _ => ⟨rfl, rfl, rfl⟩) (fun h => absurd hd.2.1 h)⟩
        have := List.length_pos_iff.2 hd.1
        omega
      · refine .inl ⟨3, .inl rfl, fun W => parse_form s' W 0 (by omega) hd, fun W => ?_⟩
        rcases Nat.eq_zero_or_pos s'.size with h0 | h0
        · exact refParse_empty s' W h0
        by_cases hh : HeadOk s'
        · exact refParse_loop s' W 3 0 0 hh h0 (by omega) (fun h => absurd ⟨fun e => by rw [e] at hl; simp at hl; omega, h, (headOk_iff s').1 hh⟩ hd) (fun _ => ⟨rfl, rfl, rfl⟩)
        · have h1 : 1 < s'.size := by
            rcases Nat.lt_or_ge 1 s'.size with h1 | h1
            · exact h1
            · exact absurd (.inl h1) hh
          refine refParse_nought s' W h1 (by omega) ?_
          cases hc : ((s'[0].toNat : Int) == 48) with
          | true => rfl
          | false => exact absurd (.inr ⟨h0, h1, hc⟩) hh
    clear hl
    rcases hway with ⟨er, her, T, R⟩ | ⟨V, hdec, hV, hs4, T, R⟩
    · have hz : (er == 0) = false := by rcases her with rfl | rfl <;> rfl
      have hz2 : (er != 0) = true := by rcases her with rfl | rfl <;> rfl
      have hT := Lib.hid T
      have hR := Lib.hid R
      clear T R her
      go_wp2_with fail
      refine (hT.out _).mono ?_
      rintro e w2 ⟨v, rfl, hN, y2⟩
      obtain ⟨A, n, c, rfl⟩ := hN.shape
      have hX := Blk.new w2 26 #[.slice A n c]
      have hN := hN.alloc (.cells #[.slice A n c] 26)
      have b2 := bel_new (below_step b1 y2) (.cells #[.slice A n c] 26)
      go_wp2_with fail
      refine (hR.out _).mono ?_
      rintro e w3 ⟨v3, rfl, hD3, y3⟩
      obtain ⟨A3, n3, c3, rfl⟩ := hD3.shape
      have hcx := (hX.on y3).cell0
      have hN3 := hN.below y3
      go_wp2_with fail
      refine (zero_any _ 0 0 true _ hN3 rfl).mono ?_
      rintro e w4 ⟨rfl, y4⟩
      go_wp2
      go_ret
      exact ⟨rfl, below_step (below_step b2 y3) y4⟩
    · have hT := Lib.hid T
      have hR := Lib.hid R
      clear T R
      go_wp2_with fail
      refine (hT.out _).mono ?_
      rintro e w2 ⟨v, rfl, hN, y2⟩
      obtain ⟨A, n, c, rfl⟩ := hN.shape
      have hX := Blk.new w2 26 #[.slice A n c]
      have hN := hN.alloc (.cells #[.slice A n c] 26)
      have b2 := bel_new (below_step b1 y2) (.cells #[.slice A n c] 26)
      go_wp2_with fail
      refine (hR.out _).mono ?_
      rintro e w3 ⟨v3, rfl, hD3, y3⟩
      obtain ⟨A3, n3, c3, rfl⟩ := hD3.shape
      have hX := hX.on y3
      have hcx := hX.cell0
      have hN3 := hN.below y3
      have b3 := below_step b2 y3
      by_cases hlong : 300 < s'.size
      · have hbl := bl_dec _ hdec.out (by rw [Array.length_toList]; show 2 ≤ s'.size; omega)
        rw [hV.out, Array.length_toList] at hbl
        have hb1 : 3 * (s'.size - 1) < bl V := hbl.1
        have hb2 : bl V < 4 * s'.size := hbl.2
        have hi1 : 3 * ((s'.size : Int) - 1) < (bl V : Int) := by omega
        have hi2 : (bl V : Int) < 4 * (s'.size : Int) := by omega
        clear hbl
        go_wp2_with fail
        refine (bits_any _ 1112 V _ hN3 (by decide)).mono ?_
        rintro e w4 ⟨rfl, y4⟩
        generalize bl V = nb at *
        go_wp2
        go_ret
        exact ⟨rfl, below_step b3 y4⟩
      · have hs' : s' = ⟨(Lib.decDigits V).toArray⟩ := by
          apply ByteArray.ext
          apply Array.toList_inj.1
          rw [← hV.out, decDigits_decVal _ hdec.out]
        have HS := Lib.hid hs'
        have TX := Lib.hid (fun W v (h : IsN W v 1112 V) (h' : Env W) => HS.out ▸ text_any v 1112 V W h (by decide) h')
        clear hs'
        go_wp2_with fail
        refine (is_any _ _ 1112 s'.size V V true _ hN3 hD3 (by decide) (by omega) (by simp)).mono ?_
        rintro e w4 ⟨rfl, y4⟩
        have hX := hX.on y4
        have hcx := hX.cell0
        have hN4 := hN3.below y4
        have b4 := below_step b3 y4
        go_wp2_with fail
        refine (TX.out _ _ hN4 (he.kept b4)).mono ?_
        rintro e w5 ⟨rfl, y5⟩
        go_wp2
        go_ret
        exact ⟨rfl, below_step b4 y5⟩
end Go.Proofs.YtobfhidajcnfdaaDoor
