/-
  The walk of the law on a number's bytes.
-/
import Derived.Test.YtobfhidajcnfdaaDoorBytesA
import Derived.Test.YtobfhidajcnfdaaDoorLawA
import Derived.Test.YtobfhidajcnfdaaDoorTextA
import Derived.Deep.DeepCutAuto
import Derived.Deep.CutRange
namespace Go.Proofs.YtobfhidajcnfdaaDoor
set_option linter.unusedVariables false
set_option maxRecDepth 20000
open Go.RowKit

/-- The bytes of the number M, the highest first, without noughts ahead, in a row of one's own that is made behind W0. -/
def BytesAt (W0 : World) (u : Value) (M k : Nat) (wr : World) : Prop :=
  ∃ bs : List UInt8, wr.ownsRow W0.heap.size 5 1 u bs.length (Lib.byteCells bs) ∧ beVal bs = M ∧ (bs.length ≠ 0 → bs[0]? ≠ some 0) ∧ bs.length ≤ k ∧ Below W0.heap.size W0 wr ∧ Lib.OthersKept 5 none W0 wr

theorem BytesAt.nil (W0 : World) : BytesAt W0 (.slice none 0 0) 0 0 W0 :=
  ⟨[], World.ownsRow_nil _ _ _ _, rfl, (fun h => absurd rfl h), by simp, Below.refl _ _, Lib.OthersKept.refl _ _ _⟩

/-- The next byte. -/
theorem byte_next {l : List Nat} (h : ∀ x ∈ l, x < 4294967296) {i k : Nat} (hi : i < l.length) (hk : k < 4) :
    val 4294967296 (l.drop i) / 256 ^ k = val 4294967296 (l.drop i) / 256 ^ (k + 1) * 256 + l.getD i 0 / 256 ^ k % 256 := by
  have h1 : val 4294967296 (l.drop i) % 4294967296 = l.getD i 0 := by
    rw [val_drop _ _ _ hi, Nat.add_mul_mod_self_left]
    exact Nat.mod_eq_of_lt (lt_of_mem_getD h hi)
  rw [← h1, mod_part _ _ hk, Nat.pow_succ, ← Nat.div_div_eq_div_mul]
  omega
theorem byte_top {l : List Nat} (h : ∀ x ∈ l, x < 4294967296) {i : Nat} (hi : i < l.length) : val 4294967296 (l.drop i) / 256 ^ 4 = val 4294967296 (l.drop (i + 1)) := by
  rw [val_drop _ _ _ hi]
  have := lt_of_mem_getD h hi
  rw [show (256 : Nat) ^ 4 = 4294967296 by decide]
  omega

theorem BytesAt.empty {W0 wr : World} {u : Value} {M k M' k' : Nat} {bs : List UInt8} (hown : wr.ownsRow W0.heap.size 5 1 u bs.length (Lib.byteCells bs)) (hv : beVal bs = M) (h0 : bs.length ≠ 0 → bs[0]? ≠ some 0) (hk : bs.length ≤ k) (hb : Below W0.heap.size W0 wr) (ho : Lib.OthersKept 5 none W0 wr) (hM : M = M') (hkk : k ≤ k') : BytesAt W0 u M' k' wr :=
  ⟨bs, hown, hv.trans hM, h0, by omega, hb, ho⟩
theorem head_snoc {bs : List UInt8} {x : UInt8} (h0 : bs.length ≠ 0 → bs[0]? ≠ some 0) (hx : x ≠ 0 ∨ 0 < bs.length) : (bs ++ [x]).length ≠ 0 → (bs ++ [x])[0]? ≠ some 0 := by
  intro _
  rcases bs with _ | ⟨b, r⟩
  · rcases hx with hx | hx
    · simpa using hx
    · simp at hx
  · simpa using h0 (by simp)

theorem own_put' {w : World} {B : Nat} {u : Value} {bs : List UInt8} (h : w.ownsRow B 5 1 u bs.length (Lib.byteCells bs)) (hne : 0 < bs.length) :
    ∃ g cap, u = .slice (some ⟨g, 0, none⟩) bs.length cap ∧ (convert 42 9 (.slice (some ⟨g, 0, none⟩) bs.length cap)).run Tryd.prog w = .ok (.string ⟨bs.toArray⟩) w := by
  obtain ⟨k, hk⟩ : ∃ k, bs.length = k + 1 := ⟨bs.length - 1, by omega⟩
  obtain ⟨g, cap, e⟩ := ownsRow_succ (k := k) (hk ▸ h)
  rw [← hk] at e
  subst e
  exact ⟨g, cap, rfl, conv_own h⟩

set_option maxHeartbeats 8000000 in
set_option maxRecDepth 100000 in
theorem digitsBytes_walk (a0 : Option Addr) (len0 cap0 : Nat) (l0 : List Nat) (s1 s2 : ByteArray) (w : World) (he : Env w) (h0 : Came w a0 len0 cap0 l0) :
    Calls Tryd.prog 5 #[.slice a0 len0 cap0, .string s1, .string s2] w (RetV (.bool true) w) := by
  obtain ⟨t0, ht0, hl0, F0⟩ := h0.few
  clear h0
  obtain ⟨i0, hi0, hz0, hz1, hz2⟩ := info_parts byte_info
  go_enter Tryd.func5, Tryd.ntmps5
  go_wp2_with fail
  refine (awake03_any _ he).mono ?_
  rintro e w1 ⟨rfl, b1⟩
  go_wp2_with fail
  refine (F0.out _ b1).mono ?_
  rintro e w2 ⟨v2, rfl, ⟨A0, c0, rfl, hr0, hc0⟩, b2⟩
  have b2 := below_step b1 b2
  clear F0 b1
  go_upto_if 22 with fail
  go_cut [1] (fun s0 wx => ∃ s' : ByteArray, s0 = .string s' ∧ s'.size ≤ 50 ∧ w2 = wx)
  case first =>
    by_cases hs : 50 < s1.size
    · go_wp2
      go_meet
      exact ⟨_, rfl, by rw [ByteArray.size_extract]; omega, rfl⟩
    · go_wp2
      go_meet
      exact ⟨_, rfl, by omega, rfl⟩
  case rest =>
    obtain ⟨s1', rfl, hs1, rfl⟩ := hcut
    clear s1
    go_upto_if 27 with fail
    go_cut [2] (fun s0 wx => ∃ s' : ByteArray, s0 = .string s' ∧ s'.size ≤ 50 ∧ w2 = wx)
    case first =>
      by_cases hs : 50 < s2.size
      · go_wp2
        go_meet
        exact ⟨_, rfl, by rw [ByteArray.size_extract]; omega, rfl⟩
      · go_wp2
        go_meet
        exact ⟨_, rfl, by omega, rfl⟩
    case rest =>
      obtain ⟨s2', rfl, hs2, rfl⟩ := hcut
      clear s2
      go_wp2_with fail
      refine (limbs_any A0 c0 _ _ hr0.row hl0 (by omega)).mono ?_
      rintro e w3 ⟨v3, rfl, hN3, y3⟩
      obtain ⟨B0, m0, d0, rfl⟩ := hN3.shape
      have hN := (hN3.more ht0).alloc (.cells #[.slice B0 m0 d0] 26)
      have hX := Blk.new w3 26 #[.slice B0 m0 d0]
      have hr := (hr0.below y3).alloc (.cells #[.slice B0 m0 d0] 26)
      have bW := below_step (below_step b2 y3) (below_new w3 (.cells #[.slice B0 m0 d0] 26))
      obtain ⟨N, hNe⟩ : ∃ N, val 4294967296 t0 = N := ⟨_, rfl⟩
      rw [hNe] at hN
      have HNE := Lib.hid hNe
      clear hNe hN3 y3 hr0 b2
      have H0 := Lib.hid (BytesAt.nil (w3.alloc (.cells #[.slice B0 m0 d0] 26)))
      go_wp2
      obtain ⟨gx, hgx⟩ : ∃ gx, gx = w3.heap.size := ⟨_, rfl⟩
      rw [← hgx] at hX ⊢
      clear hgx
      generalize w3.alloc (.cells #[.slice B0 m0 d0] 26) = W at *
      go_loopw [8, 9] (fun u t wr => ∃ i : Nat, i ≤ t0.length ∧ t = .int .i64 ((i : Int) - 1) ∧ BytesAt W u (val 4294967296 (t0.drop i)) (4 * (t0.length - i)) wr) (fun _ t _ => (intOf t + 1).toNat)
      case atStart => exact ⟨t0.length, Nat.le_refl _, rfl, by rw [List.drop_length, Nat.sub_self]; exact H0.out⟩
      case round =>
        obtain ⟨i, hi, rfl, bs, hown, hv, hh, hk, hb, ho⟩ := hrel
        have HV := Lib.hid hv
        have HH := Lib.hid hh
        obtain ⟨ao, cp, rfl⟩ := own_form hown
        clear hv hh
        by_cases hi0 : i = 0
        · subst hi0
          rw [List.drop_zero, HNE.out] at HV
          have hlen : bs.length ≤ 160 := by omega
          have hX := hX.others ho (by decide)
          have hN := hN.others ho (by decide)
          have bR := below_step bW hb
          have hbs := hb.size
          have hput : putBytes N = beBytes 4 bs.length ++ bs := by rw [← HV.out]; exact putBytes_beVal bs.length bs rfl HH.out
          have HP := Lib.hid hput
          obtain ⟨cap1, W2, hcv, hByt, y2⟩ := bytes_of s1' wr
          have hX2 := hX.on y2
          have hN2 := hN.below y2
          have hcx := hX2.cell0
          have hown2 := own_kept hown y2
          have b2 := below_step bR y2
          clear hput hi0 hr hX hN bR hown y2 bW ho hb H0
          go_wp2_with fail
          refine (put_any _ s1'.size cap1 s1'.data.toList _ 40 N _ hByt Array.length_toList (fun h => by cases h) (by omega) hN2 (by decide)).mono ?_
          rintro e W3 ⟨u3, rfl, hown3, y3⟩
          have hne : 0 < (s1'.data.toList ++ putBytes N).length := by rw [List.length_append, putBytes_length]; omega
          obtain ⟨g3, cap3, rfl, hconv⟩ := own_put' hown3 hne
          have hX3 := hX2.on y3
          have hN3 := hN2.below y3
          have hown4 := own_kept hown2 y3
          have b3 := below_step b2 y3
          obtain ⟨Y, hY⟩ : ∃ Y : ByteArray, Y = ⟨(beBytes 4 bs.length ++ bs).toArray⟩ := ⟨_, rfl⟩
          have hYd : Y.data.toList = beBytes 4 bs.length ++ bs := by rw [hY]
          have hYs : Y.size = 4 + bs.length := by
            have := congrArg List.length hYd
            rw [Array.length_toList, List.length_append, beBytes_length] at this
            exact this
          have hcat : (⟨(s1'.data.toList ++ putBytes N).toArray⟩ : ByteArray) = s1' ++ Y := by
            apply ByteArray.ext
            apply Array.toList_inj.1
            rw [ByteArray.data_append, Array.toList_append, hYd, HP.out]
          rw [hcat] at hconv
          have RB := Lib.hid (refBytes_any W.heap.size _ bs _ hown4 (by omega))
          rw [← hY] at RB
          have TK := Lib.hid (fun Z hZ W' => take_put bs s2' Z N (by omega) HV.out HH.out (by omega) hZ W')
          have HYD := Lib.hid hYd
          have HY := Lib.hid hY
          generalize hpl : (s1'.data.toList ++ putBytes N).length = pl at *
          clear hpl hcat hY hYd hne hown3 hcv hByt hown2 hX2 hN2 hcx b2 y3
          go_wp2_with fail
          refine RB.out.mono ?_
          rintro e W4 ⟨rfl, y4⟩
          have hX4 := hX3.on y4
          have hN4 := hN3.below y4
          have b4 := below_step b3 y4
          go_wp2_with fail
          refine (TK.out _ ?hz _).mono ?_
          case hz =>
            rw [ByteArray.data_append, Array.toList_append, ext_list, ByteArray.data_append, Array.toList_append, List.drop_left' (show s1'.data.toList.length = s1'.size from Array.length_toList), HYD.out]
            congr 1
            refine List.take_of_length_le ?_
            rw [List.length_append, beBytes_length]
            first | omega | (rw [ByteArray.size_append]; omega)
          rintro e W5 ⟨v5, rfl, hM, y5⟩
          obtain ⟨B5, m5, d5, rfl⟩ := hM.shape
          have hX5 := (hX4.on y5).alloc (.cells #[.slice B5 m5 d5] 26)
          have hN5 := (hN4.below y5).alloc (.cells #[.slice B5 m5 d5] 26)
          have hM5 := hM.alloc (.cells #[.slice B5 m5 d5] 26)
          have hY5 := Blk.new W5 26 #[.slice B5 m5 d5]
          have b5 := below_step (below_step b4 y5) (below_new _ (.cells #[.slice B5 m5 d5] 26))
          have cx := hX5.cell0
          have cy := hY5.cell0
          go_wp2_with fail
          refine (same_any _ _ 40 _ N N true _ hN5 hM5 (by decide) (by omega) (by simp)).mono ?_
          rintro e W6 ⟨rfl, y6⟩
          go_wp2
          go_ret
          exact ⟨rfl, below_step b5 y6⟩
        · obtain ⟨j, rfl⟩ : ∃ j, i = j + 1 := ⟨i - 1, by omega⟩
          have H1 := Lib.hid (BytesAt.empty hown HV.out HH.out hk hb ho (byte_top hl0 (show j < t0.length by omega)).symm (show 4 * (t0.length - (j + 1)) ≤ 4 * (t0.length - j) - 4 by omega))
          have hj0 : (0 : Int) ≤ (j : Int) := by omega
          have hjl : j < t0.length := by omega
          have hjl' : (j : Int) < (t0.length : Int) := by omega
          rw [show ((j + 1 : Nat) : Int) - 1 = (j : Int) by omega]
          generalize hbl : bs.length = nb at *
          clear hbl hi0 hown HV HH hk hb ho
          go_wp2
          go_loopw [8, 10] (fun u t wr => ∃ k : Nat, k ≤ 4 ∧ t = .int .i64 ((k : Int) - 1) ∧ BytesAt W u (val 4294967296 (t0.drop j) / 256 ^ k) (4 * (t0.length - j) - k) wr) (fun _ t _ => (intOf t + 1).toNat)
          case atStart => exact ⟨4, Nat.le_refl _, rfl, H1.out⟩
          case round =>
            obtain ⟨k, hk4, rfl, bs, hown, hv, hh, hk, hb, ho⟩ := hrel
            have HV := Lib.hid hv
            have HH := Lib.hid hh
            clear hv hh
            by_cases hk0 : k = 0
            · subst hk0
              go_wp2
              go_roundw
              case rel => exact ⟨j, by omega, by go_num, bs, hown, by rw [HV.out]; simp, HH.out, by omega, hb, ho⟩
              case measure => simp [intOf]
            · obtain ⟨m, rfl⟩ : ∃ m, k = m + 1 := ⟨k - 1, by omega⟩
              rw [show ((m + 1 : Nat) : Int) - 1 = (m : Int) by omega]
              obtain ⟨ao, cp, rfl⟩ := own_form hown
              obtain ⟨ad, rfl, hab, hcell⟩ := (hr.others ho (by decide)).row.at_ hjl
              have hx := lt_of_mem_getD hl0 hjl
              have hnx := byte_next hl0 hjl (show m < 4 by omega)
              rw [← HV.out] at hnx
              generalize t0.getD j 0 = x at *
              obtain ⟨y, hy⟩ : ∃ y, x / 256 ^ m % 256 = y := ⟨_, rfl⟩
              rw [hy] at hnx
              have hyl : y < 256 := by rw [← hy]; exact Nat.mod_lt _ (by decide)
              have hyx : (x : Int) / 2 ^ (8 * m) % 256 = (y : Int) := by
                rw [← hy, show (256 : Nat) ^ m = 2 ^ (8 * m) by rw [show (256 : Nat) = 2 ^ 8 by decide, ← Nat.pow_mul]]
                push_cast
                rfl
              have hyb : (UInt8.ofNat y).toNat = y := by rw [UInt8.toNat_ofNat']; exact Nat.mod_eq_of_lt hyl
              have HX := Lib.hid hnx
              have HY := Lib.hid hyb
              have hm0 : (0 : Int) ≤ (m : Int) := by omega
              have hm4 : m < 4 := by omega
              have hlen : bs.length ≤ 160 := by omega
              have hbs := hb.size
              clear hnx hyb hy hk0 H1
              by_cases hy0 : y = 0
              · subst hy0
                by_cases hl : bs.length = 0
                · have hl0' : ¬ (0 : Int) < (bs.length : Int) := by omega
                  have hbn : bs = [] := List.length_eq_zero_iff.1 hl
                  clear hl
                  go_wp2
                  go_roundw
                  case rel => exact ⟨m, by omega, by go_num, bs, hown, by rw [HX.out, hbn]; rfl, HH.out, by omega, hb, ho⟩
                  case measure => simp [intOf]
                · have hl1 : (0 : Int) < (bs.length : Int) := by omega
                  have hl2 : 0 < bs.length := by omega
                  clear hl
                  go_wp2_with (at_builtin; refine wpList_append_own _ rfl (.tmp 58) (.tmp 60) 42 rfl W.heap.size 5 i0 (.int .u8 0) 1 1 Tryd.underlying42 hi0 hz0 hz1 hz2 rfl (by decide) _ bs.length _ rfl (hown.alloc _) ⟨wr.heap.size, 0, none⟩ 1 1 [.int .u8 ((0 : Nat) : Int)] rfl rfl (cell_one_new _ _ _) (by simp [Value.oneCell']) (by unfold maxLen; omega) (by omega) (by simp; omega) ?_; intro v' w4 hown4 hgrow _; have hb4 : Below W.heap.size W w4 := (hb.alloc (by omega) _).grown hgrow (by simp; omega) (fun k hk => (hown.lt k hk).1); have ho4 : Lib.OthersKept 5 none W w4 := (ho.alloc _).grown hgrow (Lib.ownsRow_kind (hown.alloc _)); clear hgrow)
                  go_roundw
                  case rel => exact ⟨m, by omega, by go_num, bs ++ [UInt8.ofNat 0], by simpa [Lib.byteCells] using hown4, by rw [HX.out, beVal_snoc]; rfl, head_snoc HH.out (.inr hl2), by simp; omega, hb4, ho4⟩
                  case measure => simp [intOf]
              · have hy1 : ((y : Int) != 0) = true := by simp; omega
                have hy2 : ((y : Int) == 0) = false := by simp; omega
                have hyn : UInt8.ofNat y ≠ 0 := fun e => hy0 (by have := congrArg UInt8.toNat e; rw [HY.out] at this; simpa using this)
                clear hy0
                go_wp2_with (at_builtin; refine wpList_append_own _ rfl (.tmp 58) (.tmp 60) 42 rfl W.heap.size 5 i0 (.int .u8 0) 1 1 Tryd.underlying42 hi0 hz0 hz1 hz2 rfl (by decide) _ bs.length _ rfl (hown.alloc _) ⟨wr.heap.size, 0, none⟩ 1 1 [.int .u8 (y : Int)] rfl rfl (cell_one_new _ _ _) (by simp [Value.oneCell']) (by unfold maxLen; omega) (by omega) (by simp; omega) ?_; intro v' w4 hown4 hgrow _; have hb4 : Below W.heap.size W w4 := (hb.alloc (by omega) _).grown hgrow (by simp; omega) (fun k hk => (hown.lt k hk).1); have ho4 : Lib.OthersKept 5 none W w4 := (ho.alloc _).grown hgrow (Lib.ownsRow_kind (hown.alloc _)); clear hgrow)
                go_roundw
                case rel => exact ⟨m, by omega, by go_num, bs ++ [UInt8.ofNat y], by simpa [Lib.byteCells, HY.out] using hown4, by rw [HX.out, beVal_snoc, HY.out], head_snoc HH.out (.inl hyn), by simp; omega, hb4, ho4⟩
                case measure => simp [intOf]
end Go.Proofs.YtobfhidajcnfdaaDoor
