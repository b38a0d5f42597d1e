/-
  The laws of cpset: CpsetMakes' walk.
-/
import Derived.Test.YtccbofaefpbhlaaDoorMarkA
namespace Go.Proofs.YtccbofaefpbhlaaDoor
set_option linter.unusedVariables false
set_option maxRecDepth 20000
open Go.RowKit

/-- The law's closure: is a number a character of some range? -/
theorem hasF_any (A : Option Addr) (n c g : Nat) (L : List (Int × Int)) (w : World) (hX : w.cell? ⟨g, 0, none⟩ = some (.slice A n c)) (hL : L.length = n) (hr : PairAt w A L) (hn : n ≤ 1000000) (x : Int) : Calls Tryd.prog 21 (#[.int .i64 x] ++ #[.pointer (some ⟨g, 0, none⟩)]) w (RetV (.bool (hasR L x)) w) := by
  have H := Lib.hid (refHas_any A n c L x _ w hL hr hn rfl)
  generalize hasR L x = b at *
  clear hL hr
  go_enter Tryd.func21, Tryd.ntmps21
  go_wp2_with fail
  refine H.out.mono ?_
  rintro e w1 ⟨rfl, y1⟩
  go_wp2
  go_ret
  exact ⟨rfl, y1⟩

def FitR (r : Int × Int) : Prop := -2147483648 ≤ r.1 ∧ r.1 ≤ 2147483647 ∧ -2147483648 ≤ r.2 ∧ r.2 ≤ 2147483647

set_option maxHeartbeats 8000000 in
theorem cpsetMakes_walk (A : Option Addr) (n c : Nat) (L : List (Int × Int)) (w : World) (he : EnvR w) (hL : L.length = n) (hr : PairIn w A L) (hnc : n ≤ c) (hnil : A = none → c = 0) (hn : n ≤ 9223372036854775807) :
    Calls Tryd.prog 3 #[.slice A n c] w (RetV (.bool true) w) := by
  have hX := Blk.new w 22 #[.slice A n c]
  have b0 := below_new w (.cells #[.slice A n c] 22)
  have HAW := Lib.hid (awake_any _ (he.kept b0))
  have FE := Lib.hid (fun W (hW : Below w.heap.size w W) => few_any A n c L W hL (hr.below hW) hnc hnil hn)
  have hlen : (L.take 12).length ≤ 12 := by rw [List.length_take]; omega
  generalize L.take 12 = M at *
  have HE := Lib.hid he
  clear hL hr hnc hnil he
  go_enter Tryd.func3, Tryd.ntmps3
  go_wp2_with fail
  refine HAW.out.mono ?_
  rintro e w1 ⟨rfl, y1⟩
  have b1 := below_step b0 y1
  have hX1 := hX.on y1
  have cX1 := hX1.cell0
  clear HAW hX
  go_wp2_with fail
  refine (FE.out _ b1).mono ?_
  rintro e w2 ⟨u, rfl, hown, y2⟩
  have b2 := below_step b1 y2
  have hX2 := hX1.on y2
  have cX2 := hX2.cell0
  have fX2 := hX2.free 0
  obtain ⟨m, hm⟩ : ∃ m, M.length = m := ⟨_, rfl⟩
  have HM := Lib.hid hm
  have hof := own_far (i := 0) hown hX2 (by decide) u
  obtain ⟨A2, c2, rfl, hpa, _⟩ := own_pairAt hof
  have hX3 := hX2.set0 (.slice A2 M.length c2)
  have b3 := b2.setCell (p := ⟨w.heap.size, 0, none⟩) (Nat.le_refl _) (.slice A2 M.length c2)
  rw [hm] at hlen hX3 b3 hpa ⊢
  clear hown hof hm FE hX1 cX1
  go_wp2_with fail
  generalize w2.setCell ⟨w.heap.size, 0, none⟩ (.slice A2 m c2) = V at *
  have bV : Below w.heap.size w V := b3
  clear b2 b3 hX2 cX2 fX2 y1 y2 b0 b1
  go_loopw [13] (fun t wr => ∃ i : Nat, i ≤ m ∧ t = .int .i64 (i : Int) ∧ Hid (∀ j, j < i → FitR (M.getD j (0, 0))) ∧ Below V.heap.size V wr) (fun t _ => m - (intOf t).toNat)
  case atStart => exact ⟨0, by omega, rfl, (fun j hj => absurd hj (by omega)), Below.refl _ _⟩
  case round =>
    obtain ⟨i, hi, rfl, HFI, hbw⟩ := hrel
    by_cases him : i < m
    · obtain ⟨g, rfl, hl, c0, c1⟩ := (hpa.below hbw).at_ (i := i) (by rw [HM.out]; exact him)
      obtain ⟨r, hr⟩ : ∃ r, M.getD i (0, 0) = r := ⟨_, rfl⟩
      rw [hr] at c0 c1
      have HR := Lib.hid hr
      obtain ⟨x, y⟩ := r
      simp only at c0 c1
      clear hr
      have hb1 := below_step hbw (below_new wr (.cells #[.int .i64 x, .int .i64 y] 26))
      by_cases h1 : x < -2147483648
      · have d1 : decide (x < -2147483648) = true := by simpa using h1
        go_wp2
        go_ret
        exact ⟨rfl, bV.trans (hb1.mono bV.size)⟩
      · have d1 : decide (x < -2147483648) = false := by simpa using h1
        by_cases h2 : 2147483648 ≤ x
        · have d2 : decide (2147483648 ≤ x) = true := by simpa using h2
          go_wp2
          go_ret
          exact ⟨rfl, bV.trans (hb1.mono bV.size)⟩
        · have d2 : decide (2147483648 ≤ x) = false := by simpa using h2
          by_cases h3 : y < -2147483648
          · have d3 : decide (y < -2147483648) = true := by simpa using h3
            go_wp2
            go_ret
            exact ⟨rfl, bV.trans (hb1.mono bV.size)⟩
          · have d3 : decide (y < -2147483648) = false := by simpa using h3
            by_cases h4 : 2147483648 ≤ y
            · have d4 : decide (2147483648 ≤ y) = true := by simpa using h4
              go_wp2
              go_ret
              exact ⟨rfl, bV.trans (hb1.mono bV.size)⟩
            · have d4 : decide (2147483648 ≤ y) = false := by simpa using h4
              have HFN : Hid (∀ j, j < i + 1 → FitR (M.getD j (0, 0))) := fun j hj => by
                by_cases hji : j = i
                · subst hji
                  rw [HR.out]
                  exact ⟨by simp only; omega, by simp only; omega, by simp only; omega, by simp only; omega⟩
                · exact HFI.out j (by omega)
              clear HFI
              go_wp2
              go_roundw
              case rel => exact ⟨i + 1, by omega, by go_num, HFN.out, hb1⟩
              case measure => simp [intOf]; omega
    · obtain rfl : i = m := by omega
      have hfits : Fits M := fun j hj => HFI.out j (by rw [← HM.out]; exact hj)
      obtain ⟨k, k1, k2, k3⟩ := first_bad M
      have hX4 := hX3.on hbw
      have cX4 := hX4.cell0
      have OW := Lib.hid (own_any A2 i c2 M wr HM.out (hpa.below hbw) hfits (by omega))
      have OF : Hid (∀ A c W, Below V.heap.size V W → RgIn W A M → Calls Tryd.prog 15 #[.slice A M.length c] W (RetOf M k M.length W)) := Lib.hid (fun A c W hW hin => of_any M A c k W (HE.out.kept (bV.trans (hW.mono bV.size))) hin (by rw [HM.out]; omega) k1 k2 k3)
      rw [HM.out] at OF k1
      have K2 := Lib.hid k2
      have K3 := Lib.hid k3
      have hpV := hpa
      clear k2 k3 hfits HFI
      go_wp2_with fail
      refine OW.out.mono ?_
      rintro e w5 ⟨u5, rfl, hown5, y5⟩
      have b5 := hbw.trans (y5.mono hbw.size)
      obtain ⟨A5, c5, rfl, hin5⟩ := own_rgIn hown5
      have OF2 := Lib.hid (OF.out A5 c5 w5 b5 hin5)
      rw [HM.out]
      clear hown5 hin5 OF OW hX4 cX4
      go_wp2_with fail
      refine OF2.out.mono ?_
      rintro e w6 (⟨rfl, v, S, rfl, hset, hmem, y6⟩ | ⟨hki, rfl, y6⟩)
      · have b6 := b5.trans (y6.mono b5.size)
        have hokM : ∀ r ∈ M, OkR r := all_ok (fun j hj => K2.out j (by rw [HM.out] at hj; exact hj))
        obtain ⟨ao, cp, rfl⟩ := hset.shape
        have hX5 := Blk.new w6 29 #[.slice ao S.length cp]
        have b7 := b6.alloc b6.size (.cells #[.slice ao S.length cp] 29)
        have hs7 := hset.alloc (.cells #[.slice ao S.length cp] 29)
        have cX7 := (hX3.on b7).cell0
        have GD := Lib.hid (refGood_any A2 k c2 M true _ HM.out (hpV.below b7) (by omega) ((goodR_iff M).2 hokM))
        have MKS := Lib.hid (fun W (hW : Below V.heap.size V W) => marks_any A2 k c2 M W HM.out (hpV.below hW) hokM (by omega))
        have HMO := Lib.hid (marks_ok M hokM)
        have hMlen : (marksOf M).length ≤ 1000 := by
          have h1 := foldIns_len (allM M) []
          rw [allM_len, HM.out] at h1
          simp only [marksOf, List.length_nil] at h1 ⊢
          omega
        have HHM : Hid (∀ c : Int, memI S c = hasR M c) := fun c => by
          by_cases h0 : 0 ≤ c
          · obtain ⟨d, rfl⟩ := Int.eq_ofNat_of_zero_le h0
            rw [memI_nat, hmem, hasR_inR]
          · have e1 : memI S c = false := by rw [memI, Bool.and_eq_false_iff]; exact .inl (by simpa using h0)
            rw [e1]
            cases h : hasR M c with
            | false => rfl
            | true =>
              have := hasR_isI M c h
              simp only [isI, decide_eq_true_eq] at this
              omega
        clear hmem hset hokM
        go_wp2_with fail
        refine GD.out.mono ?_
        rintro e w8 ⟨rfl, y8⟩
        have b8 := b7.trans (y8.mono b7.size)
        have hX8 := hX5.on y8
        have hs8 := hs7.below y8
        have hX38 := hX3.on b8
        have hpA8 := hpV.below b8
        have IS : Hid (∀ Am cm W, Below w8.heap.size w8 W → IntAt W Am (marksOf M) → Calls Tryd.prog 19 #[.agg #[.slice ao S.length cp], .slice Am (marksOf M).length cm, .func (.func 21) #[] #[.pointer (some ⟨w.heap.size, 0, none⟩)]] W (RetV (.bool true) W)) := Lib.hid (fun Am cm W hW hI =>
          setIs_any S _ (marksOf M) Am cm 21 #[.pointer (some ⟨w.heap.size, 0, none⟩)] (hasR M) W (hs8.below hW) hI HMO.out HHM.out hMlen (enters_of Tryd.func21 (by kernel_rfl) rfl)
            (fun W' hW' x => hasF_any A2 k c2 w.heap.size M W' ((hX38.on hW).on hW').cell0 HM.out ((hpA8.below hW).below hW') (by omega) x))
        have MK8 : Hid (∀ W, Below w8.heap.size w8 W → Calls Tryd.prog 20 #[.slice A2 k c2] W (RetIn (marksOf M) W)) := Lib.hid (fun W hW => MKS.out W (b8.trans (hW.mono b8.size)))
        clear GD cX7 hX5 b7 hs7 MKS HMO HHM hpA8 hs8
        obtain ⟨g5, hg5⟩ : ∃ g5, g5 = w6.heap.size := ⟨_, rfl⟩
        rw [← hg5] at hX8
        obtain ⟨mm, hmm⟩ : ∃ mm, (marksOf M).length = mm := ⟨_, rfl⟩
        have HMM := Lib.hid hmm
        rw [hmm] at IS
        clear hmm hMlen
        generalize S.length = sl at *
        go_wp2_with fail
        rw [← hg5]
        clear hg5
        go_region_held3 (fun w' => w'.cell? ⟨g5, 0, none⟩ = some (.slice ao sl cp) ∧ w'.cell? ⟨w.heap.size, 0, none⟩ = some (.slice A2 k c2))
          (first | exact ⟨(hX8.on (below_drew _)).cell0, (hX38.on (below_drew _)).cell0⟩ | exact ⟨(hX8.on hw1).cell0, (hX38.on hw1).cell0⟩)
          (first
            | ((with_reducible refine (MK8.out _ (below_drew _)).mono ?_); rintro e x1 ⟨um, rfl, hom, z1⟩; obtain ⟨Am, cm, rfl, hIm⟩ := own_intAt hom rfl; rw [HMM.out]; have hw1 : Below w8.heap.size w8 x1 := below_step (below_drew _) z1)
            | ((with_reducible refine (IS.out _ _ _ hw1 hIm).mono ?_); rintro e x2 ⟨rfl, z2⟩; have hw1 : Below w8.heap.size w8 x2 := below_step hw1 z2))
        all_goals
          go_wp2
          go_ret
          exact ⟨rfl, bV.trans ((b8.trans (hw1.mono b8.size)).mono bV.size)⟩
      · have b6 := b5.trans (y6.mono b5.size)
        have hX5 := Blk.new w6 29 #[.slice none 0 0]
        have b7 := b6.alloc b6.size (.cells #[.slice none 0 0] 29)
        have cX7 := (hX3.on b7).cell0
        have hgd : goodR M = false := by
          cases h : goodR M with
          | false => rfl
          | true => exact absurd ((goodR_iff M).1 h _ (by simp [List.getD, show k < M.length by rw [HM.out]; exact hki])) (K3.out (by rw [HM.out]; exact hki))
        have GD := Lib.hid (refGood_any A2 i c2 M false _ HM.out (hpV.below b7) (by omega) hgd)
        have hs7 : IsSet (w6.alloc (.cells #[.slice none 0 0] 29)) (.agg #[.slice none ([] : List (Nat × Nat)).length 0]) [] := ⟨none, 0, rfl, fun hn => absurd rfl hn, trivial⟩
        have CNT := Lib.hid (fun W (hW : Below (w6.alloc (.cells #[.slice none 0 0] 29)).heap.size (w6.alloc (.cells #[.slice none 0 0] 29)) W) => count_any _ [] W (hs7.below hW))
        rw [show cnt [] = 0 from rfl, show ([] : List (Nat × Nat)).length = 0 from rfl] at CNT
        clear hgd hs7
        go_wp2_with fail
        refine GD.out.mono ?_
        rintro e w8 ⟨rfl, y8⟩
        have b8 := b7.trans (y8.mono b7.size)
        have cX8 := (hX5.on y8).cell0
        go_wp2_with fail
        refine (CNT.out _ y8).mono ?_
        rintro e w9 ⟨rfl, y9⟩
        go_wp2
        go_ret
        exact ⟨rfl, bV.trans ((b8.trans (y9.mono b8.size)).mono bV.size)⟩
end Go.Proofs.YtccbofaefpbhlaaDoor
