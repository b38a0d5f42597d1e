/-
  StrsetParts: its walk.
-/
import Derived.Test.YtanpncjnojjmkabSK
namespace Go.Proofs.Ytanpncjnojjmkab
set_option linter.unusedVariables false
set_option maxRecDepth 100000
open Go.RowKit

theorem mid_le (S : List Tx) (x y : Tx) (j : Nat) : (midOf (S.take j) x y).length ≤ j := Nat.le_trans (List.length_filter_le _ _) (List.length_take_le _ _)
theorem beg_le (S : List Tx) (x : Tx) (j : Nat) : (begOf (S.take j) x).length ≤ j := Nat.le_trans (List.length_filter_le _ _) (List.length_take_le _ _)

set_option maxHeartbeats 16000000 in
theorem strsetParts_walk (A : Option Addr) (c : Nat) (l : List Tx) (x0 y0 : Tx) (w : World) (hc : Came w A l) (hn : l.length ≤ 9223372036854775807) (hx : ∀ x ∈ l, x.length ≤ 9223372036854775807) (hx0 : x0.length ≤ 9223372036854775807) (hy0 : y0.length ≤ 9223372036854775807) :
    Calls Try.prog 5 #[.slice A l.length c, .string ⟨x0.toArray⟩, .string ⟨y0.toArray⟩] w (RetV (.bool true) w) := by
  have HF := Lib.hid fun W hb => few_any A c l W (hc.below hb) hn hx
  have HCx := Lib.hid fun W => cut_any x0 W hx0
  have HCy := Lib.hid fun W => cut_any y0 W hy0
  have hfl := few_len l
  have hfg := few_get l
  have hxl : (x0.take 30).length ≤ 30 := List.length_take_le _ _
  generalize few l = a at *
  generalize x0.take 30 = x at *
  generalize y0.take 30 = y at *
  generalize l.length = n0 at *
  go_enter Try.func5, Try.ntmps5
  go_wp2_with fail
  with_reducible refine (awake_any _).mono ?_
  rintro e w1 ⟨rfl, b1⟩
  go_wp2_with fail
  with_reducible refine (HF.out _ b1).mono ?_
  rintro e w2 ⟨v2, rfl, ta, y2⟩
  have b2 := below_step b1 y2
  obtain ⟨Aa, ca, ea, _, _⟩ := ta.form
  obtain ⟨na, hna⟩ : ∃ n, Hid (a.length = n) := ⟨_, rfl⟩
  rw [hna.out] at ea
  subst ea
  go_wp2_with fail
  with_reducible refine (HCx.out _).mono ?_
  rintro e w' ⟨rfl, rfl⟩
  go_wp2_with fail
  with_reducible refine (HCy.out _).mono ?_
  rintro e w' ⟨rfl, rfl⟩
  have HO := Lib.hid (of_any _ a w2 ta (by omega))
  clear HF HCx HCy hc
  go_wp2_with fail
  with_reducible refine HO.out.mono ?_
  rintro e w3 ⟨v3, rfl, hs, y3⟩
  have b3 := below_step b2 y3
  have hri := setOf_rise a
  have hsl := setOf_le a
  have hsg : ∀ z ∈ setOf a, z.length ≤ 30 := fun z hz => hfg z ((setOf_mem a z).1 hz)
  obtain ⟨S, hS⟩ : ∃ S, Hid (setOf a = S) := ⟨_, rfl⟩
  rw [hS.out] at hs hri hsl hsg
  have hsl : S.length ≤ 40 := by omega
  obtain ⟨n, hn⟩ : ∃ n, Hid (S.length = n) := ⟨_, rfl⟩
  obtain ⟨As, cs, es⟩ := hs.form
  rw [hn.out] at es
  subst es
  rw [hn.out] at hsl
  have ta := ta.below y3
  have hX := (Blk.new w3 26 #[.slice As n cs]).alloc (.cells #[.int .i64 1] 3)
  have y4 := below_step (below_new w3 (.cells #[.slice As n cs] 26)) (below_new _ (.cells #[.int .i64 1] 3))
  have hk := isK_1 (w3.alloc (.cells #[.slice As n cs] 26))
  have b4 := below_step b3 y4
  have hs := hs.below y4
  have ta := ta.below y4
  have HSo := Lib.hid (sorted_any _ (.slice none 0 0) _ a [] [1] _ ta (.inl ⟨rfl, rfl⟩) hk (by omega) (by simp) (by simp) (by simp))
  simp only [World.size_alloc] at HSo
  clear HO hk y2 y3
  go_wp2_with fail
  with_reducible refine HSo.out.mono ?_
  rintro e w5 ⟨v5, O, rfl, tO, hR, _, y5⟩
  obtain rfl : S = O := by rw [right_one hR]; exact hS.out.symm
  have hX := hX.on y5
  have b5 := below_step b4 y5
  have hs := hs.below y5
  obtain ⟨A5, c5, e5, _, _⟩ := tO.form
  rw [hn.out] at e5
  subst e5
  clear HSo hR y4 y5 b1 b2 b3 b4 ta
  generalize w3.heap.size = gx at *
  have HSG := Lib.hid hsg
  have HFG := Lib.hid hfg
  clear hsg hfg
  go_wp2
  go_loopw [8, 9, 26] (fun u8 u9 t wr => ∃ j : Nat, t = .int .i64 j ∧ j ≤ n ∧ Two w5 (midOf (S.take j) x y) (begOf (S.take j) x) u8 u9 wr) (fun _ _ t _ => n - (intOf t).toNat)
  case atStart => exact ⟨0, rfl, by omega, World.ownsRow_nil w5 _ 9 1, World.ownsRow_nil w5 _ 9 1, fun k h => by simp [Value.ownBlock] at h, Below.refl _ _⟩
  case round =>
    obtain ⟨j, rfl, hjn, htwo⟩ := hrel
    obtain ⟨A8, c8, rfl⟩ := own_form htwo.1
    obtain ⟨A9, c9, rfl⟩ := own_form htwo.2.1
    have hm1 := mid_le S x y j
    have hm2 := beg_le S x j
    by_cases hlt : j < n
    · have hjl : j < S.length := by rw [hn.out]; exact hlt
      obtain ⟨g5, rfl, hg5, hc5⟩ := (tO.below htwo.2.2.2).at_ hjl
      have hst := mid_step S x y hjl
      have hsb := beg_step S x hjl
      have hzl := HSG.out _ (getD_mem hjl)
      have hbi := beg_iff x (S.getD j [])
      generalize S.getD j [] = z at *
      have HST := Lib.hid hst
      have HSB := Lib.hid hsb
      clear hst hsb
      generalize midOf (S.take j) x y = M at *
      generalize begOf (S.take j) x = B at *
      have htwo0 := htwo
      have hwrs := htwo.2.2.2.size
      cases h1 : lt z x
      · cases h2 : lt z y
        · have HST : Hid (midOf (S.take (j + 1)) x y = M) := Lib.hid (by rw [HST.out]; simp [h1, h2])
          have h1' : Op.bytesLess z x = false := h1
          have h1b := less_b h1'
          have h2' : Op.bytesLess z y = false := h2
          clear h1 h2
          by_cases hl : x.length ≤ z.length
          · have hsl := slice_to z x.length hl
            by_cases he : z.take x.length = x
            · have HSB : Hid (begOf (S.take (j + 1)) x = B ++ [z]) := Lib.hid (by rw [HSB.out, hbi]; simp [hl, he])
              rw [he] at hsl
              clear he hbi
              go_wp2_with (first | (at_builtin; refine wpList_append_w rfl (.tmp 55) (.tmp 57) rfl w5.heap.size _ B rfl (htwo.2.1.alloc _) z wr.heap.size rfl (Blk.new wr 9 _).cell0 (by omega) (by simp; omega) ?_; intro v9 w4 o9 g9 q9; have htwo2 : Two w5 M (B ++ [z]) _ v9 w4 := (htwo.symm.more o9 g9 q9).symm; clear g9 q9))
              go_roundw
              case rel => exact ⟨j + 1, by go_num, by omega, by rw [HST.out, HSB.out]; exact htwo2⟩
              case measure => simp [intOf]; omega
            · have HSB : Hid (begOf (S.take (j + 1)) x = B) := Lib.hid (by rw [HSB.out, hbi]; simp [he])
              have hne : (z.take x.length == x) = false := by rw [beq_eq_false_iff_ne]; exact he
              clear hbi
              generalize z.take x.length = zt at *
              go_wp2
              go_roundw
              case rel => exact ⟨j + 1, by go_num, by omega, by rw [HST.out, HSB.out]; exact htwo⟩
              case measure => simp [intOf]; omega
          · have HSB : Hid (begOf (S.take (j + 1)) x = B) := Lib.hid (by rw [HSB.out, hbi]; simp [hl])
            clear hbi
            go_wp2
            go_roundw
            case rel => exact ⟨j + 1, by go_num, by omega, by rw [HST.out, HSB.out]; exact htwo⟩
            case measure => simp [intOf]; omega
        · have HST : Hid (midOf (S.take (j + 1)) x y = M ++ [z]) := Lib.hid (by rw [HST.out]; simp [h1, h2])
          have h1' : Op.bytesLess z x = false := h1
          have h1b := less_b h1'
          have h2' : Op.bytesLess z y = true := h2
          clear h1 h2
          by_cases hl : x.length ≤ z.length
          · have hsl := slice_to z x.length hl
            by_cases he : z.take x.length = x
            · have HSB : Hid (begOf (S.take (j + 1)) x = B ++ [z]) := Lib.hid (by rw [HSB.out, hbi]; simp [hl, he])
              rw [he] at hsl
              clear he hbi
              go_wp2_with (first | (at_builtin; refine wpList_append_w rfl (.tmp 38) (.tmp 40) rfl w5.heap.size _ M rfl (htwo.1.alloc _) z wr.heap.size rfl (Blk.new wr 9 _).cell0 (by omega) (by simp; omega) ?_; intro v8 w3 o8 g8 q8; have htwo1 : Two w5 (M ++ [z]) B v8 _ w3 := htwo.more o8 g8 q8; clear g8 q8; have hw3s := htwo1.2.2.2.size) | (at_builtin; refine wpList_append_w rfl (.tmp 55) (.tmp 57) rfl w5.heap.size _ B rfl (htwo1.2.1.alloc _) z w3.heap.size rfl (Blk.new w3 9 _).cell0 (by omega) (by simp; omega) ?_; intro v9 w4 o9 g9 q9; have htwo2 : Two w5 (M ++ [z]) (B ++ [z]) _ v9 w4 := (htwo1.symm.more o9 g9 q9).symm; clear g9 q9))
              go_roundw
              case rel => exact ⟨j + 1, by go_num, by omega, by rw [HST.out, HSB.out]; exact htwo2⟩
              case measure => simp [intOf]; omega
            · have HSB : Hid (begOf (S.take (j + 1)) x = B) := Lib.hid (by rw [HSB.out, hbi]; simp [he])
              have hne : (z.take x.length == x) = false := by rw [beq_eq_false_iff_ne]; exact he
              clear hbi
              generalize z.take x.length = zt at *
              go_wp2_with (at_builtin; refine wpList_append_w rfl (.tmp 38) (.tmp 40) rfl w5.heap.size _ M rfl (htwo.1.alloc _) z wr.heap.size rfl (Blk.new wr 9 _).cell0 (by omega) (by simp; omega) ?_; intro v8 w3 o8 g8 q8; have htwo1 : Two w5 (M ++ [z]) B v8 _ w3 := htwo.more o8 g8 q8; clear g8 q8; have hw3s := htwo1.2.2.2.size)
              go_roundw
              case rel => exact ⟨j + 1, by go_num, by omega, by rw [HST.out, HSB.out]; exact htwo1⟩
              case measure => simp [intOf]; omega
          · have HSB : Hid (begOf (S.take (j + 1)) x = B) := Lib.hid (by rw [HSB.out, hbi]; simp [hl])
            clear hbi
            go_wp2_with (at_builtin; refine wpList_append_w rfl (.tmp 38) (.tmp 40) rfl w5.heap.size _ M rfl (htwo.1.alloc _) z wr.heap.size rfl (Blk.new wr 9 _).cell0 (by omega) (by simp; omega) ?_; intro v8 w3 o8 g8 q8; have htwo1 : Two w5 (M ++ [z]) B v8 _ w3 := htwo.more o8 g8 q8; clear g8 q8; have hw3s := htwo1.2.2.2.size)
            go_roundw
            case rel => exact ⟨j + 1, by go_num, by omega, by rw [HST.out, HSB.out]; exact htwo1⟩
            case measure => simp [intOf]; omega
      · have HST : Hid (midOf (S.take (j + 1)) x y = M) := Lib.hid (by rw [HST.out]; simp [h1])
        have h1' : Op.bytesLess z x = true := h1
        have h1b := less_b h1'
        clear h1
        by_cases hl : x.length ≤ z.length
        · have hsl := slice_to z x.length hl
          by_cases he : z.take x.length = x
          · have HSB : Hid (begOf (S.take (j + 1)) x = B ++ [z]) := Lib.hid (by rw [HSB.out, hbi]; simp [hl, he])
            rw [he] at hsl
            clear he hbi
            go_wp2_with (first | (at_builtin; refine wpList_append_w rfl (.tmp 55) (.tmp 57) rfl w5.heap.size _ B rfl (htwo.2.1.alloc _) z wr.heap.size rfl (Blk.new wr 9 _).cell0 (by omega) (by simp; omega) ?_; intro v9 w4 o9 g9 q9; have htwo2 : Two w5 M (B ++ [z]) _ v9 w4 := (htwo.symm.more o9 g9 q9).symm; clear g9 q9))
            go_roundw
            case rel => exact ⟨j + 1, by go_num, by omega, by rw [HST.out, HSB.out]; exact htwo2⟩
            case measure => simp [intOf]; omega
          · have HSB : Hid (begOf (S.take (j + 1)) x = B) := Lib.hid (by rw [HSB.out, hbi]; simp [he])
            have hne : (z.take x.length == x) = false := by rw [beq_eq_false_iff_ne]; exact he
            clear hbi
            generalize z.take x.length = zt at *
            go_wp2
            go_roundw
            case rel => exact ⟨j + 1, by go_num, by omega, by rw [HST.out, HSB.out]; exact htwo⟩
            case measure => simp [intOf]; omega
        · have HSB : Hid (begOf (S.take (j + 1)) x = B) := Lib.hid (by rw [HSB.out, hbi]; simp [hl])
          clear hbi
          go_wp2
          go_roundw
          case rel => exact ⟨j + 1, by go_num, by omega, by rw [HST.out, HSB.out]; exact htwo⟩
          case measure => simp [intOf]; omega
    · have hall : S.take j = S := List.take_of_length_le (by rw [hn.out]; omega)
      rw [hall] at htwo hm1 hm2
      clear hall tO
      have t8 := own_isT htwo.1
      have t9 := own_isT htwo.2.1
      have bR := htwo.2.2.2
      have hX := hX.on bR
      have cX := hX.cell0
      have hs := hs.below bR
      have b6 := below_step b5 bR
      have HB := Lib.hid fun v W h => between_any v S x y W h
      have HG := Lib.hid fun v W h => begin_any v S x W h
      rw [List.take_of_length_le (by rw [hn.out]; omega)]
      generalize midOf S x y = M at *
      generalize begOf S x = B at *
      clear htwo
      go_wp2_with fail
      with_reducible refine (HB.out _ _ hs).mono ?_
      rintro e w7 ⟨v7, rfl, hs7, y7⟩
      have t8 := t8.below y7
      have t9 := t9.below y7
      have hX := hX.on y7
      have cX := hX.cell0
      have hs := hs.below y7
      have b7 := below_step b6 y7
      obtain ⟨A7, c7, rfl⟩ := hs7.form
      have HI := Lib.hid (is_yes _ _ M w7 hs7 t8)
      go_wp2_with fail
      with_reducible refine HI.out.mono ?_
      rintro e w9 ⟨rfl, y9⟩
      have t9 := t9.below y9
      have hX := hX.on y9
      have cX := hX.cell0
      have hs := hs.below y9
      have b9 := below_step b7 y9
      go_wp2_with fail
      with_reducible refine (HG.out _ _ hs).mono ?_
      rintro e w10 ⟨v10, rfl, hs10, y10⟩
      have t9 := t9.below y10
      have b10 := below_step b9 y10
      obtain ⟨A10, c10, rfl⟩ := hs10.form
      have HI := Lib.hid (is_yes _ _ B w10 hs10 t9)
      go_wp2_with fail
      with_reducible refine HI.out.mono ?_
      rintro e w11 ⟨rfl, y11⟩
      go_wp2
      go_ret
      exact ⟨rfl, below_step b10 y11⟩
end Go.Proofs.Ytanpncjnojjmkab
