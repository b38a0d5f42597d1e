/-
  The laws of cpset: Is.
-/
import Derived.Test.YtccbofaefpbhlaaDoorIsM
namespace Go.Proofs.YtccbofaefpbhlaaDoor
set_option linter.unusedVariables false
set_option maxRecDepth 20000
open Go.RowKit

/-- Numbers at a place. -/
def IntAt (w : World) (A : Option Addr) (L : List Nat) : Prop :=
  L ≠ [] → ∃ g, A = some ⟨g, 0, none⟩ ∧ g < w.heap.size ∧ ∀ i, i < L.length → w.cell? ⟨g, i, none⟩ = some (.int .i64 (L.getD i 0 : Nat))
theorem IntAt.below {w w' : World} {A : Option Addr} {L : List Nat} (h : IntAt w A L) (hb : Below w.heap.size w w') : IntAt w' A L := fun hn => by
  obtain ⟨g, e, hl, hc⟩ := h hn
  exact ⟨g, e, Nat.lt_of_lt_of_le hl hb.size, fun i hi => (hb.cell (p := ⟨g, i, none⟩) hl).trans (hc i hi)⟩
theorem IntAt.at_ {w : World} {A : Option Addr} {L : List Nat} (h : IntAt w A L) {i : Nat} (hi : i < L.length) : ∃ g, A = some ⟨g, 0, none⟩ ∧ g < w.heap.size ∧ w.cell? ⟨g, i, none⟩ = some (.int .i64 (L.getD i 0 : Nat)) := by
  obtain ⟨g, e, hl, hc⟩ := h (by intro e; simp [e] at hi)
  exact ⟨g, e, hl, hc i hi⟩
theorem prC_append (L M : List (Int × Int)) : prC (L ++ M) = prC L ++ prC M := by simp [prC]
theorem prC_setLast (T : List (Nat × Nat)) (p q q' : Nat) : (prC (intR (T ++ [(p, q)]))).set (T.length * 2 + 1) (.int .i64 (q' : Nat)) = prC (intR (T ++ [(p, q')])) := by
  rw [intR_append, intR_append, prC_append, prC_append, List.set_append_right _ _ (by rw [prC_length, intR_length]; omega)]
  rw [show T.length * 2 + 1 - (prC (intR T)).length = 1 by rw [prC_length, intR_length]; omega]
  simp [intR, prC]
theorem intR_get (S : List (Nat × Nat)) (i : Nat) (h : i < S.length) : (intR S).getD i (0, 0) = (((S.getD i (0, 0)).1 : Int), ((S.getD i (0, 0)).2 : Int)) := by
  simp [intR, List.getD, h]

theorem wantI_good {Mk : List Nat} {hb : Int → Bool} (h : MarkOk Mk hb) (j : Nat) (hj : j + 1 ≤ Mk.length) : Good 0 (wantI hb Mk j) := by
  refine (joinAll_spec (keptI (hbN hb) Mk j) [] trivial (fun r hr => ?_) (keptI_fst _ _ h.rise _ hj).1 (fun x hx => by simp at hx)).1
  obtain ⟨i, h1, h2, h3⟩ := (keptI_mem _ _ _ _).1 hr
  exact h.part r ((keptI_mem _ _ _ _).2 ⟨i, by omega, h2, h3⟩)
theorem last_le {S : List (Nat × Nat)} (hg : Good 0 S) (x : Nat × Nat) (hx : S.getLast? = some x) : x.1 ≤ x.2 := by
  obtain ⟨T, rfl⟩ := List.getLast?_eq_some_iff.1 hx
  have := hg.at_ (i := T.length) (by simp)
  simp only [List.getD_eq_getElem?_getD, List.getElem?_concat_length, Option.getD_some] at this
  exact this.2.1

set_option maxHeartbeats 8000000 in
theorem setIs_any (S : List (Nat × Nat)) (vs : Value) (Mk : List Nat) (A : Option Addr) (c gh : Nat) (cb : Array Value) (hb : Int → Bool) (w : World) (hS : IsSet w vs S) (hM : IntAt w A Mk) (hok : MarkOk Mk hb) (hmem : ∀ c : Int, memI S c = hb c) (hn : Mk.length ≤ 1000)
    (eg : ∀ args w, (callFunc gh args).run Tryd.prog w = .ok (.enter gh args) w) (hf : ∀ W, Below w.heap.size w W → ∀ x : Int, Calls Tryd.prog gh (#[.int .i64 x] ++ cb) W (RetV (.bool (hb x)) W)) :
    Calls Tryd.prog 19 #[vs, .slice A Mk.length c, .func (.func gh) #[] cb] w (RetV (.bool true) w) := by
  obtain ⟨i0, hi0, hz0, hz1, hz2⟩ := info_parts pr_info
  obtain ⟨As, cs, rfl⟩ := hS.shape
  have bW := below_new w (.cells #[.slice As S.length cs] 29)
  have hX := Blk.new w 29 #[.slice As S.length cs]
  have hS0 := hS.below bW
  have hM0 := hM.below bW
  have HF := Lib.hid (fun W (hW : Below (w.alloc (.cells #[.slice As S.length cs] 29)).heap.size (w.alloc (.cells #[.slice As S.length cs] 29)) W) => hf W (below_step bW hW))
  have hg := hS.good
  have h2 := hok.two
  obtain ⟨W0, hW0⟩ : ∃ W0, W0 = w.alloc (.cells #[.slice As S.length cs] 29) := ⟨_, rfl⟩
  have hszW : w.heap.size < W0.heap.size := by rw [hW0]; simp
  rw [← hW0] at bW hX hS0 hM0 HF
  have HW0 := Lib.hid hW0
  have HOK := Lib.hid hok
  have HMEM := Lib.hid hmem
  obtain ⟨n, hn'⟩ : ∃ n, Mk.length = n := ⟨_, rfl⟩
  have HN := Lib.hid hn'
  rw [hn'] at hn h2 ⊢
  clear hn' hmem hok hf hS hM hW0
  obtain ⟨sl, hsl⟩ : ∃ sl, S.length = sl := ⟨_, rfl⟩
  have HSL := Lib.hid hsl
  rw [hsl] at hX HW0 ⊢
  clear hsl
  go_enter Tryd.func19, Tryd.ntmps19
  go_wp2_with fail
  rw [← HW0.out]
  go_loopw [7, 8, 9] (fun u s t wr => ∃ j k q : Nat, j + 1 ≤ n ∧ t = .int .i64 (j : Int) ∧ s = .int .i64 (q : Int) ∧ Hid (cnt (wantI hb Mk j) = q) ∧ q ≤ Mk.getD j 0 ∧ wr.ownsRow W0.heap.size 26 2 u k (prC (intR (wantI hb Mk j))) ∧ Hid ((wantI hb Mk j).length = k) ∧ k ≤ j ∧ Below W0.heap.size W0 wr) (fun _ _ t _ => n - (intOf t).toNat)
  case atStart => exact ⟨0, 0, 0, by omega, rfl, rfl, rfl, Nat.zero_le _, World.ownsRow_nil _ _ _ _, rfl, by omega, Below.refl _ _⟩
  case round =>
    obtain ⟨j, k, q, hj, rfl, rfl, HQ, hq, hown, HK, hkj, hbw⟩ := hrel
    have hsz := hbw.size
    by_cases hjl : j + 1 < n
    · obtain ⟨g, rfl, hl, c0⟩ := (hM0.below hbw).at_ (i := j) (by rw [HN.out]; omega)
      obtain ⟨g', e', _, c1⟩ := (hM0.below hbw).at_ (i := j + 1) (by rw [HN.out]; omega)
      obtain rfl : g = g' := by injection e' with e'; injection e'
      clear e'
      have hab := HOK.out.rise j (j + 1) (by omega) (by rw [HN.out]; omega)
      have hb11 := HOK.out.le _ (getD_memL (i := j + 1) (by rw [HN.out]; omega))
      have HWS := Lib.hid (wantI_succ hb Mk j)
      have HLA := Lib.hid (wantI_last hb Mk HOK.out.rise j (by rw [HN.out]; omega))
      generalize Mk.getD j 0 = a at *
      obtain ⟨b, hbq⟩ : ∃ b, Mk.getD (j + 1) 0 = b := ⟨_, rfl⟩
      rw [hbq] at hab hb11 HWS c1
      have HBQ := Lib.hid hbq
      clear hbq
      have HFa := Lib.hid (fun W (hW : Below W0.heap.size W0 W) => HF.out W hW (a : Int))
      obtain ⟨v, hv⟩ : ∃ v, hb (a : Int) = v := ⟨_, rfl⟩
      rw [hv] at HWS HFa
      clear hv
      have hs1 : IntKind.i64.wrap ((j : Int) + 1) = (j : Int) + 1 := IntWalk.i64_in _ (by omega)
      have hd : decide ((j : Int) + 1 < (n : Int)) = true := by simp; omega
      have hown' : wr.drew.ownsRow W0.heap.size 26 2 u7 k (prC (intR (wantI hb Mk j))) := hown
      have hbw' : Below W0.heap.size W0 wr.drew := hbw.drew
      have HO := Lib.hid hown'
      have HBW := Lib.hid hbw'
      clear hown hown' hbw'
      go_wp2_with fail
      go_region
      go_wp2_with fail
      have hown := HO.out
      have hbw := HBW.out
      clear HO HBW c0 c1 hs1
      generalize wr.drew = V at *
      refine (HFa.out _ hbw).mono ?_
      rintro e w1 ⟨rfl, y1⟩
      have hb1 := hbw.trans (y1.mono hbw.size)
      have ho1 := own_kept hown y1
      have hsz1 := hb1.size
      clear hown hbw HFa
      cases v with
      | false =>
        go_wp2
        go_roundw
        case rel => exact ⟨j + 1, k, q, by omega, by go_num, rfl, by rw [Hid, HWS.out, if_neg (by simp)]; exact HQ.out, by rw [HBQ.out]; omega, by rw [HWS.out, if_neg (by simp)]; exact ho1, by rw [Hid, HWS.out, if_neg (by simp)]; exact HK.out, by omega, hb1⟩
        case measure => simp [intOf]; omega
      | true =>
        obtain ⟨Wl, hWl⟩ : ∃ Wl, wantI hb Mk j = Wl := ⟨_, rfl⟩
        rw [hWl] at HWS HLA HQ HK ho1
        rw [if_pos rfl] at HWS
        have hsub1 : (b : Int) - (a : Int) = ((b - a : Nat) : Int) := by omega
        have hsub2 : (b : Int) - 1 = ((b - 1 : Nat) : Int) := by omega
        have HWL := Lib.hid hWl
        have ho2 := ho1.alloc (.cells #[.int .i64 (a : Nat), .int .i64 ((b - 1 : Nat) : Int)] 26)
        have hb2 := hb1.alloc hb1.size (.cells #[.int .i64 (a : Nat), .int .i64 ((b - 1 : Nat) : Int)] 26)
        have HC2 := Lib.hid (cell_two_at w1 26 (.int .i64 (a : Nat)) (.int .i64 ((b - 1 : Nat) : Int)))
        have hgood : ∀ x, Wl.getLast? = some x → x.1 ≤ x.2 := last_le (by rw [← hWl]; exact wantI_good HOK.out j (by rw [HN.out]; omega))
        have HCN : Hid (cnt (wantI hb Mk (j + 1)) = q + (b - a)) := by
          rw [Hid, HWS.out, cnt_joinStep (fun x hx => ⟨HLA.out x hx, hgood x hx⟩) hab, HQ.out]
        clear hWl
        cases hlast : Wl.getLast? with
        | none =>
          obtain rfl : Wl = [] := List.getLast?_eq_none_iff.1 hlast
          obtain rfl : k = 0 := HK.out.symm
          have HJ : Hid (joinStep [] (a, b - 1) = [] ++ [(a, b - 1)]) := rfl
          obtain ⟨ao, cp, rfl⟩ := own_form2 ho2
          clear hlast
          go_wp2_with (at_builtin; refine wpList_append_own _ rfl (.tmp 66) (.tmp 71) 22 rfl W0.heap.size 26 i0 (.agg #[.int .i64 0, .int .i64 0]) 2 16 Tryd.underlying22 hi0 hz0 hz1 hz2 rfl (by decide) _ 0 _ rfl ho2 ⟨w1.heap.size, 0, none⟩ 1 1 [.int .i64 (a : Nat), .int .i64 ((b - 1 : Nat) : Int)] rfl rfl HC2.out (by simp [Value.oneCell']) (by unfold maxLen; omega) (by omega) (by simp; omega) ?_; intro v' w4 hown4 hgrow _; have hb4 : Below W0.heap.size W0 w4 := hb2.grown hgrow (by simp; omega) (fun k hk => by have := (ho2.lt k hk).1; omega); clear hgrow)
          go_roundw
          case rel => exact ⟨j + 1, 0 + 1, q + (b - a), by omega, by go_num, by go_num, HCN.out, by rw [HBQ.out]; omega, by rw [HWS.out, HJ.out, intR_append, prC_append]; exact hown4, by rw [Hid, HWS.out, HJ.out, List.length_append, HK.out]; rfl, by omega, hb4⟩
          case measure => simp [intOf]; omega
        | some x =>
          obtain ⟨T, rfl⟩ := List.getLast?_eq_some_iff.1 hlast
          obtain ⟨p, e⟩ := x
          have hea : e < a := HLA.out _ hlast
          clear hlast
          obtain rfl : k = T.length + 1 := by rw [← HK.out]; simp
          obtain ⟨g1, cap1, rfl⟩ : ∃ g1 cap1, u7 = .slice (some ⟨g1, 0, none⟩) (T.length + 1) cap1 := by
            rcases ho1.2 with ⟨_, h0⟩ | ⟨g1, cap1, cur, e1, _⟩
            · omega
            · exact ⟨g1, cap1, e1⟩
          have hgB : W0.heap.size ≤ g1 := (ho1.lt g1 rfl).1
          obtain ⟨cur, hBl⟩ : ∃ cur, Blk w1 g1 26 cur := by
            rcases ho1.2 with ⟨e1, _⟩ | ⟨g2, cap2, cur, e1, _, hh, _⟩
            · cases e1
            · injection e1 with e1 _ _
              injection e1 with e1
              injection e1 with e1
              subst e1
              exact ⟨cur, hh⟩
          have hgt := (prC_get (intR (T ++ [(p, e)])) T.length (by rw [intR_length]; simp)).2
          rw [intR_get _ _ (by simp)] at hgt
          simp only [List.getD_eq_getElem?_getD, List.getElem?_concat_length, Option.getD_some] at hgt
          have c1 := ho1.cells (g := g1) rfl _ _ hgt
          rw [add_zero_block] at c1
          have f1 := hBl.free (T.length * 2 + 1)
          have hk0 : (0 : Int) < ((T.length + 1 : Nat) : Int) := by omega
          have hk1 : ((T.length + 1 : Nat) : Int) - 1 = (T.length : Int) := by omega
          have hk2 : (T.length : Int) + 1 - 1 = (T.length : Int) := by omega
          have HSL' := Lib.hid (prC_setLast T p e (b - 1))
          have hjs : joinStep (T ++ [(p, e)]) (a, b - 1) = if a ≤ e + 1 then T ++ [(p, max e (b - 1))] else T ++ [(p, e)] ++ [(a, b - 1)] := by
            unfold joinStep
            rw [List.getLast?_concat]
            simp only [List.dropLast_concat]
          generalize hT : T.length = tl at *
          have HT := Lib.hid hT
          clear hT hgt
          by_cases hea1 : e + 1 = a
          · have heq : ((e : Int) == (a : Int) - 1) = true := by simp; omega
            rw [if_pos (by omega), show max e (b - 1) = b - 1 by omega] at hjs
            have HJ := Lib.hid hjs
            have hos := own_set_cell ho1 (i := tl * 2 + 1) (by rw [prC_length, intR_length, List.length_append, HT.out]; simp; omega) (.int .i64 ((b - 1 : Nat) : Int))
            rw [HSL'.out] at hos
            have HOS := Lib.hid hos
            have hbS := hb1.setCell (p := ⟨g1, tl * 2 + 1, none⟩) hgB (.int .i64 ((b - 1 : Nat) : Int))
            have HBS := Lib.hid hbS
            clear hjs hos hbS ho2 hb2
            go_wp2
            go_roundw
            case rel => exact ⟨j + 1, tl + 1, q + (b - a), by omega, by go_num, by go_num, HCN.out, by rw [HBQ.out]; omega, by rw [HWS.out, HJ.out]; exact HOS.out, by rw [Hid, HWS.out, HJ.out, List.length_append, HT.out]; rfl, by omega, HBS.out⟩
            case measure => simp [intOf]; omega
          · have heq : ((e : Int) == (a : Int) - 1) = false := by simp; omega
            rw [if_neg (by omega)] at hjs
            have HJ := Lib.hid hjs
            clear hjs
            go_wp2_with (at_builtin; refine wpList_append_own _ rfl (.tmp 66) (.tmp 71) 22 rfl W0.heap.size 26 i0 (.agg #[.int .i64 0, .int .i64 0]) 2 16 Tryd.underlying22 hi0 hz0 hz1 hz2 rfl (by decide) _ (tl + 1) _ rfl ho2 ⟨w1.heap.size, 0, none⟩ 1 1 [.int .i64 (a : Nat), .int .i64 ((b - 1 : Nat) : Int)] rfl rfl HC2.out (by simp [Value.oneCell']) (by unfold maxLen; omega) (by omega) (by simp; omega) ?_; intro v' w4 hown4 hgrow _; have hb4 : Below W0.heap.size W0 w4 := hb2.grown hgrow (by simp; omega) (fun k hk => by have := (ho2.lt k hk).1; omega); clear hgrow)
            go_roundw
            case rel => exact ⟨j + 1, (tl + 1) + 1, q + (b - a), by omega, by go_num, by go_num, HCN.out, by rw [HBQ.out]; omega, by rw [HWS.out, HJ.out, intR_append, prC_append]; exact hown4, by rw [Hid, HWS.out, HJ.out, List.length_append, HK.out]; rfl, by omega, hb4⟩
            case measure => simp [intOf]; omega
    · obtain rfl : n = j + 1 := by omega
      have hall := wantI_all HOK.out hg HMEM.out
      rw [HN.out, Nat.add_sub_cancel] at hall
      rw [hall] at HQ HK hown
      obtain rfl : k = sl := by rw [← HK.out, HSL.out]
      have RNG := Lib.hid (fun W (hW : Below W0.heap.size W0 W) => ranges_any S _ W (hS0.below hW))
      have CNT := Lib.hid (fun W (hW : Below W0.heap.size W0 W) => count_any _ S W (hS0.below hW))
      have HAS := Lib.hid (fun W (hW : Below W0.heap.size W0 W) c => has_any S _ c _ W (hS0.below hW) (HMEM.out c))
      rw [HSL.out] at RNG CNT HAS
      rw [HQ.out] at CNT
      obtain ⟨ao7, cp7, rfl⟩ := own_form2 hown
      have cX := (hX.on hbw).cell0
      have hd : decide ((j : Int) + 1 < ((j + 1 : Nat) : Int)) = false := by simp
      clear hall HK HQ
      go_wp2_with fail
      refine (RNG.out _ hbw).mono ?_
      rintro e w5 ⟨u5, rfl, hown5, y5⟩
      have b5 := hbw.trans (y5.mono hbw.size)
      have ho7 := own_kept hown y5
      rw [intR_length, HSL.out] at hown5
      obtain ⟨ao5, cp5, rfl⟩ := own_form2 hown5
      have cX := (hX.on b5).cell0
      clear hown
      go_wp2_with fail
      refine (CNT.out _ b5).mono ?_
      rintro e w6 ⟨rfl, y6⟩
      have b6 := below_step b5 y6
      have ho7 := own_kept ho7 y6
      have ho5 := own_kept hown5 y6
      have hP7 : PairAt w6 ao7 (intR S) := by
        have h' : w6.ownsRow W0.heap.size 26 2 (.slice ao7 k cp7) (intR S).length (prC (intR S)) := by rw [intR_length, HSL.out]; exact ho7
        obtain ⟨A', c', e, hp, _⟩ := own_pairAt h'
        injection e with e1
        subst e1
        exact hp
      have hR5 : RgIn w6 ao5 (intR S) := by
        have h' : w6.ownsRow wr.heap.size 59 2 (.slice ao5 k cp5) (intR S).length (rgCells (intR S)) := by rw [intR_length, HSL.out]; exact ho5
        obtain ⟨A', c', e, hp⟩ := own_rgIn h'
        injection e with e1
        subst e1
        exact hp
      clear cX hown5 ho7 ho5
      go_wp2_with fail
      go_loopw [88] (fun t wr => ∃ i : Nat, i ≤ k ∧ t = .int .i64 (i : Int) ∧ Below w6.heap.size w6 wr) (fun t _ => k - (intOf t).toNat)
      case atStart => exact ⟨0, by omega, rfl, Below.refl _ _⟩
      case round =>
        obtain ⟨i, hi, rfl, hb7⟩ := hrel
        by_cases hil : i < k
        · have hiS : i < S.length := by rw [HSL.out]; exact hil
          obtain ⟨g7, rfl, l7, d0, d1⟩ := (hP7.below hb7).at_ (i := i) (by rw [intR_length]; exact hiS)
          obtain ⟨g5, rfl, l5, e0, e1⟩ := (hR5.below hb7).at_ (i := i) (by rw [intR_length]; exact hiS)
          rw [intR_get S i hiS] at d0 d1 e0 e1
          obtain ⟨_, x1, x2, _⟩ := hg.at_ hiS
          simp only at d0 d1 e0 e1
          generalize (S.getD i (0, 0)).1 = a at *
          generalize (S.getD i (0, 0)).2 = b at *
          have wa : IntKind.i64.wrap (a : Int) = (a : Int) := IntWalk.i64_in _ (by omega)
          have wb : IntKind.i64.wrap (b : Int) = (b : Int) := IntWalk.i64_in _ (by omega)
          have hb8 : Below w6.heap.size w6 (wr.alloc (.cells #[.int .i64 (a : Nat), .int .i64 (b : Nat)] 26)) := hb7.alloc hb7.size _
          go_wp2_with fail
          go_quiet (fail)
          go_wp2
          go_roundw
          case rel => exact ⟨i + 1, by omega, by go_num, below_drewN hb8 _⟩
          case measure => simp [intOf]; omega
        · obtain rfl : i = k := by omega
          have b7 := b6.trans (hb7.mono b6.size)
          clear hP7 hR5 hb7 b6 b5 hbw y5 y6
          generalize wr = w7 at *
          go_wp2_with fail
          go_loopw [116] (fun t wr => ∃ l : Nat, l ≤ j + 1 ∧ t = .int .i64 (l : Int) ∧ Below W0.heap.size W0 wr) (fun t _ => j + 1 - (intOf t).toNat)
          case atStart => exact ⟨0, by omega, rfl, b7⟩
          case round =>
            clear b7
            obtain ⟨l, hl, rfl, b8⟩ := hrel
            by_cases hlj : l < j + 1
            · obtain ⟨gm, rfl, lm, cm⟩ := (hM0.below b8).at_ (i := l) (by rw [HN.out]; exact hlj)
              have hm11 := HOK.out.le _ (getD_memL (i := l) (by rw [HN.out]; exact hlj))
              generalize Mk.getD l 0 = m at *
              have hlb : decide ((l : Int) < (j : Int) + 1) = true := by simp; omega
              go_wp2_with fail
              generalize wr = w8 at *
              go_loopw [18] (fun t wr => ∃ d : Nat, d ≤ 3 ∧ t = .int .i64 ((m : Int) - 1 + (d : Int)) ∧ Below W0.heap.size W0 wr) (fun t _ => ((m : Int) + 2 - intOf t).toNat)
              case atStart => exact ⟨0, by omega, by simp, b8⟩
              case round =>
                clear b8 cm
                obtain ⟨d, hd3, rfl, b9⟩ := hrel
                have cX := (hX.on b9).cell0
                by_cases hdl : d < 3
                · obtain ⟨x, hx⟩ : ∃ x : Int, (m : Int) - 1 + (d : Int) = x := ⟨_, rfl⟩
                  have hx1 : -1 ≤ x ∧ x ≤ 1114113 := by omega
                  have hx2 : x ≤ (m : Int) + 1 := by omega
                  obtain ⟨hx3, hx4⟩ := hx1
                  have hwx : IntKind.i32.wrap x = x := by rw [IntKind.wrap_i32]; omega
                  have K1 := Lib.hid (fun W hW => HAS.out W hW x)
                  have K2 := Lib.hid (fun W (hW : Below W0.heap.size W0 W) => HF.out W hW x)
                  have HX := Lib.hid hx
                  have HXN : Hid (Value.int .i64 (x + 1) = Value.int .i64 ((m : Int) - 1 + ((d + 1 : Nat) : Int))) := by
                    rw [Hid, ← hx]
                    exact congrArg _ (by omega)
                  rw [hx]
                  clear hx
                  generalize hb x = v at *
                  go_wp2_with fail
                  refine (K1.out _ b9).mono ?_
                  rintro e w9 ⟨rfl, y9⟩
                  have b10 := b9.trans (y9.mono b9.size)
                  go_wp2_with fail
                  refine (K2.out _ b10).mono ?_
                  rintro e w10 ⟨rfl, y10⟩
                  have b11 := b10.trans (y10.mono b10.size)
                  clear hwx K1 K2 b9 b10 y9 y10 cX hx2
                  cases v
                  all_goals
                    go_wp2
                    go_roundw
                    case rel => exact ⟨d + 1, by omega, HXN.out, b11⟩
                    case measure => have := HX.out; simp [intOf]; omega
                · obtain rfl : d = 3 := by omega
                  have hgt : (m : Int) + 1 < (m : Int) - 1 + ((3 : Nat) : Int) := by omega
                  go_wp2
                  go_roundw
                  case rel => exact ⟨l + 1, by omega, by go_num, b9⟩
                  case measure => simp [intOf]; omega
            · obtain rfl : l = j + 1 := by omega
              have hno : ∀ x : Int, isI x = false → hb x = false := fun x hx => by
                cases h : hb x with
                | false => rfl
                | true => rw [HOK.out.isI x h] at hx; cases hx
              have n1 := hno (-1) (by decide)
              have n2 := hno 1114112 (by decide)
              have n3 := hno 55552 (by decide)
              have K1 := Lib.hid (fun W hW => by have := HAS.out W hW (-1); rw [n1] at this; exact this)
              have K2 := Lib.hid (fun W hW => by have := HAS.out W hW 1114112; rw [n2] at this; exact this)
              have K3 := Lib.hid (fun W hW => by have := HAS.out W hW 55552; rw [n3] at this; exact this)
              have cX := (hX.on b8).cell0
              clear hno n1 n2 n3
              go_wp2_with fail
              refine (K1.out _ b8).mono ?_
              rintro e w9 ⟨rfl, y9⟩
              have b9 := b8.trans (y9.mono b8.size)
              have cX := (hX.on b9).cell0
              go_wp2_with fail
              refine (K2.out _ b9).mono ?_
              rintro e w10 ⟨rfl, y10⟩
              have b10 := b9.trans (y10.mono b9.size)
              have cX := (hX.on b10).cell0
              go_wp2_with fail
              refine (K3.out _ b10).mono ?_
              rintro e w11 ⟨rfl, y11⟩
              have b11 := b10.trans (y11.mono b10.size)
              go_wp2
              go_ret
              exact ⟨rfl, bW.trans (b11.mono (by omega))⟩
end Go.Proofs.YtccbofaefpbhlaaDoor
