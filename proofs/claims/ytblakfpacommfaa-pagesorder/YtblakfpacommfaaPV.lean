/-
  The law PagesOrder.
-/
import Derived.Test.YtblakfpacommfaaPU
namespace Go.Proofs.Ytblakfpacommfaa
set_option linter.unusedVariables false
set_option maxRecDepth 20000
open Go.RowKit

theorem own_cap {w : World} {B : Nat} {e : TypeId} {s : Nat} {A : Option Addr} {n m c : Nat} {xs : List Value} (h : w.ownsRow B e s (.slice A n c) m xs) : n ≤ c := by
  rcases h.2 with ⟨h1, _⟩ | ⟨g, cap, cur, h1, _, _, hnc, _⟩
  · injection h1 with h1 h2 h3
    omega
  · injection h1 with h1 h2 h3
    omega
/-- What is taken of the first i cells: one of each character. -/
structure Some_ (X : List (Int × Nat)) (i : Nat) (S : List (Int × Nat)) : Prop where
  dist : Dist S
  seen : ∀ s ∈ S, ∃ j, j < i ∧ (X.getD j (0, 0)).1 = s.1
  ok : ∀ s ∈ S, -2147483648 ≤ s.1 ∧ s.1 ≤ 2147483647 ∧ s.2 < 65536
  few : S.length ≤ i
theorem Some_.skip {X : List (Int × Nat)} {i : Nat} {S : List (Int × Nat)} (h : Some_ X i S) : Some_ X (i + 1) S :=
  ⟨h.dist, fun s hs => by obtain ⟨j, h1, h2⟩ := h.seen s hs; exact ⟨j, by omega, h2⟩, h.ok, by have := h.few; omega⟩
theorem Some_.more {X : List (Int × Nat)} {i : Nat} {S : List (Int × Nat)} (h : Some_ X i S) (hn : ∀ j, j < i → (X.getD j (0, 0)).1 ≠ (X.getD i (0, 0)).1) (hok : -2147483648 ≤ (X.getD i (0, 0)).1 ∧ (X.getD i (0, 0)).1 ≤ 2147483647 ∧ (X.getD i (0, 0)).2 < 65536) : Some_ X (i + 1) (S ++ [X.getD i (0, 0)]) := by
  refine ⟨List.pairwise_append.2 ⟨h.dist, by simp, fun a ha b hb => ?_⟩, fun s hs => ?_, fun s hs => ?_, by have := h.few; simp; omega⟩
  · rw [List.mem_singleton] at hb
    subst hb
    obtain ⟨j, h1, h2⟩ := h.seen a ha
    rw [← h2]
    exact hn j h1
  · rcases List.mem_append.1 hs with hs | hs
    · obtain ⟨j, h1, h2⟩ := h.seen s hs
      exact ⟨j, by omega, h2⟩
    · rw [List.mem_singleton] at hs
      subst hs
      exact ⟨i, by omega, rfl⟩
  · rcases List.mem_append.1 hs with hs | hs
    · exact h.ok s hs
    · rw [List.mem_singleton] at hs
      subst hs
      exact hok

theorem get_yes_q (c : Nat) (w : World) (g n : Nat) (K : Nat → Nat → Nat) (W : Nat → Nat) (hp : PagesAt w g n K W) (hc : c ≤ 1114111) :
    Calls Try.prog 9 #[.pointer (some ⟨g, 0, none⟩), .int .i32 (c : Int)] w fun e w' => e = .returned (.int .u16 (K (W (c / 256)) (c % 256) : Nat)) ∧ ∃ m, w' = w.drewN m := by
  have HW := Lib.hid fun W => within_any (c : Int) W (by omega) (by omega)
  have hi : isChar (c : Int) = true := by unfold isChar; exact decide_eq_true ⟨by omega, by omega⟩
  rw [hi] at HW
  have HS := Lib.hid fun W => split_any c W hc
  obtain ⟨hlt, ⟨hh, o, q, h2, h3, h4⟩, h5, h6, h7⟩ := hp
  have k1 := h5 (c / 256) (by omega)
  have k3 := h7 (c / 256) (by omega)
  have k2 := h4 (W (c / 256)) (c % 256) k3 (Nat.mod_lt _ (by omega))
  have k4 : c / 256 < 4352 := by omega
  have k5 : c % 256 < 256 := Nat.mod_lt _ (by omega)
  clear h4 h5 h7 hi
  generalize hK : K (W (c / 256)) (c % 256) = v at *
  generalize hj : W (c / 256) = j at *
  generalize c / 256 = a at *
  generalize c % 256 = b at *
  clear hK hj
  have z1 : (0 : Int) ≤ (a : Int) := by omega
  have z2 : (a : Int) < 4352 := by omega
  have z3 : (0 : Int) ≤ (b : Int) := by omega
  have z4 : (b : Int) < 256 := by omega
  have z5 : (0 : Int) ≤ (j : Int) := by omega
  have z6 : (j : Int) < (n : Int) := by omega
  go_enter Try.func9, Try.ntmps9
  go_wp2_with fail
  refine (HW.out _).mono ?_
  rintro e w1 ⟨rfl, rfl⟩
  clear HW
  go_wp2_with fail
  refine (HS.out _).mono ?_
  rintro e w1 ⟨rfl, rfl⟩
  clear HS
  go_wp2
  go_quiet (fail)
  go_wp2
  go_ret
  exact ⟨rfl, _, rfl⟩
theorem get_q {f : Nat → Nat} {n : Nat} {K : Nat → Nat → Nat} {W : Nat → Nat} (ho : PagesOf f n K W) (c : Int) (w : World) (g : Nat) (hp : PagesAt w g n K W) (hl : 0 ≤ c) (hc : c ≤ 1114111) :
    Calls Try.prog 9 #[.pointer (some ⟨g, 0, none⟩), .int .i32 c] w fun e w' => e = .returned (.int .u16 (getP f c : Nat)) ∧ ∃ m, w' = w.drewN m := by
  unfold getP
  rw [if_neg (by omega)]
  obtain ⟨c, rfl⟩ := Int.eq_ofNat_of_zero_le hl
  have := ho.val (c / 256) (c % 256) (by omega) (by omega)
  rw [show c / 256 * 256 + c % 256 = c by omega] at this
  rw [Int.toNat_natCast, ← this]
  exact get_yes_q c w g n K W hp (by omega)
theorem cellsZ_at (f : Nat → Nat) : ∀ q, q < (cellsZ f 1114112).length → 0 ≤ ((cellsZ f 1114112).getD q (0, 0)).1 ∧ ((cellsZ f 1114112).getD q (0, 0)).1 ≤ 1114111 ∧ getP f ((cellsZ f 1114112).getD q (0, 0)).1 = ((cellsZ f 1114112).getD q (0, 0)).2 := by
  intro q hq
  have hm : (cellsZ f 1114112).getD q (0, 0) ∈ cellsZ f 1114112 := by rw [getD_of' hq]; exact List.getElem_mem hq
  generalize (cellsZ f 1114112).getD q (0, 0) = p at *
  unfold cellsZ at hm
  obtain ⟨x, hx, rfl⟩ := List.mem_map.1 hm
  obtain ⟨h1, h2, h3⟩ := (cellsTo_mem f 1114112 x.1 x.2).1 hx
  refine ⟨by simp only; omega, by simp only; omega, ?_⟩
  unfold getP
  rw [if_neg (by simp only; omega)]
  simp only [Int.toNat_natCast]
  exact h2.symm

set_option maxHeartbeats 4000000 in
theorem pagesOrder_walk (A : Option Addr) (n c : Nat) (l : List (Int × Int)) (w : World) (hL : l.length = n) (hr : PairIn w A l) (hn : n ≤ 9223372036854775807) :
    Calls Try.prog 5 #[.slice A n c] w (RetV (.bool true) w) := by
  have hAW := Lib.hid fun W => awake_any W
  have hFW := Lib.hid fun W (hb : Below w.heap.size w W) => few_any A n c l W hL (hr.below hb) hn
  obtain ⟨i1, hi1, ha0, ha1, ha2⟩ := info_parts info38
  have hok := Lib.hid (fewL_ok l)
  have h30 := fewL_length l
  clear hL hr hn
  generalize fewL l = X at *
  go_enter Try.func5, Try.ntmps5
  go_wp2_with fail
  with_reducible refine (hAW.out _).mono ?_
  rintro e w1 ⟨rfl, y1⟩
  clear hAW
  go_wp2_with fail
  with_reducible refine (hFW.out _ y1).mono ?_
  rintro e w2 ⟨u, v, rfl, hu, hv, y2⟩
  clear hFW
  obtain ⟨uA, uq, rfl, hR⟩ := own_refs hu
  obtain ⟨vA, vq, rfl, hC⟩ := own_cells hv
  have hcap := own_cap hu
  have b2 := below_step y1 y2
  have HR := Lib.hid fun W (hb : Below w2.heap.size w2 W) => hR.below hb
  have HC := Lib.hid fun W (hb : Below w2.heap.size w2 W) => hC.below hb
  have hcod : Hid (∀ i, i < X.length → -2147483648 ≤ (X.getD i (0, 0)).1 ∧ (X.getD i (0, 0)).1 ≤ 2147483647 ∧ (X.getD i (0, 0)).2 < 65536) := Lib.hid fun (i : Nat) (hi : i < X.length) => by rw [getD_of' hi]; exact hok.out _ (List.getElem_mem hi)
  clear hu hv hR hC
  obtain ⟨m, hm⟩ : ∃ m, X.length = m := ⟨_, rfl⟩
  have HM := Lib.hid hm
  rw [hm] at h30 hcap ⊢
  clear hm
  go_wp2_with fail
  go_loopw [27, 5] (fun s t wr => ∃ (i k : Nat) (S : List (Int × Nat)), s = .int .i64 (i : Int) ∧ i ≤ m ∧ wr.ownsRow w2.heap.size 38 2 t k (owC S) ∧ S.length = k ∧ k ≤ i ∧ Some_ X i S ∧ Below w2.heap.size w2 wr) (fun s _ _ => m - (intOf s).toNat)
  case atStart => exact ⟨0, 0, [], rfl, by omega, World.ownsRow_nil _ _ _ _, rfl, by omega, ⟨List.Pairwise.nil, by simp, by simp, by simp⟩, Below.refl _ _⟩
  case round =>
    obtain ⟨i, k, S, rfl, hi0, hS, hSl, hki, hSm, hb⟩ := hrel
    have HSL := Lib.hid hSl
    clear hSl
    obtain ⟨sA, sq, rfl⟩ := own_len' hS
    by_cases hi : i < m
    · obtain ⟨gX, oX, rfl, hgX, c0, c1⟩ := (HR.out _ hb).at_ (i := i) (by rw [HM.out]; exact hi)
      obtain ⟨gC, oC, rfl, hgC, d0, d1⟩ := (HC.out _ hb).at_ (i := i) (by rw [HM.out]; exact hi)
      obtain ⟨hx1, hx2, hx3⟩ := hcod.out i (by rw [HM.out]; exact hi)
      have hmore := Lib.hid fun hn => hSm.more hn ⟨hx1, hx2, hx3⟩
      have hskip := Lib.hid hSm.skip
      obtain ⟨p, hp⟩ : ∃ p, X.getD i (0, 0) = p := ⟨_, rfl⟩
      rw [hp] at c0 c1 d0 d1 hx1 hx2 hx3 hmore
      have HP := Lib.hid hp
      obtain ⟨x, y⟩ := p
      dsimp only at c0 c1 d0 d1 hx1 hx2 hx3
      have bY := below_new wr (.cells #[.int .i64 x, .int .i64 (y : Int)] 31)
      have hY := Blk.new wr 31 #[.int .i64 x, .int .i64 (y : Int)]
      have d0' := (bY.cell (p := ⟨gC, oC + i * 2, none⟩) hgC).trans d0
      have d1' := (bY.cell (p := ⟨gC, oC + i * 2 + 1, none⟩) hgC).trans d1
      have hSa := hS.alloc (.cells #[.int .i64 x, .int .i64 (y : Int)] 31)
      have bV := below_step hb bY
      clear hp
      go_wp2_with fail
      have hgy : wr.heap.size < (wr.alloc (.cells #[.int .i64 x, .int .i64 (y : Int)] 31)).heap.size := by simp
      generalize hgY : wr.heap.size = gY at *
      generalize hWr : wr.alloc (.cells #[.int .i64 x, .int .i64 (y : Int)] 31) = V at *
      have hbW := HR.out V bV
      clear c0 c1 d0 d1 hS
      go_loopw [36, 8] (fun s t wr => ∃ (j : Nat) (tb : Bool), s = .int .i64 (j : Int) ∧ t = .bool tb ∧ j ≤ i ∧ (tb = true ↔ ∃ q, q < j ∧ (X.getD q (0, 0)).1 = x) ∧ Below V.heap.size V wr) (fun s _ _ => i - (intOf s).toNat)
      case atStart => exact ⟨0, false, rfl, rfl, by omega, by simp, Below.refl _ _⟩
      case round =>
        obtain ⟨j, tb, rfl, rfl, hj0, htb, hbz⟩ := hrel
        by_cases hj : j < i
        · obtain ⟨gX', oX', hXX, hgX', e0, e1⟩ := (HR.out _ (below_step bV hbz)).at_ (i := j) (by rw [HM.out]; omega)
          injection hXX with hXX
          injection hXX with q1 q2
          subst q1 q2
          have hyc := (hbz.cell (p := ⟨gY, 0, none⟩) hgy).trans (hY.cell 0)
          have hyc' : wr.cell? ⟨gY, 0, none⟩ = some (.int .i64 x) := hyc
          have hjm : (j : Int) < (i : Int) := by omega
          have hnext : Hid ((∃ q, q < j + 1 ∧ (X.getD q (0, 0)).1 = x) ↔ ((∃ q, q < j ∧ (X.getD q (0, 0)).1 = x) ∨ (X.getD j (0, 0)).1 = x)) := Lib.hid (by
            constructor
            · rintro ⟨q, h1, h2⟩
              by_cases e : q = j
              · subst e; exact .inr h2
              · exact .inl ⟨q, by omega, h2⟩
            · rintro (⟨q, h1, h2⟩ | h)
              · exact ⟨q, by omega, h2⟩
              · exact ⟨j, by omega, h⟩)
          have HTB := Lib.hid htb
          clear htb hyc
          generalize (X.getD j (0, 0)).1 = z at *
          generalize (X.getD j (0, 0)).2 = z2 at *
          have bZ := below_new wr (.cells #[.int .i64 z, .int .i64 (z2 : Int)] 31)
          have hgyr : gY < wr.heap.size := Nat.lt_of_lt_of_le hgy hbz.size
          have hyc2 := (bZ.cell (p := ⟨gY, 0, none⟩) hgyr).trans hyc'
          cases tb with
          | true =>
            go_wp2
            go_roundw
            case rel => exact ⟨j + 1, true, by go_num, rfl, by omega, by rw [hnext.out, ← HTB.out]; simp, below_step hbz bZ⟩
            case measure => simp [intOf]; omega
          | false =>
            have hzx : Hid (((z == x) = true) ↔ z = x) := Lib.hid (by simp)
            go_wp2
            go_roundw
            case rel => exact ⟨j + 1, z == x, by go_num, rfl, by omega, by rw [hnext.out, ← HTB.out, hzx.out]; simp, below_step hbz bZ⟩
            case measure => simp [intOf]; omega
        · obtain rfl : j = i := by omega
          have hSz := own_on hSa hbz
          cases tb with
          | true =>
            go_wp2
            go_roundw
            case rel => exact ⟨j + 1, k, S, by go_num, by omega, hSz, HSL.out, by omega, hskip.out, below_step bV hbz⟩
            case measure => simp [intOf]; omega
          | false =>
            have hnone : Hid (∀ q, q < j → (X.getD q (0, 0)).1 ≠ x) := Lib.hid fun q hq e => by
              have := htb.2 ⟨q, hq, e⟩
              cases this
            clear htb
            have d0z := (hbz.cell (p := ⟨gC, oC + j * 2, none⟩) (Nat.lt_trans hgC hgy)).trans d0'
            have d1z := (hbz.cell (p := ⟨gC, oC + j * 2 + 1, none⟩) (Nat.lt_trans hgC hgy)).trans d1'
            have hS4 := hSz.alloc (.cells #[.int .i32 x, .int .u16 (y : Int)] 38)
            have b4 := below_step bV (below_step hbz (below_new wr (.cells #[.int .i32 x, .int .u16 (y : Int)] 38)))
            have hnw := World.news_of_block (cs := #[.int .i32 x, .int .u16 (y : Int)]) (t := 38) (fr := (0, 0)) (heap_alloc_new wr (.cells #[.int .i32 x, .int .u16 (y : Int)] 38))
            have h63 : k + 1 ≤ maxLen := by unfold maxLen; omega
            have h8 : (k + 1) * 8 ≤ 140737488355328 := by omega
            have hbs := b4.size
            have hjm : (j : Int) < (m : Int) := by omega
            go_wp2_with (at_builtin; refine wpList_append_own _ rfl (.tmp 51) (.tmp 56) 24 rfl w2.heap.size 38 i1 _ 2 8 Try.underlying24 hi1 ha0 ha1 ha2 rfl (by decide) (.slice sA k sq) k (owC S) rfl hS4 ⟨wr.heap.size, 0, none⟩ 1 1 [.int .i32 x, .int .u16 (y : Int)] rfl rfl hnw (by simp [Value.oneCell']) h63 h8 hbs ?_; intro v4 w4 hown4 hgrow4 _)
            go_roundw
            case rel =>
              refine ⟨j + 1, k + 1, S ++ [(x, y)], by go_num, by omega, by rw [owC_append]; exact hown4, by rw [List.length_append, HSL.out]; rfl, by omega, ?_, b4.grown hgrow4 hbs (fun kk h => (hS4.lt kk h).1)⟩
              exact hmore.out hnone.out
            case measure => simp [intOf]; omega
    · obtain rfl : i = m := by omega
      generalize wr = wa at *
      have hd := hSm.dist
      have hSok := hSm.ok
      have hfew := hSm.few
      have hbase := hb.size
      have hCat : ∃ A', sA = A' ∧ CellsAt wa A' S := ⟨sA, rfl, by
        have := hS
        rw [← HSL.out] at this
        obtain ⟨A', c', e, h⟩ := own_cells this
        injection e with e _ _
        subst e
        exact h⟩
      obtain ⟨_, rfl, hCat⟩ := hCat
      have HN0 := new_pages sA sq S wa hCat (by rw [HSL.out]; omega) hSok
      rw [HSL.out] at HN0
      have HN := Lib.hid HN0
      clear HN0 hCat
      go_wp2_with fail
      with_reducible refine HN.out.mono ?_
      rintro e w3 ⟨g, pn, K, W, rfl, hp1, hp2, y3, hpu⟩
      clear HN
      have hS3 := own_on hS y3
      have hSlt := Lib.hid fun q e => (hS.lt q e).2
      have b3 := below_step hb y3
      have HSok := Lib.hid hSok
      clear hSok
      go_wp2_with fail
      have HP1 := Lib.hid hp1
      have HD := Lib.hid hd
      clear hp1 hd
      go_loopw [12, 13] (fun s t wr => ∃ (a : Nat) (z : Int) (T : List (Int × Nat)), s = .int .i64 (a : Int) ∧ t = .int .i64 z ∧ Hid (z = (k : Int) - 1 - (a : Int)) ∧ a ≤ k ∧ wr.ownsRow w2.heap.size 38 2 (.slice sA k sq) k (owC T) ∧ T.length = k ∧ S.Perm T ∧ PagesAt wr g pn K W ∧ PgUp wr g wa.heap.size ∧ Below w2.heap.size w2 wr) (fun s _ _ => k - (intOf s).toNat)
      case atStart => exact ⟨0, (k : Int) - 1, S, rfl, rfl, Lib.hid (by omega), by omega, hS3, HSL.out, List.Perm.refl _, hp2, hpu, b3⟩
      case round =>
        obtain ⟨a, z, T, rfl, rfl, HZ, ha, hT, hTl, hTp, hpa, hpq, hbT⟩ := hrel
        by_cases haz : (a : Int) < z
        · obtain ⟨b, rfl⟩ := Int.eq_ofNat_of_zero_le (show 0 ≤ z by omega)
          have hbk : b < k := by have := HZ.out; omega
          have hab : a < b := by omega
          have hak : a < k := by omega
          obtain ⟨gb, cap, hsv, hgb, hgl, hcs, hfr⟩ := own_at hT hTl (by omega)
          injection hsv with e1 e2 e3
          subst e1 e3
          clear e2
          obtain ⟨a0, a1⟩ := hcs a hak
          obtain ⟨b0, b1⟩ := hcs b hbk
          have hsw := own_swap hT (i := a) (k := b) (by omega) (by omega)
          have hpm := hTp.trans (swapL_perm (S := T) (i := a) (k := b) (by omega) (by omega))
          have f1 := hfr (a * 2)
          have f2 := hfr (a * 2 + 1)
          have f3 := hfr (b * 2)
          have f4 := hfr (b * 2 + 1)
          have hgbw := hSlt.out gb rfl
          have hpa1 := hpa.far hpq (p := ⟨gb, a * 2, none⟩) hgbw (.int .i32 (T.getD b (0, 0)).1)
          have hpa2 := hpa1.1.far hpa1.2 (p := ⟨gb, a * 2 + 1, none⟩) hgbw (.int .u16 ((T.getD b (0, 0)).2 : Int))
          have hpa3 := hpa2.1.far hpa2.2 (p := ⟨gb, b * 2, none⟩) hgbw (.int .i32 (T.getD a (0, 0)).1)
          have hpa4 := hpa3.1.far hpa3.2 (p := ⟨gb, b * 2 + 1, none⟩) hgbw (.int .u16 ((T.getD a (0, 0)).2 : Int))
          have hb' := (((hbT.setCell (p := ⟨gb, a * 2, none⟩) hgb (.int .i32 (T.getD b (0, 0)).1)).setCell (p := ⟨gb, a * 2 + 1, none⟩) hgb (.int .u16 ((T.getD b (0, 0)).2 : Int))).setCell (p := ⟨gb, b * 2, none⟩) hgb (.int .i32 (T.getD a (0, 0)).1)).setCell (p := ⟨gb, b * 2 + 1, none⟩) hgb (.int .u16 ((T.getD a (0, 0)).2 : Int))
          have hlen : (swapL T a b).length = k := by simp [swapL, hTl]
          have HLEN := Lib.hid hlen
          have HPM := Lib.hid hpm
          clear hcs hfr hlen hpm hTp hTl hpa hpq hpa1 hpa2 hpa3 hS hS3 hp2 hpu
          generalize T.getD a (0, 0) = pA at *
          generalize T.getD b (0, 0) = pB at *
          generalize swapL T a b = T' at *
          obtain ⟨xa, ya⟩ := pA
          obtain ⟨xb, yb⟩ := pB
          dsimp only at a0 a1 b0 b1 hsw hpa4 hb'
          go_wp2_with fail
          go_region
          go_wp2
          go_roundw
          case rel => exact ⟨a + 1, (b : Int) - 1, T', by go_num, rfl, Lib.hid (by have := HZ.out; omega), by omega, hsw, HLEN.out, HPM.out, hpa4.1.below (below_drew _), hpa4.2.below hpa4.1.lt (below_drew _), hb'.drew⟩
          case measure => simp [intOf]; omega
        · have HTP := Lib.hid hTp
          have HTL := Lib.hid hTl
          have hz : ¬ (a : Int) < z := haz
          have hTok : ∀ s ∈ T, -2147483648 ≤ s.1 ∧ s.1 ≤ 2147483647 ∧ s.2 < 65536 := fun s hs => HSok.out s (hTp.mem_iff.2 hs)
          have hCat : CellsAt wr sA T := by
            have := hT
            rw [← hTl] at this
            obtain ⟨A', c', e, h⟩ := own_cells this
            injection e with e _ _
            subst e
            exact h
          have HN0 := new_pages sA sq T wr hCat (by omega) hTok
          rw [hTl] at HN0
          have HN := Lib.hid HN0
          clear HN0 hCat hTp hTl hTok hS hS3 hp2 hpu
          go_wp2_with fail
          with_reducible refine HN.out.mono ?_
          rintro e w5 ⟨g', pn', K', W', rfl, hq1, hq2, y5, _⟩
          clear HN
          have hpa5 := hpa.below y5
          have b5 := below_step hbT y5
          have hpn : pn = pn' := HP1.out.count (hq1.congr fun c _ => (valAt_perm HD.out HTP.out c).symm)
          subst hpn
          have HB1 := Lib.hid fun W'' (hb : Below w5.heap.size w5 W'') => blocks_any W'' g pn K W (hpa5.below hb)
          have HB2 := Lib.hid fun W'' (hb : Below w5.heap.size w5 W'') => blocks_any W'' g' pn K' W' (hq2.below hb)
          have hlt := Lib.hid (valAt_lt fun x hx => (HSok.out x hx).2.2)
          have hlt' := Lib.hid (valAt_lt (l := T) fun x hx => (HSok.out x (HTP.out.mem_iff.2 hx)).2.2)
          have HC1 := Lib.hid fun W'' (hb : Below w5.heap.size w5 W'') => cells_any HP1.out hlt.out W'' g (hpa5.below hb)
          have HC2 := Lib.hid fun W'' (hb : Below w5.heap.size w5 W'') => cells_any hq1 hlt'.out W'' g' (hq2.below hb)
          have hsame : Hid (cellsZ (valAt T) 1114112 = cellsZ (valAt S) 1114112) := Lib.hid (by
            unfold cellsZ
            rw [cellsTo_congr 1114112 fun c _ => (valAt_perm HD.out HTP.out c).symm])
          rw [hsame.out] at HC2
          have HG := Lib.hid fun (x : Int) (h1 : 0 ≤ x) (h2 : x ≤ 1114111) W'' (hb : Below w5.heap.size w5 W'') => get_q HP1.out x W'' g (hpa5.below hb) h1 h2
          clear hq1 hq2 hpa hpa5 hpq
          go_wp2_with fail
          with_reducible refine (HB1.out _ (Below.refl _ _)).mono ?_
          rintro e w6 ⟨rfl, rfl⟩
          go_wp2_with fail
          with_reducible refine (HB2.out _ (Below.refl _ _)).mono ?_
          rintro e w6 ⟨rfl, rfl⟩
          clear HB1 HB2
          go_wp2_with fail
          with_reducible refine (HC1.out _ (Below.refl _ _)).mono ?_
          rintro e w6 ⟨u6', rfl, hu6, y6⟩
          go_wp2_with fail
          with_reducible refine (HC2.out _ y6).mono ?_
          rintro e w7 ⟨u7', rfl, hu7, y7⟩
          have hu6 := own_on hu6 y7
          clear HC1 HC2
          have hZle := cellsZ_le (valAt S) 1114112
          have hZat : Hid (∀ q, q < (cellsZ (valAt S) 1114112).length → 0 ≤ ((cellsZ (valAt S) 1114112).getD q (0, 0)).1 ∧ ((cellsZ (valAt S) 1114112).getD q (0, 0)).1 ≤ 1114111 ∧ getP (valAt S) ((cellsZ (valAt S) 1114112).getD q (0, 0)).1 = ((cellsZ (valAt S) 1114112).getD q (0, 0)).2) := Lib.hid (cellsZ_at (valAt S))
          generalize cellsZ (valAt S) 1114112 = Z at *
          obtain ⟨zA, zq, rfl, hZA⟩ := own_cells hu6
          obtain ⟨zB, zr, rfl, hZB⟩ := own_cells hu7
          have hZA := Lib.hid hZA
          have hZB := Lib.hid hZB
          obtain ⟨zn, hzn⟩ : ∃ n, Z.length = n := ⟨_, rfl⟩
          have HZN := Lib.hid hzn
          have hzn2 : zn ≤ 1114112 := by omega
          rw [hzn] at hZat ⊢
          clear hzn hu6 hu7 hZle
          have b7 := below_step y6 y7
          go_wp2
          go_loopw [111] (fun s wr => ∃ q : Nat, s = .int .i64 (q : Int) ∧ q ≤ zn ∧ Below w7.heap.size w7 wr) (fun s _ => zn - (intOf s).toNat)
          case atStart => exact ⟨0, rfl, by omega, Below.refl _ _⟩
          case round =>
            obtain ⟨q, rfl, hq0, hbq⟩ := hrel
            by_cases hq : q < zn
            · obtain ⟨ga, oa, rfl, hga, a0, a1⟩ := (hZA.out.below hbq).at_ (i := q) (by rw [HZN.out]; exact hq)
              obtain ⟨gb, ob, rfl, hgb, b0, b1⟩ := (hZB.out.below hbq).at_ (i := q) (by rw [HZN.out]; exact hq)
              obtain ⟨z1, z2, z3⟩ := hZat.out q hq
              have LQ := Lib.hid fun k => HG.out _ z1 z2 (wr.drewN k) (below_step (below_step b7 hbq) (below_dn _ _))
              rw [z3] at LQ
              generalize Z.getD q (0, 0) = p at *
              obtain ⟨x, y⟩ := p
              dsimp only at a0 a1 b0 b1 LQ z1 z2
              clear z3
              have hqz : (q : Int) < (zn : Int) := by omega
              go_wp2_with fail
              go_quiet ((go_at_call 9; exact Calls.quiet_of (LQ.out _)))
              go_wp2
              go_roundw
              case rel => exact ⟨q + 1, by go_num, by omega, below_step hbq (below_dn _ _)⟩
              case measure => simp [intOf]; omega
            · go_wp2
              go_ret
              exact ⟨rfl, below_step y1 (below_step y2 (below_step b5 (below_step b7 hbq)))⟩
end Go.Proofs.Ytblakfpacommfaa
