/-
  The law PagesCells.
-/
import Derived.Test.YtblakfpacommfaaPY
import Derived.Test.YtblakfpacommfaaSince
namespace Go.Proofs.Ytblakfpacommfaa
set_option linter.unusedVariables false
set_option maxRecDepth 20000
open Go.RowKit

theorem refGet_mem {X : List (Int × Nat)} {c : Int} (h : refGet X c ≠ 0) : ∃ q, q < (cellsZ (valAt X) 1114112).length ∧ (cellsZ (valAt X) 1114112).getD q (0, 0) = (c, refGet X c) := by
  have hm : (c, refGet X c) ∈ cellsZ (valAt X) 1114112 := by
    unfold refGet at h ⊢
    by_cases hc : c < 0 ∨ 1114111 < c
    · rw [if_pos hc] at h; exact absurd rfl h
    · rw [if_neg hc] at h ⊢
      exact (cellsZ_mem _ _ _).2 ⟨by simp only; omega, by simp only; omega, rfl, h⟩
  obtain ⟨q, hq, e⟩ := List.mem_iff_getElem.1 hm
  exact ⟨q, hq, by simp [List.getD, hq, e]⟩
theorem refGet_lt {X : List (Int × Nat)} (h : ∀ x ∈ X, x.2 < 65536) (c : Int) : refGet X c < 65536 := by
  unfold refGet
  split
  · omega
  · exact valAt_lt h _

set_option maxHeartbeats 4000000 in
theorem pagesCells_walk (A : Option Addr) (n c : Nat) (l : List (Int × Int)) (w : World) (hL : l.length = n) (hr : PairIn w A l) (hn : n ≤ 9223372036854775807) :
    Calls Try.prog 4 #[.slice A n c] w (RetV (.bool true) w) := by
  have hAW := Lib.hid fun W => awake_any W
  have hFW := Lib.hid fun W (hb : Below w.heap.size w W) => few_any A n c l W hL (hr.below hb) hn
  have hok := Lib.hid (fewL_ok l)
  have h30 := fewL_length l
  clear hL hr hn
  generalize fewL l = X at *
  go_enter Try.func4, Try.ntmps4
  go_wp2_with fail
  with_reducible refine (hAW.out _).mono ?_
  rintro e w1 ⟨rfl, y1⟩
  clear hAW
  go_wp2_with fail
  with_reducible refine (hFW.out _ y1).mono ?_
  rintro e w2 ⟨u, v, rfl, hu, hv, y2⟩
  clear hFW
  obtain ⟨uA, uq, rfl, hR⟩ := own_refs hu
  obtain ⟨vA, vq, rfl, hC⟩ := own_cells hv
  have b2 := below_step y1 y2
  have HR := Lib.hid fun W (hb : Below w2.heap.size w2 W) => hR.below hb
  have HN0 := new_pages vA vq X w2 hC (by omega) hok.out
  have HRf0 := fun (x : Int) (h1 : -9223372036854775808 ≤ x) (h2 : x ≤ 9223372036854775807) W (hb : Below w2.heap.size w2 W) => refGet_any uA uq X x W (hR.below hb) (by omega) h1 h2
  have HRB0 := fun W (hb : Below w2.heap.size w2 W) => refBlocks_any uA uq X W (hR.below hb) (by omega) hok.out
  have hcod : Hid (∀ i, i < X.length → -2147483648 ≤ (X.getD i (0, 0)).1 ∧ (X.getD i (0, 0)).1 ≤ 2147483647 ∧ (X.getD i (0, 0)).2 < 65536) := Lib.hid fun (i : Nat) (hi : i < X.length) => by rw [getD_of' hi]; exact hok.out _ (List.getElem_mem hi)
  clear hu hv hR hC
  obtain ⟨m, hm⟩ : ∃ m, X.length = m := ⟨_, rfl⟩
  have HM := Lib.hid hm
  rw [hm] at h30 HN0 HRf0 HRB0 ⊢
  have HN := Lib.hid HN0
  have HRf := Lib.hid HRf0
  have HRB := Lib.hid HRB0
  clear hm HN0 HRf0 HRB0
  go_wp2_with fail
  with_reducible refine HN.out.mono ?_
  rintro e w3 ⟨g, pn, K, W, rfl, hp1, hp2, y3, _⟩
  clear HN
  have b3 := below_step b2 y3
  have hlt := Lib.hid (valAt_lt fun x hx => (hok.out x hx).2.2)
  have HC1 := Lib.hid (cells_any hp1 hlt.out w3 g hp2)
  have HB1 := Lib.hid fun W'' (hb : Below w3.heap.size w3 W'') => blocks_any W'' g pn K W (hp2.below hb)
  have HP1 := Lib.hid hp1
  clear hp1 hp2
  go_wp2_with fail
  with_reducible refine HC1.out.mono ?_
  rintro e w4 ⟨z, rfl, hz, y4⟩
  clear HC1
  have hZle := cellsZ_le (valAt X) 1114112
  have hZmem := Lib.hid fun c h => refGet_mem (X := X) (c := c) h
  have hZat : Hid (∀ q, q < (cellsZ (valAt X) 1114112).length → 0 ≤ ((cellsZ (valAt X) 1114112).getD q (0, 0)).1 ∧ ((cellsZ (valAt X) 1114112).getD q (0, 0)).1 ≤ 1114111 ∧ refGet X ((cellsZ (valAt X) 1114112).getD q (0, 0)).1 = ((cellsZ (valAt X) 1114112).getD q (0, 0)).2 ∧ ((cellsZ (valAt X) 1114112).getD q (0, 0)).2 ≠ 0 ∧ ((cellsZ (valAt X) 1114112).getD q (0, 0)).2 < 65536) := Lib.hid fun q hq => by
    have hm : (cellsZ (valAt X) 1114112).getD q (0, 0) ∈ cellsZ (valAt X) 1114112 := by rw [getD_of' hq]; exact List.getElem_mem hq
    generalize (cellsZ (valAt X) 1114112).getD q (0, 0) = p at *
    obtain ⟨h1, h2, h3, h4⟩ := (cellsZ_mem _ _ p).1 hm
    refine ⟨h1, by omega, ?_, h4, by rw [h3]; exact hlt.out _⟩
    unfold refGet
    rw [if_neg (by omega)]
    exact h3.symm
  have hZrise : Hid (∀ q, q + 1 < (cellsZ (valAt X) 1114112).length → ((cellsZ (valAt X) 1114112).getD q (0, 0)).1 < ((cellsZ (valAt X) 1114112).getD (q + 1) (0, 0)).1) := Lib.hid (by
    have hp : (cellsZ (valAt X) 1114112).Pairwise fun a b => a.1 < b.1 := by
      unfold cellsZ
      rw [List.pairwise_map]
      exact (cellsTo_rise _ _).imp fun {a b} h => by simp only; omega
    intro q hq
    have h1 := getD_of' (l := cellsZ (valAt X) 1114112) (i := q) (by omega)
    have h2 := getD_of' (l := cellsZ (valAt X) 1114112) (i := q + 1) hq
    rw [h1, h2]
    exact List.pairwise_iff_getElem.1 hp q (q + 1) (by omega) hq (by omega))
  have hZval : Hid (∀ c, c < 1114112 → valAt (cellsZ (valAt X) 1114112) c = valAt X c) := Lib.hid fun c hc => valAt_cellsZ _ _ c hc
  have hZself : Hid (cellsZ (valAt (cellsZ (valAt X) 1114112)) 1114112 = cellsZ (valAt X) 1114112) := Lib.hid (cellsZ_congr 1114112 fun c hc => valAt_cellsZ _ _ c hc)
  generalize cellsZ (valAt X) 1114112 = Z at *
  obtain ⟨zA, zq, rfl, hZC⟩ := own_cells hz
  have HZC := Lib.hid fun W (hb : Below w4.heap.size w4 W) => hZC.below hb
  obtain ⟨zn, hzn⟩ : ∃ n, Z.length = n := ⟨_, rfl⟩
  have HZN := Lib.hid hzn
  rw [hzn] at hZle hZat hZmem hZrise ⊢
  clear hzn hZC hz
  go_wp2_with fail
  have b4 := below_step b3 y4
  have y34 := below_step y3 y4
  go_loopw [32] (fun s wr => ∃ i : Nat, s = .int .i64 (i : Int) ∧ i ≤ m ∧ Below w4.heap.size w4 wr) (fun s _ => m - (intOf s).toNat)
  case atStart => exact ⟨0, rfl, by omega, Below.refl _ _⟩
  case round =>
    obtain ⟨i, rfl, hi0, hb⟩ := hrel
    by_cases hi : i < m
    · obtain ⟨gX, oX, rfl, hgX, c0, c1⟩ := (HR.out _ (below_step y34 hb)).at_ (i := i) (by rw [HM.out]; exact hi)
      obtain ⟨hx1, hx2, hx3⟩ := hcod.out i (by rw [HM.out]; exact hi)
      generalize X.getD i (0, 0) = p at *
      obtain ⟨x, y⟩ := p
      dsimp only at c0 c1 hx1 hx2 hx3
      have HRx := Lib.hid fun W hb => HRf.out x (by omega) (by omega) W hb
      have hmx := Lib.hid (hZmem.out x)
      have hvlt := refGet_lt (fun x hx => (hok.out x hx).2.2) x
      generalize refGet X x = v at *
      have bY := below_new wr (.cells #[.int .i64 x, .int .i64 (y : Int)] 31)
      have hY := Blk.new wr 31 #[.int .i64 x, .int .i64 (y : Int)]
      have bV := below_step hb bY
      go_wp2_with fail
      with_reducible refine (HRx.out _ (below_step y34 bV)).mono ?_
      rintro e w5 ⟨rfl, y5⟩
      have b5 := below_step bV y5
      by_cases hv0 : v = 0
      · subst hv0
        go_wp2
        go_roundw
        case rel => exact ⟨i + 1, by go_num, by omega, b5⟩
        case measure => simp [intOf]; omega
      · have hv1 : ((v : Int) != 0) = true := by simp; omega
        have hv2 : ((v : Int) == 0) = false := by simp; omega
        have HQ := Lib.hid (hmx.out hv0)
        have hyc := (y5.cell (p := ⟨wr.heap.size, 0, none⟩) (by simp)).trans (hY.cell 0)
        have hyc' : w5.cell? ⟨wr.heap.size, 0, none⟩ = some (.int .i64 x) := hyc
        have hgy : wr.heap.size < w5.heap.size := by have := y5.size; simp at this; omega
        clear hyc hY hmx hv0
        generalize wr.heap.size = gY at *
        go_wp2_with fail
        go_loopw [44, 11] (fun s t wr => ∃ (j : Nat) (tb : Bool), s = .int .i64 (j : Int) ∧ t = .bool tb ∧ j ≤ zn ∧ (tb = true ↔ ∃ q, q < j ∧ Z.getD q (0, 0) = (x, v)) ∧ Below w5.heap.size w5 wr) (fun s _ _ => zn - (intOf s).toNat)
        case atStart => exact ⟨0, false, rfl, rfl, by omega, by simp, Below.refl _ _⟩
        case round =>
          obtain ⟨j, tb, rfl, rfl, hj0, htb, hbz⟩ := hrel
          by_cases hj : j < zn
          · obtain ⟨gz, oz, rfl, hgz, d0, d1⟩ := (HZC.out _ (below_step b5 hbz)).at_ (i := j) (by rw [HZN.out]; exact hj)
            obtain ⟨k1, k2, k3, k4, k5⟩ := hZat.out j hj
            have hnext : Hid ((∃ q, q < j + 1 ∧ Z.getD q (0, 0) = (x, v)) ↔ ((∃ q, q < j ∧ Z.getD q (0, 0) = (x, v)) ∨ Z.getD j (0, 0) = (x, v))) := Lib.hid (by
              constructor
              · rintro ⟨q, h1, h2⟩
                by_cases e : q = j
                · subst e; exact .inr h2
                · exact .inl ⟨q, by omega, h2⟩
              · rintro (⟨q, h1, h2⟩ | h)
                · exact ⟨q, by omega, h2⟩
                · exact ⟨j, by omega, h⟩)
            have HTB := Lib.hid htb
            clear htb k3 k4
            generalize Z.getD j (0, 0) = p at *
            obtain ⟨zc, zv⟩ := p
            dsimp only at d0 d1 k1 k2 k5
            have hyz := (hbz.cell (p := ⟨gY, 0, none⟩) hgy).trans hyc'
            have bZ := below_new wr (.cells #[.int .i32 zc, .int .u16 (zv : Int)] 38)
            have hgyr : gY < wr.heap.size := Nat.lt_of_lt_of_le hgy hbz.size
            have hyz2 := (bZ.cell (p := ⟨gY, 0, none⟩) hgyr).trans hyz
            cases tb with
            | true =>
              go_wp2
              go_roundw
              case rel => exact ⟨j + 1, true, by go_num, rfl, by omega, by rw [hnext.out, ← HTB.out]; simp, below_step hbz bZ⟩
              case measure => simp [intOf]; omega
            | false =>
              by_cases hc : zc = x
              · have hcc : (zc == x) = true := by simpa using hc
                have hvv : Hid (((zv : Int) == (v : Int)) = true ↔ (zc, zv) = (x, v)) := Lib.hid (by
                  constructor
                  · intro h
                    have : zv = v := by simp at h; omega
                    rw [hc, this]
                  · intro h
                    injection h with _ h
                    rw [h]; simp)
                clear hc
                generalize hq : ((zv : Int) == (v : Int)) = tq at *
                go_wp2
                go_roundw
                case rel => exact ⟨j + 1, tq, by go_num, rfl, by omega, by rw [hnext.out, ← HTB.out, hvv.out]; simp, below_step hbz bZ⟩
                case measure => simp [intOf]; omega
              · have hcc : (zc == x) = false := by simpa using hc
                have hvv : Hid (¬ (zc, zv) = (x, v)) := Lib.hid (by intro h; injection h with h _; exact hc h)
                go_wp2
                go_roundw
                case rel => exact ⟨j + 1, false, by go_num, rfl, by omega, by rw [hnext.out, ← HTB.out]; simp [hvv.out], below_step hbz bZ⟩
                case measure => simp [intOf]; omega
          · obtain rfl : j = zn := by omega
            have hfound := htb.2 HQ.out
            subst hfound
            clear htb
            go_wp2
            go_roundw
            case rel => exact ⟨i + 1, by go_num, by omega, below_step b5 hbz⟩
            case measure => simp [intOf]; omega
    · obtain rfl : i = m := by omega
      go_wp2_with fail
      generalize hwv : wr = wv at *
      clear hwv
      go_loopw [70, 7] (fun s t wr => ∃ q : Nat, s = .int .i64 (q : Int) ∧ t = .int .i64 (q : Int) ∧ q ≤ zn ∧ Below w4.heap.size w4 wr) (fun s _ _ => zn - (intOf s).toNat)
      case atStart => exact ⟨0, rfl, rfl, by omega, hb⟩
      case round =>
        obtain ⟨q, rfl, rfl, hq0, hbq⟩ := hrel
        by_cases hq : q < zn
        · obtain ⟨gz, oz, rfl, hgz, d0, d1⟩ := (HZC.out _ hbq).at_ (i := q) (by rw [HZN.out]; exact hq)
          obtain ⟨k1, k2, k3, k4, k5⟩ := hZat.out q hq
          have hprev : Hid (0 < q → ∃ zc', zc' < (Z.getD q (0, 0)).1 ∧ wr.cell? ⟨gz, oz + (q - 1) * 2, none⟩ = some (.int .i32 zc')) := Lib.hid fun h => by
            obtain ⟨gz', oz', e, _, e0, _⟩ := (HZC.out _ hbq).at_ (i := q - 1) (by rw [HZN.out]; omega)
            injection e with e
            injection e with e1 e2
            subst e1 e2
            have := hZrise.out (q - 1) (by omega)
            rw [show q - 1 + 1 = q by omega] at this
            exact ⟨_, this, e0⟩
          have HRx0 := fun W hb => HRf.out (Z.getD q (0, 0)).1 (by omega) (by omega) W hb
          rw [k3] at HRx0
          have HRx := Lib.hid HRx0
          clear HRx0 k3
          generalize Z.getD q (0, 0) = p at *
          obtain ⟨zc, zv⟩ := p
          dsimp only at d0 d1 k1 k2 k4 k5 hprev HRx
          have hz0 : ((zv : Int) == 0) = false := by simp; omega
          have bZ := below_new wr (.cells #[.int .i32 zc, .int .u16 (zv : Int)] 38)
          have hZb := Blk.new wr 38 #[.int .i32 zc, .int .u16 (zv : Int)]
          have bV := below_step hbq bZ
          by_cases hq1 : 0 < q
          · obtain ⟨zp, hzp, e0⟩ := hprev.out hq1
            obtain ⟨t, rfl⟩ : ∃ t, q = t + 1 := ⟨q - 1, by omega⟩
            rw [show t + 1 - 1 = t by omega] at e0
            have hqi : ((t + 1 : Nat) : Int) > 0 := by omega
            go_upto_region 26 with fail
            have hkeep : ∀ W, Below (wr.alloc (.cells #[.int .i32 zc, .int .u16 (zv : Int)] 38)).heap.size (wr.alloc (.cells #[.int .i32 zc, .int .u16 (zv : Int)] 38)) W → W.cell? ⟨wr.heap.size, 0, none⟩ = some (.int .i32 zc) ∧ W.cell? ⟨wr.heap.size, 1, none⟩ = some (.int .u16 (zv : Int)) ∧ W.cell? ⟨gz, oz + t * 2, none⟩ = some (.int .i32 zp) := fun W h =>
              ⟨((hZb.on h).cell 0).trans rfl, ((hZb.on h).cell 1).trans rfl, (h.cell (p := ⟨gz, oz + t * 2, none⟩) (Nat.lt_of_lt_of_le hgz bZ.size)).trans ((bZ.cell (p := ⟨gz, oz + t * 2, none⟩) hgz).trans e0)⟩
            generalize hgz2 : wr.heap.size = gZ at *
            generalize wr.alloc (.cells #[.int .i32 zc, .int .u16 (zv : Int)] 38) = V at *
            have k7 := fun x : Since V => (hkeep _ x.kept).1
            have k8 := fun x : Since V => (hkeep _ x.kept).2.1
            have k9 := fun x : Since V => (hkeep _ x.kept).2.2
            have hw1 : IntKind.i64.wrap ((t : Int) + 1 - 1) = (t : Int) := by rw [IntKind.wrap_i64]; omega
            have hw2 : (0 : Int) ≤ (t : Int) := by omega
            have hw3 : (t : Int) < (zn : Int) := by omega
            have hge : decide (zp ≥ zc) = false := by simp; omega
            clear hkeep hprev d0 d1 hZb e0
            refine wp_region_since (by kernel_rfl) (by kernel_rfl) ?_
            repeat (go_big_quiet_step (first | (go_at_call 10; exact since_call (HRx.out _ (below_step y34 (below_step bV (Since.kept _)))))))
            refine wpQuiet_nil ?_
            rintro _ ⟨⟨w7, b7⟩, rfl⟩
            go_wp2
            go_roundw
            case rel => exact ⟨t + 1 + 1, by go_num, by go_num, by omega, below_step bV b7⟩
            case measure => simp [intOf]; omega
          · have hqi : decide ((q : Int) > 0) = false := by simp; omega
            go_upto_region 26 with fail
            have hkeep : ∀ W, Below (wr.alloc (.cells #[.int .i32 zc, .int .u16 (zv : Int)] 38)).heap.size (wr.alloc (.cells #[.int .i32 zc, .int .u16 (zv : Int)] 38)) W → W.cell? ⟨wr.heap.size, 0, none⟩ = some (.int .i32 zc) ∧ W.cell? ⟨wr.heap.size, 1, none⟩ = some (.int .u16 (zv : Int)) := fun W h =>
              ⟨((hZb.on h).cell 0).trans rfl, ((hZb.on h).cell 1).trans rfl⟩
            generalize hgz2 : wr.heap.size = gZ at *
            generalize wr.alloc (.cells #[.int .i32 zc, .int .u16 (zv : Int)] 38) = V at *
            have k7 := fun x : Since V => (hkeep _ x.kept).1
            have k8 := fun x : Since V => (hkeep _ x.kept).2
            clear hkeep hprev d0 d1 hZb
            refine wp_region_since (by kernel_rfl) (by kernel_rfl) ?_
            repeat (go_big_quiet_step (first | (go_at_call 10; exact since_call (HRx.out _ (below_step y34 (below_step bV (Since.kept _)))))))
            refine wpQuiet_nil ?_
            rintro _ ⟨⟨w7, b7⟩, rfl⟩
            go_wp2
            go_roundw
            case rel => exact ⟨q + 1, by go_num, by go_num, by omega, below_step bV b7⟩
            case measure => simp [intOf]; omega
        · obtain rfl : q = zn := by omega
          have hzc := HZC.out _ hbq
          have HN2a := new_pages zA zq Z wr hzc (by rw [HZN.out]; omega) (fun x hx => by
            obtain ⟨j, hj, e⟩ := List.mem_iff_getElem.1 hx
            have e2 : Z.getD j (0, 0) = x := by simp [List.getD, hj, e]
            obtain ⟨k1, k2, _, _, k5⟩ := hZat.out j (by rw [← HZN.out]; exact hj)
            rw [e2] at k1 k2 k5
            exact ⟨by omega, by omega, k5⟩)
          rw [HZN.out] at HN2a
          have HN2 := Lib.hid HN2a
          clear HN2a hzc
          go_wp2_with fail
          with_reducible refine HN2.out.mono ?_
          rintro e w6 ⟨g', pn', K', W', rfl, hq1, hq2, y6, _⟩
          clear HN2
          have hq1' := hq1.congr hZval.out
          have b46 := below_step hbq y6
          have hpn : pn = pn' := HP1.out.count hq1'
          subst hpn
          have HB2 := Lib.hid fun W'' (hb : Below w6.heap.size w6 W'') => blocks_any W'' g' pn K' W' (hq2.below hb)
          have HC2a := fun W'' (hb : Below w6.heap.size w6 W'') => cells_any hq1 (fun c => by
            refine valAt_lt (fun x hx => ?_) c
            obtain ⟨j, hj, e⟩ := List.mem_iff_getElem.1 hx
            have e2 : Z.getD j (0, 0) = x := by simp [List.getD, hj, e]
            obtain ⟨k1, k2, _, _, k5⟩ := hZat.out j (by rw [← HZN.out]; exact hj)
            rw [e2] at k5
            exact k5) W'' g' (hq2.below hb)
          rw [hZself.out] at HC2a
          have HC2 := Lib.hid HC2a
          clear HC2a hq1 hq1' hq2
          go_wp2_with fail
          with_reducible refine (HB2.out _ (Below.refl _ _)).mono ?_
          rintro e w7 ⟨rfl, rfl⟩
          go_wp2_with fail
          with_reducible refine (HB1.out _ (below_step y4 b46)).mono ?_
          rintro e w7 ⟨rfl, rfl⟩
          go_wp2_with fail
          with_reducible refine (HC2.out _ (Below.refl _ _)).mono ?_
          rintro e w8 ⟨z8, rfl, hz8, y8⟩
          rw [HZN.out] at hz8
          obtain ⟨zB, zr, rfl⟩ := own_len' hz8
          clear hz8
          have b48 := below_step b46 y8
          go_wp2_with fail
          with_reducible refine (HB1.out _ (below_step y4 b48)).mono ?_
          rintro e w7 ⟨rfl, rfl⟩
          go_wp2_with fail
          with_reducible refine (HRB.out _ (below_step y34 b48)).mono ?_
          rintro e w9 ⟨pm, K9, W9, rfl, h9, y9⟩
          obtain rfl : pn = pm := HP1.out.count h9
          clear h9
          go_wp2
          go_ret
          exact ⟨rfl, below_step b4 (below_step b48 y9)⟩
end Go.Proofs.Ytblakfpacommfaa
