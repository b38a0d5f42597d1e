/-
  The contract of the document's own product in decimal digits.
-/
import Derived.Test.YthionbkdlmiaoaaProdA
import Derived.RegionTactic
namespace Go.Proofs.Ythionbkdlmiaoaa
set_option linter.unusedVariables false
open Go.RowKit

/-- 'make([]int, n)'. -/
theorem make_int (w : World) (n : Nat) (hn : n ≤ 100000000) : (Instr.makeSlice 28 (.int .i64 n) (.int .i64 n)).run Try.prog w = .ok (.slice (some ⟨w.heap.size, 0, none⟩) n n) (w.alloc (.cells (blkOf .i64 (List.replicate n 0)) 3)) := by
  obtain ⟨i0, hi0, hz0, hz1, hz2⟩ := info_parts int_info
  have h := run_make (P := Try.prog) w 28 3 i0 (.int .i64 0) Try.underlying28 hi0 hz0 .i64 .i64 n n (by omega) (by omega) (by rw [hz2]; omega) (by omega)
  rw [h, hz1, made_zeros _ _ rfl]
  simp [blkOf, cellsOf]

theorem set_get_self (s : List Nat) (i x : Nat) (hi : i < s.length) : (s.set i x).getD i 0 = x := by simp [List.getD, hi]
theorem set_get_ne (s : List Nat) (i j x : Nat) (h : i ≠ j) : (s.set i x).getD j 0 = s.getD j 0 := by simp [List.getD, List.getElem?_set_ne h]

theorem val_set_add (b : Nat) (s : List Nat) (i d : Nat) (hi : i < s.length) : val b (s.set i (s.getD i 0 + d)) = val b s + b ^ i * d := by
  have := val_set b s i (s.getD i 0 + d) hi
  rw [Nat.mul_add] at this
  omega

set_option maxHeartbeats 2000000 in
/-- 'Mul' of the document. -/
theorem mulD_any (v u : Value) (k m N M : Nat) (w : World) (h : IsD w v k N) (h' : IsD w u m M) (hk : k ≤ 400000) (hm : m ≤ 400000) :
    Calls Try.prog 31 #[v, u] w (RetD (k + m + 1) (N * M) w) := by
  obtain ⟨l, ⟨A, c, rfl, hr, hlc⟩, hn, hv, hlk⟩ := h
  obtain ⟨l', ⟨A', c', rfl, hr', hlc'⟩, hn', hv', hlk'⟩ := h'
  have HV := Lib.hid hv
  have HV' := Lib.hid hv'
  clear hv hv'
  obtain ⟨L, hL⟩ : ∃ L, L = l.length + l'.length + 1 := ⟨_, rfl⟩
  have hL1 : l.length + l'.length < L := by omega
  have hL2 : L ≤ k + m + 1 := by omega
  have HLL := Lib.hid hL
  have hmk : ∀ w, (Instr.makeSlice 28 (.int .i64 ((l.length : Int) + (l'.length : Int) + 1)) (.int .i64 ((l.length : Int) + (l'.length : Int) + 1))).run Try.prog w = .ok (.slice (some ⟨w.heap.size, 0, none⟩) L L) (w.alloc (.cells (blkOf .i64 (List.replicate L 0)) 3)) := fun w => by
    rw [← make_int w L (by omega), hL]; simp
  clear hL
  go_enter Try.func31, Try.ntmps31
  go_wp2
  clear hmk
  go_loopw [6] (fun t wr => ∃ (i : Nat) (s : List Nat), t = .int .i64 i ∧ i ≤ l.length ∧ s.length = L ∧ (∀ j, s.getD j 0 ≤ 81 * i) ∧ val 10 s = val 10 (l.take i) * M ∧ Blk wr w.heap.size 3 (blkOf .i64 s) ∧ Below w.heap.size w wr ∧ wr.heap.size = w.heap.size + 1) (fun t _ => l.length - (intOf t).toNat)
  case atStart => exact ⟨0, List.replicate L 0, rfl, by omega, by simp, fun q => by simp [List.getD, List.getElem?_replicate]; split <;> simp, by simp [val, val_replicate], Blk.new w 3 _, below_new _ _, by simp⟩
  case round =>
    obtain ⟨i, s, rfl, hi, hsl, hsb, hval, hB, hbw, hws⟩ := hrel
    have HS := Lib.hid hsl
    have HSB := Lib.hid hsb
    have HVs := Lib.hid hval
    have HWS := Lib.hid hws
    clear hsl hsb hval hws
    by_cases hil : i < l.length
    · have hxl := getD_lt (b := 10) (by decide) hn.1 i
      obtain ⟨x, hxe⟩ : ∃ x, x = l.getD i 0 := ⟨_, rfl⟩
      rw [← hxe] at hxl
      have HXE := Lib.hid hxe
      clear hxe
      obtain ⟨wo, rfl⟩ : ∃ wo : World, wo = wr := ⟨_, rfl⟩
      go_wp2
      go_loopw [7] (fun t wi => ∃ (q : Nat) (s' : List Nat), t = .int .i64 q ∧ q ≤ l'.length ∧ s'.length = L ∧ (∀ j, j < i + q → s'.getD j 0 ≤ 81 * i + 81) ∧ (∀ j, i + q ≤ j → s'.getD j 0 ≤ 81 * i) ∧ val 10 s' = val 10 (l.take i) * M + 10 ^ i * (x * val 10 (l'.take q)) ∧ Blk wi w.heap.size 3 (blkOf .i64 s') ∧ Below w.heap.size w wi ∧ wi.heap.size = w.heap.size + 1) (fun t _ => l'.length - (intOf t).toNat)
      case atStart => exact ⟨0, s, rfl, by omega, HS.out, fun j _ => by have := HSB.out j; omega, fun j _ => HSB.out j, by rw [HVs.out]; simp [val], hB, hbw, HWS.out⟩
      case round =>
        obtain ⟨q, s', rfl, hq, hsl', hsb1, hsb2, hval', hB', hbw', hws'⟩ := hrel
        have HS' := Lib.hid hsl'
        have HSB1 := Lib.hid hsb1
        have HSB2 := Lib.hid hsb2
        have HV2 := Lib.hid hval'
        have HWS' := Lib.hid hws'
        clear hsl' hsb1 hsb2 hval' hws'
        by_cases hql : q < l'.length
        · obtain ⟨ad, rfl, hab, hxc⟩ := (hr.below hbw').row.at_ hil
          obtain ⟨ad', rfl, hab', hyc⟩ := (hr'.below hbw').row.at_ hql
          rw [← HXE.out] at hxc
          have hyl := getD_lt (b := 10) (by decide) hn'.1 q
          obtain ⟨y, hye⟩ : ∃ y, y = l'.getD q 0 := ⟨_, rfl⟩
          rw [← hye] at hyc hyl
          have hzl := HSB2.out (i + q) (Nat.le_refl _)
          have hzc : wr.cell? ⟨w.heap.size, i + q, none⟩ = some (.int .i64 (s'.getD (i + q) 0 : Nat)) := by
            rw [hB'.cell, blkOf_get .i64 s' (by rw [HS'.out]; omega)]
          have hzf := hB'.free (i + q)
          have hxy : x * y ≤ 81 := Nat.le_trans (Nat.mul_le_mul (by omega : x ≤ 9) (by omega : y ≤ 9)) (by decide)
          have hadd := val_set_add 10 s' (i + q) (x * y) (by rw [HS'.out]; omega)
          have hv3 : val 10 (s'.set (i + q) (s'.getD (i + q) 0 + x * y)) = val 10 (l.take i) * M + 10 ^ i * (x * val 10 (l'.take (q + 1))) := by
            rw [hadd, HV2.out, val_take_next, ← hye, Nat.mul_add x, Nat.mul_add (10 ^ i), Nat.pow_add, Nat.mul_assoc, Nat.mul_left_comm x, Nat.add_assoc]
          have hself := set_get_self s' (i + q) (s'.getD (i + q) 0 + x * y) (by rw [HS'.out]; omega)
          have hb1 : ∀ j, j < i + (q + 1) → (s'.set (i + q) (s'.getD (i + q) 0 + x * y)).getD j 0 ≤ 81 * i + 81 := by
            intro j hj
            by_cases hji : i + q = j
            · subst hji; rw [hself]; omega
            · rw [set_get_ne _ _ _ _ hji]; exact HSB1.out j (by omega)
          have hb2 : ∀ j, i + (q + 1) ≤ j → (s'.set (i + q) (s'.getD (i + q) 0 + x * y)).getD j 0 ≤ 81 * i := by
            intro j hj
            rw [set_get_ne _ _ _ _ (by omega)]; exact HSB2.out j (by omega)
          have hB3 : ∀ W : World, Blk W w.heap.size 3 (blkOf .i64 s') → Blk (W.setCell ⟨w.heap.size, i + q, none⟩ (.int .i64 (s'.getD (i + q) 0 + x * y : Nat))) w.heap.size 3 (blkOf .i64 (s'.set (i + q) (s'.getD (i + q) 0 + x * y))) := fun W hW => by rw [← blkOf_set]; exact hW.set_ _ _
          obtain ⟨z, hze⟩ : ∃ z, z = s'.getD (i + q) 0 := ⟨_, rfl⟩
          rw [← hze] at hzl hzc hv3 hb1 hb2 hB3
          obtain ⟨p, hpe⟩ : ∃ p, p = x * y := ⟨_, rfl⟩
          have hpI : (x : Int) * (y : Int) = (p : Int) := by rw [hpe]; exact (Int.natCast_mul x y).symm
          rw [← hpe] at hxy hv3 hb1 hb2 hB3
          have K1 := Lib.hid hv3
          have K2 := Lib.hid hb1
          have K3 := Lib.hid hb2
          have K4 := Lib.hid hB3
          clear hv3 hb1 hb2 hB3 hself hadd hye hze hpe
          have hi0 : (0 : Int) ≤ (i : Int) := by omega
          have hi1 : (i : Int) < (l.length : Int) := by omega
          have hi2 : (0 : Int) ≤ (q : Int) := by omega
          have hi3 : (q : Int) < (l'.length : Int) := by omega
          have hi4 : (0 : Int) ≤ (i : Int) + (q : Int) := by omega
          have hi5 : (i : Int) + (q : Int) < (L : Int) := by omega
          have hws1 : IntKind.i64.wrap ((i : Int) + (q : Int)) = (i : Int) + (q : Int) := by rw [IntKind.wrap_i64]; omega
          have hts1 : ((i : Int) + (q : Int)).toNat = i + q := by omega
          have hws2 : IntKind.i64.wrap (p : Int) = (p : Int) := by rw [IntKind.wrap_i64]; omega
          have hws3 : IntKind.i64.wrap ((z : Int) + (p : Int)) = (z : Int) + (p : Int) := by rw [IntKind.wrap_i64]; omega
          go_wp2
          go_region
          have hB4 := K4.out wr hB'
          have hb4 : Below w.heap.size w ((wr.setCell ⟨w.heap.size, i + q, none⟩ (.int .i64 ((z : Int) + (p : Int)))).drew) := (hbw'.setCell (p := ⟨w.heap.size, i + q, none⟩) (Nat.le_refl _) _).drew
          have hs4 : ((wr.setCell ⟨w.heap.size, i + q, none⟩ (.int .i64 ((z : Int) + (p : Int)))).drew).heap.size = w.heap.size + 1 := by
            rw [← HWS'.out]; simp [World.setCell]
          rw [show ((z + p : Nat) : Int) = (z : Int) + (p : Int) by omega] at hB4
          have H4 := Lib.hid hs4
          clear hs4 hws1 hts1 hws2 hws3 hpI hzc hzf
          go_wp2
          go_roundw
          case rel => exact ⟨q + 1, s'.set (i + q) (z + p), by go_num, by omega, by rw [List.length_set]; exact HS'.out, K2.out, K3.out, K1.out, hB4, hb4, H4.out⟩
          case measure => simp [intOf]; omega
        · have hqe : q = l'.length := by omega
          have hv3 : val 10 s' = val 10 (l.take (i + 1)) * M := by
            rw [HV2.out, hqe, List.take_length, HV'.out, val_take_next, ← HXE.out, Nat.add_mul, Nat.mul_assoc]
          have hb3 : ∀ j, s'.getD j 0 ≤ 81 * (i + 1) := fun j => by
            rcases Nat.lt_or_ge j (i + q) with h1 | h1
            · have := HSB1.out j h1; omega
            · have := HSB2.out j h1; omega
          have K1 := Lib.hid hv3
          have K2 := Lib.hid hb3
          clear hv3 hb3 hqe
          go_wp2
          go_roundw
          case rel => exact ⟨i + 1, s', by go_num, by omega, HS'.out, K2.out, K1.out, hB', hbw', HWS'.out⟩
          case measure => simp [intOf]; omega
    · have hv1 : val 10 s = N * M := by rw [HVs.out, List.take_of_length_le (by omega), HV.out]
      obtain ⟨C, hC⟩ : ∃ C, C = 81 * l.length := ⟨_, rfl⟩
      have hC1 : C ≤ 32400000 := by omega
      have hsC : ∀ j, s.getD j 0 ≤ C := fun j => by have := HSB.out j; rw [hC]; omega
      have K1 := Lib.hid hv1
      have K2 := Lib.hid hsC
      clear hv1 hsC hC
      obtain ⟨wo, rfl⟩ : ∃ wo : World, wo = wr := ⟨_, rfl⟩
      go_wp2
      go_loopw [8] (fun t wi => ∃ (q : Nat) (s' : List Nat), t = .int .i64 q ∧ q < L ∧ s'.length = L ∧ (∀ j, j < q → s'.getD j 0 < 10) ∧ s'.getD q 0 ≤ 2 * C ∧ (∀ j, q < j → s'.getD j 0 ≤ C) ∧ val 10 s' = N * M ∧ Blk wi w.heap.size 3 (blkOf .i64 s') ∧ Below w.heap.size w wi) (fun t _ => L - (intOf t).toNat)
      case atStart => exact ⟨0, s, rfl, by omega, HS.out, fun j hj => by omega, by have := K2.out 0; omega, fun j _ => K2.out j, K1.out, hB, hbw⟩
      case round =>
        obtain ⟨q, s', rfl, hq, hsl', hsb1, hsb2, hsb3, hval', hB', hbw'⟩ := hrel
        have HS' := Lib.hid hsl'
        have HSB1 := Lib.hid hsb1
        have HSB3 := Lib.hid hsb3
        have HV2 := Lib.hid hval'
        clear hsl' hsb1 hsb3 hval'
        by_cases hql : q + 1 < L
        · have hxc : wr.cell? ⟨w.heap.size, q, none⟩ = some (.int .i64 (s'.getD q 0 : Nat)) := by rw [hB'.cell, blkOf_get .i64 s' (by rw [HS'.out]; omega)]
          have hyc : wr.cell? ⟨w.heap.size, q + 1, none⟩ = some (.int .i64 (s'.getD (q + 1) 0 : Nat)) := by rw [hB'.cell, blkOf_get .i64 s' (by rw [HS'.out]; omega)]
          have hxf := hB'.free q
          have hyf := hB'.free (q + 1)
          have hyl := HSB3.out (q + 1) (by omega)
          have hself1 := set_get_self s' (q + 1) (s'.getD (q + 1) 0 + s'.getD q 0 / 10) (by rw [HS'.out]; omega)
          have hv1 := val_set_add 10 s' (q + 1) (s'.getD q 0 / 10) (by rw [HS'.out]; omega)
          have hv2 := val_set 10 (s'.set (q + 1) (s'.getD (q + 1) 0 + s'.getD q 0 / 10)) q (s'.getD q 0 % 10) (by rw [List.length_set, HS'.out]; omega)
          rw [set_get_ne _ _ _ _ (by omega : q + 1 ≠ q), hv1] at hv2
          have hself2 := set_get_self (s'.set (q + 1) (s'.getD (q + 1) 0 + s'.getD q 0 / 10)) q (s'.getD q 0 % 10) (by rw [List.length_set, HS'.out]; omega)
          have hvn : val 10 ((s'.set (q + 1) (s'.getD (q + 1) 0 + s'.getD q 0 / 10)).set q (s'.getD q 0 % 10)) = N * M := by
            rw [← HV2.out]
            have e := Nat.mod_add_div (s'.getD q 0) 10
            have e2 : 10 ^ q * (s'.getD q 0 % 10) + 10 ^ (q + 1) * (s'.getD q 0 / 10) = 10 ^ q * s'.getD q 0 := by
              rw [Nat.pow_succ, Nat.mul_assoc, ← Nat.mul_add, e]
            omega
          have hn1 : ∀ j, j < q + 1 → ((s'.set (q + 1) (s'.getD (q + 1) 0 + s'.getD q 0 / 10)).set q (s'.getD q 0 % 10)).getD j 0 < 10 := by
            intro j hj
            by_cases hjq : q = j
            · subst hjq; rw [hself2]; omega
            · rw [set_get_ne _ _ _ _ hjq, set_get_ne _ _ _ _ (by omega)]; exact HSB1.out j (by omega)
          have hn2 : ((s'.set (q + 1) (s'.getD (q + 1) 0 + s'.getD q 0 / 10)).set q (s'.getD q 0 % 10)).getD (q + 1) 0 ≤ 2 * C := by
            rw [set_get_ne _ _ _ _ (by omega), hself1]; omega
          have hn3 : ∀ j, q + 1 < j → ((s'.set (q + 1) (s'.getD (q + 1) 0 + s'.getD q 0 / 10)).set q (s'.getD q 0 % 10)).getD j 0 ≤ C := by
            intro j hj
            rw [set_get_ne _ _ _ _ (by omega), set_get_ne _ _ _ _ (by omega)]; exact HSB3.out j (by omega)
          have hB3 : ∀ W : World, Blk W w.heap.size 3 (blkOf .i64 s') → Blk (W.setCell ⟨w.heap.size, q + 1, none⟩ (.int .i64 (s'.getD (q + 1) 0 + s'.getD q 0 / 10 : Nat))) w.heap.size 3 (blkOf .i64 (s'.set (q + 1) (s'.getD (q + 1) 0 + s'.getD q 0 / 10))) := fun W hW => by rw [← blkOf_set]; exact hW.set_ _ _
          have hB4 : ∀ W : World, Blk W w.heap.size 3 (blkOf .i64 (s'.set (q + 1) (s'.getD (q + 1) 0 + s'.getD q 0 / 10))) → Blk (W.setCell ⟨w.heap.size, q, none⟩ (.int .i64 (s'.getD q 0 % 10 : Nat))) w.heap.size 3 (blkOf .i64 ((s'.set (q + 1) (s'.getD (q + 1) 0 + s'.getD q 0 / 10)).set q (s'.getD q 0 % 10))) := fun W hW => by rw [← blkOf_set]; exact hW.set_ _ _
          obtain ⟨x, hxe⟩ : ∃ x, x = s'.getD q 0 := ⟨_, rfl⟩
          obtain ⟨y, hye⟩ : ∃ y, y = s'.getD (q + 1) 0 := ⟨_, rfl⟩
          rw [← hxe] at hsb2
          have hyl2 : y ≤ C := by rw [hye]; exact hyl
          rw [← hxe] at hxc hvn hn1 hn2 hn3 hB3 hB4
          rw [← hye] at hyc hvn hn1 hn2 hn3 hB3 hB4
          have K3 := Lib.hid hvn
          have K4 := Lib.hid hn1
          have K5 := Lib.hid hn2
          have K6 := Lib.hid hn3
          have K7 := Lib.hid hB3
          have K8 := Lib.hid hB4
          clear hvn hn1 hn2 hn3 hB3 hB4 hself1 hself2 hv1 hv2 hxe hye hyl
          have hi0 : (0 : Int) ≤ (q : Int) := by omega
          have hi1 : (q : Int) < (L : Int) := by omega
          have hi2 : (0 : Int) ≤ (q : Int) + 1 := by omega
          have hi3 : (q : Int) + 1 < (L : Int) := by omega
          have hws1 : IntKind.i64.wrap ((q : Int) + 1) = (q : Int) + 1 := by rw [IntKind.wrap_i64]; omega
          have hts1 : ((q : Int) + 1).toNat = q + 1 := by omega
          have htd : (x : Int).tdiv 10 = (x : Int) / 10 := by rw [Int.tdiv_eq_ediv_of_nonneg (by omega)]
          have hws2 : IntKind.i64.wrap ((x : Int) / 10) = (x : Int) / 10 := by rw [IntKind.wrap_i64]; omega
          have hws3 : IntKind.i64.wrap ((y : Int) + (x : Int) / 10) = (y : Int) + (x : Int) / 10 := by rw [IntKind.wrap_i64]; omega
          go_wp2
          go_region
          have hB5 := K7.out wr hB'
          rw [show ((y + x / 10 : Nat) : Int) = (y : Int) + (x : Int) / 10 by omega] at hB5
          have hb5 : Below w.heap.size w ((wr.setCell ⟨w.heap.size, q + 1, none⟩ (.int .i64 ((y : Int) + (x : Int) / 10))).drew) := (hbw'.setCell (p := ⟨w.heap.size, q + 1, none⟩) (Nat.le_refl _) _).drew
          generalize hW2 : (wr.setCell ⟨w.heap.size, q + 1, none⟩ (.int .i64 ((y : Int) + (x : Int) / 10))).drew = W2 at *
          have hB5' : Blk W2 w.heap.size 3 (blkOf .i64 (s'.set (q + 1) (y + x / 10))) := by rw [← hW2]; exact hB5
          have hxc2 : W2.cell? ⟨w.heap.size, q, none⟩ = some (.int .i64 (x : Nat)) := by rw [← hW2]; exact (World.cell?_setCell_other _ _ _ _ (by intro e; injection e; omega)).trans hxc
          have hxf2 := hB5'.free q
          have hB6 := K8.out W2 hB5'
          rw [show ((x % 10 : Nat) : Int) = (x : Int) % 10 by omega] at hB6
          have hb6 := hb5.setCell (p := ⟨w.heap.size, q, none⟩) (Nat.le_refl _) (.int .i64 ((x : Int) % 10))
          clear hW2 hB5 hws1 hts1 hws2 hws3 htd hxc hyc hxf hyf
          go_wp2
          go_roundw
          case rel => exact ⟨q + 1, (s'.set (q + 1) (y + x / 10)).set q (x % 10), by go_num, by omega, by rw [List.length_set, List.length_set]; exact HS'.out, K4.out, K5.out, K6.out, K3.out, hB6, hb6⟩
          case measure => simp [intOf]; omega
        · have hqe : q = L - 1 := by omega
          have hlt : N * M < 10 ^ (L - 1) := by
            have h1 := val_lt (b := 10) (by decide) hn.1
            have h2 := val_lt (b := 10) (by decide) hn'.1
            rw [HV.out] at h1
            rw [HV'.out] at h2
            have e : L - 1 = l.length + l'.length := by have := HLL.out; omega
            rw [e, Nat.pow_add]
            exact Nat.mul_lt_mul'' h1 h2
          have hz : s'.getD q 0 = 0 := by
            have h1 := val_take_succ 10 s' q (by rw [HS'.out]; omega)
            rw [List.take_of_length_le (by rw [HS'.out]; omega), HV2.out] at h1
            rcases Nat.eq_zero_or_pos (s'.getD q 0) with h2 | h2
            · exact h2
            · have h3 : 10 ^ q * 1 ≤ 10 ^ q * s'.getD q 0 := Nat.mul_le_mul_left _ h2
              rw [← hqe] at hlt
              omega
          have hall : ∀ d ∈ s', d < 10 := by
            intro d hd
            obtain ⟨j, hj, rfl⟩ := List.getElem_of_mem hd
            have e : s'.getD j 0 = s'[j] := by simp [List.getD, hj]
            rw [← e]
            rcases Nat.lt_or_ge j q with h1 | h1
            · exact HSB1.out j h1
            · have : j = q := by rw [HS'.out] at hj; omega
              rw [this, hz]; decide
          have T := trimD_any (some ⟨w.heap.size, 0, none⟩) L L s' wr HS'.out (blkOf_arr hB') hall (by omega) (Nat.le_refl _)
          rw [HV2.out] at T
          have HT := Lib.hid T
          clear T hz hall hlt hqe
          go_wp2_with fail
          refine HT.out.mono ?_
          rintro e w1 ⟨v, rfl, hD, hb1⟩
          go_wp2
          go_ret
          exact ⟨_, rfl, hD.more hL2, below_step hbw' hb1⟩
end Go.Proofs.Ythionbkdlmiaoaa
