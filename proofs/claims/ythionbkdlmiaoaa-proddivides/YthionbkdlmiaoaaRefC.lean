/-
  Contracts of the document's own arithmetic in decimal digits: Of, Add, Sub.
-/
import Derived.Test.YthionbkdlmiaoaaRefB
namespace Go.Proofs.Ythionbkdlmiaoaa
set_option linter.unusedVariables false
open Go.RowKit

set_option maxHeartbeats 1000000 in
/-- 'Of' of the document: of limbs. -/
theorem ofD_any (A : Option Addr) (n c : Nat) (l : List Nat) (w : World) (hln : l.length = n) (hr : Row .u32 w A l) (hb : ∀ x ∈ l, x < 4294967296) (hn : n ≤ 80000) :
    Calls Try.prog 15 #[.slice A n c] w (RetD (10 * n) (val 4294967296 l) w) := by
  have HL := Lib.hid hln
  clear hln
  go_enter Try.func15, Try.ntmps15
  go_wp2
  go_loopw [3, 4] (fun v t wr => ∃ k : Nat, k ≤ n ∧ t = .int .i64 ((k : Int) - 1) ∧ IsD wr v (10 * (n - k)) (val 4294967296 (l.drop k)) ∧ Below w.heap.size w wr) (fun _ t _ => (intOf t + 1).toNat)
  case atStart => exact ⟨n, Nat.le_refl _, rfl, ⟨[], ⟨_, 0, rfl, Arr.empty, by simp⟩, Norm.nil _, by rw [← HL.out, List.drop_length]; rfl, by simp⟩, below_new _ _⟩
  case round =>
    obtain ⟨j, hj, rfl, hD, hbw⟩ := hrel
    by_cases hj0 : j = 0
    · subst hj0
      rw [List.drop_zero] at hD
      go_wp2
      go_ret
      exact ⟨_, rfl, hD, hbw⟩
    · obtain ⟨i, rfl⟩ : ∃ i, j = i + 1 := ⟨j - 1, by omega⟩
      rw [show ((i + 1 : Nat) : Int) - 1 = (i : Int) by omega]
      have hil : i < l.length := by rw [HL.out]; omega
      obtain ⟨ad, rfl, hab, hx⟩ := (hr.below hbw).at_ hil
      have hx1 := lt_of_mem_getD hb hil
      have T := fun w' (h : IsD w' u3 (10 * (n - (i + 1))) (val 4294967296 (l.drop (i + 1)))) => timesD_any u3 _ _ 4294967296 (l.getD i 0) w' h (by omega) (by omega) hx1
      have hv : val 4294967296 (l.drop (i + 1)) * 4294967296 + l.getD i 0 = val 4294967296 (l.drop i) := by rw [val_drop _ _ _ hil]; omega
      rw [hv] at T
      obtain ⟨x, hxe⟩ : ∃ x, x = l.getD i 0 := ⟨_, rfl⟩
      rw [← hxe] at hx hx1 T
      have HT := Lib.hid T
      clear hxe T hv hj0
      have hi0 : (0 : Int) ≤ (i : Int) := by omega
      have hin : (i : Int) < (n : Int) := by omega
      go_wp2_with fail
      refine (HT.out _ hD).mono ?_
      rintro e w1 ⟨v, rfl, hD1, hb1⟩
      go_wp2
      go_roundw
      case rel => exact ⟨i, by omega, by go_num, hD1.more (by omega), below_step hbw hb1⟩
      case measure => simp [intOf]

/-- One more digit of a sum. -/
theorem addD_step (b i x y cy ov lv lv' T : Nat) (h : ov + b ^ i * (cy + (x + b * lv) + (y + b * lv')) = T) :
    ov + b ^ i * ((x + y + cy) % b) + b ^ (i + 1) * ((x + y + cy) / b + lv + lv') = T := by
  rw [← h, Nat.pow_succ, Nat.mul_assoc, Nat.add_assoc, ← Nat.mul_add]
  congr 2
  have := Nat.mod_add_div (x + y + cy) b
  rw [Nat.mul_add, Nat.mul_add]
  omega

set_option maxHeartbeats 2000000 in
/-- 'Add' of the document. -/
theorem addD_any (v u : Value) (k m N M : Nat) (w : World) (h : IsD w v k N) (h' : IsD w u m M) (hk : k ≤ 900000) (hm : m ≤ 900000) :
    Calls Try.prog 18 #[v, u] w (RetD (max k m + 1) (N + M) w) := by
  obtain ⟨l, ⟨A, c, rfl, hr, hlc⟩, hn, hv, hlk⟩ := h
  obtain ⟨l', ⟨A', c', rfl, hr', hlc'⟩, hn', hv', hlk'⟩ := h'
  obtain ⟨i0, hi0, hz0, hz1, hz2⟩ := info_parts int_info
  obtain ⟨q, hq⟩ : ∃ q, q = max l.length l'.length := ⟨_, rfl⟩
  have hq1 : l.length ≤ q := by omega
  have hq2 : l'.length ≤ q := by omega
  have hq3 : q ≤ max k m := by omega
  have hq4 : q ≤ 900000 := by omega
  have HV := Lib.hid hv
  have HV' := Lib.hid hv'
  have HQ := Lib.hid hq
  clear hv hv' hq
  go_enter Try.func18, Try.ntmps18
  go_wp2
  go_loopw [5, 6, 7] (fun o cr t wr => ∃ (i cy : Nat) (out : List Nat), t = .int .i64 i ∧ cr = .int .i64 cy ∧ cy ≤ 1 ∧ out.length = i ∧ i ≤ q + 1 ∧ (q < i → cy = 0) ∧ (∀ d ∈ out, d < 10) ∧
      val 10 out + 10 ^ i * (cy + val 10 (l.drop i) + val 10 (l'.drop i)) = N + M ∧ wr.ownsRow w.heap.size 3 1 o i (cellsOf .i64 out) ∧ Below w.heap.size w wr) (fun _ cr t _ => (q - (intOf t).toNat) * 2 + (intOf cr).toNat)
  case atStart => exact ⟨0, 0, [], rfl, rfl, by omega, rfl, by omega, fun _ => rfl, by simp, by rw [← HV.out, ← HV'.out]; simp [val], World.ownsRow_lit w #[] 0 (Nat.le_refl _) (by decide) rfl, below_new _ _⟩
  case round =>
    obtain ⟨i, cy, out, rfl, rfl, hcy, hol, hi, hiq, hod, hval, hown, hbw⟩ := hrel
    have hrw := hr.below hbw
    have hrw' := hr'.below hbw
    have HO := Lib.hid hol
    have HV2 := Lib.hid hval
    have HIQ := Lib.hid hiq
    clear hol hval hiq
    by_cases hgo : i < q ∨ 0 < cy
    · have hiq2 : i ≤ q := by rcases Nat.lt_or_ge q i with h1 | h1; have := HIQ.out h1; omega; exact h1
      have hx1 := getD_lt (b := 10) (by decide) hn.1 i
      have hy1 := getD_lt (b := 10) (by decide) hn'.1 i
      have AT := Lib.hid (fun w' (hr' : Arr 3 .i64 w' A l) => at_any A l.length c i l w' rfl hr' (by omega) (by omega))
      have AT' := Lib.hid (fun w' (hr'' : Arr 3 .i64 w' A' l') => at_any A' l'.length c' i l' w' rfl hr'' (by omega) (by omega))
      have hval2 := HV2.out
      rw [val_drop_next 10 l, val_drop_next 10 l'] at hval2
      have hxz : l.length ≤ i → l.getD i 0 = 0 := fun h => by simp [List.getD, List.getElem?_eq_none h]
      have hyz : l'.length ≤ i → l'.getD i 0 = 0 := fun h => by simp [List.getD, List.getElem?_eq_none h]
      obtain ⟨x, hx⟩ : ∃ x, x = l.getD i 0 := ⟨_, rfl⟩
      obtain ⟨y, hy⟩ : ∃ y, y = l'.getD i 0 := ⟨_, rfl⟩
      rw [← hx] at hx1 AT hval2 hxz
      rw [← hy] at hy1 AT' hval2 hyz
      have hcy2 : (x + y + cy) / 10 ≤ 1 := by omega
      have hcy3 : q < i + 1 → (x + y + cy) / 10 = 0 := fun h => by have h1 := hxz (by omega); have h2 := hyz (by omega); omega
      have hval3 := addD_step 10 i x y cy _ _ _ _ hval2
      have hval4 : val 10 (out ++ [(x + y + cy) % 10]) + 10 ^ (i + 1) * ((x + y + cy) / 10 + val 10 (l.drop (i + 1)) + val 10 (l'.drop (i + 1))) = N + M := by rw [val_snoc, HO.out]; exact hval3
      have HV3 := Lib.hid hval4
      have HC3 := Lib.hid hcy3
      have HMS : Hid ((q - (i + 1)) * 2 + (x + y + cy) / 10 < (q - i) * 2 + cy) := by
        show _ < _
        rcases Nat.lt_or_ge i q with h1 | h1
        · omega
        · have h2 := hxz (by omega); have h3 := hyz (by omega); omega
      clear hval2 hval3 hval4 hx hy hxz hyz hcy3
      have hown2 := hown
      rw [← HO.out] at hown2
      have HG := Lib.hid hgo
      clear hgo
      have step : ∀ (v' : Value) (w1 : World), w1.ownsRow w.heap.size 3 1 v' (i + 1) (cellsOf .i64 out ++ [.int .i64 (((x : Int) + (y : Int) + (cy : Int)) % 10)]) → (wr.alloc (.cells #[.int .i64 (((x : Int) + (y : Int) + (cy : Int)) % 10)] 3)).grownBy w1 u5.ownBlock →
          (out ++ [(x + y + cy) % 10]).length = i + 1 ∧ w1.ownsRow w.heap.size 3 1 v' (i + 1) (cellsOf .i64 (out ++ [(x + y + cy) % 10])) ∧ Below w.heap.size w w1 := by
        intro v' w1 hown1 hgrow
        have hown3 := hown1
        rw [← HO.out] at hown3
        have R := own_snoc (d := (x + y + cy) % 10) hown2 hbw (Nat.le_refl _) hown3 (by omega) hgrow
        have hlen : (out ++ [(x + y + cy) % 10]).length = i + 1 := by rw [List.length_append, HO.out]; rfl
        rw [hlen] at R
        exact ⟨hlen, R⟩
      have STEP := Lib.hid step
      clear step hown2
      by_cases hil : i < l.length
      · go_wp2_with fail
        refine (AT.out _ hrw).mono ?_
        rintro e w' ⟨rfl, rfl⟩
        go_wp2_with fail
        refine (AT'.out _ hrw').mono ?_
        rintro e w' ⟨rfl, rfl⟩
        go_wp2_with (at_builtin; refine wpList_append_own _ rfl (.tmp 35) (.tmp 38) 28 rfl w.heap.size 3 i0 (.int .i64 0) 1 8 Try.underlying28 hi0 hz0 hz1 hz2 rfl (by decide) u5 i (cellsOf .i64 out) rfl (hown.alloc _) ⟨wr.heap.size, 0, none⟩ 1 1 [.int .i64 (((x : Int) + (y : Int) + (cy : Int)) % 10)] rfl rfl one_src one_cell (by unfold maxLen; omega) (by omega) (by have := hbw.size; simp; omega) ?_; intro v' w1 hown1 hgrow _)
        have R := STEP.out v' w1 hown1 hgrow
        go_roundw
        case rel => exact ⟨i + 1, (x + y + cy) / 10, out ++ [(x + y + cy) % 10], by go_num, by go_num, hcy2, R.1, by omega, HC3.out, snoc_lt hod (Nat.mod_lt _ (by decide)), HV3.out, R.2.1, R.2.2⟩
        case measure => have := HMS.out; simp [intOf]; omega
      · have hn1 : ¬ ((i : Int) < (l.length : Int)) := by omega
        by_cases hil' : i < l'.length
        · go_wp2_with fail
          refine (AT.out _ hrw).mono ?_
          rintro e w' ⟨rfl, rfl⟩
          go_wp2_with fail
          refine (AT'.out _ hrw').mono ?_
          rintro e w' ⟨rfl, rfl⟩
          go_wp2_with (at_builtin; refine wpList_append_own _ rfl (.tmp 35) (.tmp 38) 28 rfl w.heap.size 3 i0 (.int .i64 0) 1 8 Try.underlying28 hi0 hz0 hz1 hz2 rfl (by decide) u5 i (cellsOf .i64 out) rfl (hown.alloc _) ⟨wr.heap.size, 0, none⟩ 1 1 [.int .i64 (((x : Int) + (y : Int) + (cy : Int)) % 10)] rfl rfl one_src one_cell (by unfold maxLen; omega) (by omega) (by have := hbw.size; simp; omega) ?_; intro v' w1 hown1 hgrow _)
          have R := STEP.out v' w1 hown1 hgrow
          go_roundw
          case rel => exact ⟨i + 1, (x + y + cy) / 10, out ++ [(x + y + cy) % 10], by go_num, by go_num, hcy2, R.1, by omega, HC3.out, snoc_lt hod (Nat.mod_lt _ (by decide)), HV3.out, R.2.1, R.2.2⟩
          case measure => have := HMS.out; simp [intOf]; omega
        · have hn2 : ¬ ((i : Int) < (l'.length : Int)) := by omega
          have hcy0 : 0 < cy := by have := HG.out; have := HQ.out; omega
          go_wp2_with fail
          refine (AT.out _ hrw).mono ?_
          rintro e w' ⟨rfl, rfl⟩
          go_wp2_with fail
          refine (AT'.out _ hrw').mono ?_
          rintro e w' ⟨rfl, rfl⟩
          go_wp2_with (at_builtin; refine wpList_append_own _ rfl (.tmp 35) (.tmp 38) 28 rfl w.heap.size 3 i0 (.int .i64 0) 1 8 Try.underlying28 hi0 hz0 hz1 hz2 rfl (by decide) u5 i (cellsOf .i64 out) rfl (hown.alloc _) ⟨wr.heap.size, 0, none⟩ 1 1 [.int .i64 (((x : Int) + (y : Int) + (cy : Int)) % 10)] rfl rfl one_src one_cell (by unfold maxLen; omega) (by omega) (by have := hbw.size; simp; omega) ?_; intro v' w1 hown1 hgrow _)
          have R := STEP.out v' w1 hown1 hgrow
          go_roundw
          case rel => exact ⟨i + 1, (x + y + cy) / 10, out ++ [(x + y + cy) % 10], by go_num, by go_num, hcy2, R.1, by omega, HC3.out, snoc_lt hod (Nat.mod_lt _ (by decide)), HV3.out, R.2.1, R.2.2⟩
          case measure => have := HMS.out; simp [intOf]; omega
    · have hil : ¬ i < l.length := by omega
      have hil' : ¬ i < l'.length := by omega
      have hcy0 : cy = 0 := by omega
      subst hcy0
      have hfin : val 10 out = N + M := by
        have h2 := HV2.out
        rw [List.drop_of_length_le (by omega), List.drop_of_length_le (by omega)] at h2
        simpa [val] using h2
      have hI := own_isL (k := .i64) (l := out) (by rw [HO.out]; exact hown)
      obtain ⟨A1, c1, rfl, hr1, hc1⟩ := hI
      have T := trimD_any A1 out.length c1 out wr rfl hr1 hod (by rw [HO.out]; omega) hc1
      rw [hfin] at T
      have HT := Lib.hid T
      clear T hfin hgo
      go_wp2_with fail
      refine HT.out.mono ?_
      rintro e w1 ⟨v, rfl, hD, hb1⟩
      go_wp2
      go_ret
      exact ⟨_, rfl, hD.more (by rw [HO.out]; omega), below_step hbw hb1⟩

set_option maxHeartbeats 2000000 in
/-- 'Sub' of the document, where it does not borrow. -/
theorem subD_any (v u : Value) (k m N M : Nat) (w : World) (h : IsD w v k N) (h' : IsD w u m M) (hk : k ≤ 900000) (hm : m ≤ 900000) (hNM : M ≤ N) :
    Calls Try.prog 23 #[v, u] w (RetD k (N - M) w) := by
  obtain ⟨l, ⟨A, c, rfl, hr, hlc⟩, hn, hv, hlk⟩ := h
  obtain ⟨l', ⟨A', c', rfl, hr', hlc'⟩, hn', hv', hlk'⟩ := h'
  obtain ⟨i0, hi0, hz0, hz1, hz2⟩ := info_parts int_info
  have hll : l'.length ≤ l.length := by
    rcases Nat.lt_or_ge l.length l'.length with h1 | h1
    · have := hn.lt_of_length (by decide) hn' h1
      rw [hv, hv'] at this
      omega
    · exact h1
  have HV := Lib.hid hv
  have HV' := Lib.hid hv'
  clear hv hv'
  go_enter Try.func23, Try.ntmps23
  go_wp2
  go_loopw [5, 6, 7] (fun o cr t wr => ∃ (i cy : Nat) (out : List Nat), t = .int .i64 i ∧ cr = .int .i64 cy ∧ cy ≤ 1 ∧ out.length = i ∧ i ≤ l.length ∧ (∀ d ∈ out, d < 10) ∧
      val 10 out + val 10 (l'.take i) = val 10 (l.take i) + 10 ^ i * cy ∧ wr.ownsRow w.heap.size 3 1 o i (cellsOf .i64 out) ∧ Below w.heap.size w wr) (fun _ _ t _ => l.length - (intOf t).toNat)
  case atStart => exact ⟨0, 0, [], rfl, rfl, by omega, rfl, by omega, by simp, by simp [val], World.ownsRow_lit w #[] 0 (Nat.le_refl _) (by decide) rfl, below_new _ _⟩
  case round =>
    obtain ⟨i, cy, out, rfl, rfl, hcy, hol, hi, hod, hval, hown, hbw⟩ := hrel
    have hrw := hr.below hbw
    have hrw' := hr'.below hbw
    have HO := Lib.hid hol
    have HV2 := Lib.hid hval
    clear hol hval
    by_cases hil : i < l.length
    · obtain ⟨ad, rfl, hab, hcell⟩ := hrw.row.at_ hil
      have hx1 := getD_lt (b := 10) (by decide) hn.1 i
      have hy1 := getD_lt (b := 10) (by decide) hn'.1 i
      have AT' := Lib.hid (fun w' (hr'' : Arr 3 .i64 w' A' l') => at_any A' l'.length c' i l' w' rfl hr'' (by omega) (by omega))
      obtain ⟨x, hx⟩ : ∃ x, x = l.getD i 0 := ⟨_, rfl⟩
      obtain ⟨y, hy⟩ : ∃ y, y = l'.getD i 0 := ⟨_, rfl⟩
      rw [← hx] at hx1 hcell
      rw [← hy] at hy1 AT'
      have hown2 := hown
      rw [← HO.out] at hown2
      have hj0 : (0 : Int) ≤ (i : Int) := by omega
      have hj1 : (i : Int) < (l.length : Int) := by omega
      have step : ∀ (d z : Nat) (X : Int) (v' : Value) (w1 : World) (n : Nat), X = (d : Nat) → d + y + cy = x + 10 * z → w1.ownsRow w.heap.size 3 1 v' (i + 1) (cellsOf .i64 out ++ [.int .i64 X]) → ((wr.drewN n).alloc (.cells #[.int .i64 X] 3)).grownBy w1 u5.ownBlock →
          (out ++ [d]).length = i + 1 ∧ w1.ownsRow w.heap.size 3 1 v' (i + 1) (cellsOf .i64 (out ++ [d])) ∧ Below w.heap.size w w1 ∧ val 10 (out ++ [d]) + val 10 (l'.take (i + 1)) = val 10 (l.take (i + 1)) + 10 ^ (i + 1) * z := by
        intro d z X v' w1 n hX hdz hown1 hgrow
        have hown3 := hown1
        rw [← HO.out] at hown3
        have R := own_snoc (d := d) (wr := wr.drewN n) (l := out) hown2 (below_drewN hbw n) (Nat.le_refl _) hown3 hX hgrow
        have hlen : (out ++ [d]).length = i + 1 := by rw [List.length_append, HO.out]; rfl
        rw [hlen] at R
        refine ⟨hlen, R.1, R.2, ?_⟩
        rw [val_snoc, HO.out, val_take_next, val_take_next, ← hx, ← hy]
        exact sub_step 10 i d x y cy z _ _ _ HV2.out hdz
      have STEP := Lib.hid step
      clear step hown2 hx hy
      by_cases hlt : x < y + cy
      · have hneg : (x : Int) - (y : Int) - (cy : Int) < 0 := by omega
        go_wp2_with fail
        go_quiet ((go_at_call 41; exact Calls.quiet_of_same (flipped (AT'.out _ hrw'))))
        go_wp2_with (at_builtin; refine wpList_append_own _ rfl (.tmp 30) (.tmp 32) 28 rfl w.heap.size 3 i0 (.int .i64 0) 1 8 Try.underlying28 hi0 hz0 hz1 hz2 rfl (by decide) u5 i (cellsOf .i64 out) rfl (World.ownsRow.alloc (w := wr.drewN nq) hown _) ⟨wr.heap.size, 0, none⟩ 1 1 [.int .i64 ((x : Int) - (y : Int) - (cy : Int) + 10)] rfl rfl one_src one_cell (by unfold maxLen; omega) (by omega) (by have := hbw.size; simp; omega) ?_; intro v' w1 hown1 hgrow _)
        have R := STEP.out (x + 10 - y - cy) 1 _ v' w1 nq (by omega) (by omega) hown1 hgrow
        go_roundw
        case rel => exact ⟨i + 1, 1, out ++ [x + 10 - y - cy], by go_num, rfl, by omega, R.1, by omega, snoc_lt hod (by omega), R.2.2.2, R.2.1, R.2.2.1⟩
        case measure => simp [intOf]; omega
      · have hneg : ¬ ((x : Int) - (y : Int) - (cy : Int) < 0) := by omega
        go_wp2_with fail
        go_quiet ((go_at_call 41; exact Calls.quiet_of_same (flipped (AT'.out _ hrw'))))
        go_wp2_with (at_builtin; refine wpList_append_own _ rfl (.tmp 30) (.tmp 32) 28 rfl w.heap.size 3 i0 (.int .i64 0) 1 8 Try.underlying28 hi0 hz0 hz1 hz2 rfl (by decide) u5 i (cellsOf .i64 out) rfl (World.ownsRow.alloc (w := wr.drewN nq) hown _) ⟨wr.heap.size, 0, none⟩ 1 1 [.int .i64 ((x : Int) - (y : Int) - (cy : Int))] rfl rfl one_src one_cell (by unfold maxLen; omega) (by omega) (by have := hbw.size; simp; omega) ?_; intro v' w1 hown1 hgrow _)
        have R := STEP.out (x - y - cy) 0 _ v' w1 nq (by omega) (by omega) hown1 hgrow
        go_roundw
        case rel => exact ⟨i + 1, 0, out ++ [x - y - cy], by go_num, rfl, by omega, R.1, by omega, snoc_lt hod (by omega), R.2.2.2, R.2.1, R.2.2.1⟩
        case measure => simp [intOf]; omega
    · have hfin : val 10 out = N - M := by
        have h1 := HV2.out
        have hs1 := val_lt (b := 10) (by decide) hod
        rw [List.take_of_length_le (by omega), List.take_of_length_le (by omega), HV.out, HV'.out] at h1
        rw [HO.out] at hs1
        have h7 : cy = 0 := by
          rcases Nat.eq_zero_or_pos cy with h8 | h8
          · exact h8
          · have : 10 ^ i * 1 ≤ 10 ^ i * cy := Nat.mul_le_mul_left _ h8
            omega
        rw [h7] at h1
        omega
      have hI := own_isL (k := .i64) (l := out) (by rw [HO.out]; exact hown)
      obtain ⟨A1, c1, rfl, hr1, hc1⟩ := hI
      have T := trimD_any A1 out.length c1 out wr rfl hr1 hod (by rw [HO.out]; omega) hc1
      rw [hfin] at T
      have HT := Lib.hid T
      clear T hfin
      go_wp2_with fail
      refine HT.out.mono ?_
      rintro e w1 ⟨v, rfl, hD, hb1⟩
      go_wp2
      go_ret
      exact ⟨_, rfl, hD.more (by rw [HO.out]; omega), below_step hbw hb1⟩
end Go.Proofs.Ythionbkdlmiaoaa
