/-
  The laws of cpset: CpsetPlaces' walk.
-/
import Derived.Test.YtccbofaefpbhlaaDoorLawC
import Derived.Test.YtccbofaefpbhlaaDoorPlaceM
namespace Go.Proofs.YtccbofaefpbhlaaDoor
set_option linter.unusedVariables false
set_option maxRecDepth 20000
open Go.RowKit

theorem rightP_ok (r : Int × Int) : OkR (rightP r) := by
  have h1 := cutC_range r.1
  have h2 := cutC_range r.2
  unfold OkR rightP
  simp only
  omega
theorem rights_ok (L : List (Int × Int)) : ∀ r ∈ L.map rightP, OkR r := by
  intro r hr
  obtain ⟨x, _, rfl⟩ := List.mem_map.1 hr
  exact rightP_ok x
theorem rights_len (L : List (Int × Int)) : ((L.take 12).map rightP).length ≤ 12 := by rw [List.length_map, List.length_take]; omega

/-- 'At', where there is one. -/
theorem at_yes (S : List (Nat × Nat)) (v : Value) (i d : Nat) (w : World) (h : IsSet w v S) (hi : i < (charsS S).length) (hd : (charsS S).getD i 0 = d) : Calls Tryd.prog 40 #[v, .int .i64 (i : Int)] w (RetV (.tuple #[.int .i32 (d : Nat), .bool true]) w) := by
  obtain ⟨k, h1, h2, h3⟩ := span_of S i (by rw [← charsS_length]; exact hi)
  have h4 := charAt_get S h.good i k h1 h2 h3
  rw [← hd, ← h4]
  exact at_some S v i k w h h1 h2 h3
theorem at_no (S : List (Nat × Nat)) (v : Value) (i : Int) (w : World) (h : IsSet w v S) (hi : i < 0 ∨ ((charsS S).length : Int) ≤ i) : Calls Tryd.prog 40 #[v, .int .i64 i] w (RetV (.tuple #[.int .i32 0, .bool false]) w) :=
  at_none S v i w h (by rw [charsS_length] at hi; exact hi)
/-- How many are less than a character of the set. -/
theorem count_at {S : List (Nat × Nat)} (hg : Good 0 S) {i d : Nat} (hi : i < (charsS S).length) (hd : (charsS S).getD i 0 = d) : cntB S (d : Int) = i ∧ memI S (d : Int) = true ∧ d ≤ 1114111 := by
  have hr := charsS_rise S hg
  have hmem : memS S d = true := by rw [← charsS_mem S hg, ← hd]; exact getD_memL hi
  refine ⟨?_, by rw [memI_nat]; exact hmem, (hg.le hmem).1⟩
  · rw [cntB_count]
    have key := fun j hj => rise_count hr (d : Int) j hj
    rcases Nat.lt_trichotomy ((charsS S).countP fun x : Nat => decide ((x : Int) < (d : Int))) i with h | h | h
    · have h2 := rise_of_pairwise hr _ i h hi
      rw [hd] at h2
      exact absurd ((key _ (by omega)).1 (by omega)) (Nat.lt_irrefl _)
    · exact h
    · have h1 := (key i hi).2 h
      omega
/-- Where a number stands, or would stand. -/
theorem place_of {S : List (Nat × Nat)} (hg : Good 0 S) (x : Int) (k : Nat) (hk : cntB S x = k) :
    k ≤ (charsS S).length ∧ (k < (charsS S).length → x ≤ ((charsS S).getD k 0 : Nat)) ∧ (0 < k → ((charsS S).getD (k - 1) 0 : Int) < x) ∧ (memI S x = true → k < (charsS S).length ∧ ((charsS S).getD k 0 : Int) = x) := by
  have hr := charsS_rise S hg
  rw [cntB_count] at hk
  have key := fun j hj => rise_count hr x j hj
  have hle : k ≤ (charsS S).length := by rw [← hk]; exact List.countP_le_length
  refine ⟨hle, fun h => ?_, fun h => ?_, fun h => ?_⟩
  · have h1 : ¬ ((charsS S).getD k 0 : Int) < x := fun h0 => by
      have := (key k h).1 h0
      omega
    omega
  · exact (key (k - 1) (by omega)).2 (by omega)
  · rw [memI, Bool.and_eq_true, decide_eq_true_eq, ← charsS_mem S hg] at h
    obtain ⟨h0, hm⟩ := h
    obtain ⟨j, hj, e⟩ := mem_getD hm
    have hx : (x.toNat : Int) = x := by omega
    have := (count_at hg hj e).1
    rw [cntB_count, hx, hk] at this
    subst this
    exact ⟨hj, by rw [e]; exact hx⟩

set_option maxHeartbeats 2000000 in
theorem cpsetPlaces_walk (A : Option Addr) (n c : Nat) (L : List (Int × Int)) (i c0 : Int) (w : World) (he : EnvR w) (hL : L.length = n) (hr : PairIn w A L) (hnc : n ≤ c) (hnil : A = none → c = 0) (hn : n ≤ 9223372036854775807) :
    Calls Tryd.prog 5 #[.slice A n c, .int .i64 i, .int .i64 c0] w (RetV (.bool true) w) := by
  have HAW := Lib.hid (awake_any w he)
  have RI := Lib.hid (fun W (hW : Below w.heap.size w W) => right_any A n c L W hL (hr.below hW) hnc hnil hn)
  have hok := rights_ok (L.take 12)
  have hlen := rights_len L
  generalize (L.take 12).map rightP = M at *
  have ST : Hid (∀ A c W, Below w.heap.size w W → PairAt W A M → Calls Tryd.prog 24 #[.slice A M.length c] W (RetSet (inR M) W.heap.size W)) := Lib.hid (fun A c W hW hp => set_any A M.length c M W (he.kept hW) rfl hp hok (by omega))
  clear hok hlen hL hr hnc hnil he
  go_enter Tryd.func5, Tryd.ntmps5
  go_wp2_with fail
  refine HAW.out.mono ?_
  rintro e w1 ⟨rfl, y1⟩
  go_wp2_with fail
  refine (RI.out _ y1).mono ?_
  rintro e w2 ⟨u, rfl, hown, y2⟩
  have b2 := below_step y1 y2
  obtain ⟨A2, c2, rfl, hpa, _⟩ := own_pairAt hown
  have ST2 := Lib.hid (ST.out A2 c2 w2 b2 hpa)
  clear hown hpa ST RI HAW
  generalize M.length = m at *
  go_wp2_with fail
  refine ST2.out.mono ?_
  rintro e w3 ⟨v, S, rfl, hset, _, y3⟩
  have b3 := below_step b2 y3
  have hg := hset.good
  obtain ⟨ao, cp, rfl⟩ := hset.shape
  have hX := Blk.new w3 29 #[.slice ao S.length cp]
  have b4 := b3.alloc b3.size (.cells #[.slice ao S.length cp] 29)
  have hs4 := hset.alloc (.cells #[.slice ao S.length cp] 29)
  have CO := Lib.hid (count_any _ S _ hs4)
  rw [← charsS_length] at CO
  clear ST2 hset
  obtain ⟨g7, hg7⟩ : ∃ g7, g7 = w3.heap.size := ⟨_, rfl⟩
  rw [← hg7] at hX
  go_wp2_with fail
  rw [← hg7]
  clear hg7
  generalize w3.alloc (.cells #[.slice ao S.length cp] 29) = V at *
  have ATY := Lib.hid (fun W (hW : Below V.heap.size V W) i d h1 h2 => at_yes S _ i d W (hs4.below hW) h1 h2)
  have ATN := Lib.hid (fun W (hW : Below V.heap.size V W) i h1 => at_no S _ i W (hs4.below hW) h1)
  have HAS := Lib.hid (fun W (hW : Below V.heap.size V W) c b hb => has_any S _ c b W (hs4.below hW) hb)
  have IDX := Lib.hid (fun W (hW : Below V.heap.size V W) c h1 h2 => index_any S _ c W (hs4.below hW) h1 h2)
  have CTA := Lib.hid (fun i d h1 h2 => count_at hg (i := i) (d := d) h1 h2)
  have PLA := Lib.hid (fun x k hk => place_of hg x k hk)
  have hCb : (charsS S).length ≤ 1114113 := by
    have := hg.cnt_le (by decide)
    rw [charsS_length]; omega
  obtain ⟨C, hC⟩ : ∃ C, charsS S = C := ⟨_, rfl⟩
  rw [hC] at CO ATY ATN CTA PLA hCb
  clear hC hg hs4
  generalize S.length = sl at *
  refine CO.out.mono ?_
  rintro e w5 ⟨rfl, y5⟩
  have b5 := y5
  have k5 := (hX.on b5).cell0
  obtain ⟨q, hq⟩ : ∃ q, C.length = q := ⟨_, rfl⟩
  rw [hq] at ATY ATN CTA PLA hCb ⊢
  clear CO hq
  have hand := i64_and21' c0
  have htm : (c0 % 2097152).tmod 1114112 = cutC c0 := by rw [Int.tmod_eq_emod_of_nonneg (by omega)]; rfl
  obtain ⟨hx0, hx1⟩ := cutC_range c0
  generalize cutC c0 = a at *
  have hwr : IntKind.i32.wrap (a - 1) = a - 1 := by rw [IntKind.wrap_i32]; omega
  obtain ⟨k, hk⟩ : ∃ k : Nat, cntB S (a - 1) = k := ⟨_, rfl⟩
  have HKI := Lib.hid hk
  obtain ⟨p1, p2, p3, p4⟩ := PLA.out (a - 1) k hk
  have HP2 := Lib.hid p2
  have HP3 := Lib.hid p3
  have HP4 := Lib.hid p4
  have HIX := Lib.hid (fun W (hW : Below V.heap.size V W) => by have := IDX.out W hW (a - 1) (by omega) (by omega); rw [hk] at this; exact this)
  clear p2 p3 p4 hk
  obtain ⟨b, hb⟩ : ∃ b, memI S (a - 1) = b := ⟨_, rfl⟩
  have HB := Lib.hid (fun W (hW : Below V.heap.size V W) => HAS.out W hW (a - 1) b hb)
  rw [hb] at HP4
  clear hb
  by_cases hA : 0 ≤ i ∧ i < (q : Int)
  · obtain ⟨hi0, hiq⟩ := hA
    obtain ⟨j, rfl⟩ := Int.eq_ofNat_of_zero_le hi0
    have hjq : j < q := by omega
    obtain ⟨d, hd⟩ : ∃ d, C.getD j 0 = d := ⟨_, rfl⟩
    obtain ⟨e1, e2, e3⟩ := CTA.out j d hjq hd
    have A1 := Lib.hid (fun W hW => ATY.out W hW j d hjq hd)
    have A2 := Lib.hid (fun W hW => HAS.out W hW (d : Int) true e2)
    have A3 := Lib.hid (fun W hW => by have := IDX.out W hW (d : Int) (by omega) (by omega); rw [e1] at this; exact this)
    clear hd e1 e2 e3
    go_wp2_with fail
    refine (A1.out _ b5).mono ?_
    rintro e w6 ⟨rfl, y6⟩
    have b6 := below_step b5 y6
    have k6 := (hX.on b6).cell0
    go_wp2_with fail
    refine (A2.out _ b6).mono ?_
    rintro e w7 ⟨rfl, y7⟩
    have b7 := below_step b6 y7
    have k7 := (hX.on b7).cell0
    go_wp2_with fail
    refine (A3.out _ b7).mono ?_
    rintro e w8 ⟨rfl, y8⟩
    have b8 := below_step b7 y8
    have k8 := (hX.on b8).cell0
    go_wp2_with fail
    refine (HIX.out _ b8).mono ?_
    rintro e w9 ⟨rfl, y9⟩
    have b9 := below_step b8 y9
    have k9 := (hX.on b9).cell0
    by_cases hkq : k < q
    · obtain ⟨d2, hd2⟩ : ∃ d2, C.getD k 0 = d2 := ⟨_, rfl⟩
      have hge := HP2.out hkq
      have hp4 := HP4.out
      rw [hd2] at hge hp4
      have T1 := Lib.hid (fun W hW => ATY.out W hW k d2 hkq hd2)
      have hnl : ¬ (d2 : Int) < a - 1 := by omega
      have hd2b := (CTA.out k d2 hkq hd2).2.2
      have HP5 := Lib.hid hp4
      clear hd2 hp4
      go_wp2_with fail
      refine (T1.out _ b9).mono ?_
      rintro e w10 ⟨rfl, y10⟩
      have b10 := below_step b9 y10
      have k10 := (hX.on b10).cell0
      go_wp2_with fail
      refine (HB.out _ b10).mono ?_
      rintro e w11 ⟨rfl, y11⟩
      have b11 := below_step b10 y11
      have k11 := (hX.on b11).cell0
      cases b with
      | true =>
        have hne : ((d2 : Int) != a - 1) = false := by
          have := (HP5.out rfl).2
          simp; omega
        by_cases hk0 : 0 < k
        · obtain ⟨k', rfl⟩ : ∃ k', k = k' + 1 := ⟨k - 1, by omega⟩
          obtain ⟨d3, hd3⟩ : ∃ d3, C.getD k' 0 = d3 := ⟨_, rfl⟩
          have hlt3 : (d3 : Int) < a - 1 := by have := HP3.out (by omega); rw [Nat.add_sub_cancel, hd3] at this; exact this
          have T2 := Lib.hid (fun W hW => ATY.out W hW k' d3 (by omega) hd3)
          have hk1 : ((k' + 1 : Nat) : Int) - 1 = (k' : Int) := by omega
          have hk2 : (k' : Int) + 1 - 1 = (k' : Int) := by omega
          have hk3 : (0 : Int) < ((k' + 1 : Nat) : Int) := by omega
          have hge3 : ¬ a - 1 ≤ (d3 : Int) := by omega
          have hd3b := (CTA.out k' d3 (by omega) hd3).2.2
          clear hd3 hk0
          go_wp2_with fail
          refine (T2.out _ b11).mono ?_
          rintro e w12 ⟨rfl, y12⟩
          have b12 := below_step b11 y12
          go_wp2
          go_ret
          exact ⟨rfl, b4.trans (b12.mono b4.size)⟩
        · obtain rfl : k = 0 := by omega
          go_wp2
          go_ret
          exact ⟨rfl, b4.trans (b11.mono b4.size)⟩

      | false =>
        by_cases hk0 : 0 < k
        · obtain ⟨k', rfl⟩ : ∃ k', k = k' + 1 := ⟨k - 1, by omega⟩
          obtain ⟨d3, hd3⟩ : ∃ d3, C.getD k' 0 = d3 := ⟨_, rfl⟩
          have hlt3 : (d3 : Int) < a - 1 := by have := HP3.out (by omega); rw [Nat.add_sub_cancel, hd3] at this; exact this
          have T2 := Lib.hid (fun W hW => ATY.out W hW k' d3 (by omega) hd3)
          have hk1 : ((k' + 1 : Nat) : Int) - 1 = (k' : Int) := by omega
          have hk2 : (k' : Int) + 1 - 1 = (k' : Int) := by omega
          have hk3 : (0 : Int) < ((k' + 1 : Nat) : Int) := by omega
          have hge3 : ¬ a - 1 ≤ (d3 : Int) := by omega
          have hd3b := (CTA.out k' d3 (by omega) hd3).2.2
          clear hd3 hk0
          go_wp2_with fail
          refine (T2.out _ b11).mono ?_
          rintro e w12 ⟨rfl, y12⟩
          have b12 := below_step b11 y12
          go_wp2
          go_ret
          exact ⟨rfl, b4.trans (b12.mono b4.size)⟩
        · obtain rfl : k = 0 := by omega
          go_wp2
          go_ret
          exact ⟨rfl, b4.trans (b11.mono b4.size)⟩

    · obtain rfl : k = q := by omega
      have hbf : b = false := by
        cases b with
        | false => rfl
        | true => exact absurd (HP4.out rfl).1 (by omega)
      subst hbf
      have T1 := Lib.hid (fun W hW => ATN.out W hW (k : Int) (Or.inr (Int.le_refl _)))
      go_wp2_with fail
      refine (T1.out _ b9).mono ?_
      rintro e w10 ⟨rfl, y10⟩
      have b10 := below_step b9 y10
      have k10 := (hX.on b10).cell0
      go_wp2_with fail
      refine (HB.out _ b10).mono ?_
      rintro e w11 ⟨rfl, y11⟩
      have b11 := below_step b10 y11
      have k11 := (hX.on b11).cell0
      by_cases hk0 : 0 < k
      · obtain ⟨k', rfl⟩ : ∃ k', k = k' + 1 := ⟨k - 1, by omega⟩
        obtain ⟨d3, hd3⟩ : ∃ d3, C.getD k' 0 = d3 := ⟨_, rfl⟩
        have hlt3 : (d3 : Int) < a - 1 := by have := HP3.out (by omega); rw [Nat.add_sub_cancel, hd3] at this; exact this
        have T2 := Lib.hid (fun W hW => ATY.out W hW k' d3 (by omega) hd3)
        have hk1 : ((k' + 1 : Nat) : Int) - 1 = (k' : Int) := by omega
        have hk2 : (k' : Int) + 1 - 1 = (k' : Int) := by omega
        have hk3 : (0 : Int) < ((k' + 1 : Nat) : Int) := by omega
        have hge3 : ¬ a - 1 ≤ (d3 : Int) := by omega
        have hd3b := (CTA.out k' d3 (by omega) hd3).2.2
        clear hd3 hk0
        go_wp2_with fail
        refine (T2.out _ b11).mono ?_
        rintro e w12 ⟨rfl, y12⟩
        have b12 := below_step b11 y12
        go_wp2
        go_ret
        exact ⟨rfl, b4.trans (b12.mono b4.size)⟩
      · obtain rfl : k = 0 := by omega
        go_wp2
        go_ret
        exact ⟨rfl, b4.trans (b11.mono b4.size)⟩
  · have hno : i < 0 ∨ (q : Int) ≤ i := by omega
    have A1 := Lib.hid (fun W hW => ATN.out W hW i hno)
    have hd : (decide (0 ≤ i) && decide (i < (q : Int))) = false := by
      rw [Bool.and_eq_false_iff]
      rcases hno with h | h
      · left; simp; omega
      · right; simp; omega
    rcases hno with hno | hno
    · go_wp2_with fail
      refine (A1.out _ b5).mono ?_
      rintro e w8 ⟨rfl, y8⟩
      have b8 := below_step b5 y8
      have k8 := (hX.on b8).cell0
      go_wp2_with fail
      refine (HIX.out _ b8).mono ?_
      rintro e w9 ⟨rfl, y9⟩
      have b9 := below_step b8 y9
      have k9 := (hX.on b9).cell0
      by_cases hkq : k < q
      · obtain ⟨d2, hd2⟩ : ∃ d2, C.getD k 0 = d2 := ⟨_, rfl⟩
        have hge := HP2.out hkq
        have hp4 := HP4.out
        rw [hd2] at hge hp4
        have T1 := Lib.hid (fun W hW => ATY.out W hW k d2 hkq hd2)
        have hnl : ¬ (d2 : Int) < a - 1 := by omega
        have hd2b := (CTA.out k d2 hkq hd2).2.2
        have HP5 := Lib.hid hp4
        clear hd2 hp4
        go_wp2_with fail
        refine (T1.out _ b9).mono ?_
        rintro e w10 ⟨rfl, y10⟩
        have b10 := below_step b9 y10
        have k10 := (hX.on b10).cell0
        go_wp2_with fail
        refine (HB.out _ b10).mono ?_
        rintro e w11 ⟨rfl, y11⟩
        have b11 := below_step b10 y11
        have k11 := (hX.on b11).cell0
        cases b with
        | true =>
          have hne : ((d2 : Int) != a - 1) = false := by
            have := (HP5.out rfl).2
            simp; omega
          by_cases hk0 : 0 < k
          · obtain ⟨k', rfl⟩ : ∃ k', k = k' + 1 := ⟨k - 1, by omega⟩
            obtain ⟨d3, hd3⟩ : ∃ d3, C.getD k' 0 = d3 := ⟨_, rfl⟩
            have hlt3 : (d3 : Int) < a - 1 := by have := HP3.out (by omega); rw [Nat.add_sub_cancel, hd3] at this; exact this
            have T2 := Lib.hid (fun W hW => ATY.out W hW k' d3 (by omega) hd3)
            have hk1 : ((k' + 1 : Nat) : Int) - 1 = (k' : Int) := by omega
            have hk2 : (k' : Int) + 1 - 1 = (k' : Int) := by omega
            have hk3 : (0 : Int) < ((k' + 1 : Nat) : Int) := by omega
            have hge3 : ¬ a - 1 ≤ (d3 : Int) := by omega
            have hd3b := (CTA.out k' d3 (by omega) hd3).2.2
            clear hd3 hk0
            go_wp2_with fail
            refine (T2.out _ b11).mono ?_
            rintro e w12 ⟨rfl, y12⟩
            have b12 := below_step b11 y12
            go_wp2
            go_ret
            exact ⟨rfl, b4.trans (b12.mono b4.size)⟩
          · obtain rfl : k = 0 := by omega
            go_wp2
            go_ret
            exact ⟨rfl, b4.trans (b11.mono b4.size)⟩

        | false =>
          by_cases hk0 : 0 < k
          · obtain ⟨k', rfl⟩ : ∃ k', k = k' + 1 := ⟨k - 1, by omega⟩
            obtain ⟨d3, hd3⟩ : ∃ d3, C.getD k' 0 = d3 := ⟨_, rfl⟩
            have hlt3 : (d3 : Int) < a - 1 := by have := HP3.out (by omega); rw [Nat.add_sub_cancel, hd3] at this; exact this
            have T2 := Lib.hid (fun W hW => ATY.out W hW k' d3 (by omega) hd3)
            have hk1 : ((k' + 1 : Nat) : Int) - 1 = (k' : Int) := by omega
            have hk2 : (k' : Int) + 1 - 1 = (k' : Int) := by omega
            have hk3 : (0 : Int) < ((k' + 1 : Nat) : Int) := by omega
            have hge3 : ¬ a - 1 ≤ (d3 : Int) := by omega
            have hd3b := (CTA.out k' d3 (by omega) hd3).2.2
            clear hd3 hk0
            go_wp2_with fail
            refine (T2.out _ b11).mono ?_
            rintro e w12 ⟨rfl, y12⟩
            have b12 := below_step b11 y12
            go_wp2
            go_ret
            exact ⟨rfl, b4.trans (b12.mono b4.size)⟩
          · obtain rfl : k = 0 := by omega
            go_wp2
            go_ret
            exact ⟨rfl, b4.trans (b11.mono b4.size)⟩

      · obtain rfl : k = q := by omega
        have hbf : b = false := by
          cases b with
          | false => rfl
          | true => exact absurd (HP4.out rfl).1 (by omega)
        subst hbf
        have T1 := Lib.hid (fun W hW => ATN.out W hW (k : Int) (Or.inr (Int.le_refl _)))
        go_wp2_with fail
        refine (T1.out _ b9).mono ?_
        rintro e w10 ⟨rfl, y10⟩
        have b10 := below_step b9 y10
        have k10 := (hX.on b10).cell0
        go_wp2_with fail
        refine (HB.out _ b10).mono ?_
        rintro e w11 ⟨rfl, y11⟩
        have b11 := below_step b10 y11
        have k11 := (hX.on b11).cell0
        by_cases hk0 : 0 < k
        · obtain ⟨k', rfl⟩ : ∃ k', k = k' + 1 := ⟨k - 1, by omega⟩
          obtain ⟨d3, hd3⟩ : ∃ d3, C.getD k' 0 = d3 := ⟨_, rfl⟩
          have hlt3 : (d3 : Int) < a - 1 := by have := HP3.out (by omega); rw [Nat.add_sub_cancel, hd3] at this; exact this
          have T2 := Lib.hid (fun W hW => ATY.out W hW k' d3 (by omega) hd3)
          have hk1 : ((k' + 1 : Nat) : Int) - 1 = (k' : Int) := by omega
          have hk2 : (k' : Int) + 1 - 1 = (k' : Int) := by omega
          have hk3 : (0 : Int) < ((k' + 1 : Nat) : Int) := by omega
          have hge3 : ¬ a - 1 ≤ (d3 : Int) := by omega
          have hd3b := (CTA.out k' d3 (by omega) hd3).2.2
          clear hd3 hk0
          go_wp2_with fail
          refine (T2.out _ b11).mono ?_
          rintro e w12 ⟨rfl, y12⟩
          have b12 := below_step b11 y12
          go_wp2
          go_ret
          exact ⟨rfl, b4.trans (b12.mono b4.size)⟩
        · obtain rfl : k = 0 := by omega
          go_wp2
          go_ret
          exact ⟨rfl, b4.trans (b11.mono b4.size)⟩
    · go_wp2_with fail
      refine (A1.out _ b5).mono ?_
      rintro e w8 ⟨rfl, y8⟩
      have b8 := below_step b5 y8
      have k8 := (hX.on b8).cell0
      go_wp2_with fail
      refine (HIX.out _ b8).mono ?_
      rintro e w9 ⟨rfl, y9⟩
      have b9 := below_step b8 y9
      have k9 := (hX.on b9).cell0
      by_cases hkq : k < q
      · obtain ⟨d2, hd2⟩ : ∃ d2, C.getD k 0 = d2 := ⟨_, rfl⟩
        have hge := HP2.out hkq
        have hp4 := HP4.out
        rw [hd2] at hge hp4
        have T1 := Lib.hid (fun W hW => ATY.out W hW k d2 hkq hd2)
        have hnl : ¬ (d2 : Int) < a - 1 := by omega
        have hd2b := (CTA.out k d2 hkq hd2).2.2
        have HP5 := Lib.hid hp4
        clear hd2 hp4
        go_wp2_with fail
        refine (T1.out _ b9).mono ?_
        rintro e w10 ⟨rfl, y10⟩
        have b10 := below_step b9 y10
        have k10 := (hX.on b10).cell0
        go_wp2_with fail
        refine (HB.out _ b10).mono ?_
        rintro e w11 ⟨rfl, y11⟩
        have b11 := below_step b10 y11
        have k11 := (hX.on b11).cell0
        cases b with
        | true =>
          have hne : ((d2 : Int) != a - 1) = false := by
            have := (HP5.out rfl).2
            simp; omega
          by_cases hk0 : 0 < k
          · obtain ⟨k', rfl⟩ : ∃ k', k = k' + 1 := ⟨k - 1, by omega⟩
            obtain ⟨d3, hd3⟩ : ∃ d3, C.getD k' 0 = d3 := ⟨_, rfl⟩
            have hlt3 : (d3 : Int) < a - 1 := by have := HP3.out (by omega); rw [Nat.add_sub_cancel, hd3] at this; exact this
            have T2 := Lib.hid (fun W hW => ATY.out W hW k' d3 (by omega) hd3)
            have hk1 : ((k' + 1 : Nat) : Int) - 1 = (k' : Int) := by omega
            have hk2 : (k' : Int) + 1 - 1 = (k' : Int) := by omega
            have hk3 : (0 : Int) < ((k' + 1 : Nat) : Int) := by omega
            have hge3 : ¬ a - 1 ≤ (d3 : Int) := by omega
            have hd3b := (CTA.out k' d3 (by omega) hd3).2.2
            clear hd3 hk0
            go_wp2_with fail
            refine (T2.out _ b11).mono ?_
            rintro e w12 ⟨rfl, y12⟩
            have b12 := below_step b11 y12
            go_wp2
            go_ret
            exact ⟨rfl, b4.trans (b12.mono b4.size)⟩
          · obtain rfl : k = 0 := by omega
            go_wp2
            go_ret
            exact ⟨rfl, b4.trans (b11.mono b4.size)⟩

        | false =>
          by_cases hk0 : 0 < k
          · obtain ⟨k', rfl⟩ : ∃ k', k = k' + 1 := ⟨k - 1, by omega⟩
            obtain ⟨d3, hd3⟩ : ∃ d3, C.getD k' 0 = d3 := ⟨_, rfl⟩
            have hlt3 : (d3 : Int) < a - 1 := by have := HP3.out (by omega); rw [Nat.add_sub_cancel, hd3] at this; exact this
            have T2 := Lib.hid (fun W hW => ATY.out W hW k' d3 (by omega) hd3)
            have hk1 : ((k' + 1 : Nat) : Int) - 1 = (k' : Int) := by omega
            have hk2 : (k' : Int) + 1 - 1 = (k' : Int) := by omega
            have hk3 : (0 : Int) < ((k' + 1 : Nat) : Int) := by omega
            have hge3 : ¬ a - 1 ≤ (d3 : Int) := by omega
            have hd3b := (CTA.out k' d3 (by omega) hd3).2.2
            clear hd3 hk0
            go_wp2_with fail
            refine (T2.out _ b11).mono ?_
            rintro e w12 ⟨rfl, y12⟩
            have b12 := below_step b11 y12
            go_wp2
            go_ret
            exact ⟨rfl, b4.trans (b12.mono b4.size)⟩
          · obtain rfl : k = 0 := by omega
            go_wp2
            go_ret
            exact ⟨rfl, b4.trans (b11.mono b4.size)⟩

      · obtain rfl : k = q := by omega
        have hbf : b = false := by
          cases b with
          | false => rfl
          | true => exact absurd (HP4.out rfl).1 (by omega)
        subst hbf
        have T1 := Lib.hid (fun W hW => ATN.out W hW (k : Int) (Or.inr (Int.le_refl _)))
        go_wp2_with fail
        refine (T1.out _ b9).mono ?_
        rintro e w10 ⟨rfl, y10⟩
        have b10 := below_step b9 y10
        have k10 := (hX.on b10).cell0
        go_wp2_with fail
        refine (HB.out _ b10).mono ?_
        rintro e w11 ⟨rfl, y11⟩
        have b11 := below_step b10 y11
        have k11 := (hX.on b11).cell0
        by_cases hk0 : 0 < k
        · obtain ⟨k', rfl⟩ : ∃ k', k = k' + 1 := ⟨k - 1, by omega⟩
          obtain ⟨d3, hd3⟩ : ∃ d3, C.getD k' 0 = d3 := ⟨_, rfl⟩
          have hlt3 : (d3 : Int) < a - 1 := by have := HP3.out (by omega); rw [Nat.add_sub_cancel, hd3] at this; exact this
          have T2 := Lib.hid (fun W hW => ATY.out W hW k' d3 (by omega) hd3)
          have hk1 : ((k' + 1 : Nat) : Int) - 1 = (k' : Int) := by omega
          have hk2 : (k' : Int) + 1 - 1 = (k' : Int) := by omega
          have hk3 : (0 : Int) < ((k' + 1 : Nat) : Int) := by omega
          have hge3 : ¬ a - 1 ≤ (d3 : Int) := by omega
          have hd3b := (CTA.out k' d3 (by omega) hd3).2.2
          clear hd3 hk0
          go_wp2_with fail
          refine (T2.out _ b11).mono ?_
          rintro e w12 ⟨rfl, y12⟩
          have b12 := below_step b11 y12
          go_wp2
          go_ret
          exact ⟨rfl, b4.trans (b12.mono b4.size)⟩
        · obtain rfl : k = 0 := by omega
          go_wp2
          go_ret
          exact ⟨rfl, b4.trans (b11.mono b4.size)⟩
end Go.Proofs.YtccbofaefpbhlaaDoor
