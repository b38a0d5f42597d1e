/-
  StrsetPlaces: its walk.
-/
import Derived.Test.YtanpncjnojjmkabSH
namespace Go.Proofs.Ytanpncjnojjmkab
set_option linter.unusedVariables false
set_option maxRecDepth 100000
open Go.RowKit

/-- Those of one list, each once: what Sorted answers. -/
theorem right_one {a O : List Tx} (h : Right a [] [1] O) : O = setOf a := by
  refine h.1.unique (setOf_rise a) fun x => ?_
  rw [h.2 x, setOf_mem]
  constructor
  · rintro ⟨h1 | h1, _⟩
    · exact h1
    · cases h1
  · intro h1
    refine ⟨.inl h1, ?_⟩
    simp [wanted, kindOf, isIn, h1]
theorem less_step (l : List Tx) (x : Tx) {j : Nat} (h : j < l.length) : less (l.take (j + 1)) x = less (l.take j) x + if lt (l.getD j []) x = true then 1 else 0 := by
  rw [take_getD h]
  unfold less
  rw [List.countP_append, List.countP_cons]
  simp
theorem isK_new (w : World) (k : Nat) : IsK (w.alloc (.cells #[.int .i64 (k : Int)] 3)) (.slice (some ⟨w.heap.size, 0, none⟩) 1 1) [k] :=
  ⟨_, 1, rfl, by simp, fun i hi => by
    have : i = 0 := by simpa using hi
    subst this
    exact (Blk.new w 3 #[.int .i64 (k : Int)]).cell0⟩
theorem isK_1 (w : World) : IsK (w.alloc (.cells #[.int .i64 1] 3)) (.slice (some ⟨w.heap.size, 0, none⟩) 1 1) [1] := isK_new w 1
/-- Its members, alike in both. -/
theorem isIn_set (l : List Tx) (x : Tx) : isIn (setOf l) x = isIn l x := by
  unfold isIn
  rw [decide_eq_decide]
  exact setOf_mem l x
/-- What is known of a set and a text: how many are less, which one stands there, whether it is there. -/
theorem place_cases {S : List Tx} (h : Rise S) (x : Tx) : (less S x < S.length ∧ S.getD (less S x) [] = x ∧ isIn S x = true) ∨ (less S x < S.length ∧ S.getD (less S x) [] ≠ x ∧ isIn S x = false) ∨ (less S x = S.length ∧ isIn S x = false) := by
  have h1 := h.mem_iff x
  have h2 := less_le S x
  unfold isIn
  by_cases hm : x ∈ S
  · obtain ⟨h3, h4⟩ := h1.1 hm
    exact .inl ⟨h3, h4, by simpa using hm⟩
  · rcases Nat.lt_or_ge (less S x) S.length with h3 | h3
    · refine .inr (.inl ⟨h3, fun h4 => hm (h1.2 ⟨h3, h4⟩), by simpa using hm⟩)
    · exact .inr (.inr ⟨by omega, by simpa using hm⟩)

set_option maxHeartbeats 16000000 in
theorem strsetPlaces_walk (A : Option Addr) (c : Nat) (l : List Tx) (x0 : Tx) (i : Int) (w : World) (hc : Came w A l) (hn : l.length ≤ 9223372036854775807) (hx : ∀ x ∈ l, x.length ≤ 9223372036854775807) (hx0 : x0.length ≤ 9223372036854775807) :
    Calls Try.prog 4 #[.slice A l.length c, .string ⟨x0.toArray⟩, .int .i64 i] w (RetV (.bool true) w) := by
  have HF := Lib.hid fun W hb => few_any A c l W (hc.below hb) hn hx
  have HC := Lib.hid fun W => cut_any x0 W hx0
  have hfl := few_len l
  generalize few l = a at *
  generalize x0.take 30 = x at *
  generalize l.length = n0 at *
  go_enter Try.func4, Try.ntmps4
  go_wp2_with fail
  with_reducible refine (awake_any _).mono ?_
  rintro e w1 ⟨rfl, b1⟩
  go_wp2_with fail
  with_reducible refine (HF.out _ b1).mono ?_
  rintro e w2 ⟨v2, rfl, ta, y2⟩
  have b2 := below_step b1 y2
  obtain ⟨Aa, ca, ea, _, _⟩ := ta.form
  obtain ⟨na, hna⟩ : ∃ n, Hid (a.length = n) := ⟨_, rfl⟩
  rw [hna.out] at ea
  subst ea
  go_wp2_with fail
  with_reducible refine (HC.out _).mono ?_
  rintro e w' ⟨rfl, rfl⟩
  have HO := Lib.hid (of_any _ a w2 ta (by omega))
  clear HF HC hc
  go_wp2_with fail
  with_reducible refine HO.out.mono ?_
  rintro e w3 ⟨v3, rfl, hs, y3⟩
  have b3 := below_step b2 y3
  have hri := setOf_rise a
  have hsl := setOf_le a
  obtain ⟨S, hS⟩ : ∃ S, Hid (setOf a = S) := ⟨_, rfl⟩
  rw [hS.out] at hs hri hsl
  have hsl : S.length ≤ 40 := by omega
  obtain ⟨n, hn⟩ : ∃ n, Hid (S.length = n) := ⟨_, rfl⟩
  obtain ⟨As, cs, es⟩ := hs.form
  rw [hn.out] at es
  subst es
  rw [hn.out] at hsl
  have ta := ta.below y3
  -- the set in its box, and the kinds
  have hX := (Blk.new w3 26 #[.slice As n cs]).alloc (.cells #[.int .i64 1] 3)
  have y4 := below_step (below_new w3 (.cells #[.slice As n cs] 26)) (below_new _ (.cells #[.int .i64 1] 3))
  have hk := isK_1 (w3.alloc (.cells #[.slice As n cs] 26))
  have b4 := below_step b3 y4
  have hs := hs.below y4
  have ta := ta.below y4
  have HSo := Lib.hid (sorted_any _ (.slice none 0 0) _ a [] [1] _ ta (.inl ⟨rfl, rfl⟩) hk (by omega) (by simp) (by simp) (by simp))
  simp only [World.size_alloc] at HSo
  clear HO hk y2 y3
  go_wp2_with fail
  with_reducible refine HSo.out.mono ?_
  rintro e w5 ⟨v5, O, rfl, tO, hR, _, y5⟩
  obtain rfl : S = O := by rw [right_one hR]; exact hS.out.symm
  have hX := hX.on y5
  have b5 := below_step b4 y5
  have hs := hs.below y5
  have ta := ta.below y5
  obtain ⟨A5, c5, e5, _, _⟩ := tO.form
  rw [hn.out] at e5
  subst e5
  clear HSo hR y4 y5 b1 b2 b3 b4
  generalize w3.heap.size = gx at *
  go_wp2
  go_loopw [8, 27] (fun u8 t wr => ∃ j : Nat, t = .int .i64 j ∧ j ≤ n ∧ u8 = .int .i64 (less (S.take j) x : Nat) ∧ w5 = wr) (fun _ t _ => n - (intOf t).toNat)
  case atStart => exact ⟨0, rfl, by omega, by simp [less], rfl⟩
  case round =>
    obtain ⟨j, rfl, hjn, rfl, rfl⟩ := hrel
    by_cases hlt : j < n
    · have hjl : j < S.length := by rw [hn.out]; exact hlt
      obtain ⟨g5, rfl, hg5, hc5⟩ := tO.at_ hjl
      have hst := less_step S x hjl
      have hle := less_le (S.take j) x
      have hle2 : (S.take j).length ≤ j := List.length_take_le _ _
      generalize S.getD j [] = y at *
      cases hl : lt y x
      · rw [hl, if_neg (by simp), Nat.add_zero] at hst
        have HST := Lib.hid hst
        have hl' : Op.bytesLess y x = false := hl
        clear hst hl
        generalize less (S.take j) x = q at *
        go_wp2
        go_roundw
        case rel => exact ⟨j + 1, by go_num, by omega, by rw [HST.out]; rfl, by trivial⟩
        case measure => simp [intOf]; omega
      · rw [hl, if_pos rfl] at hst
        have HST := Lib.hid hst
        have hl' : Op.bytesLess y x = true := hl
        clear hst hl
        generalize less (S.take j) x = q at *
        go_wp2
        go_roundw
        case rel => exact ⟨j + 1, by go_num, by omega, by rw [HST.out]; go_num, by trivial⟩
        case measure => simp [intOf]; omega
    · have hall : S.take j = S := List.take_of_length_le (by rw [hn.out]; omega)
      rw [hall]
      clear hall tO
      have hpc := place_cases hri x
      have hia : isIn a x = isIn S x := by rw [← hS.out, isIn_set]
      have hrl := less_le S x
      have HIX := Lib.hid fun v W h => index_any v S x W h
      have HHX := Lib.hid fun v W h => has_any v S x W h
      have HHA : Hid (∀ W v, IsT W v a → Calls Try.prog 22 #[v, .string ⟨x.toArray⟩] W fun e w' => e = .returned (.bool (isIn S x)) ∧ W = w') := Lib.hid fun W v h => by rw [← hia]; exact hasRef_any v a x W h (by omega)
      have HLN := Lib.hid fun v W h => len_any v S W h
      rw [hn.out] at hpc hrl HLN
      have HAT : Hid (∀ k : Nat, k < n → ∀ v W, IsS W v S → Calls Try.prog 18 #[v, .int .i64 (k : Int)] W (RetV (.tuple #[.string ⟨(S.getD k []).toArray⟩, .bool true]) W)) := Lib.hid fun k hk v W h => at_yes v S k W h (by rw [hn.out]; exact hk)
      have HNO : Hid (∀ k : Int, k < 0 ∨ (n : Int) ≤ k → ∀ v W, IsS W v S → Calls Try.prog 18 #[v, .int .i64 k] W (RetV (.tuple #[.string ⟨#[]⟩, .bool false]) W)) := Lib.hid fun k hk v W h => at_no v S k W h (by rw [hn.out]; exact hk)
      have HLA : Hid (∀ k : Nat, k < n → less S (S.getD k []) = k) := Lib.hid fun k hk => hri.less_at (by rw [hn.out]; exact hk)
      have HIY : Hid (∀ k : Nat, k < n → ∀ v W, IsS W v S → Calls Try.prog 20 #[v, .string ⟨(S.getD k []).toArray⟩] W (RetV (.int .i64 (k : Nat)) W)) := Lib.hid fun k hk v W h => by
        have := index_any v S (S.getD k []) W h
        rw [HLA.out k hk] at this
        exact this
      have HHY : Hid (∀ k : Nat, k < n → ∀ v W, IsS W v S → Calls Try.prog 21 #[v, .string ⟨(S.getD k []).toArray⟩] W (RetV (.bool true) W)) := Lib.hid fun k hk v W h => by
        have := has_any v S (S.getD k []) W h
        rw [show isIn S (S.getD k []) = true by unfold isIn; rw [decide_eq_true_eq]; exact getD_mem (by rw [hn.out]; exact hk)] at this
        exact this
      clear hri HLA hia
      generalize less S x = r at *
      generalize isIn S x = p at *
      have cX := hX.cell0
      by_cases hi0 : i < 0
      · have HI := Lib.hid (HNO.out i (.inl hi0))
        go_wp2_with fail
        with_reducible refine (HI.out _ _ hs).mono ?_
        rintro e x5 ⟨rfl, z5⟩
        have hX := hX.on z5
        have cX := hX.cell0
        have hs := hs.below z5
        have ta := ta.below z5
        have b5 := below_step b5 z5
        clear z5
        rcases hpc with ⟨hr, hz, rfl⟩ | ⟨hr, hz, rfl⟩ | ⟨hr, rfl⟩
        · have HA := Lib.hid (HAT.out r hr)
          rw [hz] at HA
          clear hz
          go_wp2_with fail
          with_reducible refine (HA.out _ _ hs).mono ?_
          rintro e x6 ⟨rfl, z6⟩
          have hX := hX.on z6
          have cX := hX.cell0
          have hs := hs.below z6
          have ta := ta.below z6
          have b5 := below_step b5 z6
          clear z6
          go_wp2_with fail
          with_reducible refine (HIX.out _ _ hs).mono ?_
          rintro e x7 ⟨rfl, z7⟩
          have hX := hX.on z7
          have cX := hX.cell0
          have hs := hs.below z7
          have ta := ta.below z7
          have b5 := below_step b5 z7
          clear z7
          go_wp2_with fail
          with_reducible refine (HHX.out _ _ hs).mono ?_
          rintro e x8 ⟨rfl, z8⟩
          have hX := hX.on z8
          have cX := hX.cell0
          have hs := hs.below z8
          have ta := ta.below z8
          have b5 := below_step b5 z8
          clear z8
          go_wp2_with fail
          with_reducible refine (HHA.out _ _ ta).mono ?_
          rintro e x9 ⟨rfl, rfl⟩
          go_wp2_with fail
          with_reducible refine (HHX.out _ _ hs).mono ?_
          rintro e x10 ⟨rfl, z10⟩
          have hX := hX.on z10
          have cX := hX.cell0
          have hs := hs.below z10
          have ta := ta.below z10
          have b5 := below_step b5 z10
          clear z10
          go_wp2
          go_ret
          exact ⟨rfl, b5⟩
        · have HA := Lib.hid (HAT.out r hr)
          generalize S.getD r [] = y at *
          have hne : (y == x) = false := by rw [beq_eq_false_iff_ne]; exact hz
          have hne2 : ¬ y = x := hz
          go_wp2_with fail
          with_reducible refine (HA.out _ _ hs).mono ?_
          rintro e x11 ⟨rfl, z11⟩
          have hX := hX.on z11
          have cX := hX.cell0
          have hs := hs.below z11
          have ta := ta.below z11
          have b5 := below_step b5 z11
          clear z11
          go_wp2_with fail
          with_reducible refine (HIX.out _ _ hs).mono ?_
          rintro e x12 ⟨rfl, z12⟩
          have hX := hX.on z12
          have cX := hX.cell0
          have hs := hs.below z12
          have ta := ta.below z12
          have b5 := below_step b5 z12
          clear z12
          go_wp2_with fail
          with_reducible refine (HHX.out _ _ hs).mono ?_
          rintro e x13 ⟨rfl, z13⟩
          have hX := hX.on z13
          have cX := hX.cell0
          have hs := hs.below z13
          have ta := ta.below z13
          have b5 := below_step b5 z13
          clear z13
          go_wp2_with fail
          with_reducible refine (HHA.out _ _ ta).mono ?_
          rintro e x14 ⟨rfl, rfl⟩
          go_wp2_with fail
          with_reducible refine (HHX.out _ _ hs).mono ?_
          rintro e x15 ⟨rfl, z15⟩
          have hX := hX.on z15
          have cX := hX.cell0
          have hs := hs.below z15
          have ta := ta.below z15
          have b5 := below_step b5 z15
          clear z15
          go_wp2
          go_ret
          exact ⟨rfl, b5⟩
        · have HA := Lib.hid (HNO.out (n : Int) (.inr (Int.le_refl _)))
          go_wp2_with fail
          with_reducible refine (HA.out _ _ hs).mono ?_
          rintro e x16 ⟨rfl, z16⟩
          have hX := hX.on z16
          have cX := hX.cell0
          have hs := hs.below z16
          have ta := ta.below z16
          have b5 := below_step b5 z16
          clear z16
          go_wp2_with fail
          with_reducible refine (HIX.out _ _ hs).mono ?_
          rintro e x17 ⟨rfl, z17⟩
          have hX := hX.on z17
          have cX := hX.cell0
          have hs := hs.below z17
          have ta := ta.below z17
          have b5 := below_step b5 z17
          clear z17
          go_wp2_with fail
          with_reducible refine (HHX.out _ _ hs).mono ?_
          rintro e x18 ⟨rfl, z18⟩
          have hX := hX.on z18
          have cX := hX.cell0
          have hs := hs.below z18
          have ta := ta.below z18
          have b5 := below_step b5 z18
          clear z18
          go_wp2_with fail
          with_reducible refine (HHA.out _ _ ta).mono ?_
          rintro e x19 ⟨rfl, rfl⟩
          go_wp2_with fail
          with_reducible refine (HHX.out _ _ hs).mono ?_
          rintro e x20 ⟨rfl, z20⟩
          have hX := hX.on z20
          have cX := hX.cell0
          have hs := hs.below z20
          have ta := ta.below z20
          have b5 := below_step b5 z20
          clear z20
          go_wp2
          go_ret
          exact ⟨rfl, b5⟩
      · by_cases hi1 : (n : Int) ≤ i
        · have HI := Lib.hid (HNO.out i (.inr hi1))
          go_wp2_with fail
          with_reducible refine (HI.out _ _ hs).mono ?_
          rintro e x21 ⟨rfl, z21⟩
          have hX := hX.on z21
          have cX := hX.cell0
          have hs := hs.below z21
          have ta := ta.below z21
          have b5 := below_step b5 z21
          clear z21
          go_wp2_with fail
          with_reducible refine (HLN.out _ _ hs).mono ?_
          rintro e x22 ⟨rfl, z22⟩
          have hX := hX.on z22
          have cX := hX.cell0
          have hs := hs.below z22
          have ta := ta.below z22
          have b5 := below_step b5 z22
          clear z22
          rcases hpc with ⟨hr, hz, rfl⟩ | ⟨hr, hz, rfl⟩ | ⟨hr, rfl⟩
          · have HA := Lib.hid (HAT.out r hr)
            rw [hz] at HA
            clear hz
            go_wp2_with fail
            with_reducible refine (HA.out _ _ hs).mono ?_
            rintro e x23 ⟨rfl, z23⟩
            have hX := hX.on z23
            have cX := hX.cell0
            have hs := hs.below z23
            have ta := ta.below z23
            have b5 := below_step b5 z23
            clear z23
            go_wp2_with fail
            with_reducible refine (HIX.out _ _ hs).mono ?_
            rintro e x24 ⟨rfl, z24⟩
            have hX := hX.on z24
            have cX := hX.cell0
            have hs := hs.below z24
            have ta := ta.below z24
            have b5 := below_step b5 z24
            clear z24
            go_wp2_with fail
            with_reducible refine (HHX.out _ _ hs).mono ?_
            rintro e x25 ⟨rfl, z25⟩
            have hX := hX.on z25
            have cX := hX.cell0
            have hs := hs.below z25
            have ta := ta.below z25
            have b5 := below_step b5 z25
            clear z25
            go_wp2_with fail
            with_reducible refine (HHA.out _ _ ta).mono ?_
            rintro e x26 ⟨rfl, rfl⟩
            go_wp2_with fail
            with_reducible refine (HHX.out _ _ hs).mono ?_
            rintro e x27 ⟨rfl, z27⟩
            have hX := hX.on z27
            have cX := hX.cell0
            have hs := hs.below z27
            have ta := ta.below z27
            have b5 := below_step b5 z27
            clear z27
            go_wp2
            go_ret
            exact ⟨rfl, b5⟩
          · have HA := Lib.hid (HAT.out r hr)
            generalize S.getD r [] = y at *
            have hne : (y == x) = false := by rw [beq_eq_false_iff_ne]; exact hz
            have hne2 : ¬ y = x := hz
            go_wp2_with fail
            with_reducible refine (HA.out _ _ hs).mono ?_
            rintro e x28 ⟨rfl, z28⟩
            have hX := hX.on z28
            have cX := hX.cell0
            have hs := hs.below z28
            have ta := ta.below z28
            have b5 := below_step b5 z28
            clear z28
            go_wp2_with fail
            with_reducible refine (HIX.out _ _ hs).mono ?_
            rintro e x29 ⟨rfl, z29⟩
            have hX := hX.on z29
            have cX := hX.cell0
            have hs := hs.below z29
            have ta := ta.below z29
            have b5 := below_step b5 z29
            clear z29
            go_wp2_with fail
            with_reducible refine (HHX.out _ _ hs).mono ?_
            rintro e x30 ⟨rfl, z30⟩
            have hX := hX.on z30
            have cX := hX.cell0
            have hs := hs.below z30
            have ta := ta.below z30
            have b5 := below_step b5 z30
            clear z30
            go_wp2_with fail
            with_reducible refine (HHA.out _ _ ta).mono ?_
            rintro e x31 ⟨rfl, rfl⟩
            go_wp2_with fail
            with_reducible refine (HHX.out _ _ hs).mono ?_
            rintro e x32 ⟨rfl, z32⟩
            have hX := hX.on z32
            have cX := hX.cell0
            have hs := hs.below z32
            have ta := ta.below z32
            have b5 := below_step b5 z32
            clear z32
            go_wp2
            go_ret
            exact ⟨rfl, b5⟩
          · have HA := Lib.hid (HNO.out (n : Int) (.inr (Int.le_refl _)))
            go_wp2_with fail
            with_reducible refine (HA.out _ _ hs).mono ?_
            rintro e x33 ⟨rfl, z33⟩
            have hX := hX.on z33
            have cX := hX.cell0
            have hs := hs.below z33
            have ta := ta.below z33
            have b5 := below_step b5 z33
            clear z33
            go_wp2_with fail
            with_reducible refine (HIX.out _ _ hs).mono ?_
            rintro e x34 ⟨rfl, z34⟩
            have hX := hX.on z34
            have cX := hX.cell0
            have hs := hs.below z34
            have ta := ta.below z34
            have b5 := below_step b5 z34
            clear z34
            go_wp2_with fail
            with_reducible refine (HHX.out _ _ hs).mono ?_
            rintro e x35 ⟨rfl, z35⟩
            have hX := hX.on z35
            have cX := hX.cell0
            have hs := hs.below z35
            have ta := ta.below z35
            have b5 := below_step b5 z35
            clear z35
            go_wp2_with fail
            with_reducible refine (HHA.out _ _ ta).mono ?_
            rintro e x36 ⟨rfl, rfl⟩
            go_wp2_with fail
            with_reducible refine (HHX.out _ _ hs).mono ?_
            rintro e x37 ⟨rfl, z37⟩
            have hX := hX.on z37
            have cX := hX.cell0
            have hs := hs.below z37
            have ta := ta.below z37
            have b5 := below_step b5 z37
            clear z37
            go_wp2
            go_ret
            exact ⟨rfl, b5⟩
        · obtain ⟨k, rfl⟩ : ∃ k : Nat, i = (k : Int) := ⟨i.toNat, by omega⟩
          have hkn : k < n := by omega
          have HI := Lib.hid (HAT.out k hkn)
          have HJ := Lib.hid (HIY.out k hkn)
          have HK := Lib.hid (HHY.out k hkn)
          clear hi0 hi1
          generalize S.getD k [] = yk at HI HJ HK
          go_wp2_with fail
          with_reducible refine (HI.out _ _ hs).mono ?_
          rintro e x38 ⟨rfl, z38⟩
          have hX := hX.on z38
          have cX := hX.cell0
          have hs := hs.below z38
          have ta := ta.below z38
          have b5 := below_step b5 z38
          clear z38
          go_wp2_with fail
          with_reducible refine (HLN.out _ _ hs).mono ?_
          rintro e x39 ⟨rfl, z39⟩
          have hX := hX.on z39
          have cX := hX.cell0
          have hs := hs.below z39
          have ta := ta.below z39
          have b5 := below_step b5 z39
          clear z39
          go_wp2_with fail
          with_reducible refine (HJ.out _ _ hs).mono ?_
          rintro e x40 ⟨rfl, z40⟩
          have hX := hX.on z40
          have cX := hX.cell0
          have hs := hs.below z40
          have ta := ta.below z40
          have b5 := below_step b5 z40
          clear z40
          go_wp2_with fail
          with_reducible refine (HK.out _ _ hs).mono ?_
          rintro e x41 ⟨rfl, z41⟩
          have hX := hX.on z41
          have cX := hX.cell0
          have hs := hs.below z41
          have ta := ta.below z41
          have b5 := below_step b5 z41
          clear z41
          rcases hpc with ⟨hr, hz, rfl⟩ | ⟨hr, hz, rfl⟩ | ⟨hr, rfl⟩
          · have HA := Lib.hid (HAT.out r hr)
            rw [hz] at HA
            clear hz
            go_wp2_with fail
            with_reducible refine (HA.out _ _ hs).mono ?_
            rintro e x42 ⟨rfl, z42⟩
            have hX := hX.on z42
            have cX := hX.cell0
            have hs := hs.below z42
            have ta := ta.below z42
            have b5 := below_step b5 z42
            clear z42
            go_wp2_with fail
            with_reducible refine (HIX.out _ _ hs).mono ?_
            rintro e x43 ⟨rfl, z43⟩
            have hX := hX.on z43
            have cX := hX.cell0
            have hs := hs.below z43
            have ta := ta.below z43
            have b5 := below_step b5 z43
            clear z43
            go_wp2_with fail
            with_reducible refine (HHX.out _ _ hs).mono ?_
            rintro e x44 ⟨rfl, z44⟩
            have hX := hX.on z44
            have cX := hX.cell0
            have hs := hs.below z44
            have ta := ta.below z44
            have b5 := below_step b5 z44
            clear z44
            go_wp2_with fail
            with_reducible refine (HHA.out _ _ ta).mono ?_
            rintro e x45 ⟨rfl, rfl⟩
            go_wp2_with fail
            with_reducible refine (HHX.out _ _ hs).mono ?_
            rintro e x46 ⟨rfl, z46⟩
            have hX := hX.on z46
            have cX := hX.cell0
            have hs := hs.below z46
            have ta := ta.below z46
            have b5 := below_step b5 z46
            clear z46
            go_wp2
            go_ret
            exact ⟨rfl, b5⟩
          · have HA := Lib.hid (HAT.out r hr)
            generalize S.getD r [] = y at *
            have hne : (y == x) = false := by rw [beq_eq_false_iff_ne]; exact hz
            have hne2 : ¬ y = x := hz
            go_wp2_with fail
            with_reducible refine (HA.out _ _ hs).mono ?_
            rintro e x47 ⟨rfl, z47⟩
            have hX := hX.on z47
            have cX := hX.cell0
            have hs := hs.below z47
            have ta := ta.below z47
            have b5 := below_step b5 z47
            clear z47
            go_wp2_with fail
            with_reducible refine (HIX.out _ _ hs).mono ?_
            rintro e x48 ⟨rfl, z48⟩
            have hX := hX.on z48
            have cX := hX.cell0
            have hs := hs.below z48
            have ta := ta.below z48
            have b5 := below_step b5 z48
            clear z48
            go_wp2_with fail
            with_reducible refine (HHX.out _ _ hs).mono ?_
            rintro e x49 ⟨rfl, z49⟩
            have hX := hX.on z49
            have cX := hX.cell0
            have hs := hs.below z49
            have ta := ta.below z49
            have b5 := below_step b5 z49
            clear z49
            go_wp2_with fail
            with_reducible refine (HHA.out _ _ ta).mono ?_
            rintro e x50 ⟨rfl, rfl⟩
            go_wp2_with fail
            with_reducible refine (HHX.out _ _ hs).mono ?_
            rintro e x51 ⟨rfl, z51⟩
            have hX := hX.on z51
            have cX := hX.cell0
            have hs := hs.below z51
            have ta := ta.below z51
            have b5 := below_step b5 z51
            clear z51
            go_wp2
            go_ret
            exact ⟨rfl, b5⟩
          · have HA := Lib.hid (HNO.out (n : Int) (.inr (Int.le_refl _)))
            go_wp2_with fail
            with_reducible refine (HA.out _ _ hs).mono ?_
            rintro e x52 ⟨rfl, z52⟩
            have hX := hX.on z52
            have cX := hX.cell0
            have hs := hs.below z52
            have ta := ta.below z52
            have b5 := below_step b5 z52
            clear z52
            go_wp2_with fail
            with_reducible refine (HIX.out _ _ hs).mono ?_
            rintro e x53 ⟨rfl, z53⟩
            have hX := hX.on z53
            have cX := hX.cell0
            have hs := hs.below z53
            have ta := ta.below z53
            have b5 := below_step b5 z53
            clear z53
            go_wp2_with fail
            with_reducible refine (HHX.out _ _ hs).mono ?_
            rintro e x54 ⟨rfl, z54⟩
            have hX := hX.on z54
            have cX := hX.cell0
            have hs := hs.below z54
            have ta := ta.below z54
            have b5 := below_step b5 z54
            clear z54
            go_wp2_with fail
            with_reducible refine (HHA.out _ _ ta).mono ?_
            rintro e x55 ⟨rfl, rfl⟩
            go_wp2_with fail
            with_reducible refine (HHX.out _ _ hs).mono ?_
            rintro e x56 ⟨rfl, z56⟩
            have hX := hX.on z56
            have cX := hX.cell0
            have hs := hs.below z56
            have ta := ta.below z56
            have b5 := below_step b5 z56
            clear z56
            go_wp2
            go_ret
            exact ⟨rfl, b5⟩
end Go.Proofs.Ytanpncjnojjmkab
