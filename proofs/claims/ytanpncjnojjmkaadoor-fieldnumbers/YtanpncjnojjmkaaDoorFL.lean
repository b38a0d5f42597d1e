/-
  FieldNumbers' walk.
-/
import Derived.Test.YtanpncjnojjmkaaDoorFK
namespace Go.Proofs.YtanpncjnojjmkaaDoor
set_option linter.unusedVariables false
set_option maxRecDepth 20000
open Go.RowKit

theorem keep2c {w w' : World} {p q : Addr} {a b : Value} (h1 : w.cell? p = some a) (h2 : w.cell? q = some b) (hp : p.block < w.heap.size) (hq : q.block < w.heap.size) (hb : Below w.heap.size w w') : w'.cell? p = some a ∧ w'.cell? q = some b := ⟨(hb.cell hp).trans h1, (hb.cell hq).trans h2⟩
/-- A number read, as the program and as the document answer it. -/
theorem two_words (bs : List UInt8) : ∃ (c : Int) (b : Bool) (x : Int), hexV (hexRead bs) = .tuple #[.int .i32 c, .bool b] ∧ numI (hexRead bs) = x ∧ ((b = true ∧ x = c ∧ 0 ≤ c ∧ c ≤ 1114111) ∨ (b = false ∧ c = 0 ∧ x = -1)) := by
  cases h : hexRead bs with
  | none => exact ⟨0, false, -1, rfl, rfl, .inr ⟨rfl, rfl, rfl⟩⟩
  | some n => exact ⟨n, true, n, rfl, rfl, .inl ⟨rfl, rfl, by omega, by have := hexRead_le h; omega⟩⟩
theorem two_nums (bs : List UInt8) (most : Nat) : ∃ (c : Int) (b : Bool) (x : Int), numV (numRead bs most) = .tuple #[.int .i64 c, .bool b] ∧ numI (numRead bs most) = x ∧ ((b = true ∧ x = c ∧ 0 ≤ c) ∨ (b = false ∧ c = 0 ∧ x = -1)) := by
  cases h : numRead bs most with
  | none => exact ⟨0, false, -1, rfl, rfl, .inr ⟨rfl, rfl, rfl⟩⟩
  | some n => exact ⟨n, true, n, rfl, rfl, .inl ⟨rfl, rfl, by omega⟩⟩

set_option maxHeartbeats 8000000 in
theorem fieldNumbers_walk (s0 : ByteArray) (x : Int) (w : World) (he : Env w) : Calls Tryd.prog 4 #[.string s0, .int .i64 x] w (RetV (.bool true) w) := by
  have H0 := Lib.hid (awake_any w he)
  have H1 : Hid (∀ W, Calls Tryd.prog 7 #[.string s0, .int .i64 40] W fun e w' => ∃ s' : ByteArray, e = .returned (.string s') ∧ s'.size ≤ 40 ∧ Below W.heap.size W w') := Lib.hid fun W => cut_any s0 40 W
  go_enter Tryd.func4, Tryd.ntmps4
  go_wp2_with fail
  refine H0.out.mono ?_
  rintro e w1 ⟨rfl, y1⟩
  have he := he.kept y1
  go_wp2_with fail
  refine (H1.out _).mono ?_
  rintro e w2 ⟨s, rfl, hs, y2⟩
  have he := he.kept y2
  have y2 := below_step y1 y2
  clear H0 H1
  go_upto_region 4 with fail
  go_cut [1] (fun c wx => (∃ m : Nat, c = .int .i64 m ∧ m ≤ 1000000000) ∧ wx = w2)
  case first =>
    rcases Int.lt_or_le x 0 with hx | hx
    · go_wp2
      go_meet
      exact ⟨⟨(max 0 (min x 1000000000)).toNat, congrArg (Value.int .i64) (by omega), by omega⟩, rfl⟩
    · rcases Int.lt_or_le x 1000000000 with hx2 | hx2
      · go_wp2
        go_meet
        exact ⟨⟨(max 0 (min x 1000000000)).toNat, congrArg (Value.int .i64) (by omega), by omega⟩, rfl⟩
      · go_wp2
        go_meet
        exact ⟨⟨(max 0 (min x 1000000000)).toNat, congrArg (Value.int .i64) (by omega), by omega⟩, rfl⟩
  case rest =>
    obtain ⟨⟨most, rfl, hmost⟩, hcw⟩ := hcut
    obtain rfl : w2 = wc := hcw.symm
    clear hcw
    obtain ⟨c1, b1, x1, e1, e2, hr1⟩ := two_words s.data.toList
    obtain ⟨c2, b2, x2, e3, e4, hr2⟩ := two_nums s.data.toList most
    have H2 : Hid (∀ W, Calls Tryd.prog 13 #[.string s] W (RetV (.tuple #[.int .i32 c1, .bool b1]) W)) := Lib.hid fun W => e1 ▸ hex_any s _ W (by omega) rfl
    have H3 : Hid (∀ W, Calls Tryd.prog 14 #[.string s, .int .i64 (most : Nat)] W (RetV (.tuple #[.int .i64 c2, .bool b2]) W)) := Lib.hid fun W => e3 ▸ num_any s most _ W (by omega) hmost rfl
    have H4 : Hid (∀ W, Calls Tryd.prog 15 #[.string s] W (RetV (.int .i64 x1) W)) := Lib.hid fun W => e2 ▸ refHex_any s _ W (by omega) rfl
    have H5 : Hid (∀ W, Calls Tryd.prog 16 #[.string s, .int .i64 (most : Nat)] W (RetV (.int .i64 x2) W)) := Lib.hid fun W => e4 ▸ refNum_any s most _ W (by omega) hmost rfl
    have hlen : s.data.toList.length = s.size := Array.length_toList
    have hcnt : (spl 32 s.data.toList []).length ≤ 1000001 := by
      rw [← split_count]
      show Lib.count s.data.toList [32] + 1 ≤ _
      rw [Lib.count_one]
      have := List.count_le_length (a := (32 : UInt8)) (l := s.data.toList)
      omega
    have HWL := Lib.hid fun i => Nat.le_trans (spl_get_le 32 s.data.toList i) (show s.data.toList.length ≤ 1000000 by omega)
    have H6 : Hid (∀ W, Env W → Calls Tryd.prog 17 #[.string s] W (RetHs (allHex (spl 32 s.data.toList [])) W)) := Lib.hid fun W hW => hexes_any s _ W hW (by omega) rfl
    have H7 : Hid (∀ W, Calls Tryd.prog 10 #[.string s, .int .u8 32] W (RetT (spl 32 s.data.toList []) W)) := Lib.hid fun W => refSplit_any s 32 W (by omega)
    clear e1 e2 e3 e4 hlen
    generalize spl 32 s.data.toList [] = P at *
    have hmx : (b1 = true ∧ x1 = c1 ∧ 0 ≤ c1 ∧ c1 ≤ 1114111 ∧ max c1 0 = c1) ∨ (b1 = false ∧ c1 = 0 ∧ x1 < 0 ∧ max x1 0 = 0) := by
      rcases hr1 with ⟨h1, h2, h3, h4⟩ | ⟨h1, h2, h3⟩
      · exact .inl ⟨h1, h2, h3, h4, by omega⟩
      · exact .inr ⟨h1, h2, by omega, by omega⟩
    have hmy : (b2 = true ∧ x2 = c2 ∧ 0 ≤ c2 ∧ max c2 0 = c2) ∨ (b2 = false ∧ c2 = 0 ∧ x2 < 0 ∧ max x2 0 = 0) := by
      rcases hr2 with ⟨h1, h2, h3⟩ | ⟨h1, h2, h3⟩
      · exact .inl ⟨h1, h2, h3, by omega⟩
      · exact .inr ⟨h1, h2, by omega, by omega⟩
    clear hr1 hr2
    rcases hmx with ⟨rfl, rfl, hx0, hx1, hxm⟩ | ⟨rfl, rfl, hx1, hxm⟩ <;> rcases hmy with ⟨rfl, rfl, hz0, hzm⟩ | ⟨rfl, rfl, hz1, hzm⟩
    all_goals
      go_wp2_with fail
      refine (H2.out _).mono ?_
      rintro e w3 ⟨rfl, y3⟩
      have he := he.kept y3
      have y3 := below_step y2 y3
      go_wp2_with fail
      refine (H3.out _).mono ?_
      rintro e w4 ⟨rfl, y4⟩
      have he := he.kept y4
      have y4 := below_step y3 y4
      go_wp2_with fail
      refine (H4.out _).mono ?_
      rintro e w5 ⟨rfl, y5⟩
      have he := he.kept y5
      have y5 := below_step y4 y5
      go_wp2_with fail
      refine (H5.out _).mono ?_
      rintro e w6 ⟨rfl, y6⟩
      have he := he.kept y6
      have y6 := below_step y5 y6
      clear H2 H3 H4 H5
      have he6 := he
      obtain ⟨o, HO⟩ : ∃ o, Hid (allHex P = o) := ⟨_, rfl⟩
      rw [HO.out] at H6
      go_wp2_with fail
      refine (H6.out _ he).mono ?_
      rintro e w7 ⟨v, rfl, hv, y7⟩
      have y7 := below_step y6 y7
      obtain ⟨A, c, rfl⟩ := hv.shape
      have hfacts : (o.isSome = true ∧ (o.getD []).length = P.length ∨ o.isSome = false ∧ (o.getD []).length = 0) ∧ ∀ i, i < (o.getD []).length → i < P.length ∧ hexRead (P.getD i []) = some ((o.getD []).getD i 0) := by
        cases o with
        | none => exact ⟨.inr ⟨rfl, rfl⟩, fun i hi => absurd hi (by simp)⟩
        | some L =>
          obtain ⟨h1, h2⟩ := allHex_some HO.out
          refine ⟨.inl ⟨rfl, h1⟩, fun i hi => ⟨?_, h2 i hi⟩⟩
          have hi' : i < L.length := hi
          omega
      obtain ⟨hak, HF⟩ := hfacts
      have HF := Lib.hid HF
      have HS := Lib.hid (congrArg Option.isSome HO.out)
      generalize o.getD [] = L at *
      generalize o.isSome = a at *
      obtain ⟨k, hk⟩ : ∃ k, L.length = k := ⟨_, rfl⟩
      have HV := Lib.hid fun i hi => hv.at_ (i := i) hi
      rw [hk] at HV HF hak ⊢
      clear hv H6 HO he
      go_wp2_with fail
      refine (H7.out _).mono ?_
      rintro e w8 ⟨u, rfl, hu, y8⟩
      have y87 := y8
      have y8 := below_step y7 y8
      obtain ⟨B, d, rfl⟩ := hu.shape
      obtain ⟨n, hn⟩ : ∃ n, P.length = n := ⟨_, rfl⟩
      have HU := Lib.hid fun i hi => hu.at_ (i := i) hi
      rw [hn] at HU hcnt hak HF ⊢
      clear hu H7
      go_wp2
      go_loopw [14, 73] (fun ug t wr => ∃ (i : Nat) (gd : Bool), t = .int .i64 i ∧ ug = .bool gd ∧ i ≤ n ∧ a = (gd && (allHex (P.drop i)).isSome) ∧ Below w8.heap.size w8 wr) (fun _ t _ => n - (intOf t).toNat)
      case atStart => exact ⟨0, true, rfl, rfl, by omega, by simpa using HS.out.symm, Below.refl _ _⟩
      case round =>
        obtain ⟨i, gd, rfl, rfl, hi, hgd, hb⟩ := hrel
        have HG := Lib.hid hgd
        clear hgd
        by_cases hlt : i < n
        · obtain ⟨g, rfl, hg, hc⟩ := HU.out i hlt
          have hc1 := (hb.cell (p := ⟨g, i, none⟩) hg).trans hc
          have hdr : P.drop i = P.getD i [] :: P.drop (i + 1) := drop_get [] (by omega)
          have hxl := HWL.out i
          generalize P.getD i [] = z at *
          cases gd with
          | false =>
            clear HU HV HF hc hdr
            go_wp2
            go_roundw
            case rel => exact ⟨i + 1, false, by go_num, rfl, by omega, by simpa using HG.out, hb⟩
            case measure => simp [intOf]; omega
          | true =>
            cases hz : hexRead z with
            | none =>
              have HX : Hid (∀ W, Calls Tryd.prog 15 #[.string ⟨z.toArray⟩] W (RetV (.int .i64 (-1)) W)) := Lib.hid fun W => refHex_any ⟨z.toArray⟩ none W hxl (by simpa using hz)
              have hst : a = (false && (allHex (P.drop (i + 1))).isSome) := by rw [HG.out, hdr, allHex, hz]; rfl
              have HST := Lib.hid hst
              clear HU HV HF hc hdr hz HG hst
              go_wp2_with fail
              refine (HX.out _).mono ?_
              rintro e w9 ⟨rfl, y9⟩
              go_wp2
              go_roundw
              case rel => exact ⟨i + 1, false, by go_num, rfl, by omega, HST.out, below_step hb y9⟩
              case measure => simp [intOf]; omega
            | some m =>
              have HX : Hid (∀ W, Calls Tryd.prog 15 #[.string ⟨z.toArray⟩] W (RetV (.int .i64 (m : Int)) W)) := Lib.hid fun W => refHex_any ⟨z.toArray⟩ (some m) W hxl (by simpa using hz)
              have hst : a = (true && (allHex (P.drop (i + 1))).isSome) := by rw [HG.out, hdr, allHex, hz]; cases allHex (P.drop (i + 1)) <;> rfl
              have HST := Lib.hid hst
              clear HU HV HF hc hdr hz HG hst
              go_wp2_with fail
              refine (HX.out _).mono ?_
              rintro e w9 ⟨rfl, y9⟩
              go_wp2
              go_roundw
              case rel => exact ⟨i + 1, true, by go_num, rfl, by omega, HST.out, below_step hb y9⟩
              case measure => simp [intOf]; omega
        · obtain rfl : i = n := by omega
          have hga : gd = a := by have := HG.out; rw [List.drop_of_length_le (by omega), allHex] at this; simpa using this.symm
          subst hga
          clear HG HS
          go_upto_region 18 with fail
          go_cut [105] (fun c wx => c = .bool false ∧ wx = wr)
          case first =>
            clear HU HV HF HWL
            rcases hak with ⟨rfl, hki⟩ | ⟨rfl, hki⟩
            · subst hki
              rcases Nat.eq_zero_or_pos k with h0 | h0
              · subst h0
                go_wp2
                go_meet
                exact ⟨congrArg Value.bool (by simp), rfl⟩
              · have h0' : ((k : Int) == 0) = false := by rw [beq_eq_false_iff_ne]; omega
                have h0'' : ¬ k = 0 := by omega
                go_wp2
                go_meet
                exact ⟨congrArg Value.bool (by simp), rfl⟩
            · subst hki
              go_wp2
              go_meet
              exact ⟨congrArg Value.bool (by simp), rfl⟩
          case rest =>
            obtain ⟨rfl, hcw⟩ := hcut
            obtain rfl : wr = wc := hcw.symm
            have hkb : k ≤ i := by omega
            clear hcw hak
            go_wp2
            go_loopw [108] (fun t wq => ∃ j : Nat, t = .int .i64 j ∧ j ≤ k ∧ Below wr.heap.size wr wq) (fun t _ => k - (intOf t).toNat)
            case atStart => exact ⟨0, rfl, by omega, Below.refl _ _⟩
            case round =>
              obtain ⟨j, rfl, hj, hbq⟩ := hrel
              by_cases hlt2 : j < k
              · obtain ⟨hjn, hrd⟩ := HF.out j hlt2
                obtain ⟨g, rfl, hg, hc⟩ := HU.out j hjn
                obtain ⟨g', rfl, hg', hc'⟩ := HV.out j hlt2
                have hb8 := below_step hb hbq
                have hc1 := (hb8.cell (p := ⟨g, j, none⟩) hg).trans hc
                have hb7 := below_step y87 hb8
                have hc2 := (hb7.cell (p := ⟨g', j, none⟩) hg').trans hc'
                have hg2 := Nat.lt_of_lt_of_le hg hb8.size
                have hg2' := Nat.lt_of_lt_of_le hg' hb7.size
                have hxl := HWL.out j
                have hmb := hexRead_le hrd
                have HX : Hid (∀ W, Calls Tryd.prog 15 #[.string ⟨(P.getD j []).toArray⟩] W (RetV (.int .i64 ((L.getD j 0 : Nat) : Int)) W)) := Lib.hid fun W => refHex_any ⟨(P.getD j []).toArray⟩ (some (L.getD j 0)) W hxl (by simpa using hrd)
                clear hrd HF HU HV HWL hc hc' hg hg'
                generalize P.getD j [] = z at *
                generalize L.getD j 0 = m at *
                have hwm : IntKind.i64.wrap (m : Int) = (m : Int) := by rw [IntKind.wrap_i64]; omega
                go_wp2_with fail
                go_region_held3 (fun w' => w'.cell? ⟨g', j, none⟩ = some (.int .i32 (m : Int)) ∧ w'.cell? ⟨g, j, none⟩ = some (.string ⟨z.toArray⟩))
                  (first | exact keep2c hc2 hc1 hg2' hg2 (below_drew _) | exact keep2c hc2 hc1 hg2' hg2 hq1)
                  (first | (go_at_call 15; (with_reducible refine (HX.out _).mono ?_); rintro e q1 ⟨rfl, z1⟩; have hq1 := below_step (below_drew _) z1))
                clear hn hk hc1 hc2
                go_wp2
                go_roundw
                case rel => exact ⟨j + 1, by go_num, by omega, below_step hbq hq1⟩
                case measure => simp [intOf]; omega
              · go_wp2
                go_ret
                exact ⟨rfl, below_step y8 (below_step hb hbq)⟩
end Go.Proofs.YtanpncjnojjmkaaDoor
