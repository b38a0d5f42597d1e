/-
  The laws of cpset: CpsetRanges' walk.
-/
import Derived.Test.YtccbofaefpbhlaaDoorLawC
import Derived.Test.YtccbofaefpbhlaaDoorSameA
import Derived.Test.YtccbofaefpbhlaaDoorPlaceM
import Derived.Deep.RegionHeld3
import Derived.Test.YtccbofaefpbhlaaDoorRegB
namespace Go.Proofs.YtccbofaefpbhlaaDoor
set_option linter.unusedVariables false
set_option maxRecDepth 20000
open Go.RowKit

theorem rightP_okR (r : Int × Int) : OkR (rightP r) := by
  have h1 := cutC_range r.1
  have h2 := cutC_range r.2
  unfold OkR rightP
  simp only
  omega
theorem rights_okR (L : List (Int × Int)) : ∀ r ∈ L.map rightP, OkR r := by
  intro r hr
  obtain ⟨x, _, rfl⟩ := List.mem_map.1 hr
  exact rightP_okR x
theorem rights_lenR (L : List (Int × Int)) : ((L.take 12).map rightP).length ≤ 12 := by rw [List.length_map, List.length_take]; omega

/-- The row whose first i and last i have changed their places. -/
def TurnB (B : Nat) (ao : Option Addr) (L : List (Int × Int)) (i : Nat) (w : World) : Prop :=
  L ≠ [] → ∃ g cs, ao = some ⟨g, 0, none⟩ ∧ B ≤ g ∧ Blk w g 59 cs ∧ ∀ p, p < L.length → cs[p * 2]? = some (.int .i32 (turnAt L i p).1) ∧ cs[p * 2 + 1]? = some (.int .i32 (turnAt L i p).2)
theorem rgCells_at : ∀ (L : List (Int × Int)) (i : Nat), i < L.length → (rgCells L)[i * 2]? = some (.int .i32 (L.getD i (0, 0)).1) ∧ (rgCells L)[i * 2 + 1]? = some (.int .i32 (L.getD i (0, 0)).2)
  | [], i, h => by simp at h
  | r :: L, 0, _ => by simp [rgCells]
  | r :: L, i + 1, h => by
    have ih := rgCells_at L i (by simpa using h)
    have e : rgCells (r :: L) = [.int .i32 r.1, .int .i32 r.2] ++ rgCells L := by simp [rgCells]
    rw [e, List.getElem?_append_right (by simp; omega), List.getElem?_append_right (by simp; omega)]
    rw [show (i + 1) * 2 - [Value.int IntKind.i32 r.1, Value.int IntKind.i32 r.2].length = i * 2 by simp; omega, show (i + 1) * 2 + 1 - [Value.int IntKind.i32 r.1, Value.int IntKind.i32 r.2].length = i * 2 + 1 by simp; omega]
    simpa using ih
/-- Two pairs change their places. -/
theorem swap_cells {cs : Array Value} {i k n : Nat} {f f' : Nat → Int × Int} (hcs : ∀ p, p < n → cs[p * 2]? = some (.int .i32 (f p).1) ∧ cs[p * 2 + 1]? = some (.int .i32 (f p).2)) (hik : i < k) (hk : k < n)
    (hf : ∀ p, p < n → f' p = if p = k then f i else if p = i then f k else f p) : ∀ p, p < n →
    ((((cs.setIfInBounds (i * 2) (.int .i32 (f k).1)).setIfInBounds (i * 2 + 1) (.int .i32 (f k).2)).setIfInBounds (k * 2) (.int .i32 (f i).1)).setIfInBounds (k * 2 + 1) (.int .i32 (f i).2))[p * 2]? = some (.int .i32 (f' p).1) ∧
    ((((cs.setIfInBounds (i * 2) (.int .i32 (f k).1)).setIfInBounds (i * 2 + 1) (.int .i32 (f k).2)).setIfInBounds (k * 2) (.int .i32 (f i).1)).setIfInBounds (k * 2 + 1) (.int .i32 (f i).2))[p * 2 + 1]? = some (.int .i32 (f' p).2) := by
  intro p hp
  have hsz : ∀ q, q < n → q * 2 + 1 < cs.size := fun q hq => (Array.getElem?_eq_some_iff.1 (hcs q hq).2).1
  have h1 := hsz i (by omega)
  have h2 := hsz k hk
  rw [hf p hp]
  by_cases e1 : p = k
  · subst e1
    rw [if_pos rfl]
    constructor
    · rw [Array.getElem?_setIfInBounds_ne (by omega), Array.getElem?_setIfInBounds_self_of_lt (by simp; omega)]
    · rw [Array.getElem?_setIfInBounds_self_of_lt (by simp; omega)]
  · rw [if_neg e1]
    by_cases e2 : p = i
    · subst e2
      rw [if_pos rfl]
      constructor
      · rw [Array.getElem?_setIfInBounds_ne (by omega), Array.getElem?_setIfInBounds_ne (by omega), Array.getElem?_setIfInBounds_ne (by omega), Array.getElem?_setIfInBounds_self_of_lt (by omega)]
      · rw [Array.getElem?_setIfInBounds_ne (by omega), Array.getElem?_setIfInBounds_ne (by omega), Array.getElem?_setIfInBounds_self_of_lt (by simp; omega)]
    · rw [if_neg e2]
      constructor
      · rw [Array.getElem?_setIfInBounds_ne (by omega), Array.getElem?_setIfInBounds_ne (by omega), Array.getElem?_setIfInBounds_ne (by omega), Array.getElem?_setIfInBounds_ne (by omega)]
        exact (hcs p hp).1
      · rw [Array.getElem?_setIfInBounds_ne (by omega), Array.getElem?_setIfInBounds_ne (by omega), Array.getElem?_setIfInBounds_ne (by omega), Array.getElem?_setIfInBounds_ne (by omega)]
        exact (hcs p hp).2
/-- Of, of ranges that may be. -/
theorem of_good (L : List (Int × Int)) (A : Option Addr) (c : Nat) (w : World) (he : EnvR w) (hin : RgIn w A L) (hn : L.length ≤ 1000000) (hok : ∀ r ∈ L, OkR r) : Calls Tryd.prog 15 #[.slice A L.length c] w (RetSE (inR L) w) := by
  refine (of_any L A c L.length w he hin hn (Nat.le_refl _) (fun j hj => hok _ (by simp [List.getD, hj])) (fun h => absurd h (Nat.lt_irrefl _))).mono ?_
  rintro e w' (⟨_, h⟩ | ⟨h, _⟩)
  · exact h
  · exact absurd h (Nat.lt_irrefl _)
theorem own_turn {w : World} {B n : Nat} {u : Value} {L : List (Int × Int)} (h : w.ownsRow B 59 2 u n (rgCells L)) : ∃ ao cap, u = .slice ao n cap ∧ TurnB B ao L 0 w := by
  have hl : L.length = n := by have := h.1; rw [rgCells_length] at this; omega
  rcases h.2 with ⟨rfl, h0⟩ | ⟨g, cap, cur, rfl, hB, hh, hnc, hm, hs, hx⟩
  · refine ⟨none, 0, by rw [h0], fun hne => absurd (List.length_eq_zero_iff.1 (by omega)) hne⟩
  · refine ⟨_, cap, rfl, fun _ => ⟨g, cur, rfl, hB, hh, fun p hp => ?_⟩⟩
    rw [turnAt_zero L p hp]
    have h1 := rgCells_at L p hp
    rw [← hx, List.getElem?_take, if_pos (by omega), List.getElem?_take, if_pos (by omega)] at h1
    simpa using h1
theorem TurnB.rgIn {w : World} {B i : Nat} {ao : Option Addr} {L : List (Int × Int)} (h : TurnB B ao L i w) (hi : L.length ≤ 2 * i + 1) : RgIn w ao L.reverse := fun hne => by
  obtain ⟨g, cs, e, _, hB, hc⟩ := h (by simpa using hne)
  refine ⟨g, e, hB.lt, fun p hp => ?_⟩
  have hp' : p < L.length := by simpa using hp
  rw [← turnAt_last L i p hp' hi, hB.cell, hB.cell]
  exact hc p hp'

set_option maxHeartbeats 8000000 in
theorem cpsetRanges_walk (A : Option Addr) (n c : Nat) (L : List (Int × Int)) (c0 : Int) (w : World) (he : EnvR w) (hL : L.length = n) (hr : PairIn w A L) (hnc : n ≤ c) (hnil : A = none → c = 0) (hn : n ≤ 9223372036854775807) :
    Calls Tryd.prog 7 #[.slice A n c, .int .i64 c0] w (RetV (.bool true) w) := by
  have HAW := Lib.hid (awake_any w he)
  have RI := Lib.hid (fun W (hW : Below w.heap.size w W) => right_any A n c L W hL (hr.below hW) hnc hnil hn)
  have hok := rights_okR (L.take 12)
  have hlen := rights_lenR L
  generalize (L.take 12).map rightP = M at *
  have ST : Hid (∀ A c W, Below w.heap.size w W → PairAt W A M → Calls Tryd.prog 24 #[.slice A M.length c] W (RetSet (inR M) W.heap.size W)) := Lib.hid (fun A c W hW hp => set_any A M.length c M W (he.kept hW) rfl hp hok (by omega))
  have HE := Lib.hid he
  clear hok hlen hL hr hnc hnil he
  go_enter Tryd.func7, Tryd.ntmps7
  go_wp2_with fail
  refine HAW.out.mono ?_
  rintro e w1 ⟨rfl, y1⟩
  go_wp2_with fail
  refine (RI.out _ y1).mono ?_
  rintro e w2 ⟨u, rfl, hown, y2⟩
  have b2 := below_step y1 y2
  obtain ⟨A2, c2, rfl, hpa, _⟩ := own_pairAt hown
  have ST2 := Lib.hid (ST.out A2 c2 w2 b2 hpa)
  clear hown hpa ST RI HAW
  generalize M.length = m at *
  go_wp2_with fail
  refine ST2.out.mono ?_
  rintro e w3 ⟨v, S, rfl, hset, _, y3⟩
  have b3 := below_step b2 y3
  have hg := hset.good
  obtain ⟨ao, cp, rfl⟩ := hset.shape
  have hX := Blk.new w3 29 #[.slice ao S.length cp]
  have b4 := b3.alloc b3.size (.cells #[.slice ao S.length cp] 29)
  have hs4 := hset.alloc (.cells #[.slice ao S.length cp] 29)
  clear ST2 hset
  obtain ⟨g5, hg5⟩ : ∃ g5, g5 = w3.heap.size := ⟨_, rfl⟩
  rw [← hg5] at hX
  have RG := Lib.hid (ranges_any S _ _ hs4)
  obtain ⟨sl, hsl⟩ : ∃ sl, S.length = sl := ⟨_, rfl⟩
  have hlen5 := hg.len (by decide)
  rw [hsl] at RG hX hs4 b4 hlen5 ⊢
  have HSL := Lib.hid hsl
  clear hsl
  go_wp2_with fail
  rw [← hg5]
  clear hg5
  generalize w3.alloc (.cells #[.slice ao sl cp] 29) = V at *
  refine RG.out.mono ?_
  rintro e w5 ⟨u, rfl, hown, y5⟩
  have b5 := y5
  rw [intR_length, HSL.out] at hown
  obtain ⟨a6, c6, rfl, hT⟩ := own_turn hown
  have k5 := (hX.on b5).cell0
  have HILEN : Hid ((intR S).length = sl) := Lib.hid (by rw [intR_length, HSL.out])
  clear RG hown
  go_wp2
  go_loopw [7, 8] (fun t u wr => ∃ (i : Nat) (z : Int), 2 * i ≤ sl + 1 ∧ t = .int .i64 (i : Int) ∧ u = .int .i64 z ∧ Hid (z = (sl : Int) - 1 - (i : Int)) ∧ TurnB V.heap.size a6 (intR S) i wr ∧ Below V.heap.size V wr) (fun t _ _ => sl + 1 - (intOf t).toNat)
  case atStart => exact ⟨0, _, by omega, rfl, rfl, Lib.hid (by omega), hT, b5⟩
  case round =>
    clear hT b5 k5
    obtain ⟨i, z, hi, rfl, rfl, HZ, hT, hb⟩ := hrel
    by_cases hlt : 2 * i + 1 < sl
    · obtain ⟨k, hk⟩ : ∃ k, k = sl - 1 - i := ⟨_, rfl⟩
      have hzk : z = (k : Int) := by have := HZ.out; omega
      subst hzk
      have hne : intR S ≠ [] := fun e => by have := HILEN.out; rw [e] at this; simp at this; omega
      obtain ⟨g, cs, rfl, hgV, hB, hcs⟩ := hT hne
      have hik : i < k := by omega
      have hks : k < sl := by omega
      obtain ⟨i1, i2⟩ := hcs i (by rw [HILEN.out]; omega)
      obtain ⟨k1, k2⟩ := hcs k (by rw [HILEN.out]; omega)
      have ci1 := (hB.cell (i * 2)).trans i1
      have ci2 := (hB.cell (i * 2 + 1)).trans i2
      have ck1 := (hB.cell (k * 2)).trans k1
      have ck2 := (hB.cell (k * 2 + 1)).trans k2
      have HCS := Lib.hid hcs
      have HKK := Lib.hid hk
      obtain ⟨PI, hPI⟩ : ∃ P, turnAt (intR S) i i = P := ⟨_, rfl⟩
      obtain ⟨PK, hPK⟩ : ∃ P, turnAt (intR S) i k = P := ⟨_, rfl⟩
      rw [hPI] at ci1 ci2
      rw [hPK] at ck1 ck2
      have HPI := Lib.hid hPI
      have HPK := Lib.hid hPK
      have f1 := hB.free (i * 2)
      have f2 := hB.free (i * 2 + 1)
      have f3 := hB.free (k * 2)
      have f4 := hB.free (k * 2 + 1)
      have hB' := ((((hB.set_ (i * 2) (.int .i32 PK.1)).set_ (i * 2 + 1) (.int .i32 PK.2)).set_ (k * 2) (.int .i32 PI.1)).set_ (k * 2 + 1) (.int .i32 PI.2))
      have hb' := (((hb.setCell (p := ⟨g, i * 2, none⟩) hgV (.int .i32 PK.1)).setCell (p := ⟨g, i * 2 + 1, none⟩) hgV (.int .i32 PK.2)).setCell (p := ⟨g, k * 2, none⟩) hgV (.int .i32 PI.1)).setCell (p := ⟨g, k * 2 + 1, none⟩) hgV (.int .i32 PI.2)
      have HTN : Hid (∀ p, p < (intR S).length → _) := Lib.hid (swap_cells (f := turnAt (intR S) i) (f' := turnAt (intR S) (i + 1)) (k := k) HCS.out hik (by rw [HILEN.out]; exact hks) (fun p hp => by
        have := turnAt_step (intR S) i p hp (by rw [HILEN.out]; exact hlt)
        rw [HILEN.out] at this
        rw [this, HKK.out]))
      rw [hPI, hPK] at HTN
      clear hcs hT i1 i2 k1 k2 hk hPI hPK hB hb HCS
      obtain ⟨x1, x2⟩ := PI
      obtain ⟨y1, y2⟩ := PK
      simp only at ci1 ci2 ck1 ck2 hB' hb'
      go_wp2_with fail
      go_region
      go_wp2
      go_roundw
      case rel => exact ⟨i + 1, _, by omega, by go_num, rfl, Lib.hid (by have := HKK.out; omega), fun _ => ⟨g, _, rfl, hgV, hB', HTN.out⟩, hb'.drew⟩
      case measure => simp [intOf]; omega
    · have hz : ¬ (i : Int) < z := by have := HZ.out; omega
      have hz1 : -1 ≤ z := by have := HZ.out; omega
      have hz2 : z ≤ 1000000 := by have := HZ.out; omega
      have hrev := hT.rgIn (by rw [HILEN.out]; omega)
      have b6 := b4.trans (hb.mono b4.size)
      have hs6 := hs4.below hb
      have OF := Lib.hid (of_good (intR S).reverse a6 c6 _ (HE.out.kept b6) hrev (by rw [List.length_reverse, HILEN.out]; omega) (fun r hr => intR_ok hg r (by simpa using hr)))
      rw [List.length_reverse, HILEN.out] at OF
      have hX6 := hX.on hb
      clear hT hrev hb HZ
      go_wp2_with fail
      refine OF.out.mono ?_
      rintro e w7 ⟨v7, T, rfl, hset, hmem, y7⟩
      have hT7 := hset.as hg (fun x => by rw [hmem, inR_reverse, inR_intR hg])
      have hs7 := hs6.below y7
      have hX7 := hX6.on y7
      have b7 := below_step b6 y7
      clear OF hset hmem y7 b6 hs6 hX6
      obtain ⟨a7, c7, rfl⟩ := hT7.shape
      rw [HSL.out] at hT7 ⊢
      have hand := i64_and21' c0
      have htm : (c0 % 2097152).tmod 1114112 = cutC c0 := by rw [Int.tmod_eq_emod_of_nonneg (by omega)]; rfl
      obtain ⟨hx0, hx1⟩ := cutC_range c0
      obtain ⟨cn, hcn⟩ : ∃ cn : Nat, cutC c0 = (cn : Int) := ⟨(cutC c0).toNat, by omega⟩
      rw [hcn] at htm hx1
      clear hcn hx0
      have hX9 := Blk.new w7 29 #[.slice a7 sl c7]
      have b8 := b7.alloc b7.size (.cells #[.slice a7 sl c7] 29)
      have hX8 := hX7.alloc (.cells #[.slice a7 sl c7] 29)
      have hs8 := hs7.alloc (.cells #[.slice a7 sl c7] 29)
      have hT8 := hT7.alloc (.cells #[.slice a7 sl c7] 29)
      obtain ⟨g9, hg9⟩ : ∃ g9, g9 = w7.heap.size := ⟨_, rfl⟩
      rw [← hg9] at hX9
      obtain ⟨gl, hgl⟩ : ∃ gl, gl = w7.heap.size + 1 := ⟨_, rfl⟩
      have HGL : Hid ((w7.alloc (.cells #[.slice a7 sl c7] 29)).heap.size = gl) := Lib.hid (by rw [hgl]; simp)
      have LO : Hid (∀ W, Below w.heap.size w W → W.heap.size = gl → Calls Tryd.prog 15 #[.slice (some ⟨gl, 0, none⟩) 1 1] (W.alloc (.cells #[.int .i32 0, .int .i32 (cn : Int)] 59)) (RetSE (inR [((0 : Int), (cn : Int))]) (W.alloc (.cells #[.int .i32 0, .int .i32 (cn : Int)] 59)))) := Lib.hid fun W hW hWg => by
        have hN := Blk.new W 59 #[.int .i32 0, .int .i32 (cn : Int)]
        refine of_good [((0 : Int), (cn : Int))] _ 1 _ (HE.out.kept (hW.alloc hW.size _)) (fun _ => ⟨W.heap.size, by rw [hWg], hN.lt, fun i hi => ?_⟩) (by simp) (by simp [OkR]; omega)
        obtain rfl : i = 0 := by simp at hi; omega
        rw [hN.cell, hN.cell]
        exact ⟨rfl, rfl⟩
      go_wp2_with fail
      rw [← hgl, ← hg9]
      clear hgl hg9 hX7 hs7 hT7 b7
      generalize w7.alloc (.cells #[.slice a7 sl c7] 29) = V8 at *
      with_reducible refine (LO.out _ b8 HGL.out).mono ?_
      rintro e w9 ⟨v9, T2, rfl, hset, hmem, y9⟩
      have y10 := below_step (below_new V8 _) y9
      have hgL := hset.good
      have HLM := Lib.hid (low_in hg hmem)
      have b9 := below_step b8 y10
      have hX8 := hX8.on y10
      have hX9 := hX9.on y10
      have hs9 := hs8.below y10
      have hT9 := hT8.below y10
      obtain ⟨a10, c10, rfl⟩ := hset.shape
      clear LO hmem hand y9 y10 hs8 hT8 b8
      obtain ⟨tl, htl⟩ : ∃ tl, T2.length = tl := ⟨_, rfl⟩
      rw [htl] at hset ⊢
      clear htl
      have hX11 := Blk.new w9 29 #[.slice a10 tl c10]
      have b10 := b9.alloc b9.size (.cells #[.slice a10 tl c10] 29)
      have hX8 := hX8.alloc (.cells #[.slice a10 tl c10] 29)
      have hX9 := hX9.alloc (.cells #[.slice a10 tl c10] 29)
      have hs9 := hs9.alloc (.cells #[.slice a10 tl c10] 29)
      have hT9 := hT9.alloc (.cells #[.slice a10 tl c10] 29)
      have hL9 := hset.alloc (.cells #[.slice a10 tl c10] 29)
      obtain ⟨g11, hg11⟩ : ∃ g11, g11 = w9.heap.size := ⟨_, rfl⟩
      rw [← hg11] at hX11
      have SM := Lib.hid (fun W hW => same_yes S _ _ W (hs9.below hW) (hT9.below hW))
      have k8 := hX8.cell0
      have k9 := hX9.cell0
      go_wp2_with fail
      rw [← hg11]
      clear hg11 b9 hset
      generalize w9.alloc (.cells #[.slice a10 tl c10] 29) = V9 at *
      with_reducible refine (SM.out _ (Below.refl _ _)).mono ?_
      rintro e w10 ⟨rfl, y11⟩
      have k11 := y11
      have hX8 := hX8.on y11
      have hX9 := hX9.on y11
      have hX11 := hX11.on y11
      have hs10 := hs9.below y11
      have hL10 := hL9.below y11
      have b11 := below_step b10 y11
      clear SM k8 k9 k11 y11 b10 hs9 hT9 hL9
      obtain ⟨W10, hW10⟩ : ∃ W10, W10 = w10 := ⟨_, rfl⟩
      rw [← hW10] at hX8 hX9 hX11 hs10 hL10 b11 ⊢
      clear hW10
      have HAND := Lib.hid (fun W' (h1 : Below W10.heap.size W10 W') => setAnd_any S T2 _ _ W' (hs10.below h1) (hL10.below h1) (MayMerge.of hg hgL))
      have HLES := Lib.hid (fun W' (h1 : Below W10.heap.size W10 W') => setLess_any S T2 _ _ W' (hs10.below h1) (hL10.below h1) (MayMerge.of hg hgL))
      go_upto_region 14 with fail
      go_cut [13, 14] from 62 to 111 (fun v13 v14 wx => Rg.BoxTwo W10 (fun c => (fun a b => (a && b)) (memS S c) (memS T2 c)) (fun c => (fun a b => (a && !b)) (memS S c) (memS T2 c)) v13 v14 wx)
      case first =>
        refine Rg.wp_region_frame (q := 8) (n := 10) (m := 112) (ds := fun i => [74, 75, 76, 77, 78, 79, 13, 14].getD i 0) (al := fun i => i == 6 || i == 7) (R := fun i w v => ([Rg.Wd.eq (.agg #[.slice ao sl cp]), .eq (.agg #[.slice a10 tl c10]), .mem (fun c => (fun a b => (a && b)) (memS S c) (memS T2 c)), .eq (.agg #[.slice ao sl cp]), .eq (.agg #[.slice a10 tl c10]), .mem (fun c => (fun a b => (a && !b)) (memS S c) (memS T2 c)), .box, .box].getD i (.eq undef)).ok w v)
          (fun fr => Rg.TwoT W10 112 8 (fun i => [74, 75, 76, 77, 78, 79, 13, 14].getD i 0) fr 13 14 76 79 (fun c => (fun a b => (a && b)) (memS S c) (memS T2 c)) (fun c => (fun a b => (a && !b)) (memS S c) (memS T2 c)))
          (by kernel_rfl) rfl (by decide) (by kernel_rfl) (by kernel_rfl) (by decide) (by decide) (fun j v w w' hb h => Rg.Wd.stable hb h) rfl rfl ?ops14 ?mid14 ?tail14 ?end14
        case mid14 =>
          intro a' w' h1 h2 h3 h4 h5 h6 h7
          exact Rg.TwoT.start h1 h2 h4 h3 (h5 6 (by decide)) (h5 7 (by decide)) (h6 6 (by decide) (by decide)) (h6 7 (by decide) (by decide)) (h7 6 7 (by decide) (by decide) (by decide) (by decide) (by decide)) (h5 2 (by decide)) (h5 5 (by decide))
        case tail14 =>
          iterate 8 refine ⟨fun h => absurd h (by decide), ?_⟩
          refine ⟨fun _ a w' hT => ⟨Rg.wanted_none rfl, fun K hK => Rg.two_store1 hT rfl rfl hK⟩, ?_⟩
          refine ⟨fun _ a w' hT => ⟨Rg.wanted_none rfl, fun K hK => Rg.two_store2 hT rfl rfl hK⟩, ?_⟩
          trivial
        case end14 =>
          rintro ⟨t, d⟩ w' hT
          have hBT := Rg.TwoT.boxes hT
          obtain ⟨hsz, hd, hrest, _⟩ := hT
          have hd' : d = [] := hd
          have hsz' : t.size = 112 := hsz
          have e := Rg.arr_eta t 112 hsz'
          subst hd'
          change t = List.toArray (t.getD 0 undef :: t.getD 1 undef :: t.getD 2 undef :: t.getD 3 undef :: t.getD 4 undef :: t.getD 5 undef :: t.getD 6 undef :: t.getD 7 undef :: t.getD 8 undef :: t.getD 9 undef :: t.getD 10 undef :: t.getD 11 undef :: t.getD 12 undef :: t.getD 13 undef :: t.getD 14 undef :: t.getD 15 undef :: t.getD 16 undef :: t.getD 17 undef :: t.getD 18 undef :: t.getD 19 undef :: t.getD 20 undef :: t.getD 21 undef :: t.getD 22 undef :: t.getD 23 undef :: t.getD 24 undef :: t.getD 25 undef :: t.getD 26 undef :: t.getD 27 undef :: t.getD 28 undef :: t.getD 29 undef :: t.getD 30 undef :: t.getD 31 undef :: t.getD 32 undef :: t.getD 33 undef :: t.getD 34 undef :: t.getD 35 undef :: t.getD 36 undef :: t.getD 37 undef :: t.getD 38 undef :: t.getD 39 undef :: t.getD 40 undef :: t.getD 41 undef :: t.getD 42 undef :: t.getD 43 undef :: t.getD 44 undef :: t.getD 45 undef :: t.getD 46 undef :: t.getD 47 undef :: t.getD 48 undef :: t.getD 49 undef :: t.getD 50 undef :: t.getD 51 undef :: t.getD 52 undef :: t.getD 53 undef :: t.getD 54 undef :: t.getD 55 undef :: t.getD 56 undef :: t.getD 57 undef :: t.getD 58 undef :: t.getD 59 undef :: t.getD 60 undef :: t.getD 61 undef :: t.getD 62 undef :: t.getD 63 undef :: t.getD 64 undef :: t.getD 65 undef :: t.getD 66 undef :: t.getD 67 undef :: t.getD 68 undef :: t.getD 69 undef :: t.getD 70 undef :: t.getD 71 undef :: t.getD 72 undef :: t.getD 73 undef :: t.getD 74 undef :: t.getD 75 undef :: t.getD 76 undef :: t.getD 77 undef :: t.getD 78 undef :: t.getD 79 undef :: t.getD 80 undef :: t.getD 81 undef :: t.getD 82 undef :: t.getD 83 undef :: t.getD 84 undef :: t.getD 85 undef :: t.getD 86 undef :: t.getD 87 undef :: t.getD 88 undef :: t.getD 89 undef :: t.getD 90 undef :: t.getD 91 undef :: t.getD 92 undef :: t.getD 93 undef :: t.getD 94 undef :: t.getD 95 undef :: t.getD 96 undef :: t.getD 97 undef :: t.getD 98 undef :: t.getD 99 undef :: t.getD 100 undef :: t.getD 101 undef :: t.getD 102 undef :: t.getD 103 undef :: t.getD 104 undef :: t.getD 105 undef :: t.getD 106 undef :: t.getD 107 undef :: t.getD 108 undef :: t.getD 109 undef :: t.getD 110 undef :: t.getD 111 undef :: []) at e
          have l0 : t.getD 0 undef = _ := hrest 0 (by decide) (by decide)
          have l1 : t.getD 1 undef = _ := hrest 1 (by decide) (by decide)
          have l2 : t.getD 2 undef = _ := hrest 2 (by decide) (by decide)
          have l3 : t.getD 3 undef = _ := hrest 3 (by decide) (by decide)
          have l4 : t.getD 4 undef = _ := hrest 4 (by decide) (by decide)
          have l5 : t.getD 5 undef = _ := hrest 5 (by decide) (by decide)
          have l6 : t.getD 6 undef = _ := hrest 6 (by decide) (by decide)
          have l7 : t.getD 7 undef = _ := hrest 7 (by decide) (by decide)
          have l8 : t.getD 8 undef = _ := hrest 8 (by decide) (by decide)
          have l9 : t.getD 9 undef = _ := hrest 9 (by decide) (by decide)
          have l10 : t.getD 10 undef = _ := hrest 10 (by decide) (by decide)
          have l11 : t.getD 11 undef = _ := hrest 11 (by decide) (by decide)
          have l12 : t.getD 12 undef = _ := hrest 12 (by decide) (by decide)
          have l15 : t.getD 15 undef = _ := hrest 15 (by decide) (by decide)
          have l16 : t.getD 16 undef = _ := hrest 16 (by decide) (by decide)
          have l17 : t.getD 17 undef = _ := hrest 17 (by decide) (by decide)
          have l18 : t.getD 18 undef = _ := hrest 18 (by decide) (by decide)
          have l19 : t.getD 19 undef = _ := hrest 19 (by decide) (by decide)
          have l20 : t.getD 20 undef = _ := hrest 20 (by decide) (by decide)
          have l21 : t.getD 21 undef = _ := hrest 21 (by decide) (by decide)
          have l22 : t.getD 22 undef = _ := hrest 22 (by decide) (by decide)
          have l23 : t.getD 23 undef = _ := hrest 23 (by decide) (by decide)
          have l24 : t.getD 24 undef = _ := hrest 24 (by decide) (by decide)
          have l25 : t.getD 25 undef = _ := hrest 25 (by decide) (by decide)
          have l26 : t.getD 26 undef = _ := hrest 26 (by decide) (by decide)
          have l27 : t.getD 27 undef = _ := hrest 27 (by decide) (by decide)
          have l28 : t.getD 28 undef = _ := hrest 28 (by decide) (by decide)
          have l29 : t.getD 29 undef = _ := hrest 29 (by decide) (by decide)
          have l30 : t.getD 30 undef = _ := hrest 30 (by decide) (by decide)
          have l31 : t.getD 31 undef = _ := hrest 31 (by decide) (by decide)
          have l32 : t.getD 32 undef = _ := hrest 32 (by decide) (by decide)
          have l33 : t.getD 33 undef = _ := hrest 33 (by decide) (by decide)
          have l34 : t.getD 34 undef = _ := hrest 34 (by decide) (by decide)
          have l35 : t.getD 35 undef = _ := hrest 35 (by decide) (by decide)
          have l36 : t.getD 36 undef = _ := hrest 36 (by decide) (by decide)
          have l37 : t.getD 37 undef = _ := hrest 37 (by decide) (by decide)
          have l38 : t.getD 38 undef = _ := hrest 38 (by decide) (by decide)
          have l39 : t.getD 39 undef = _ := hrest 39 (by decide) (by decide)
          have l40 : t.getD 40 undef = _ := hrest 40 (by decide) (by decide)
          have l41 : t.getD 41 undef = _ := hrest 41 (by decide) (by decide)
          have l42 : t.getD 42 undef = _ := hrest 42 (by decide) (by decide)
          have l43 : t.getD 43 undef = _ := hrest 43 (by decide) (by decide)
          have l44 : t.getD 44 undef = _ := hrest 44 (by decide) (by decide)
          have l45 : t.getD 45 undef = _ := hrest 45 (by decide) (by decide)
          have l46 : t.getD 46 undef = _ := hrest 46 (by decide) (by decide)
          have l47 : t.getD 47 undef = _ := hrest 47 (by decide) (by decide)
          have l48 : t.getD 48 undef = _ := hrest 48 (by decide) (by decide)
          have l49 : t.getD 49 undef = _ := hrest 49 (by decide) (by decide)
          have l50 : t.getD 50 undef = _ := hrest 50 (by decide) (by decide)
          have l51 : t.getD 51 undef = _ := hrest 51 (by decide) (by decide)
          have l52 : t.getD 52 undef = _ := hrest 52 (by decide) (by decide)
          have l53 : t.getD 53 undef = _ := hrest 53 (by decide) (by decide)
          have l54 : t.getD 54 undef = _ := hrest 54 (by decide) (by decide)
          have l55 : t.getD 55 undef = _ := hrest 55 (by decide) (by decide)
          have l56 : t.getD 56 undef = _ := hrest 56 (by decide) (by decide)
          have l57 : t.getD 57 undef = _ := hrest 57 (by decide) (by decide)
          have l58 : t.getD 58 undef = _ := hrest 58 (by decide) (by decide)
          have l59 : t.getD 59 undef = _ := hrest 59 (by decide) (by decide)
          have l60 : t.getD 60 undef = _ := hrest 60 (by decide) (by decide)
          have l61 : t.getD 61 undef = _ := hrest 61 (by decide) (by decide)
          rw [l0, l1, l2, l3, l4, l5, l6, l7, l8, l9, l10, l11, l12, l15, l16, l17, l18, l19, l20, l21, l22, l23, l24, l25, l26, l27, l28, l29, l30, l31, l32, l33, l34, l35, l36, l37, l38, l39, l40, l41, l42, l43, l44, l45, l46, l47, l48, l49, l50, l51, l52, l53, l54, l55, l56, l57, l58, l59, l60, l61] at e
          have hBT' : Rg.BoxTwo _ _ _ (t.getD 13 undef) (t.getD 14 undef) w' := hBT
          clear hBT hrest hsz hd l0 l1 l2 l3 l4 l5 l6 l7 l8 l9 l10 l11 l12 l15 l16 l17 l18 l19 l20 l21 l22 l23 l24 l25 l26 l27 l28 l29 l30 l31 l32 l33 l34 l35 l36 l37 l38 l39 l40 l41 l42 l43 l44 l45 l46 l47 l48 l49 l50 l51 l52 l53 l54 l55 l56 l57 l58 l59 l60 l61 hsz'
          generalize t.getD 13 undef = u13 at e hBT'
          generalize t.getD 14 undef = u14 at e hBT'
          generalize t.getD 62 undef = u62 at e
          generalize t.getD 63 undef = u63 at e
          generalize t.getD 64 undef = u64 at e
          generalize t.getD 65 undef = u65 at e
          generalize t.getD 66 undef = u66 at e
          generalize t.getD 67 undef = u67 at e
          generalize t.getD 68 undef = u68 at e
          generalize t.getD 69 undef = u69 at e
          generalize t.getD 70 undef = u70 at e
          generalize t.getD 71 undef = u71 at e
          generalize t.getD 72 undef = u72 at e
          generalize t.getD 73 undef = u73 at e
          generalize t.getD 74 undef = u74 at e
          generalize t.getD 75 undef = u75 at e
          generalize t.getD 76 undef = u76 at e
          generalize t.getD 77 undef = u77 at e
          generalize t.getD 78 undef = u78 at e
          generalize t.getD 79 undef = u79 at e
          generalize t.getD 80 undef = u80 at e
          generalize t.getD 81 undef = u81 at e
          generalize t.getD 82 undef = u82 at e
          generalize t.getD 83 undef = u83 at e
          generalize t.getD 84 undef = u84 at e
          generalize t.getD 85 undef = u85 at e
          generalize t.getD 86 undef = u86 at e
          generalize t.getD 87 undef = u87 at e
          generalize t.getD 88 undef = u88 at e
          generalize t.getD 89 undef = u89 at e
          generalize t.getD 90 undef = u90 at e
          generalize t.getD 91 undef = u91 at e
          generalize t.getD 92 undef = u92 at e
          generalize t.getD 93 undef = u93 at e
          generalize t.getD 94 undef = u94 at e
          generalize t.getD 95 undef = u95 at e
          generalize t.getD 96 undef = u96 at e
          generalize t.getD 97 undef = u97 at e
          generalize t.getD 98 undef = u98 at e
          generalize t.getD 99 undef = u99 at e
          generalize t.getD 100 undef = u100 at e
          generalize t.getD 101 undef = u101 at e
          generalize t.getD 102 undef = u102 at e
          generalize t.getD 103 undef = u103 at e
          generalize t.getD 104 undef = u104 at e
          generalize t.getD 105 undef = u105 at e
          generalize t.getD 106 undef = u106 at e
          generalize t.getD 107 undef = u107 at e
          generalize t.getD 108 undef = u108 at e
          generalize t.getD 109 undef = u109 at e
          generalize t.getD 110 undef = u110 at e
          generalize t.getD 111 undef = u111 at e
          subst e
          go_wp2_with fail
          go_meet
          exact hBT'
        case ops14 =>
          refine ⟨fun _ => ⟨rfl, fun l a w' hI hdeps => ⟨Rg.wanted_none rfl, fun K hK => ?_⟩⟩, ?_⟩
          · have hbw : Below W10.heap.size W10 w' := ⟨hI.below.os, hI.below.tape, hI.below.output, hI.below.size, hI.below.block⟩
            have e : a.tmps.getD 5 undef = .pointer (some ⟨g5, 0, none⟩) := hI.rest 5 (by decide) (by decide)
            exact Rg.wp_load29 rfl e ((hX8.on hbw).cell0) (hK _ _ (Below.refl _ _) rfl (fun h => absurd h (by decide)))
          refine ⟨fun _ => ⟨rfl, fun l a w' hI hdeps => ⟨Rg.wanted_none rfl, fun K hK => ?_⟩⟩, ?_⟩
          · have hbw : Below W10.heap.size W10 w' := ⟨hI.below.os, hI.below.tape, hI.below.output, hI.below.size, hI.below.block⟩
            have e : a.tmps.getD 11 undef = .pointer (some ⟨g11, 0, none⟩) := hI.rest 11 (by decide) (by decide)
            exact Rg.wp_load29 rfl e ((hX11.on hbw).cell0) (hK _ _ (Below.refl _ _) rfl (fun h => absurd h (by decide)))
          refine ⟨fun _ => ⟨rfl, fun l a w' hI hdeps => ⟨Rg.wanted_none rfl, fun K hK => ?_⟩⟩, ?_⟩
          · have hbw : Below W10.heap.size W10 w' := ⟨hI.below.os, hI.below.tape, hI.below.output, hI.below.size, hI.below.block⟩
            have e74 : a.tmps.getD 74 undef = .agg #[.slice ao sl cp] := hI.rel 0 (by decide) (hdeps ⟨0, .data⟩ (by simp) rfl)
            have e75 : a.tmps.getD 75 undef = .agg #[.slice a10 tl c10] := hI.rel 1 (by decide) (hdeps ⟨1, .data⟩ (by simp) rfl)
            refine Rg.wp_call2 rfl (enters_of Tryd.func29 (by kernel_rfl) rfl) ?_
            rw [e74, e75]
            refine (HAND.out w' hbw).mono ?_
            rintro e w'' ⟨v, S', rfl, hset, hmem, y⟩
            exact ⟨_, rfl, hK _ _ y ⟨S', hset, hmem⟩ (fun h => absurd h (by decide))⟩
          refine ⟨fun _ => ⟨rfl, fun l a w' hI hdeps => ⟨Rg.wanted_none rfl, fun K hK => ?_⟩⟩, ?_⟩
          · have hbw : Below W10.heap.size W10 w' := ⟨hI.below.os, hI.below.tape, hI.below.output, hI.below.size, hI.below.block⟩
            have e : a.tmps.getD 5 undef = .pointer (some ⟨g5, 0, none⟩) := hI.rest 5 (by decide) (by decide)
            exact Rg.wp_load29 rfl e ((hX8.on hbw).cell0) (hK _ _ (Below.refl _ _) rfl (fun h => absurd h (by decide)))
          refine ⟨fun _ => ⟨rfl, fun l a w' hI hdeps => ⟨Rg.wanted_none rfl, fun K hK => ?_⟩⟩, ?_⟩
          · have hbw : Below W10.heap.size W10 w' := ⟨hI.below.os, hI.below.tape, hI.below.output, hI.below.size, hI.below.block⟩
            have e : a.tmps.getD 11 undef = .pointer (some ⟨g11, 0, none⟩) := hI.rest 11 (by decide) (by decide)
            exact Rg.wp_load29 rfl e ((hX11.on hbw).cell0) (hK _ _ (Below.refl _ _) rfl (fun h => absurd h (by decide)))
          refine ⟨fun _ => ⟨rfl, fun l a w' hI hdeps => ⟨Rg.wanted_none rfl, fun K hK => ?_⟩⟩, ?_⟩
          · have hbw : Below W10.heap.size W10 w' := ⟨hI.below.os, hI.below.tape, hI.below.output, hI.below.size, hI.below.block⟩
            have e77 : a.tmps.getD 77 undef = .agg #[.slice ao sl cp] := hI.rel 3 (by decide) (hdeps ⟨3, .data⟩ (by simp) rfl)
            have e78 : a.tmps.getD 78 undef = .agg #[.slice a10 tl c10] := hI.rel 4 (by decide) (hdeps ⟨4, .data⟩ (by simp) rfl)
            refine Rg.wp_call2 rfl (enters_of Tryd.func31 (by kernel_rfl) rfl) ?_
            rw [e77, e78]
            refine (HLES.out w' hbw).mono ?_
            rintro e w'' ⟨v, S', rfl, hset, hmem, y⟩
            exact ⟨_, rfl, hK _ _ y ⟨S', hset, hmem⟩ (fun h => absurd h (by decide))⟩
          refine ⟨fun _ => ⟨rfl, fun l a w' hI hdeps => ⟨Rg.wanted_none rfl, fun K hK => ?_⟩⟩, ?_⟩
          · have hbw : Below W10.heap.size W10 w' := ⟨hI.below.os, hI.below.tape, hI.below.output, hI.below.size, hI.below.block⟩
            exact Rg.wp_alloc29 rfl (hK _ _ (below_new w' _) ⟨_, rfl, Blk.new w' 29 _⟩ (fun _ => ⟨rfl, by simp⟩))
          refine ⟨fun _ => ⟨rfl, fun l a w' hI hdeps => ⟨Rg.wanted_none rfl, fun K hK => ?_⟩⟩, ?_⟩
          · have hbw : Below W10.heap.size W10 w' := ⟨hI.below.os, hI.below.tape, hI.below.output, hI.below.size, hI.below.block⟩
            exact Rg.wp_alloc29 rfl (hK _ _ (below_new w' _) ⟨_, rfl, Blk.new w' 29 _⟩ (fun _ => ⟨rfl, by simp⟩))
          refine ⟨fun h => absurd h (by decide), ?_⟩
          refine ⟨fun h => absurd h (by decide), ?_⟩
          trivial
      case rest =>
        obtain ⟨g13, g14, aA, aB, nA, cA, nB, cB, SA, SB, rfl, rfl, hX13, hX14, hsA, hmA, hsB, hmB, hbc⟩ := hcut
        obtain ⟨W14, hW14⟩ : ∃ W14, W14 = wc := ⟨_, rfl⟩
        rw [← hW14] at hX13 hX14 hsA hsB hbc ⊢
        clear hW14
        have hX8 := hX8.on hbc
        have hs14 := hs10.below hbc
        have b14 := below_step b11 hbc
        have hgA := hsA.good
        have hgB := hsB.good
        obtain ⟨hc1, hc2⟩ := part_counts (c := cn) hg hgA hgB HLM.out hmA hmB
        have HAB := Lib.hid (fun W' (h1 : Below W14.heap.size W14 W') => setAnd_any SA SB _ _ W' (hsA.below h1) (hsB.below h1) (MayMerge.of hgA hgB))
        have HOR := Lib.hid (fun W' (h1 : Below W14.heap.size W14 W') => setOr_any SA SB _ _ W' (hsA.below h1) (hsB.below h1) (MayMerge.of hgA hgB))
        have HC0 : Hid (∀ W' v S', IsSet W' v S' → (∀ c, memS S' c = (fun c => (fun a b => (a && b)) (memS SA c) (memS SB c)) c) → Calls Tryd.prog 18 #[v] W' (RetV (.int .i64 0) W')) := Lib.hid fun W' v S' h1 h2 => by
          have h3 := h1.as (T := []) trivial (fun c => by rw [h2]; simp only [hmA, hmB]; cases memS S c <;> cases memS T2 c <;> rfl)
          exact count_any v [] W' h3
        have HSM : Hid (∀ W', Below W14.heap.size W14 W' → ∀ v S', IsSet W' v S' → (∀ c, memS S' c = (fun c => (fun a b => (a || b)) (memS SA c) (memS SB c)) c) → Calls Tryd.prog 38 #[v, .agg #[.slice ao sl cp]] W' (RetV (.bool true) W')) := Lib.hid fun W' h1 v S' h2 h3 => by
          have h4 := h2.as hg (fun c => by rw [h3]; simp only [hmA, hmB]; cases memS S c <;> cases memS T2 c <;> rfl)
          exact same_yes S v _ W' h4 (hs14.below h1)
        have HCA := Lib.hid (fun W' (h1 : Below W14.heap.size W14 W') => count_any _ SA W' (hsA.below h1))
        have HCB := Lib.hid (fun W' (h1 : Below W14.heap.size W14 W') => count_any _ SB W' (hsB.below h1))
        have HCS := Lib.hid (fun W' (h1 : Below W14.heap.size W14 W') => count_any _ S W' (hs14.below h1))
        have HIX := Lib.hid (fun W' (h1 : Below W14.heap.size W14 W') => index_any S _ ((cn : Int) + 1) W' (hs14.below h1) (by omega) (by omega))
        have hcs := hg.cnt_le (by decide)
        rw [hc2] at HIX
        obtain ⟨qa, hqa⟩ : ∃ q, cnt SA = q := ⟨_, rfl⟩
        obtain ⟨qb, hqb⟩ : ∃ q, cnt SB = q := ⟨_, rfl⟩
        obtain ⟨qs, hqs⟩ : ∃ q, cnt S = q := ⟨_, rfl⟩
        rw [hqa] at HCA HIX hc1
        rw [hqb] at HCB hc1
        rw [hqs] at HCS hc1 hcs
        have HADD : Hid (IntKind.i64.wrap ((qa : Int) + (qb : Int)) = (qs : Int)) := Lib.hid (by rw [IntKind.wrap_i64]; omega)
        have HAD1 : Hid (IntKind.i32.wrap ((cn : Int) + 1) = (cn : Int) + 1) := Lib.hid (by rw [IntKind.wrap_i32]; omega)
        have HCV : Hid (IntKind.i32.wrap (cn : Int) = (cn : Int)) := Lib.hid (by rw [IntKind.wrap_i32]; omega)
        clear hc1 hc2 hcs hqa hqb hqs HAND HLES hs10 hL10 b11 htm
        go_upto_region 15 with fail
        refine Rg.wp_region_frame (q := 33) (n := 33) (m := 112) (ds := fun i => (80 :: 81 :: 82 :: 83 :: 84 :: 85 :: 86 :: 87 :: 88 :: 89 :: 90 :: 91 :: 92 :: 93 :: 94 :: 95 :: 96 :: 97 :: 98 :: 99 :: 100 :: 101 :: 102 :: 103 :: 104 :: 105 :: 106 :: 107 :: 108 :: 109 :: 110 :: 111 :: 4 :: []).getD i 0) (al := fun i => false) (R := fun i w v => ((Rg.Wd.eq (.agg #[.slice aA nA cA]) :: Rg.Wd.eq (.agg #[.slice aB nB cB]) :: Rg.Wd.mem (fun c => (fun a b => (a && b)) (memS SA c) (memS SB c)) :: Rg.Wd.eq (.int .i64 0) :: Rg.Wd.eq (.bool true) :: Rg.Wd.eq (.bool true) :: Rg.Wd.eq (.agg #[.slice aA nA cA]) :: Rg.Wd.eq (.agg #[.slice aB nB cB]) :: Rg.Wd.mem (fun c => (fun a b => (a || b)) (memS SA c) (memS SB c)) :: Rg.Wd.eq (.agg #[.slice ao sl cp]) :: Rg.Wd.eq (.bool true) :: Rg.Wd.eq (.bool true) :: Rg.Wd.eq (.bool true) :: Rg.Wd.eq (.agg #[.slice aA nA cA]) :: Rg.Wd.eq (.int .i64 (qa : Nat)) :: Rg.Wd.eq (.agg #[.slice aB nB cB]) :: Rg.Wd.eq (.int .i64 (qb : Nat)) :: Rg.Wd.eq (.int .i64 (qs : Nat)) :: Rg.Wd.eq (.agg #[.slice ao sl cp]) :: Rg.Wd.eq (.int .i64 (qs : Nat)) :: Rg.Wd.eq (.bool true) :: Rg.Wd.eq (.bool true) :: Rg.Wd.eq (.bool true) :: Rg.Wd.eq (.agg #[.slice aA nA cA]) :: Rg.Wd.eq (.int .i64 (qa : Nat)) :: Rg.Wd.eq (.agg #[.slice ao sl cp]) :: Rg.Wd.eq (.int .i64 (cn : Int)) :: Rg.Wd.eq (.int .i32 (cn : Int)) :: Rg.Wd.eq (.int .i32 ((cn : Int) + 1)) :: Rg.Wd.eq (.int .i64 (qa : Nat)) :: Rg.Wd.eq (.bool true) :: Rg.Wd.eq (.bool true) :: Rg.Wd.eq (.bool true) :: []).getD i (.eq undef)).ok w v)
          (fun fr k a w => k = 33 ∧ a.tmps.size = 112 ∧ a.defers = [] ∧ (∀ k, k < 112 → (∀ i, i < 33 → (80 :: 81 :: 82 :: 83 :: 84 :: 85 :: 86 :: 87 :: 88 :: 89 :: 90 :: 91 :: 92 :: 93 :: 94 :: 95 :: 96 :: 97 :: 98 :: 99 :: 100 :: 101 :: 102 :: 103 :: 104 :: 105 :: 106 :: 107 :: 108 :: 109 :: 110 :: 111 :: 4 :: []).getD i 0 ≠ k) → a.tmps.getD k undef = fr k) ∧ a.tmps.getD 4 undef = .bool true ∧ Below W14.heap.size W14 w)
          (by kernel_rfl) rfl (by decide) (by kernel_rfl) (by kernel_rfl) (by decide) (by decide) (fun j v w w' hb h => Rg.Wd.stable hb h) rfl rfl ?ops15 ?mid15 ?tail15 ?end15
        case mid15 =>
          intro a' w' h1 h2 h3 h4 h5 _ _
          exact ⟨rfl, h1, h2, h4, h5 32 (by decide), h3⟩
        case tail15 =>
          iterate 33 refine ⟨fun h => absurd h (by decide), ?_⟩
          trivial
        case end15 =>
          rintro ⟨t, d⟩ w' ⟨_, hsz, hd, hrest, h4, hbE⟩
          have hd' : d = [] := hd
          have hsz' : t.size = 112 := hsz
          have h4' : t.getD 4 undef = .bool true := h4
          have e := Rg.arr_eta t 112 hsz'
          subst hd'
          change t = List.toArray (t.getD 0 undef :: t.getD 1 undef :: t.getD 2 undef :: t.getD 3 undef :: t.getD 4 undef :: t.getD 5 undef :: t.getD 6 undef :: t.getD 7 undef :: t.getD 8 undef :: t.getD 9 undef :: t.getD 10 undef :: t.getD 11 undef :: t.getD 12 undef :: t.getD 13 undef :: t.getD 14 undef :: t.getD 15 undef :: t.getD 16 undef :: t.getD 17 undef :: t.getD 18 undef :: t.getD 19 undef :: t.getD 20 undef :: t.getD 21 undef :: t.getD 22 undef :: t.getD 23 undef :: t.getD 24 undef :: t.getD 25 undef :: t.getD 26 undef :: t.getD 27 undef :: t.getD 28 undef :: t.getD 29 undef :: t.getD 30 undef :: t.getD 31 undef :: t.getD 32 undef :: t.getD 33 undef :: t.getD 34 undef :: t.getD 35 undef :: t.getD 36 undef :: t.getD 37 undef :: t.getD 38 undef :: t.getD 39 undef :: t.getD 40 undef :: t.getD 41 undef :: t.getD 42 undef :: t.getD 43 undef :: t.getD 44 undef :: t.getD 45 undef :: t.getD 46 undef :: t.getD 47 undef :: t.getD 48 undef :: t.getD 49 undef :: t.getD 50 undef :: t.getD 51 undef :: t.getD 52 undef :: t.getD 53 undef :: t.getD 54 undef :: t.getD 55 undef :: t.getD 56 undef :: t.getD 57 undef :: t.getD 58 undef :: t.getD 59 undef :: t.getD 60 undef :: t.getD 61 undef :: t.getD 62 undef :: t.getD 63 undef :: t.getD 64 undef :: t.getD 65 undef :: t.getD 66 undef :: t.getD 67 undef :: t.getD 68 undef :: t.getD 69 undef :: t.getD 70 undef :: t.getD 71 undef :: t.getD 72 undef :: t.getD 73 undef :: t.getD 74 undef :: t.getD 75 undef :: t.getD 76 undef :: t.getD 77 undef :: t.getD 78 undef :: t.getD 79 undef :: t.getD 80 undef :: t.getD 81 undef :: t.getD 82 undef :: t.getD 83 undef :: t.getD 84 undef :: t.getD 85 undef :: t.getD 86 undef :: t.getD 87 undef :: t.getD 88 undef :: t.getD 89 undef :: t.getD 90 undef :: t.getD 91 undef :: t.getD 92 undef :: t.getD 93 undef :: t.getD 94 undef :: t.getD 95 undef :: t.getD 96 undef :: t.getD 97 undef :: t.getD 98 undef :: t.getD 99 undef :: t.getD 100 undef :: t.getD 101 undef :: t.getD 102 undef :: t.getD 103 undef :: t.getD 104 undef :: t.getD 105 undef :: t.getD 106 undef :: t.getD 107 undef :: t.getD 108 undef :: t.getD 109 undef :: t.getD 110 undef :: t.getD 111 undef :: []) at e
          rw [h4'] at e
          clear hrest hsz hd hsz' h4 h4'
          generalize t.getD 0 undef = u0 at e
          generalize t.getD 1 undef = u1 at e
          generalize t.getD 2 undef = u2 at e
          generalize t.getD 3 undef = u3 at e
          generalize t.getD 5 undef = u5 at e
          generalize t.getD 6 undef = u6 at e
          generalize t.getD 7 undef = u7 at e
          generalize t.getD 8 undef = u8 at e
          generalize t.getD 9 undef = u9 at e
          generalize t.getD 10 undef = u10 at e
          generalize t.getD 11 undef = u11 at e
          generalize t.getD 12 undef = u12 at e
          generalize t.getD 13 undef = u13 at e
          generalize t.getD 14 undef = u14 at e
          generalize t.getD 15 undef = u15 at e
          generalize t.getD 16 undef = u16 at e
          generalize t.getD 17 undef = u17 at e
          generalize t.getD 18 undef = u18 at e
          generalize t.getD 19 undef = u19 at e
          generalize t.getD 20 undef = u20 at e
          generalize t.getD 21 undef = u21 at e
          generalize t.getD 22 undef = u22 at e
          generalize t.getD 23 undef = u23 at e
          generalize t.getD 24 undef = u24 at e
          generalize t.getD 25 undef = u25 at e
          generalize t.getD 26 undef = u26 at e
          generalize t.getD 27 undef = u27 at e
          generalize t.getD 28 undef = u28 at e
          generalize t.getD 29 undef = u29 at e
          generalize t.getD 30 undef = u30 at e
          generalize t.getD 31 undef = u31 at e
          generalize t.getD 32 undef = u32 at e
          generalize t.getD 33 undef = u33 at e
          generalize t.getD 34 undef = u34 at e
          generalize t.getD 35 undef = u35 at e
          generalize t.getD 36 undef = u36 at e
          generalize t.getD 37 undef = u37 at e
          generalize t.getD 38 undef = u38 at e
          generalize t.getD 39 undef = u39 at e
          generalize t.getD 40 undef = u40 at e
          generalize t.getD 41 undef = u41 at e
          generalize t.getD 42 undef = u42 at e
          generalize t.getD 43 undef = u43 at e
          generalize t.getD 44 undef = u44 at e
          generalize t.getD 45 undef = u45 at e
          generalize t.getD 46 undef = u46 at e
          generalize t.getD 47 undef = u47 at e
          generalize t.getD 48 undef = u48 at e
          generalize t.getD 49 undef = u49 at e
          generalize t.getD 50 undef = u50 at e
          generalize t.getD 51 undef = u51 at e
          generalize t.getD 52 undef = u52 at e
          generalize t.getD 53 undef = u53 at e
          generalize t.getD 54 undef = u54 at e
          generalize t.getD 55 undef = u55 at e
          generalize t.getD 56 undef = u56 at e
          generalize t.getD 57 undef = u57 at e
          generalize t.getD 58 undef = u58 at e
          generalize t.getD 59 undef = u59 at e
          generalize t.getD 60 undef = u60 at e
          generalize t.getD 61 undef = u61 at e
          generalize t.getD 62 undef = u62 at e
          generalize t.getD 63 undef = u63 at e
          generalize t.getD 64 undef = u64 at e
          generalize t.getD 65 undef = u65 at e
          generalize t.getD 66 undef = u66 at e
          generalize t.getD 67 undef = u67 at e
          generalize t.getD 68 undef = u68 at e
          generalize t.getD 69 undef = u69 at e
          generalize t.getD 70 undef = u70 at e
          generalize t.getD 71 undef = u71 at e
          generalize t.getD 72 undef = u72 at e
          generalize t.getD 73 undef = u73 at e
          generalize t.getD 74 undef = u74 at e
          generalize t.getD 75 undef = u75 at e
          generalize t.getD 76 undef = u76 at e
          generalize t.getD 77 undef = u77 at e
          generalize t.getD 78 undef = u78 at e
          generalize t.getD 79 undef = u79 at e
          generalize t.getD 80 undef = u80 at e
          generalize t.getD 81 undef = u81 at e
          generalize t.getD 82 undef = u82 at e
          generalize t.getD 83 undef = u83 at e
          generalize t.getD 84 undef = u84 at e
          generalize t.getD 85 undef = u85 at e
          generalize t.getD 86 undef = u86 at e
          generalize t.getD 87 undef = u87 at e
          generalize t.getD 88 undef = u88 at e
          generalize t.getD 89 undef = u89 at e
          generalize t.getD 90 undef = u90 at e
          generalize t.getD 91 undef = u91 at e
          generalize t.getD 92 undef = u92 at e
          generalize t.getD 93 undef = u93 at e
          generalize t.getD 94 undef = u94 at e
          generalize t.getD 95 undef = u95 at e
          generalize t.getD 96 undef = u96 at e
          generalize t.getD 97 undef = u97 at e
          generalize t.getD 98 undef = u98 at e
          generalize t.getD 99 undef = u99 at e
          generalize t.getD 100 undef = u100 at e
          generalize t.getD 101 undef = u101 at e
          generalize t.getD 102 undef = u102 at e
          generalize t.getD 103 undef = u103 at e
          generalize t.getD 104 undef = u104 at e
          generalize t.getD 105 undef = u105 at e
          generalize t.getD 106 undef = u106 at e
          generalize t.getD 107 undef = u107 at e
          generalize t.getD 108 undef = u108 at e
          generalize t.getD 109 undef = u109 at e
          generalize t.getD 110 undef = u110 at e
          generalize t.getD 111 undef = u111 at e
          subst e
          go_wp2_with fail
          go_ret
          exact ⟨rfl, below_step b14 hbE⟩
        case ops15 =>
          refine ⟨fun _ => ⟨rfl, fun l a w' hI hdeps => ⟨?_, fun K hK => ?_⟩⟩, ?_⟩
          · exact Rg.wanted_none rfl
          · have hbw : Below W14.heap.size W14 w' := ⟨hI.below.os, hI.below.tape, hI.below.output, hI.below.size, hI.below.block⟩
            have e13 : a.tmps.getD 13 undef = .pointer (some ⟨g13, 0, none⟩) := hI.rest 13 (by decide) (by decide)
            exact Rg.wp_load29 rfl e13 ((hX13.on hbw).cell0) (hK _ _ (Below.refl _ _) rfl (fun h => absurd h (by decide)))
          refine ⟨fun _ => ⟨rfl, fun l a w' hI hdeps => ⟨?_, fun K hK => ?_⟩⟩, ?_⟩
          · exact Rg.wanted_none rfl
          · have hbw : Below W14.heap.size W14 w' := ⟨hI.below.os, hI.below.tape, hI.below.output, hI.below.size, hI.below.block⟩
            have e14 : a.tmps.getD 14 undef = .pointer (some ⟨g14, 0, none⟩) := hI.rest 14 (by decide) (by decide)
            exact Rg.wp_load29 rfl e14 ((hX14.on hbw).cell0) (hK _ _ (Below.refl _ _) rfl (fun h => absurd h (by decide)))
          refine ⟨fun _ => ⟨rfl, fun l a w' hI hdeps => ⟨?_, fun K hK => ?_⟩⟩, ?_⟩
          · exact Rg.wanted_none rfl
          · have hbw : Below W14.heap.size W14 w' := ⟨hI.below.os, hI.below.tape, hI.below.output, hI.below.size, hI.below.block⟩
            have e80 : a.tmps.getD 80 undef = .agg #[.slice aA nA cA] := hI.rel 0 (by decide) (hdeps ⟨0, .data⟩ (by simp) rfl)
            have e81 : a.tmps.getD 81 undef = .agg #[.slice aB nB cB] := hI.rel 1 (by decide) (hdeps ⟨1, .data⟩ (by simp) rfl)
            refine Rg.wp_call2 rfl (enters_of Tryd.func29 (by kernel_rfl) rfl) ?_
            rw [e80, e81]
            refine (HAB.out w' hbw).mono ?_
            rintro e w'' ⟨v, S', rfl, hset, hmem, y⟩
            exact ⟨_, rfl, hK _ _ y ⟨S', hset, hmem⟩ (fun h => absurd h (by decide))⟩
          refine ⟨fun _ => ⟨rfl, fun l a w' hI hdeps => ⟨?_, fun K hK => ?_⟩⟩, ?_⟩
          · exact Rg.wanted_none rfl
          · have hbw : Below W14.heap.size W14 w' := ⟨hI.below.os, hI.below.tape, hI.below.output, hI.below.size, hI.below.block⟩
            obtain ⟨S82, i82, m82⟩ : ∃ S', IsSet w' (a.tmps.getD 82 undef) S' ∧ ∀ c, memS S' c = (fun c => (fun a b => (a && b)) (memS SA c) (memS SB c)) c := hI.rel 2 (by decide) (hdeps ⟨2, .data⟩ (by simp) rfl)
            refine Rg.wp_call1 rfl (enters_of Tryd.func18 (by kernel_rfl) rfl) ?_
            refine (HC0.out w' _ _ i82 m82).mono ?_
            rintro e w'' ⟨rfl, y⟩
            exact ⟨_, rfl, hK _ _ y rfl (fun h => absurd h (by decide))⟩
          refine ⟨fun _ => ⟨rfl, fun l a w' hI hdeps => ⟨?_, fun K hK => ?_⟩⟩, ?_⟩
          · exact Rg.wanted_none rfl
          · have hbw : Below W14.heap.size W14 w' := ⟨hI.below.os, hI.below.tape, hI.below.output, hI.below.size, hI.below.block⟩
            have e83 : a.tmps.getD 83 undef = .int .i64 0 := hI.rel 3 (by decide) (hdeps ⟨3, .data⟩ (by simp) rfl)
            exact Rg.wp_eql rfl e83 rfl (by simp) (hK _ _ (Below.refl _ _) rfl (fun h => absurd h (by decide)))
          refine ⟨fun _ => ⟨rfl, fun l a w' hI hdeps => ⟨?_, fun K hK => ?_⟩⟩, ?_⟩
          · exact Rg.wanted_none rfl
          · have hbw : Below W14.heap.size W14 w' := ⟨hI.below.os, hI.below.tape, hI.below.output, hI.below.size, hI.below.block⟩
            have e84 : a.tmps.getD 84 undef = .bool true := hI.rel 4 (by decide) (hdeps ⟨4, .data⟩ (by simp) rfl)
            exact Rg.wp_move rfl (hK _ _ (Below.refl _ _) e84 (fun h => absurd h (by decide)))
          refine ⟨fun _ => ⟨rfl, fun l a w' hI hdeps => ⟨?_, fun K hK => ?_⟩⟩, ?_⟩
          · exact Rg.wanted_some (d := 85) rfl rfl rfl (by rw [hI.slots]; decide) (hI.rel 5 (by decide) (hdeps ⟨5, .guard⟩ (by simp) rfl))
          · have hbw : Below W14.heap.size W14 w' := ⟨hI.below.os, hI.below.tape, hI.below.output, hI.below.size, hI.below.block⟩
            have e13 : a.tmps.getD 13 undef = .pointer (some ⟨g13, 0, none⟩) := hI.rest 13 (by decide) (by decide)
            exact Rg.wp_load29 rfl e13 ((hX13.on hbw).cell0) (hK _ _ (Below.refl _ _) rfl (fun h => absurd h (by decide)))
          refine ⟨fun _ => ⟨rfl, fun l a w' hI hdeps => ⟨?_, fun K hK => ?_⟩⟩, ?_⟩
          · exact Rg.wanted_some (d := 85) rfl rfl rfl (by rw [hI.slots]; decide) (hI.rel 5 (by decide) (hdeps ⟨5, .guard⟩ (by simp) rfl))
          · have hbw : Below W14.heap.size W14 w' := ⟨hI.below.os, hI.below.tape, hI.below.output, hI.below.size, hI.below.block⟩
            have e14 : a.tmps.getD 14 undef = .pointer (some ⟨g14, 0, none⟩) := hI.rest 14 (by decide) (by decide)
            exact Rg.wp_load29 rfl e14 ((hX14.on hbw).cell0) (hK _ _ (Below.refl _ _) rfl (fun h => absurd h (by decide)))
          refine ⟨fun _ => ⟨rfl, fun l a w' hI hdeps => ⟨?_, fun K hK => ?_⟩⟩, ?_⟩
          · exact Rg.wanted_some (d := 85) rfl rfl rfl (by rw [hI.slots]; decide) (hI.rel 5 (by decide) (hdeps ⟨5, .guard⟩ (by simp) rfl))
          · have hbw : Below W14.heap.size W14 w' := ⟨hI.below.os, hI.below.tape, hI.below.output, hI.below.size, hI.below.block⟩
            have e86 : a.tmps.getD 86 undef = .agg #[.slice aA nA cA] := hI.rel 6 (by decide) (hdeps ⟨6, .data⟩ (by simp) rfl)
            have e87 : a.tmps.getD 87 undef = .agg #[.slice aB nB cB] := hI.rel 7 (by decide) (hdeps ⟨7, .data⟩ (by simp) rfl)
            refine Rg.wp_call2 rfl (enters_of Tryd.func27 (by kernel_rfl) rfl) ?_
            rw [e86, e87]
            refine (HOR.out w' hbw).mono ?_
            rintro e w'' ⟨v, S', rfl, hset, hmem, y⟩
            exact ⟨_, rfl, hK _ _ y ⟨S', hset, hmem⟩ (fun h => absurd h (by decide))⟩
          refine ⟨fun _ => ⟨rfl, fun l a w' hI hdeps => ⟨?_, fun K hK => ?_⟩⟩, ?_⟩
          · exact Rg.wanted_some (d := 85) rfl rfl rfl (by rw [hI.slots]; decide) (hI.rel 5 (by decide) (hdeps ⟨5, .guard⟩ (by simp) rfl))
          · have hbw : Below W14.heap.size W14 w' := ⟨hI.below.os, hI.below.tape, hI.below.output, hI.below.size, hI.below.block⟩
            have e5 : a.tmps.getD 5 undef = .pointer (some ⟨g5, 0, none⟩) := hI.rest 5 (by decide) (by decide)
            exact Rg.wp_load29 rfl e5 ((hX8.on hbw).cell0) (hK _ _ (Below.refl _ _) rfl (fun h => absurd h (by decide)))
          refine ⟨fun _ => ⟨rfl, fun l a w' hI hdeps => ⟨?_, fun K hK => ?_⟩⟩, ?_⟩
          · exact Rg.wanted_some (d := 85) rfl rfl rfl (by rw [hI.slots]; decide) (hI.rel 5 (by decide) (hdeps ⟨5, .guard⟩ (by simp) rfl))
          · have hbw : Below W14.heap.size W14 w' := ⟨hI.below.os, hI.below.tape, hI.below.output, hI.below.size, hI.below.block⟩
            obtain ⟨S88, i88, m88⟩ : ∃ S', IsSet w' (a.tmps.getD 88 undef) S' ∧ ∀ c, memS S' c = (fun c => (fun a b => (a || b)) (memS SA c) (memS SB c)) c := hI.rel 8 (by decide) (hdeps ⟨8, .data⟩ (by simp) rfl)
            have e89 : a.tmps.getD 89 undef = .agg #[.slice ao sl cp] := hI.rel 9 (by decide) (hdeps ⟨9, .data⟩ (by simp) rfl)
            refine Rg.wp_call2 rfl (enters_of Tryd.func38 (by kernel_rfl) rfl) ?_
            rw [e89]
            refine (HSM.out w' hbw _ _ i88 m88).mono ?_
            rintro e w'' ⟨rfl, y⟩
            exact ⟨_, rfl, hK _ _ y rfl (fun h => absurd h (by decide))⟩
          refine ⟨fun _ => ⟨rfl, fun l a w' hI hdeps => ⟨?_, fun K hK => ?_⟩⟩, ?_⟩
          · exact Rg.wanted_none rfl
          · have hbw : Below W14.heap.size W14 w' := ⟨hI.below.os, hI.below.tape, hI.below.output, hI.below.size, hI.below.block⟩
            have e85 : a.tmps.getD 85 undef = .bool true := hI.rel 5 (by decide) (hdeps ⟨5, .data⟩ (by simp) rfl)
            have e90 : a.tmps.getD 90 undef = .bool true := hI.rel 10 (by decide) (hdeps ⟨10, .data⟩ (by simp) rfl)
            exact Rg.wp_pick_yes rfl e85 (hK _ _ (Below.refl _ _) e90 (fun h => absurd h (by decide)))
          refine ⟨fun _ => ⟨rfl, fun l a w' hI hdeps => ⟨?_, fun K hK => ?_⟩⟩, ?_⟩
          · exact Rg.wanted_none rfl
          · have hbw : Below W14.heap.size W14 w' := ⟨hI.below.os, hI.below.tape, hI.below.output, hI.below.size, hI.below.block⟩
            have e91 : a.tmps.getD 91 undef = .bool true := hI.rel 11 (by decide) (hdeps ⟨11, .data⟩ (by simp) rfl)
            exact Rg.wp_move rfl (hK _ _ (Below.refl _ _) e91 (fun h => absurd h (by decide)))
          refine ⟨fun _ => ⟨rfl, fun l a w' hI hdeps => ⟨?_, fun K hK => ?_⟩⟩, ?_⟩
          · exact Rg.wanted_some (d := 92) rfl rfl rfl (by rw [hI.slots]; decide) (hI.rel 12 (by decide) (hdeps ⟨12, .guard⟩ (by simp) rfl))
          · have hbw : Below W14.heap.size W14 w' := ⟨hI.below.os, hI.below.tape, hI.below.output, hI.below.size, hI.below.block⟩
            have e13 : a.tmps.getD 13 undef = .pointer (some ⟨g13, 0, none⟩) := hI.rest 13 (by decide) (by decide)
            exact Rg.wp_load29 rfl e13 ((hX13.on hbw).cell0) (hK _ _ (Below.refl _ _) rfl (fun h => absurd h (by decide)))
          refine ⟨fun _ => ⟨rfl, fun l a w' hI hdeps => ⟨?_, fun K hK => ?_⟩⟩, ?_⟩
          · exact Rg.wanted_some (d := 92) rfl rfl rfl (by rw [hI.slots]; decide) (hI.rel 12 (by decide) (hdeps ⟨12, .guard⟩ (by simp) rfl))
          · have hbw : Below W14.heap.size W14 w' := ⟨hI.below.os, hI.below.tape, hI.below.output, hI.below.size, hI.below.block⟩
            have e93 : a.tmps.getD 93 undef = .agg #[.slice aA nA cA] := hI.rel 13 (by decide) (hdeps ⟨13, .data⟩ (by simp) rfl)
            refine Rg.wp_call1 rfl (enters_of Tryd.func18 (by kernel_rfl) rfl) ?_
            rw [e93]
            refine (HCA.out w' hbw).mono ?_
            rintro e w'' ⟨rfl, y⟩
            exact ⟨_, rfl, hK _ _ y rfl (fun h => absurd h (by decide))⟩
          refine ⟨fun _ => ⟨rfl, fun l a w' hI hdeps => ⟨?_, fun K hK => ?_⟩⟩, ?_⟩
          · exact Rg.wanted_some (d := 92) rfl rfl rfl (by rw [hI.slots]; decide) (hI.rel 12 (by decide) (hdeps ⟨12, .guard⟩ (by simp) rfl))
          · have hbw : Below W14.heap.size W14 w' := ⟨hI.below.os, hI.below.tape, hI.below.output, hI.below.size, hI.below.block⟩
            have e14 : a.tmps.getD 14 undef = .pointer (some ⟨g14, 0, none⟩) := hI.rest 14 (by decide) (by decide)
            exact Rg.wp_load29 rfl e14 ((hX14.on hbw).cell0) (hK _ _ (Below.refl _ _) rfl (fun h => absurd h (by decide)))
          refine ⟨fun _ => ⟨rfl, fun l a w' hI hdeps => ⟨?_, fun K hK => ?_⟩⟩, ?_⟩
          · exact Rg.wanted_some (d := 92) rfl rfl rfl (by rw [hI.slots]; decide) (hI.rel 12 (by decide) (hdeps ⟨12, .guard⟩ (by simp) rfl))
          · have hbw : Below W14.heap.size W14 w' := ⟨hI.below.os, hI.below.tape, hI.below.output, hI.below.size, hI.below.block⟩
            have e95 : a.tmps.getD 95 undef = .agg #[.slice aB nB cB] := hI.rel 15 (by decide) (hdeps ⟨15, .data⟩ (by simp) rfl)
            refine Rg.wp_call1 rfl (enters_of Tryd.func18 (by kernel_rfl) rfl) ?_
            rw [e95]
            refine (HCB.out w' hbw).mono ?_
            rintro e w'' ⟨rfl, y⟩
            exact ⟨_, rfl, hK _ _ y rfl (fun h => absurd h (by decide))⟩
          refine ⟨fun _ => ⟨rfl, fun l a w' hI hdeps => ⟨?_, fun K hK => ?_⟩⟩, ?_⟩
          · exact Rg.wanted_some (d := 92) rfl rfl rfl (by rw [hI.slots]; decide) (hI.rel 12 (by decide) (hdeps ⟨12, .guard⟩ (by simp) rfl))
          · have hbw : Below W14.heap.size W14 w' := ⟨hI.below.os, hI.below.tape, hI.below.output, hI.below.size, hI.below.block⟩
            have e94 : a.tmps.getD 94 undef = .int .i64 (qa : Nat) := hI.rel 14 (by decide) (hdeps ⟨14, .data⟩ (by simp) rfl)
            have e96 : a.tmps.getD 96 undef = .int .i64 (qb : Nat) := hI.rel 16 (by decide) (hdeps ⟨16, .data⟩ (by simp) rfl)
            exact Rg.wp_add rfl e94 e96 HADD.out (hK _ _ (Below.refl _ _) rfl (fun h => absurd h (by decide)))
          refine ⟨fun _ => ⟨rfl, fun l a w' hI hdeps => ⟨?_, fun K hK => ?_⟩⟩, ?_⟩
          · exact Rg.wanted_some (d := 92) rfl rfl rfl (by rw [hI.slots]; decide) (hI.rel 12 (by decide) (hdeps ⟨12, .guard⟩ (by simp) rfl))
          · have hbw : Below W14.heap.size W14 w' := ⟨hI.below.os, hI.below.tape, hI.below.output, hI.below.size, hI.below.block⟩
            have e5 : a.tmps.getD 5 undef = .pointer (some ⟨g5, 0, none⟩) := hI.rest 5 (by decide) (by decide)
            exact Rg.wp_load29 rfl e5 ((hX8.on hbw).cell0) (hK _ _ (Below.refl _ _) rfl (fun h => absurd h (by decide)))
          refine ⟨fun _ => ⟨rfl, fun l a w' hI hdeps => ⟨?_, fun K hK => ?_⟩⟩, ?_⟩
          · exact Rg.wanted_some (d := 92) rfl rfl rfl (by rw [hI.slots]; decide) (hI.rel 12 (by decide) (hdeps ⟨12, .guard⟩ (by simp) rfl))
          · have hbw : Below W14.heap.size W14 w' := ⟨hI.below.os, hI.below.tape, hI.below.output, hI.below.size, hI.below.block⟩
            have e98 : a.tmps.getD 98 undef = .agg #[.slice ao sl cp] := hI.rel 18 (by decide) (hdeps ⟨18, .data⟩ (by simp) rfl)
            refine Rg.wp_call1 rfl (enters_of Tryd.func18 (by kernel_rfl) rfl) ?_
            rw [e98]
            refine (HCS.out w' hbw).mono ?_
            rintro e w'' ⟨rfl, y⟩
            exact ⟨_, rfl, hK _ _ y rfl (fun h => absurd h (by decide))⟩
          refine ⟨fun _ => ⟨rfl, fun l a w' hI hdeps => ⟨?_, fun K hK => ?_⟩⟩, ?_⟩
          · exact Rg.wanted_some (d := 92) rfl rfl rfl (by rw [hI.slots]; decide) (hI.rel 12 (by decide) (hdeps ⟨12, .guard⟩ (by simp) rfl))
          · have hbw : Below W14.heap.size W14 w' := ⟨hI.below.os, hI.below.tape, hI.below.output, hI.below.size, hI.below.block⟩
            have e97 : a.tmps.getD 97 undef = .int .i64 (qs : Nat) := hI.rel 17 (by decide) (hdeps ⟨17, .data⟩ (by simp) rfl)
            have e99 : a.tmps.getD 99 undef = .int .i64 (qs : Nat) := hI.rel 19 (by decide) (hdeps ⟨19, .data⟩ (by simp) rfl)
            exact Rg.wp_eql rfl e97 e99 (by simp) (hK _ _ (Below.refl _ _) rfl (fun h => absurd h (by decide)))
          refine ⟨fun _ => ⟨rfl, fun l a w' hI hdeps => ⟨?_, fun K hK => ?_⟩⟩, ?_⟩
          · exact Rg.wanted_none rfl
          · have hbw : Below W14.heap.size W14 w' := ⟨hI.below.os, hI.below.tape, hI.below.output, hI.below.size, hI.below.block⟩
            have e92 : a.tmps.getD 92 undef = .bool true := hI.rel 12 (by decide) (hdeps ⟨12, .data⟩ (by simp) rfl)
            have e100 : a.tmps.getD 100 undef = .bool true := hI.rel 20 (by decide) (hdeps ⟨20, .data⟩ (by simp) rfl)
            exact Rg.wp_pick_yes rfl e92 (hK _ _ (Below.refl _ _) e100 (fun h => absurd h (by decide)))
          refine ⟨fun _ => ⟨rfl, fun l a w' hI hdeps => ⟨?_, fun K hK => ?_⟩⟩, ?_⟩
          · exact Rg.wanted_none rfl
          · have hbw : Below W14.heap.size W14 w' := ⟨hI.below.os, hI.below.tape, hI.below.output, hI.below.size, hI.below.block⟩
            have e101 : a.tmps.getD 101 undef = .bool true := hI.rel 21 (by decide) (hdeps ⟨21, .data⟩ (by simp) rfl)
            exact Rg.wp_move rfl (hK _ _ (Below.refl _ _) e101 (fun h => absurd h (by decide)))
          refine ⟨fun _ => ⟨rfl, fun l a w' hI hdeps => ⟨?_, fun K hK => ?_⟩⟩, ?_⟩
          · exact Rg.wanted_some (d := 102) rfl rfl rfl (by rw [hI.slots]; decide) (hI.rel 22 (by decide) (hdeps ⟨22, .guard⟩ (by simp) rfl))
          · have hbw : Below W14.heap.size W14 w' := ⟨hI.below.os, hI.below.tape, hI.below.output, hI.below.size, hI.below.block⟩
            have e13 : a.tmps.getD 13 undef = .pointer (some ⟨g13, 0, none⟩) := hI.rest 13 (by decide) (by decide)
            exact Rg.wp_load29 rfl e13 ((hX13.on hbw).cell0) (hK _ _ (Below.refl _ _) rfl (fun h => absurd h (by decide)))
          refine ⟨fun _ => ⟨rfl, fun l a w' hI hdeps => ⟨?_, fun K hK => ?_⟩⟩, ?_⟩
          · exact Rg.wanted_some (d := 102) rfl rfl rfl (by rw [hI.slots]; decide) (hI.rel 22 (by decide) (hdeps ⟨22, .guard⟩ (by simp) rfl))
          · have hbw : Below W14.heap.size W14 w' := ⟨hI.below.os, hI.below.tape, hI.below.output, hI.below.size, hI.below.block⟩
            have e103 : a.tmps.getD 103 undef = .agg #[.slice aA nA cA] := hI.rel 23 (by decide) (hdeps ⟨23, .data⟩ (by simp) rfl)
            refine Rg.wp_call1 rfl (enters_of Tryd.func18 (by kernel_rfl) rfl) ?_
            rw [e103]
            refine (HCA.out w' hbw).mono ?_
            rintro e w'' ⟨rfl, y⟩
            exact ⟨_, rfl, hK _ _ y rfl (fun h => absurd h (by decide))⟩
          refine ⟨fun _ => ⟨rfl, fun l a w' hI hdeps => ⟨?_, fun K hK => ?_⟩⟩, ?_⟩
          · exact Rg.wanted_some (d := 102) rfl rfl rfl (by rw [hI.slots]; decide) (hI.rel 22 (by decide) (hdeps ⟨22, .guard⟩ (by simp) rfl))
          · have hbw : Below W14.heap.size W14 w' := ⟨hI.below.os, hI.below.tape, hI.below.output, hI.below.size, hI.below.block⟩
            have e5 : a.tmps.getD 5 undef = .pointer (some ⟨g5, 0, none⟩) := hI.rest 5 (by decide) (by decide)
            exact Rg.wp_load29 rfl e5 ((hX8.on hbw).cell0) (hK _ _ (Below.refl _ _) rfl (fun h => absurd h (by decide)))
          refine ⟨fun _ => ⟨rfl, fun l a w' hI hdeps => ⟨?_, fun K hK => ?_⟩⟩, ?_⟩
          · exact Rg.wanted_some (d := 102) rfl rfl rfl (by rw [hI.slots]; decide) (hI.rel 22 (by decide) (hdeps ⟨22, .guard⟩ (by simp) rfl))
          · have hbw : Below W14.heap.size W14 w' := ⟨hI.below.os, hI.below.tape, hI.below.output, hI.below.size, hI.below.block⟩
            have e1 : a.tmps.getD 1 undef = .int .i64 (cn : Int) := hI.rest 1 (by decide) (by decide)
            exact Rg.wp_move rfl (hK _ _ (Below.refl _ _) e1 (fun h => absurd h (by decide)))
          refine ⟨fun _ => ⟨rfl, fun l a w' hI hdeps => ⟨?_, fun K hK => ?_⟩⟩, ?_⟩
          · exact Rg.wanted_some (d := 102) rfl rfl rfl (by rw [hI.slots]; decide) (hI.rel 22 (by decide) (hdeps ⟨22, .guard⟩ (by simp) rfl))
          · have hbw : Below W14.heap.size W14 w' := ⟨hI.below.os, hI.below.tape, hI.below.output, hI.below.size, hI.below.block⟩
            have e106 : a.tmps.getD 106 undef = .int .i64 (cn : Int) := hI.rel 26 (by decide) (hdeps ⟨26, .data⟩ (by simp) rfl)
            exact Rg.wp_conv32 rfl e106 HCV.out (hK _ _ (Below.refl _ _) rfl (fun h => absurd h (by decide)))
          refine ⟨fun _ => ⟨rfl, fun l a w' hI hdeps => ⟨?_, fun K hK => ?_⟩⟩, ?_⟩
          · exact Rg.wanted_some (d := 102) rfl rfl rfl (by rw [hI.slots]; decide) (hI.rel 22 (by decide) (hdeps ⟨22, .guard⟩ (by simp) rfl))
          · have hbw : Below W14.heap.size W14 w' := ⟨hI.below.os, hI.below.tape, hI.below.output, hI.below.size, hI.below.block⟩
            have e107 : a.tmps.getD 107 undef = .int .i32 (cn : Int) := hI.rel 27 (by decide) (hdeps ⟨27, .data⟩ (by simp) rfl)
            exact Rg.wp_add rfl e107 rfl HAD1.out (hK _ _ (Below.refl _ _) rfl (fun h => absurd h (by decide)))
          refine ⟨fun _ => ⟨rfl, fun l a w' hI hdeps => ⟨?_, fun K hK => ?_⟩⟩, ?_⟩
          · exact Rg.wanted_some (d := 102) rfl rfl rfl (by rw [hI.slots]; decide) (hI.rel 22 (by decide) (hdeps ⟨22, .guard⟩ (by simp) rfl))
          · have hbw : Below W14.heap.size W14 w' := ⟨hI.below.os, hI.below.tape, hI.below.output, hI.below.size, hI.below.block⟩
            have e105 : a.tmps.getD 105 undef = .agg #[.slice ao sl cp] := hI.rel 25 (by decide) (hdeps ⟨25, .data⟩ (by simp) rfl)
            have e108 : a.tmps.getD 108 undef = .int .i32 ((cn : Int) + 1) := hI.rel 28 (by decide) (hdeps ⟨28, .data⟩ (by simp) rfl)
            refine Rg.wp_call2 rfl (enters_of Tryd.func42 (by kernel_rfl) rfl) ?_
            rw [e105, e108]
            refine (HIX.out w' hbw).mono ?_
            rintro e w'' ⟨rfl, y⟩
            exact ⟨_, rfl, hK _ _ y rfl (fun h => absurd h (by decide))⟩
          refine ⟨fun _ => ⟨rfl, fun l a w' hI hdeps => ⟨?_, fun K hK => ?_⟩⟩, ?_⟩
          · exact Rg.wanted_some (d := 102) rfl rfl rfl (by rw [hI.slots]; decide) (hI.rel 22 (by decide) (hdeps ⟨22, .guard⟩ (by simp) rfl))
          · have hbw : Below W14.heap.size W14 w' := ⟨hI.below.os, hI.below.tape, hI.below.output, hI.below.size, hI.below.block⟩
            have e104 : a.tmps.getD 104 undef = .int .i64 (qa : Nat) := hI.rel 24 (by decide) (hdeps ⟨24, .data⟩ (by simp) rfl)
            have e109 : a.tmps.getD 109 undef = .int .i64 (qa : Nat) := hI.rel 29 (by decide) (hdeps ⟨29, .data⟩ (by simp) rfl)
            exact Rg.wp_eql rfl e104 e109 (by simp) (hK _ _ (Below.refl _ _) rfl (fun h => absurd h (by decide)))
          refine ⟨fun _ => ⟨rfl, fun l a w' hI hdeps => ⟨?_, fun K hK => ?_⟩⟩, ?_⟩
          · exact Rg.wanted_none rfl
          · have hbw : Below W14.heap.size W14 w' := ⟨hI.below.os, hI.below.tape, hI.below.output, hI.below.size, hI.below.block⟩
            have e102 : a.tmps.getD 102 undef = .bool true := hI.rel 22 (by decide) (hdeps ⟨22, .data⟩ (by simp) rfl)
            have e110 : a.tmps.getD 110 undef = .bool true := hI.rel 30 (by decide) (hdeps ⟨30, .data⟩ (by simp) rfl)
            exact Rg.wp_pick_yes rfl e102 (hK _ _ (Below.refl _ _) e110 (fun h => absurd h (by decide)))
          refine ⟨fun _ => ⟨rfl, fun l a w' hI hdeps => ⟨?_, fun K hK => ?_⟩⟩, ?_⟩
          · exact Rg.wanted_none rfl
          · have hbw : Below W14.heap.size W14 w' := ⟨hI.below.os, hI.below.tape, hI.below.output, hI.below.size, hI.below.block⟩
            have e111 : a.tmps.getD 111 undef = .bool true := hI.rel 31 (by decide) (hdeps ⟨31, .data⟩ (by simp) rfl)
            exact Rg.wp_assign rfl (hK _ _ (Below.refl _ _) e111 (fun h => absurd h (by decide)))
          trivial
end Go.Proofs.YtccbofaefpbhlaaDoor
