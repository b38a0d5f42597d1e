/-
  The laws of cpset: CpsetAlgebra's walk.
-/
import Derived.Test.YtccbofaefpbhlaaDoorAlgA
import Derived.Test.YtccbofaefpbhlaaDoorRegD
import Derived.Laws.EntriesVeiled
import Derived.Deep.CutRange
import Derived.Deep.DeepCutAuto
namespace Go.Proofs.YtccbofaefpbhlaaDoor
set_option linter.unusedVariables false
set_option maxRecDepth 20000
open Go.RowKit

theorem rightP_okS (r : Int × Int) : OkR (rightP r) := by
  have h1 := cutC_range r.1
  have h2 := cutC_range r.2
  unfold OkR rightP
  simp only
  omega
theorem rights_okS (L : List (Int × Int)) : ∀ r ∈ L.map rightP, OkR r := by
  intro r hr
  obtain ⟨x, _, rfl⟩ := List.mem_map.1 hr
  exact rightP_okS x
theorem rights_lenS (L : List (Int × Int)) : ((L.take 12).map rightP).length ≤ 12 := by rw [List.length_map, List.length_take]; omega

set_option maxHeartbeats 16000000 in
theorem cpsetAlgebra_walk (A B : Option Addr) (n m ca cb : Nat) (L K : List (Int × Int)) (w : World) (he : EnvR w) (hL : L.length = n) (hr : PairIn w A L) (hnc : n ≤ ca) (hnil : A = none → ca = 0) (hn : n ≤ 9223372036854775807)
    (hK : K.length = m) (hr2 : PairIn w B K) (hnc2 : m ≤ cb) (hnil2 : B = none → cb = 0) (hn2 : m ≤ 9223372036854775807) :
    Calls Tryd.prog 4 #[.slice A n ca, .slice B m cb] w (RetV (.bool true) w) := by
  have b0 := below_step (below_new w (.cells #[.slice A n ca] 22)) (below_new _ (.cells #[.slice B m cb] 22))
  have hX2 := (Blk.new w 22 #[.slice A n ca]).alloc (.cells #[.slice B m cb] 22)
  have hX3 := blk_two w (.cells #[.slice A n ca] 22) 22 #[.slice B m cb]
  have RIA := Lib.hid (fun W (hW : Below w.heap.size w W) => right_any A n ca L W hL (hr.below hW) hnc hnil hn)
  have RIB := Lib.hid (fun W (hW : Below w.heap.size w W) => right_any B m cb K W hK (hr2.below hW) hnc2 hnil2 hn2)
  have oka := rights_okS (L.take 12)
  have okb := rights_okS (K.take 12)
  have lna := rights_lenS L
  have lnb := rights_lenS K
  generalize (L.take 12).map rightP = Ma at *
  generalize (K.take 12).map rightP = Mb at *
  have HOA := Lib.hid oka
  have HOB := Lib.hid okb
  have HAW := Lib.hid (awake_any _ (he.kept b0))
  have HE := Lib.hid he
  clear hL hr hnc hnil hK hr2 hnc2 hnil2 he oka okb
  go_enter Tryd.func4, Tryd.ntmps4
  go_wp2_with fail
  refine HAW.out.mono ?_
  rintro e w1 ⟨rfl, y1⟩
  have hX2 := hX2.on y1
  have hX3 := hX3.on y1
  have b1 := below_step b0 y1
  obtain ⟨g2, hg2⟩ : ∃ g, g = w.heap.size := ⟨_, rfl⟩
  obtain ⟨g3, hg3⟩ : ∃ g, g = w.heap.size + 1 := ⟨_, rfl⟩
  rw [← hg2] at hX2
  rw [← hg3] at hX3
  have hz2 : w.heap.size ≤ g2 := by omega
  have hz3 : w.heap.size ≤ g3 := by omega
  have hne : g2 ≠ g3 := by omega
  clear HAW y1 b0
  go_upto_region 3 with fail
  rw [← hg3, ← hg2]
  clear hg2 hg3
  obtain ⟨W1, hW1⟩ : ∃ W1, W1 = w1 := ⟨_, rfl⟩
  rw [← hW1] at hX2 hX3 b1 ⊢
  clear hW1
  go_cut [] from 15 to 123 (fun wx => Rg.OldTwo w g2 g3 Ma Mb wx)
  case first =>
    refine Rg.wp_region_frame (q := 4) (n := 6) (m := 124) (ds := fun i => (17 :: 18 :: 19 :: 20 :: []).getD i 0) (al := fun i => false) (R := fun i w v => ((Rg.Wr.eq (.slice A n ca) :: Rg.Wr.row Ma :: Rg.Wr.eq (.slice B m cb) :: Rg.Wr.row Mb :: []).getD i (.eq undef)).ok w v)
        (fun fr => Rg.OldT w g2 g3 124 4 (fun i => (17 :: 18 :: 19 :: 20 :: []).getD i 0) fr 2 3 18 20 Ma Mb)
        (by kernel_rfl) rfl (by decide) (by kernel_rfl) (by kernel_rfl) (by decide) (by decide) (fun j v w w' hb h => Rg.Wr.stable hb h) rfl rfl ?ops3 ?mid3 ?tail3 ?end3
    case mid3 =>
      intro a' w' h1 h2 h3 h4 h5 h6 h7
      obtain ⟨aA, cA, e18, pA⟩ := h5 1 (by decide)
      obtain ⟨aB, cB, e20, pB⟩ := h5 3 (by decide)
      exact ⟨h1, h2, h4, _, _, aA, aB, cA, cB, h4 2 (by decide) (by decide), h4 3 (by decide) (by decide), e18, e20, hX2.on h3, hX3.on h3, ⟨_, _, _, rfl⟩, ⟨_, _, _, rfl⟩, fun h => absurd h (Nat.lt_irrefl _), fun h => absurd h (by decide), pA, pB, b1.trans (h3.mono b1.size)⟩
    case tail3 =>
      iterate 4 refine ⟨fun h => absurd h (by decide), ?_⟩
      refine ⟨fun _ a w' hT => ⟨Rg.wanted_none rfl, fun K hK => Rg.old_store1 hz2 hne hT rfl rfl hK⟩, ?_⟩
      refine ⟨fun _ a w' hT => ⟨Rg.wanted_none rfl, fun K hK => Rg.old_store2 hz3 hne hT rfl rfl hK⟩, ?_⟩
      trivial
    case end3 =>
      rintro ⟨t, d⟩ w' hT
      have hBT := Rg.OldT.two hT
      obtain ⟨hsz, hd, hrest, _⟩ := hT
      have hd' : d = [] := hd
      have hsz' : t.size = 124 := hsz
      subst hd'
      clear hd hsz
      have e := Rg.arr_eta t 124 hsz'
      change t = List.toArray (t.getD 0 undef :: t.getD 1 undef :: t.getD 2 undef :: t.getD 3 undef :: t.getD 4 undef :: t.getD 5 undef :: t.getD 6 undef :: t.getD 7 undef :: t.getD 8 undef :: t.getD 9 undef :: t.getD 10 undef :: t.getD 11 undef :: t.getD 12 undef :: t.getD 13 undef :: t.getD 14 undef :: t.getD 15 undef :: t.getD 16 undef :: t.getD 17 undef :: t.getD 18 undef :: t.getD 19 undef :: t.getD 20 undef :: t.getD 21 undef :: t.getD 22 undef :: t.getD 23 undef :: t.getD 24 undef :: t.getD 25 undef :: t.getD 26 undef :: t.getD 27 undef :: t.getD 28 undef :: t.getD 29 undef :: t.getD 30 undef :: t.getD 31 undef :: t.getD 32 undef :: t.getD 33 undef :: t.getD 34 undef :: t.getD 35 undef :: t.getD 36 undef :: t.getD 37 undef :: t.getD 38 undef :: t.getD 39 undef :: t.getD 40 undef :: t.getD 41 undef :: t.getD 42 undef :: t.getD 43 undef :: t.getD 44 undef :: t.getD 45 undef :: t.getD 46 undef :: t.getD 47 undef :: t.getD 48 undef :: t.getD 49 undef :: t.getD 50 undef :: t.getD 51 undef :: t.getD 52 undef :: t.getD 53 undef :: t.getD 54 undef :: t.getD 55 undef :: t.getD 56 undef :: t.getD 57 undef :: t.getD 58 undef :: t.getD 59 undef :: t.getD 60 undef :: t.getD 61 undef :: t.getD 62 undef :: t.getD 63 undef :: t.getD 64 undef :: t.getD 65 undef :: t.getD 66 undef :: t.getD 67 undef :: t.getD 68 undef :: t.getD 69 undef :: t.getD 70 undef :: t.getD 71 undef :: t.getD 72 undef :: t.getD 73 undef :: t.getD 74 undef :: t.getD 75 undef :: t.getD 76 undef :: t.getD 77 undef :: t.getD 78 undef :: t.getD 79 undef :: t.getD 80 undef :: t.getD 81 undef :: t.getD 82 undef :: t.getD 83 undef :: t.getD 84 undef :: t.getD 85 undef :: t.getD 86 undef :: t.getD 87 undef :: t.getD 88 undef :: t.getD 89 undef :: t.getD 90 undef :: t.getD 91 undef :: t.getD 92 undef :: t.getD 93 undef :: t.getD 94 undef :: t.getD 95 undef :: t.getD 96 undef :: t.getD 97 undef :: t.getD 98 undef :: t.getD 99 undef :: t.getD 100 undef :: t.getD 101 undef :: t.getD 102 undef :: t.getD 103 undef :: t.getD 104 undef :: t.getD 105 undef :: t.getD 106 undef :: t.getD 107 undef :: t.getD 108 undef :: t.getD 109 undef :: t.getD 110 undef :: t.getD 111 undef :: t.getD 112 undef :: t.getD 113 undef :: t.getD 114 undef :: t.getD 115 undef :: t.getD 116 undef :: t.getD 117 undef :: t.getD 118 undef :: t.getD 119 undef :: t.getD 120 undef :: t.getD 121 undef :: t.getD 122 undef :: t.getD 123 undef :: []) at e
      have l0 : t.getD 0 undef = _ := hrest 0 (by decide) (by decide)
      have l1 : t.getD 1 undef = _ := hrest 1 (by decide) (by decide)
      have l2 : t.getD 2 undef = _ := hrest 2 (by decide) (by decide)
      have l3 : t.getD 3 undef = _ := hrest 3 (by decide) (by decide)
      have l4 : t.getD 4 undef = _ := hrest 4 (by decide) (by decide)
      have l5 : t.getD 5 undef = _ := hrest 5 (by decide) (by decide)
      have l6 : t.getD 6 undef = _ := hrest 6 (by decide) (by decide)
      have l7 : t.getD 7 undef = _ := hrest 7 (by decide) (by decide)
      have l8 : t.getD 8 undef = _ := hrest 8 (by decide) (by decide)
      have l9 : t.getD 9 undef = _ := hrest 9 (by decide) (by decide)
      have l10 : t.getD 10 undef = _ := hrest 10 (by decide) (by decide)
      have l11 : t.getD 11 undef = _ := hrest 11 (by decide) (by decide)
      have l12 : t.getD 12 undef = _ := hrest 12 (by decide) (by decide)
      have l13 : t.getD 13 undef = _ := hrest 13 (by decide) (by decide)
      have l14 : t.getD 14 undef = _ := hrest 14 (by decide) (by decide)
      rw [l0, l1, l2, l3, l4, l5, l6, l7, l8, l9, l10, l11, l12, l13, l14] at e
      clear hrest l0 l1 l2 l3 l4 l5 l6 l7 l8 l9 l10 l11 l12 l13 l14 hsz'
      generalize t.getD 15 undef = u15 at e
      generalize t.getD 16 undef = u16 at e
      generalize t.getD 17 undef = u17 at e
      generalize t.getD 18 undef = u18 at e
      generalize t.getD 19 undef = u19 at e
      generalize t.getD 20 undef = u20 at e
      generalize t.getD 21 undef = u21 at e
      generalize t.getD 22 undef = u22 at e
      generalize t.getD 23 undef = u23 at e
      generalize t.getD 24 undef = u24 at e
      generalize t.getD 25 undef = u25 at e
      generalize t.getD 26 undef = u26 at e
      generalize t.getD 27 undef = u27 at e
      generalize t.getD 28 undef = u28 at e
      generalize t.getD 29 undef = u29 at e
      generalize t.getD 30 undef = u30 at e
      generalize t.getD 31 undef = u31 at e
      generalize t.getD 32 undef = u32 at e
      generalize t.getD 33 undef = u33 at e
      generalize t.getD 34 undef = u34 at e
      generalize t.getD 35 undef = u35 at e
      generalize t.getD 36 undef = u36 at e
      generalize t.getD 37 undef = u37 at e
      generalize t.getD 38 undef = u38 at e
      generalize t.getD 39 undef = u39 at e
      generalize t.getD 40 undef = u40 at e
      generalize t.getD 41 undef = u41 at e
      generalize t.getD 42 undef = u42 at e
      generalize t.getD 43 undef = u43 at e
      generalize t.getD 44 undef = u44 at e
      generalize t.getD 45 undef = u45 at e
      generalize t.getD 46 undef = u46 at e
      generalize t.getD 47 undef = u47 at e
      generalize t.getD 48 undef = u48 at e
      generalize t.getD 49 undef = u49 at e
      generalize t.getD 50 undef = u50 at e
      generalize t.getD 51 undef = u51 at e
      generalize t.getD 52 undef = u52 at e
      generalize t.getD 53 undef = u53 at e
      generalize t.getD 54 undef = u54 at e
      generalize t.getD 55 undef = u55 at e
      generalize t.getD 56 undef = u56 at e
      generalize t.getD 57 undef = u57 at e
      generalize t.getD 58 undef = u58 at e
      generalize t.getD 59 undef = u59 at e
      generalize t.getD 60 undef = u60 at e
      generalize t.getD 61 undef = u61 at e
      generalize t.getD 62 undef = u62 at e
      generalize t.getD 63 undef = u63 at e
      generalize t.getD 64 undef = u64 at e
      generalize t.getD 65 undef = u65 at e
      generalize t.getD 66 undef = u66 at e
      generalize t.getD 67 undef = u67 at e
      generalize t.getD 68 undef = u68 at e
      generalize t.getD 69 undef = u69 at e
      generalize t.getD 70 undef = u70 at e
      generalize t.getD 71 undef = u71 at e
      generalize t.getD 72 undef = u72 at e
      generalize t.getD 73 undef = u73 at e
      generalize t.getD 74 undef = u74 at e
      generalize t.getD 75 undef = u75 at e
      generalize t.getD 76 undef = u76 at e
      generalize t.getD 77 undef = u77 at e
      generalize t.getD 78 undef = u78 at e
      generalize t.getD 79 undef = u79 at e
      generalize t.getD 80 undef = u80 at e
      generalize t.getD 81 undef = u81 at e
      generalize t.getD 82 undef = u82 at e
      generalize t.getD 83 undef = u83 at e
      generalize t.getD 84 undef = u84 at e
      generalize t.getD 85 undef = u85 at e
      generalize t.getD 86 undef = u86 at e
      generalize t.getD 87 undef = u87 at e
      generalize t.getD 88 undef = u88 at e
      generalize t.getD 89 undef = u89 at e
      generalize t.getD 90 undef = u90 at e
      generalize t.getD 91 undef = u91 at e
      generalize t.getD 92 undef = u92 at e
      generalize t.getD 93 undef = u93 at e
      generalize t.getD 94 undef = u94 at e
      generalize t.getD 95 undef = u95 at e
      generalize t.getD 96 undef = u96 at e
      generalize t.getD 97 undef = u97 at e
      generalize t.getD 98 undef = u98 at e
      generalize t.getD 99 undef = u99 at e
      generalize t.getD 100 undef = u100 at e
      generalize t.getD 101 undef = u101 at e
      generalize t.getD 102 undef = u102 at e
      generalize t.getD 103 undef = u103 at e
      generalize t.getD 104 undef = u104 at e
      generalize t.getD 105 undef = u105 at e
      generalize t.getD 106 undef = u106 at e
      generalize t.getD 107 undef = u107 at e
      generalize t.getD 108 undef = u108 at e
      generalize t.getD 109 undef = u109 at e
      generalize t.getD 110 undef = u110 at e
      generalize t.getD 111 undef = u111 at e
      generalize t.getD 112 undef = u112 at e
      generalize t.getD 113 undef = u113 at e
      generalize t.getD 114 undef = u114 at e
      generalize t.getD 115 undef = u115 at e
      generalize t.getD 116 undef = u116 at e
      generalize t.getD 117 undef = u117 at e
      generalize t.getD 118 undef = u118 at e
      generalize t.getD 119 undef = u119 at e
      generalize t.getD 120 undef = u120 at e
      generalize t.getD 121 undef = u121 at e
      generalize t.getD 122 undef = u122 at e
      generalize t.getD 123 undef = u123 at e
      subst e
      go_wp2_with fail
      go_meet
      exact hBT
    case ops3 =>
      refine ⟨fun _ => ⟨rfl, fun l a w' hI hdeps => ⟨?_, fun K hK => ?_⟩⟩, ?_⟩
      · exact Rg.wanted_none rfl
      · have hbw : Below W1.heap.size W1 w' := ⟨hI.below.os, hI.below.tape, hI.below.output, hI.below.size, hI.below.block⟩
        have e2 : a.tmps.getD 2 undef = .pointer (some ⟨g2, 0, none⟩) := hI.rest 2 (by decide) (by decide)
        exact Rg.wp_load22 rfl e2 ((hX2.on hbw).cell0) (hK _ _ (Below.refl _ _) rfl (fun h => absurd h (by decide)))
      refine ⟨fun _ => ⟨rfl, fun l a w' hI hdeps => ⟨?_, fun K hK => ?_⟩⟩, ?_⟩
      · exact Rg.wanted_none rfl
      · have hbw : Below W1.heap.size W1 w' := ⟨hI.below.os, hI.below.tape, hI.below.output, hI.below.size, hI.below.block⟩
        have e17 : a.tmps.getD 17 undef = .slice A n ca := hI.rel 0 (by decide) (hdeps ⟨0, .data⟩ (by simp) rfl)
        refine Rg.wp_call1 rfl (enters_of Tryd.func23 (by kernel_rfl) rfl) ?_
        rw [e17]
        refine (RIA.out w' (b1.trans (hbw.mono b1.size))).mono ?_
        rintro e w'' ⟨v, rfl, hown, y⟩
        obtain ⟨A', c', rfl, hp, _⟩ := own_pairAt hown
        exact ⟨_, rfl, hK _ _ y ⟨A', c', rfl, hp⟩ (fun h => absurd h (by decide))⟩
      refine ⟨fun _ => ⟨rfl, fun l a w' hI hdeps => ⟨?_, fun K hK => ?_⟩⟩, ?_⟩
      · exact Rg.wanted_none rfl
      · have hbw : Below W1.heap.size W1 w' := ⟨hI.below.os, hI.below.tape, hI.below.output, hI.below.size, hI.below.block⟩
        have e3 : a.tmps.getD 3 undef = .pointer (some ⟨g3, 0, none⟩) := hI.rest 3 (by decide) (by decide)
        exact Rg.wp_load22 rfl e3 ((hX3.on hbw).cell0) (hK _ _ (Below.refl _ _) rfl (fun h => absurd h (by decide)))
      refine ⟨fun _ => ⟨rfl, fun l a w' hI hdeps => ⟨?_, fun K hK => ?_⟩⟩, ?_⟩
      · exact Rg.wanted_none rfl
      · have hbw : Below W1.heap.size W1 w' := ⟨hI.below.os, hI.below.tape, hI.below.output, hI.below.size, hI.below.block⟩
        have e19 : a.tmps.getD 19 undef = .slice B m cb := hI.rel 2 (by decide) (hdeps ⟨2, .data⟩ (by simp) rfl)
        refine Rg.wp_call1 rfl (enters_of Tryd.func23 (by kernel_rfl) rfl) ?_
        rw [e19]
        refine (RIB.out w' (b1.trans (hbw.mono b1.size))).mono ?_
        rintro e w'' ⟨v, rfl, hown, y⟩
        obtain ⟨A', c', rfl, hp, _⟩ := own_pairAt hown
        exact ⟨_, rfl, hK _ _ y ⟨A', c', rfl, hp⟩ (fun h => absurd h (by decide))⟩
      refine ⟨fun h => absurd h (by decide), ?_⟩
      refine ⟨fun h => absurd h (by decide), ?_⟩
      trivial
  case rest =>
    obtain ⟨aA, aB, cA, cB, hX2', hX3', pA, pB, bw⟩ := hcut
    clear hX2 hX3 b1 RIA RIB
    have ew : EnvR wc := HE.out.kept bw
    obtain ⟨W3, hW3⟩ : ∃ W3, W3 = wc := ⟨_, rfl⟩
    rw [← hW3] at hX2' hX3' pA pB bw ew ⊢
    clear hW3
    have STA := Lib.hid (fun W' (h1 : Below W3.heap.size W3 W') => set_any aA Ma.length cA Ma W' (ew.kept h1) rfl (pA.below h1) HOA.out (by omega))
    have STB := Lib.hid (fun W' (h1 : Below W3.heap.size W3 W') => set_any aB Mb.length cB Mb W' (ew.kept h1) rfl (pB.below h1) HOB.out (by omega))
    go_upto_region 4 with fail
    go_cut [5, 6] from 15 to 123 (fun v5 v6 wx => Rg.BoxTwo W3 (inR Ma) (inR Mb) v5 v6 wx)
    case first =>
      refine Rg.wp_region_frame (q := 6) (n := 8) (m := 124) (ds := fun i => (21 :: 22 :: 23 :: 24 :: 5 :: 6 :: []).getD i 0) (al := fun i => i == 4 || i == 5) (R := fun i w v => ((Rg.Wr.eq (.slice aA Ma.length cA) :: Rg.Wr.mem (inR Ma) :: Rg.Wr.eq (.slice aB Mb.length cB) :: Rg.Wr.mem (inR Mb) :: Rg.Wr.box :: Rg.Wr.box :: []).getD i (.eq undef)).ok w v)
          (fun fr => Rg.TwoT W3 124 6 (fun i => (21 :: 22 :: 23 :: 24 :: 5 :: 6 :: []).getD i 0) fr 5 6 22 24 (inR Ma) (inR Mb))
          (by kernel_rfl) rfl (by decide) (by kernel_rfl) (by kernel_rfl) (by decide) (by decide) (fun j v w w' hb h => Rg.Wr.stable hb h) rfl rfl ?ops4 ?mid4 ?tail4 ?end4
      case mid4 =>
        intro a' w' h1 h2 h3 h4 h5 h6 h7
        exact Rg.TwoT.start h1 h2 h4 h3 (h5 4 (by decide)) (h5 5 (by decide)) (h6 4 (by decide) (by decide)) (h6 5 (by decide) (by decide)) (h7 4 5 (by decide) (by decide) (by decide) (by decide) (by decide)) (h5 1 (by decide)) (h5 3 (by decide))
      case tail4 =>
        iterate 6 refine ⟨fun h => absurd h (by decide), ?_⟩
        refine ⟨fun _ a w' hT => ⟨Rg.wanted_none rfl, fun K hK => Rg.two_store1 hT rfl rfl hK⟩, ?_⟩
        refine ⟨fun _ a w' hT => ⟨Rg.wanted_none rfl, fun K hK => Rg.two_store2 hT rfl rfl hK⟩, ?_⟩
        trivial
      case end4 =>
        rintro ⟨t, d⟩ w' hT
        have hBT := Rg.TwoT.boxes hT
        obtain ⟨hsz, hd, hrest, _⟩ := hT
        have hd' : d = [] := hd
        have hsz' : t.size = 124 := hsz
        have hBT' : Rg.BoxTwo _ _ _ (t.getD 5 undef) (t.getD 6 undef) w' := hBT
        subst hd'
        clear hd hsz hBT
        have e := Rg.arr_eta t 124 hsz'
        change t = List.toArray (t.getD 0 undef :: t.getD 1 undef :: t.getD 2 undef :: t.getD 3 undef :: t.getD 4 undef :: t.getD 5 undef :: t.getD 6 undef :: t.getD 7 undef :: t.getD 8 undef :: t.getD 9 undef :: t.getD 10 undef :: t.getD 11 undef :: t.getD 12 undef :: t.getD 13 undef :: t.getD 14 undef :: t.getD 15 undef :: t.getD 16 undef :: t.getD 17 undef :: t.getD 18 undef :: t.getD 19 undef :: t.getD 20 undef :: t.getD 21 undef :: t.getD 22 undef :: t.getD 23 undef :: t.getD 24 undef :: t.getD 25 undef :: t.getD 26 undef :: t.getD 27 undef :: t.getD 28 undef :: t.getD 29 undef :: t.getD 30 undef :: t.getD 31 undef :: t.getD 32 undef :: t.getD 33 undef :: t.getD 34 undef :: t.getD 35 undef :: t.getD 36 undef :: t.getD 37 undef :: t.getD 38 undef :: t.getD 39 undef :: t.getD 40 undef :: t.getD 41 undef :: t.getD 42 undef :: t.getD 43 undef :: t.getD 44 undef :: t.getD 45 undef :: t.getD 46 undef :: t.getD 47 undef :: t.getD 48 undef :: t.getD 49 undef :: t.getD 50 undef :: t.getD 51 undef :: t.getD 52 undef :: t.getD 53 undef :: t.getD 54 undef :: t.getD 55 undef :: t.getD 56 undef :: t.getD 57 undef :: t.getD 58 undef :: t.getD 59 undef :: t.getD 60 undef :: t.getD 61 undef :: t.getD 62 undef :: t.getD 63 undef :: t.getD 64 undef :: t.getD 65 undef :: t.getD 66 undef :: t.getD 67 undef :: t.getD 68 undef :: t.getD 69 undef :: t.getD 70 undef :: t.getD 71 undef :: t.getD 72 undef :: t.getD 73 undef :: t.getD 74 undef :: t.getD 75 undef :: t.getD 76 undef :: t.getD 77 undef :: t.getD 78 undef :: t.getD 79 undef :: t.getD 80 undef :: t.getD 81 undef :: t.getD 82 undef :: t.getD 83 undef :: t.getD 84 undef :: t.getD 85 undef :: t.getD 86 undef :: t.getD 87 undef :: t.getD 88 undef :: t.getD 89 undef :: t.getD 90 undef :: t.getD 91 undef :: t.getD 92 undef :: t.getD 93 undef :: t.getD 94 undef :: t.getD 95 undef :: t.getD 96 undef :: t.getD 97 undef :: t.getD 98 undef :: t.getD 99 undef :: t.getD 100 undef :: t.getD 101 undef :: t.getD 102 undef :: t.getD 103 undef :: t.getD 104 undef :: t.getD 105 undef :: t.getD 106 undef :: t.getD 107 undef :: t.getD 108 undef :: t.getD 109 undef :: t.getD 110 undef :: t.getD 111 undef :: t.getD 112 undef :: t.getD 113 undef :: t.getD 114 undef :: t.getD 115 undef :: t.getD 116 undef :: t.getD 117 undef :: t.getD 118 undef :: t.getD 119 undef :: t.getD 120 undef :: t.getD 121 undef :: t.getD 122 undef :: t.getD 123 undef :: []) at e
        have l0 : t.getD 0 undef = _ := hrest 0 (by decide) (by decide)
        have l1 : t.getD 1 undef = _ := hrest 1 (by decide) (by decide)
        have l2 : t.getD 2 undef = _ := hrest 2 (by decide) (by decide)
        have l3 : t.getD 3 undef = _ := hrest 3 (by decide) (by decide)
        have l4 : t.getD 4 undef = _ := hrest 4 (by decide) (by decide)
        have l7 : t.getD 7 undef = _ := hrest 7 (by decide) (by decide)
        have l8 : t.getD 8 undef = _ := hrest 8 (by decide) (by decide)
        have l9 : t.getD 9 undef = _ := hrest 9 (by decide) (by decide)
        have l10 : t.getD 10 undef = _ := hrest 10 (by decide) (by decide)
        have l11 : t.getD 11 undef = _ := hrest 11 (by decide) (by decide)
        have l12 : t.getD 12 undef = _ := hrest 12 (by decide) (by decide)
        have l13 : t.getD 13 undef = _ := hrest 13 (by decide) (by decide)
        have l14 : t.getD 14 undef = _ := hrest 14 (by decide) (by decide)
        rw [l0, l1, l2, l3, l4, l7, l8, l9, l10, l11, l12, l13, l14] at e
        clear hrest l0 l1 l2 l3 l4 l7 l8 l9 l10 l11 l12 l13 l14 hsz'
        generalize t.getD 5 undef = u5 at e hBT'
        generalize t.getD 6 undef = u6 at e hBT'
        generalize t.getD 15 undef = u15 at e
        generalize t.getD 16 undef = u16 at e
        generalize t.getD 17 undef = u17 at e
        generalize t.getD 18 undef = u18 at e
        generalize t.getD 19 undef = u19 at e
        generalize t.getD 20 undef = u20 at e
        generalize t.getD 21 undef = u21 at e
        generalize t.getD 22 undef = u22 at e
        generalize t.getD 23 undef = u23 at e
        generalize t.getD 24 undef = u24 at e
        generalize t.getD 25 undef = u25 at e
        generalize t.getD 26 undef = u26 at e
        generalize t.getD 27 undef = u27 at e
        generalize t.getD 28 undef = u28 at e
        generalize t.getD 29 undef = u29 at e
        generalize t.getD 30 undef = u30 at e
        generalize t.getD 31 undef = u31 at e
        generalize t.getD 32 undef = u32 at e
        generalize t.getD 33 undef = u33 at e
        generalize t.getD 34 undef = u34 at e
        generalize t.getD 35 undef = u35 at e
        generalize t.getD 36 undef = u36 at e
        generalize t.getD 37 undef = u37 at e
        generalize t.getD 38 undef = u38 at e
        generalize t.getD 39 undef = u39 at e
        generalize t.getD 40 undef = u40 at e
        generalize t.getD 41 undef = u41 at e
        generalize t.getD 42 undef = u42 at e
        generalize t.getD 43 undef = u43 at e
        generalize t.getD 44 undef = u44 at e
        generalize t.getD 45 undef = u45 at e
        generalize t.getD 46 undef = u46 at e
        generalize t.getD 47 undef = u47 at e
        generalize t.getD 48 undef = u48 at e
        generalize t.getD 49 undef = u49 at e
        generalize t.getD 50 undef = u50 at e
        generalize t.getD 51 undef = u51 at e
        generalize t.getD 52 undef = u52 at e
        generalize t.getD 53 undef = u53 at e
        generalize t.getD 54 undef = u54 at e
        generalize t.getD 55 undef = u55 at e
        generalize t.getD 56 undef = u56 at e
        generalize t.getD 57 undef = u57 at e
        generalize t.getD 58 undef = u58 at e
        generalize t.getD 59 undef = u59 at e
        generalize t.getD 60 undef = u60 at e
        generalize t.getD 61 undef = u61 at e
        generalize t.getD 62 undef = u62 at e
        generalize t.getD 63 undef = u63 at e
        generalize t.getD 64 undef = u64 at e
        generalize t.getD 65 undef = u65 at e
        generalize t.getD 66 undef = u66 at e
        generalize t.getD 67 undef = u67 at e
        generalize t.getD 68 undef = u68 at e
        generalize t.getD 69 undef = u69 at e
        generalize t.getD 70 undef = u70 at e
        generalize t.getD 71 undef = u71 at e
        generalize t.getD 72 undef = u72 at e
        generalize t.getD 73 undef = u73 at e
        generalize t.getD 74 undef = u74 at e
        generalize t.getD 75 undef = u75 at e
        generalize t.getD 76 undef = u76 at e
        generalize t.getD 77 undef = u77 at e
        generalize t.getD 78 undef = u78 at e
        generalize t.getD 79 undef = u79 at e
        generalize t.getD 80 undef = u80 at e
        generalize t.getD 81 undef = u81 at e
        generalize t.getD 82 undef = u82 at e
        generalize t.getD 83 undef = u83 at e
        generalize t.getD 84 undef = u84 at e
        generalize t.getD 85 undef = u85 at e
        generalize t.getD 86 undef = u86 at e
        generalize t.getD 87 undef = u87 at e
        generalize t.getD 88 undef = u88 at e
        generalize t.getD 89 undef = u89 at e
        generalize t.getD 90 undef = u90 at e
        generalize t.getD 91 undef = u91 at e
        generalize t.getD 92 undef = u92 at e
        generalize t.getD 93 undef = u93 at e
        generalize t.getD 94 undef = u94 at e
        generalize t.getD 95 undef = u95 at e
        generalize t.getD 96 undef = u96 at e
        generalize t.getD 97 undef = u97 at e
        generalize t.getD 98 undef = u98 at e
        generalize t.getD 99 undef = u99 at e
        generalize t.getD 100 undef = u100 at e
        generalize t.getD 101 undef = u101 at e
        generalize t.getD 102 undef = u102 at e
        generalize t.getD 103 undef = u103 at e
        generalize t.getD 104 undef = u104 at e
        generalize t.getD 105 undef = u105 at e
        generalize t.getD 106 undef = u106 at e
        generalize t.getD 107 undef = u107 at e
        generalize t.getD 108 undef = u108 at e
        generalize t.getD 109 undef = u109 at e
        generalize t.getD 110 undef = u110 at e
        generalize t.getD 111 undef = u111 at e
        generalize t.getD 112 undef = u112 at e
        generalize t.getD 113 undef = u113 at e
        generalize t.getD 114 undef = u114 at e
        generalize t.getD 115 undef = u115 at e
        generalize t.getD 116 undef = u116 at e
        generalize t.getD 117 undef = u117 at e
        generalize t.getD 118 undef = u118 at e
        generalize t.getD 119 undef = u119 at e
        generalize t.getD 120 undef = u120 at e
        generalize t.getD 121 undef = u121 at e
        generalize t.getD 122 undef = u122 at e
        generalize t.getD 123 undef = u123 at e
        subst e
        go_wp2_with fail
        go_meet
        exact hBT'
      case ops4 =>
        refine ⟨fun _ => ⟨rfl, fun l a w' hI hdeps => ⟨?_, fun K hK => ?_⟩⟩, ?_⟩
        · exact Rg.wanted_none rfl
        · have hbw : Below W3.heap.size W3 w' := ⟨hI.below.os, hI.below.tape, hI.below.output, hI.below.size, hI.below.block⟩
          have e2 : a.tmps.getD 2 undef = .pointer (some ⟨g2, 0, none⟩) := hI.rest 2 (by decide) (by decide)
          exact Rg.wp_load22 rfl e2 ((hX2'.on hbw).cell0) (hK _ _ (Below.refl _ _) rfl (fun h => absurd h (by decide)))
        refine ⟨fun _ => ⟨rfl, fun l a w' hI hdeps => ⟨?_, fun K hK => ?_⟩⟩, ?_⟩
        · exact Rg.wanted_none rfl
        · have hbw : Below W3.heap.size W3 w' := ⟨hI.below.os, hI.below.tape, hI.below.output, hI.below.size, hI.below.block⟩
          have e21 : a.tmps.getD 21 undef = .slice aA Ma.length cA := hI.rel 0 (by decide) (hdeps ⟨0, .data⟩ (by simp) rfl)
          refine Rg.wp_call1 rfl (enters_of Tryd.func24 (by kernel_rfl) rfl) ?_
          rw [e21]
          refine (STA.out w' hbw).mono ?_
          rintro e w'' ⟨v, S', rfl, hset, hmem, y⟩
          exact ⟨_, rfl, hK _ _ y ⟨S', hset, hmem⟩ (fun h => absurd h (by decide))⟩
        refine ⟨fun _ => ⟨rfl, fun l a w' hI hdeps => ⟨?_, fun K hK => ?_⟩⟩, ?_⟩
        · exact Rg.wanted_none rfl
        · have hbw : Below W3.heap.size W3 w' := ⟨hI.below.os, hI.below.tape, hI.below.output, hI.below.size, hI.below.block⟩
          have e3 : a.tmps.getD 3 undef = .pointer (some ⟨g3, 0, none⟩) := hI.rest 3 (by decide) (by decide)
          exact Rg.wp_load22 rfl e3 ((hX3'.on hbw).cell0) (hK _ _ (Below.refl _ _) rfl (fun h => absurd h (by decide)))
        refine ⟨fun _ => ⟨rfl, fun l a w' hI hdeps => ⟨?_, fun K hK => ?_⟩⟩, ?_⟩
        · exact Rg.wanted_none rfl
        · have hbw : Below W3.heap.size W3 w' := ⟨hI.below.os, hI.below.tape, hI.below.output, hI.below.size, hI.below.block⟩
          have e23 : a.tmps.getD 23 undef = .slice aB Mb.length cB := hI.rel 2 (by decide) (hdeps ⟨2, .data⟩ (by simp) rfl)
          refine Rg.wp_call1 rfl (enters_of Tryd.func24 (by kernel_rfl) rfl) ?_
          rw [e23]
          refine (STB.out w' hbw).mono ?_
          rintro e w'' ⟨v, S', rfl, hset, hmem, y⟩
          exact ⟨_, rfl, hK _ _ y ⟨S', hset, hmem⟩ (fun h => absurd h (by decide))⟩
        refine ⟨fun _ => ⟨rfl, fun l a w' hI hdeps => ⟨?_, fun K hK => ?_⟩⟩, ?_⟩
        · exact Rg.wanted_none rfl
        · have hbw : Below W3.heap.size W3 w' := ⟨hI.below.os, hI.below.tape, hI.below.output, hI.below.size, hI.below.block⟩
          exact Rg.wp_alloc29 rfl (hK _ _ (below_new w' _) ⟨_, rfl, Blk.new w' 29 _⟩ (fun _ => ⟨rfl, by simp⟩))
        refine ⟨fun _ => ⟨rfl, fun l a w' hI hdeps => ⟨?_, fun K hK => ?_⟩⟩, ?_⟩
        · exact Rg.wanted_none rfl
        · have hbw : Below W3.heap.size W3 w' := ⟨hI.below.os, hI.below.tape, hI.below.output, hI.below.size, hI.below.block⟩
          exact Rg.wp_alloc29 rfl (hK _ _ (below_new w' _) ⟨_, rfl, Blk.new w' 29 _⟩ (fun _ => ⟨rfl, by simp⟩))
        refine ⟨fun h => absurd h (by decide), ?_⟩
        refine ⟨fun h => absurd h (by decide), ?_⟩
        trivial
    case rest =>
      obtain ⟨g5, g6, aS, aT, nS, cS, nT, cT, S, T, rfl, rfl, hX5, hX6, hsS, hmS, hsT, hmT, bc⟩ := hcut
      have hX2 := hX2'.on bc
      have hX3 := hX3'.on bc
      have pA := pA.below bc
      have pB := pB.below bc
      have b4 := bw.trans (bc.mono bw.size)
      have HMS := Lib.hid hmS
      have HMT := Lib.hid hmT
      clear STA STB hX2' hX3' bw ew bc hmS hmT
      obtain ⟨W4, hW4⟩ : ∃ W4, W4 = wc := ⟨_, rfl⟩
      rw [← hW4] at hX2 hX3 pA pB b4 hX5 hX6 hsS hsT ⊢
      clear hW4
      go_upto_region 5 with fail
      have hokAB : ∀ r ∈ Ma ++ Mb, OkR r := by
        intro r hr
        rcases List.mem_append.1 hr with h | h
        · exact HOA.out r h
        · exact HOB.out r h
      have hlAB : (Ma ++ Mb).length ≤ 1000 := by rw [List.length_append]; omega
      have MK := Lib.hid (fun A c W hp => marks_any A (Ma ++ Mb).length c (Ma ++ Mb) W rfl hp hokAB hlAB)
      have HOK := Lib.hid hokAB
      clear hokAB hlAB
      have HLEN : Hid ((Ma ++ Mb).length = Ma.length + Mb.length) := Lib.hid List.length_append
      go_cut [7] from 15 to 123 (fun v7 wx => ∃ Bz, wx.ownsRow Bz 3 1 v7 (marksOf (Ma ++ Mb)).length (cellsOf .i64 (marksOf (Ma ++ Mb))) ∧ Below W4.heap.size W4 wx)
      case first =>
        clear hX5 hX6 hsS hsT b4
        refine wp_region_kept (fun w' => w'.cell? ⟨g2, 0, none⟩ = some (.slice aA Ma.length cA) ∧ w'.cell? ⟨g3, 0, none⟩ = some (.slice aB Mb.length cB)) (fun i => false) (by kernel_rfl) ⟨(hX2.on (below_drew _)).cell0, (hX3.on (below_drew _)).cell0⟩ (fun hH => ?_)
        refine wpAnyK_take (i := 1) (v := .slice aA Ma.length cA) rfl (by kernel_rfl) (by kernel_rfl) (by kernel_rfl) (by kernel_rfl) (by kernel_rfl) (fun _ _ _ h => h) (Or.inl ⟨by rfl, ?_⟩) hH ?_
        · rintro w' ⟨k1, k2⟩; go_simp
        simp only [Act.put, List.setIfInBounds_toArray]
        refine wpAnyK_take (i := 3) (v := .slice aB Mb.length cB) rfl (by kernel_rfl) (by kernel_rfl) (by kernel_rfl) (by kernel_rfl) (by kernel_rfl) (fun _ _ _ h => h) (Or.inl ⟨by rfl, ?_⟩) hH ?_
        · rintro w' ⟨k1, k2⟩; go_simp
        simp only [Act.put]
        refine wpAnyK_one (i := 0) (by kernel_rfl) rfl (fun Kk hKk => ?_)
        go_simp
        have bz0 : Below W4.heap.size W4 (W4.alloc (.cells #[] 26)).drew := (below_new W4 _).drew
        have own0 : (W4.alloc (.cells #[] 26)).drew.ownsRow W4.heap.size 26 2 (.slice (some ⟨W4.heap.size, 0, none⟩) 0 0) 0 [] := World.ownsRow_made W4 #[] 0 (Nat.le_refl _) (by decide) rfl
        generalize (W4.alloc (.cells #[] 26)).drew = z0 at *
        refine hKk.out _ _ ⟨(hX2.on bz0).cell0, (hX3.on bz0).cell0⟩ (fun _ => ?_)
        clear hKk Kk
        refine wpAnyK_one (i := 2) (by kernel_rfl) rfl (fun Kk hKk => ?_)
        rw [if_pos (Rg.wanted_none rfl)]
        refine Rg.wp_append_pairs 25 26 rfl W4.heap.size 0 _ [] rfl own0 aA Ma cA rfl (pA.below bz0) bz0.size (by omega) (fun v1 z1 own1 gr1 => ?_)
        have bz1 := bz0.grown gr1 bz0.size (fun k hk => (own0.lt k hk).1)
        clear gr1 own0 bz0
        simp only [Act.put]
        refine hKk.out _ _ ⟨(hX2.on bz1).cell0, (hX3.on bz1).cell0⟩ (fun _ => ?_)
        clear hKk Kk
        refine wpAnyK_one (i := 4) (by kernel_rfl) rfl (fun Kk hKk => ?_)
        rw [if_pos (Rg.wanted_none rfl)]
        refine Rg.wp_append_pairs 27 28 rfl W4.heap.size (0 + Ma.length) v1 _ rfl own1 aB Mb cB rfl (pB.below bz1) bz1.size (by omega) (fun v2 z2 own2 gr2 => ?_)
        have bz2 := bz1.grown gr2 bz1.size (fun k hk => (own1.lt k hk).1)
        have own3 : z2.ownsRow W4.heap.size 26 2 v2 (Ma ++ Mb).length (prC (Ma ++ Mb)) := by
          rw [List.length_append, prC_append]
          rw [Nat.zero_add, List.nil_append] at own2
          exact own2
        obtain ⟨A', c', rfl, hp', _⟩ := own_pairAt own3
        clear gr2 own1 own2 own3 bz1
        simp only [Act.put]
        refine hKk.out _ _ ⟨(hX2.on bz2).cell0, (hX3.on bz2).cell0⟩ (fun _ => ?_)
        clear hKk Kk
        refine wpAnyK_one (i := 5) (by kernel_rfl) rfl (fun Kk hKk => ?_)
        have MK2 := Lib.hid (MK.out A' c' z2 hp')
        rw [HLEN.out] at MK2
        go_simp
        refine MK2.out.mono ?_
        rintro e z3 ⟨u, rfl, own4, y4⟩
        have bz3 := below_step bz2 y4
        go_wp2_with fail
        refine hKk.out _ _ ⟨(hX2.on bz3).cell0, (hX3.on bz3).cell0⟩ (fun _ => ?_)
        clear hKk Kk
        refine wpAnyK_one (i := 6) (by kernel_rfl) rfl (fun Kk hKk => ?_)
        go_simp
        refine hKk.out _ _ ⟨(hX2.on bz3).cell0, (hX3.on bz3).cell0⟩ (fun _ => ?_)
        clear hKk Kk
        refine wpAnyK_done (by kernel_rfl) ?_ _
        go_wp2
        go_meet
        exact ⟨_, own4, bz3⟩
      case rest =>
        obtain ⟨Bz, own7, bc⟩ := hcut
        have hX2 := hX2.on bc
        have hX3 := hX3.on bc
        have hX5 := hX5.on bc
        have hX6 := hX6.on bc
        have pA := pA.below bc
        have pB := pB.below bc
        have hsS := hsS.below bc
        have hsT := hsT.below bc
        have b5 := b4.trans (bc.mono b4.size)
        clear bc b4 MK
        obtain ⟨A7, c7, e7, hI7⟩ := own_intAt own7 rfl
        subst e7
        obtain ⟨ml, hml⟩ : ∃ ml, (marksOf (Ma ++ Mb)).length = ml := ⟨_, rfl⟩
        rw [hml] at own7 ⊢
        obtain ⟨W5, hW5⟩ : ∃ W5, W5 = wc := ⟨_, rfl⟩
        rw [← hW5] at hX2 hX3 hX5 hX6 pA pB hsS hsT b5 hI7 ⊢
        clear hW5 own7
        have k5 := hX5.cell0
        have k6 := hX6.cell0
        obtain ⟨g8, hg8⟩ : ∃ g, g = W5.heap.size := ⟨_, rfl⟩
        obtain ⟨g9, hg9⟩ : ∃ g, g = W5.heap.size + 1 := ⟨_, rfl⟩
        obtain ⟨g34, hg34⟩ : ∃ g, g = W5.heap.size + 1 + 1 := ⟨_, rfl⟩
        obtain ⟨g10, hg10⟩ : ∃ g, g = W5.heap.size + 1 + 1 + 1 := ⟨_, rfl⟩
        have f8 := (((Blk.new W5 41 #[.func (.func 25) #[] #[.pointer (some ⟨g2, 0, none⟩)]]).alloc (.cells #[.func (.func 26) #[] #[.pointer (some ⟨g3, 0, none⟩)]] 41)).alloc (.cells #[.int .i64 0, .int .i64 1114111] 26)).alloc (.cells #[.slice (some ⟨g34, 0, none⟩) 1 1] 22)
        have f9 := ((blk_two W5 (.cells #[.func (.func 25) #[] #[.pointer (some ⟨g2, 0, none⟩)]] 41) 41 #[.func (.func 26) #[] #[.pointer (some ⟨g3, 0, none⟩)]]).alloc (.cells #[.int .i64 0, .int .i64 1114111] 26)).alloc (.cells #[.slice (some ⟨g34, 0, none⟩) 1 1] 22)
        have f34 := (blk_three W5 (.cells #[.func (.func 25) #[] #[.pointer (some ⟨g2, 0, none⟩)]] 41) (.cells #[.func (.func 26) #[] #[.pointer (some ⟨g3, 0, none⟩)]] 41) 26 #[.int .i64 0, .int .i64 1114111]).alloc (.cells #[.slice (some ⟨g34, 0, none⟩) 1 1] 22)
        have f10 := Blk.new (((W5.alloc (.cells #[.func (.func 25) #[] #[.pointer (some ⟨g2, 0, none⟩)]] 41)).alloc (.cells #[.func (.func 26) #[] #[.pointer (some ⟨g3, 0, none⟩)]] 41)).alloc (.cells #[.int .i64 0, .int .i64 1114111] 26)) 22 #[.slice (some ⟨g34, 0, none⟩) 1 1]
        have bV := below_step (below_step (below_step (below_new W5 (.cells #[.func (.func 25) #[] #[.pointer (some ⟨g2, 0, none⟩)]] 41)) (below_new _ (.cells #[.func (.func 26) #[] #[.pointer (some ⟨g3, 0, none⟩)]] 41))) (below_new _ (.cells #[.int .i64 0, .int .i64 1114111] 26))) (below_new _ (.cells #[.slice (some ⟨g34, 0, none⟩) 1 1] 22))
        rw [← hg8] at f8
        rw [← hg9] at f9
        rw [← hg34] at f34
        rw [show (((W5.alloc (.cells #[.func (.func 25) #[] #[.pointer (some ⟨g2, 0, none⟩)]] 41)).alloc (.cells #[.func (.func 26) #[] #[.pointer (some ⟨g3, 0, none⟩)]] 41)).alloc (.cells #[.int .i64 0, .int .i64 1114111] 26)).heap.size = g10 by rw [hg10]; simp] at f10
        clear k5 k6
        go_upto_region 9 with fail
        rw [← hg10, ← hg34, ← hg9, ← hg8]
        clear hg10 hg34 hg9 hg8
        generalize (((W5.alloc (.cells #[.func (.func 25) #[] #[.pointer (some ⟨g2, 0, none⟩)]] 41)).alloc (.cells #[.func (.func 26) #[] #[.pointer (some ⟨g3, 0, none⟩)]] 41)).alloc (.cells #[.int .i64 0, .int .i64 1114111] 26)).alloc (.cells #[.slice (some ⟨g34, 0, none⟩) 1 1] 22) = V at *
        have hX5 := hX5.on bV
        have hX6 := hX6.on bV
        have hsS := hsS.below bV
        have hsT := hsT.below bV
        have hI7 := hI7.below bV
        have bE := b5.trans (bV.mono b5.size)
        have held : Held V g2 g3 g8 g9 aA Ma.length cA aB Mb.length cB Ma Mb := ⟨hX2.on bV, hX3.on bV, f8, f9, pA.below bV, pB.below bV, rfl, rfl, by omega, by omega⟩
        have pAll : PairAt V (some ⟨g34, 0, none⟩) [((0 : Int), (1114111 : Int))] := fun _ => ⟨g34, rfl, f34.lt, fun i hi => by
          have hi0 : i = 0 := by simp at hi; omega
          subst hi0
          rw [f34.cell, f34.cell]
          exact ⟨rfl, rfl⟩⟩
        have hgS := hsS.good
        have hgT := hsT.good
        have hMlen : (marksOf (Ma ++ Mb)).length ≤ 1000 := by
          have h1 := foldIns_len (allM (Ma ++ Mb)) []
          rw [allM_len, List.length_append] at h1
          simp only [List.length_nil] at h1
          unfold marksOf
          omega
        have IS : ∀ (f : Nat) (K : Bool → Bool → Bool) (hK : K false false = false) (eg : ∀ args w, (callFunc f args).run Tryd.prog w = .ok (.enter f args) w) (hf : ∀ W x, Below V.heap.size V W → Calls Tryd.prog f (#[.int .i64 x] ++ #[.pointer (some ⟨g8, 0, none⟩), .pointer (some ⟨g9, 0, none⟩)]) W (RetV (.bool (K (hasR Ma x) (hasR Mb x))) W)),
            ∀ W', Below V.heap.size V W' → ∀ v O, IsSet W' v O → (∀ c, memS O c = K (memS S c) (memS T c)) → Calls Tryd.prog 19 #[v, .slice A7 ml c7, .func (.func f) #[] #[.pointer (some ⟨g8, 0, none⟩), .pointer (some ⟨g9, 0, none⟩)]] W' (RetV (.bool true) W') := fun f K hK eg hf W' h1 v O hO hmO => by
          have h := setIs_any O v (marksOf (Ma ++ Mb)) A7 c7 f #[.pointer (some ⟨g8, 0, none⟩), .pointer (some ⟨g9, 0, none⟩)] (fun x => K (hasR Ma x) (hasR Mb x)) W' hO (hI7.below h1)
            (marks_two HOK.out HOA.out HOB.out (fun x hx => allM_sub Ma Mb x (.inl hx)) (fun x hx => allM_sub Ma Mb x (.inr hx)) K hK) (memI_K K hK HMS.out HMT.out hmO) hMlen eg (fun W'' h2 x => hf W'' x (below_step h1 h2))
          rw [hml] at h
          exact h
        have HIO := Lib.hid (IS 28 (fun a b => (a || b)) rfl (enters_of Tryd.func28 (by kernel_rfl) rfl) (fun W x h => orC_any (held.on h) x))
        have HIA := Lib.hid (IS 30 (fun a b => (a && b)) rfl (enters_of Tryd.func30 (by kernel_rfl) rfl) (fun W x h => andC_any (held.on h) x))
        have HIL := Lib.hid (IS 32 (fun a b => (a && !b)) rfl (enters_of Tryd.func32 (by kernel_rfl) rfl) (fun W x h => lessC_any (held.on h) x))
        have HIX := Lib.hid (IS 34 (fun a b => (a != b)) rfl (enters_of Tryd.func34 (by kernel_rfl) rfl) (fun W x h => xorC_any (held.on h) x))
        have HIN : Hid (∀ W', Below V.heap.size V W' → ∀ v O, IsSet W' v O → (∀ c, memS O c = (allB c && !memS S c)) → Calls Tryd.prog 19 #[v, .slice A7 ml c7, .func (.func 36) #[] #[.pointer (some ⟨g10, 0, none⟩), .pointer (some ⟨g8, 0, none⟩)]] W' (RetV (.bool true) W')) := Lib.hid fun W' h1 v O hO hmO => by
          have h := setIs_any O v (marksOf (Ma ++ Mb)) A7 c7 36 #[.pointer (some ⟨g10, 0, none⟩), .pointer (some ⟨g8, 0, none⟩)] (fun x => (fun a b => (a && !b)) (hasR [((0 : Int), (1114111 : Int))] x) (hasR Ma x)) W' hO (hI7.below h1)
            (marks_two HOK.out (by simp [OkR]) HOA.out (fun x hx => by simp [allM] at hx ⊢; omega) (fun x hx => allM_sub Ma Mb x (.inl hx)) (fun a b => (a && !b)) rfl)
            (memI_K (S := allS) (fun a b => (a && !b)) rfl (fun c => by rw [allS_mem, all_mem]; rfl) HMS.out (fun c => by rw [hmO, allS_mem])) hMlen (enters_of Tryd.func36 (by kernel_rfl) rfl)
            (fun W'' h2 x => notC_any g10 1 (held.on (below_step h1 h2)) _ (f10.on (below_step h1 h2)) (pAll.below (below_step h1 h2)) x)
          rw [hml] at h
          exact h
        have HOR := Lib.hid (fun W (h1 : Below V.heap.size V W) => setOr_any S T _ _ W (hsS.below h1) (hsT.below h1) (MayMerge.of hgS hgT))
        have HAN := Lib.hid (fun W (h1 : Below V.heap.size V W) => setAnd_any S T _ _ W (hsS.below h1) (hsT.below h1) (MayMerge.of hgS hgT))
        have HLE := Lib.hid (fun W (h1 : Below V.heap.size V W) => setLess_any S T _ _ W (hsS.below h1) (hsT.below h1) (MayMerge.of hgS hgT))
        have HXO := Lib.hid (fun W (h1 : Below V.heap.size V W) => setXor_any S T _ _ W (hsS.below h1) (hsT.below h1) (MayMerge.of hgS hgT))
        have HNO := Lib.hid (fun W (h1 : Below V.heap.size V W) => not_any S _ W ((HE.out.kept bE).kept h1) (hsS.below h1) (MayMerge.of allS_good hgS))
        clear IS hX2 hX3 f8 f9 f34 f10 pA pB pAll b5 bV
        have k5 := hX5.cell0
        have k6 := hX6.cell0
        have bR := Below.refl V.heap.size V
        go_wp2_with fail
        refine (HOR.out _ bR).mono ?_
        rintro e x0 ⟨v0, O0, rfl, hset0, hmem0, y⟩
        have d0 := below_step bR y
        have IS0 := Lib.hid (HIO.out _ d0 v0 O0 hset0 hmem0)
        clear y hset0 hmem0 k5 k6
        go_wp2_with fail
        refine IS0.out.mono ?_
        rintro e z0 ⟨rfl, y⟩
        have c0 := below_step d0 y
        clear y IS0 d0
        have k5 := (hX5.on c0).cell0
        have k6 := (hX6.on c0).cell0
        go_wp2_with fail
        refine (HAN.out _ c0).mono ?_
        rintro e x1 ⟨v1, O1, rfl, hset1, hmem1, y⟩
        have d1 := below_step c0 y
        have IS1 := Lib.hid (HIA.out _ d1 v1 O1 hset1 hmem1)
        clear y hset1 hmem1 k5 k6
        go_wp2_with fail
        refine IS1.out.mono ?_
        rintro e z1 ⟨rfl, y⟩
        have c1 := below_step d1 y
        clear y IS1 d1
        have k5 := (hX5.on c1).cell0
        have k6 := (hX6.on c1).cell0
        go_wp2_with fail
        refine (HLE.out _ c1).mono ?_
        rintro e x2 ⟨v2, O2, rfl, hset2, hmem2, y⟩
        have d2 := below_step c1 y
        have IS2 := Lib.hid (HIL.out _ d2 v2 O2 hset2 hmem2)
        clear y hset2 hmem2 k5 k6
        go_wp2_with fail
        refine IS2.out.mono ?_
        rintro e z2 ⟨rfl, y⟩
        have c2 := below_step d2 y
        clear y IS2 d2
        have k5 := (hX5.on c2).cell0
        have k6 := (hX6.on c2).cell0
        go_wp2_with fail
        refine (HXO.out _ c2).mono ?_
        rintro e x3 ⟨v3, O3, rfl, hset3, hmem3, y⟩
        have d3 := below_step c2 y
        have IS3 := Lib.hid (HIX.out _ d3 v3 O3 hset3 hmem3)
        clear y hset3 hmem3 k5 k6
        go_wp2_with fail
        refine IS3.out.mono ?_
        rintro e z3 ⟨rfl, y⟩
        have c3 := below_step d3 y
        clear y IS3 d3
        have k5 := (hX5.on c3).cell0
        have k6 := (hX6.on c3).cell0
        go_wp2_with fail
        refine (HNO.out _ c3).mono ?_
        rintro e x4 ⟨v4, O4, rfl, hset4, hmem4, y⟩
        have d4 := below_step c3 y
        have IS4 := Lib.hid (HIN.out _ d4 v4 O4 hset4 hmem4)
        clear y hset4 hmem4 k5 k6
        go_wp2_with fail
        refine IS4.out.mono ?_
        rintro e z4 ⟨rfl, y⟩
        have c4 := below_step d4 y
        clear y IS4 d4
        have k5 := (hX5.on c4).cell0
        have k6 := (hX6.on c4).cell0
        clear HOR HAN HLE HXO HNO HIO HIA HIL HIX HIN
        go_wp2
        have HML := Lib.hid hml
        go_loopw [11, 12, 77] (fun va vb t wr => ∃ i : Nat, i ≤ ml ∧ va = .bool (((marksOf (Ma ++ Mb)).take i).all fun m => !hasR Ma (m : Nat) || hasR Mb (m : Nat)) ∧ vb = .bool (((marksOf (Ma ++ Mb)).take i).all fun m => hasR Ma (m : Nat) == hasR Mb (m : Nat)) ∧ t = .int .i64 (i : Int) ∧ Below V.heap.size V wr) (fun _ _ t _ => ml - (intOf t).toNat)
        case atStart => exact ⟨0, by omega, rfl, rfl, rfl, c4⟩
        case round =>
          obtain ⟨i, hi, rfl, rfl, rfl, hb⟩ := hrel
          by_cases hlt : i < ml
          · obtain ⟨ga, rfl, hgl, hcell⟩ := (hI7.below hb).at_ (i := i) (by rw [HML.out]; exact hlt)
            have htk : (marksOf (Ma ++ Mb)).take (i + 1) = (marksOf (Ma ++ Mb)).take i ++ [(marksOf (Ma ++ Mb)).getD i 0] := take_snocN _ i (by rw [HML.out]; exact hlt)
            obtain ⟨mk, hmk⟩ : ∃ mk, (marksOf (Ma ++ Mb)).getD i 0 = mk := ⟨_, rfl⟩
            rw [hmk] at hcell htk
            have HTK := Lib.hid htk
            clear hmk htk
            obtain ⟨wv, hwv⟩ : ∃ v, (((marksOf (Ma ++ Mb)).take i).all fun m => !hasR Ma (m : Nat) || hasR Mb (m : Nat)) = v := ⟨_, rfl⟩
            obtain ⟨sv, hsv⟩ : ∃ v, (((marksOf (Ma ++ Mb)).take i).all fun m => hasR Ma (m : Nat) == hasR Mb (m : Nat)) = v := ⟨_, rfl⟩
            obtain ⟨xm, hxm⟩ : ∃ v, hasR Ma (mk : Int) = v := ⟨_, rfl⟩
            obtain ⟨ym, hym⟩ : ∃ v, hasR Mb (mk : Int) = v := ⟨_, rfl⟩
            have HW1 : Hid ((((marksOf (Ma ++ Mb)).take (i + 1)).all fun m => !hasR Ma (m : Nat) || hasR Mb (m : Nat)) = (wv && (!xm || ym))) := Lib.hid (by rw [HTK.out, List.all_append, hwv]; simp [hxm, hym])
            have HS1 : Hid ((((marksOf (Ma ++ Mb)).take (i + 1)).all fun m => hasR Ma (m : Nat) == hasR Mb (m : Nat)) = (sv && (xm == ym))) := Lib.hid (by rw [HTK.out, List.all_append, hsv]; simp [hxm, hym])
            have heldw := held.on hb
            have HX := Lib.hid (fun W (h1 : Below wr.heap.size wr W) => (heldw.on h1).isX (mk : Int) xm hxm)
            have HY := Lib.hid (fun W (h1 : Below wr.heap.size wr W) => (heldw.on h1).isY (mk : Int) ym hym)
            rw [hwv, hsv]
            clear hwv hsv hxm hym HTK
            have k8 := heldw.x8.cell0
            have g8x := heldw.x8
            have g9x := heldw.x9
            obtain ⟨W8, hW8⟩ : ∃ W8, W8 = wr := ⟨_, rfl⟩
            rw [← hW8] at hcell HX HY k8 g8x g9x hb hgl ⊢
            clear hW8 heldw
            go_upto_region 17 with fail
            go_cut [11] from 78 to 103 (fun v11 wx => v11 = .bool (wv && (!xm || ym)) ∧ Below W8.heap.size W8 wx)
            case first =>
              cases wv with
              | false =>
                go_wp2
                go_meet
                exact ⟨rfl, Below.refl _ _⟩
              | true =>
                cases xm with
                | false =>
                  go_wp2_with fail
                  refine (HX.out _ (Below.refl _ _)).mono ?_
                  rintro e x1 ⟨rfl, y1⟩
                  go_wp2
                  go_meet
                  exact ⟨rfl, y1⟩
                | true =>
                  go_wp2_with fail
                  refine (HX.out _ (Below.refl _ _)).mono ?_
                  rintro e x1 ⟨rfl, y1⟩
                  have k9 := (g9x.on y1).cell0
                  go_wp2_with fail
                  refine (HY.out _ y1).mono ?_
                  rintro e x2 ⟨rfl, y2⟩
                  go_wp2
                  go_meet
                  exact ⟨by simp, below_step y1 y2⟩
            case rest =>
              obtain ⟨rfl, h9⟩ := hcut
              obtain ⟨W9, hW9⟩ : ∃ W9, W9 = wc := ⟨_, rfl⟩
              rw [← hW9] at h9 ⊢
              clear hW9
              have f8 := g8x.on h9
              have f9 := g9x.on h9
              have HX := Lib.hid (fun W (h1 : Below W9.heap.size W9 W) => HX.out W (below_step h9 h1))
              have HY := Lib.hid (fun W (h1 : Below W9.heap.size W9 W) => HY.out W (below_step h9 h1))
              go_upto_region 18 with fail
              cases sv with
              | false =>
                go_quiet (fail)
                go_wp2
                have h10 : Below W8.heap.size W8 (W9.drewN nq) := ⟨h9.os, h9.tape, h9.output, h9.size, h9.block⟩
                go_roundw
                case rel => first | exact ⟨i + 1, by omega, by rw [HW1.out], by rw [HS1.out]; rfl, by go_num, below_step hb h10⟩ | ((repeat apply Exists.intro); exact ⟨⟨i + 1, by omega, by rw [HW1.out], by rw [HS1.out]; rfl, by go_num, below_step hb h10⟩, rfl⟩)
                case measure => simp [intOf]; omega
              | true =>
                refine Rg.wp_region_frame (q := 10) (n := 11) (m := 124) (ds := fun i => (93 :: 94 :: 95 :: 96 :: 97 :: 98 :: 99 :: 100 :: 101 :: 102 :: []).getD i 0) (al := fun i => false) (R := fun i w v => ((Rg.Wr.eq (.bool true) :: Rg.Wr.eq (.bool true) :: Rg.Wr.eq (.func (.func 25) #[] #[.pointer (some ⟨g2, 0, none⟩)]) :: Rg.Wr.eq (.int .i64 (mk : Nat)) :: Rg.Wr.eq (.bool xm) :: Rg.Wr.eq (.func (.func 26) #[] #[.pointer (some ⟨g3, 0, none⟩)]) :: Rg.Wr.eq (.int .i64 (mk : Nat)) :: Rg.Wr.eq (.bool ym) :: Rg.Wr.eq (.bool (xm == ym)) :: Rg.Wr.eq (.bool (xm == ym)) :: []).getD i (.eq undef)).ok w v)
                    (fun fr k a w => a.tmps.size = 124 ∧ a.defers = [] ∧ (∀ j, j < 124 → (∀ i, i < 10 → (93 :: 94 :: 95 :: 96 :: 97 :: 98 :: 99 :: 100 :: 101 :: 102 :: []).getD i 0 ≠ j) → (j = 12 → k = 10) → a.tmps.getD j undef = fr j) ∧ a.tmps.getD 102 undef = .bool (xm == ym) ∧ (k = 11 → a.tmps.getD 12 undef = .bool (xm == ym)) ∧ Below W9.heap.size W9 w)
                    (by kernel_rfl) rfl (by decide) (by kernel_rfl) (by kernel_rfl) (by decide) (by decide) (fun j v w w' hb h => Rg.Wr.stable hb h) rfl rfl ?ops18 ?mid18 ?tail18 ?end18
                case mid18 =>
                  intro a' w' h1 h2 h3 h4 h5 _ _
                  exact ⟨h1, h2, fun j hj hn _ => h4 j hj hn, h5 9 (by decide), fun h => absurd h (by decide), h3⟩
                case tail18 =>
                  iterate 10 refine ⟨fun h => absurd h (by decide), ?_⟩
                  refine ⟨fun _ a w' hT => ⟨Rg.wanted_none rfl, fun K hK => Rg.wp_assign rfl (hK _ _ ?asg18)⟩, ?_⟩
                  case asg18 =>
                    obtain ⟨h1, h2, h3, h4, _, h5⟩ := hT
                    have hev : a.eval (.tmp 102) = .bool (xm == ym) := h4
                    rw [hev]
                    refine ⟨by simp [Act.put, h1], h2, fun j hj hn h12 => ?_, ?_, fun _ => ?_, h5⟩
                    · show (a.tmps.setIfInBounds 12 _).getD j undef = _
                      rw [Rg.getD_set_off (fun e => absurd (h12 e) (by decide))]
                      exact h3 j hj hn (fun _ => rfl)
                    · show (a.tmps.setIfInBounds 12 _).getD 102 undef = _
                      rw [Rg.getD_set_off (by decide)]
                      exact h4
                    · show (a.tmps.setIfInBounds 12 _).getD 12 undef = _
                      exact Rg.getD_set_eq (by rw [h1]; decide)
                  trivial
                case end18 =>
                  rintro ⟨t, d⟩ w' ⟨hsz, hd, hrest0, _, h4, hbE⟩
                  have hd' : d = [] := hd
                  have hsz' : t.size = 124 := hsz
                  have h4' : t.getD 12 undef = .bool (xm == ym) := h4 rfl
                  have hrest : ∀ j, j < 124 → (∀ i, i < 11 → (93 :: 94 :: 95 :: 96 :: 97 :: 98 :: 99 :: 100 :: 101 :: 102 :: 12 :: []).getD i 0 ≠ j) → t.getD j undef = _ := fun j hj hn => hrest0 j hj (fun i hi e => hn i (by omega) (by rw [← e]; (rcases i with _ | _ | _ | _ | _ | _ | _ | _ | _ | _ | i) <;> first | rfl | omega)) (fun e => absurd e.symm (hn 10 (by decide)))
                  subst hd'
                  clear hd hsz h4 hrest0
                  have e := Rg.arr_eta t 124 hsz'
                  change t = List.toArray (t.getD 0 undef :: t.getD 1 undef :: t.getD 2 undef :: t.getD 3 undef :: t.getD 4 undef :: t.getD 5 undef :: t.getD 6 undef :: t.getD 7 undef :: t.getD 8 undef :: t.getD 9 undef :: t.getD 10 undef :: t.getD 11 undef :: t.getD 12 undef :: t.getD 13 undef :: t.getD 14 undef :: t.getD 15 undef :: t.getD 16 undef :: t.getD 17 undef :: t.getD 18 undef :: t.getD 19 undef :: t.getD 20 undef :: t.getD 21 undef :: t.getD 22 undef :: t.getD 23 undef :: t.getD 24 undef :: t.getD 25 undef :: t.getD 26 undef :: t.getD 27 undef :: t.getD 28 undef :: t.getD 29 undef :: t.getD 30 undef :: t.getD 31 undef :: t.getD 32 undef :: t.getD 33 undef :: t.getD 34 undef :: t.getD 35 undef :: t.getD 36 undef :: t.getD 37 undef :: t.getD 38 undef :: t.getD 39 undef :: t.getD 40 undef :: t.getD 41 undef :: t.getD 42 undef :: t.getD 43 undef :: t.getD 44 undef :: t.getD 45 undef :: t.getD 46 undef :: t.getD 47 undef :: t.getD 48 undef :: t.getD 49 undef :: t.getD 50 undef :: t.getD 51 undef :: t.getD 52 undef :: t.getD 53 undef :: t.getD 54 undef :: t.getD 55 undef :: t.getD 56 undef :: t.getD 57 undef :: t.getD 58 undef :: t.getD 59 undef :: t.getD 60 undef :: t.getD 61 undef :: t.getD 62 undef :: t.getD 63 undef :: t.getD 64 undef :: t.getD 65 undef :: t.getD 66 undef :: t.getD 67 undef :: t.getD 68 undef :: t.getD 69 undef :: t.getD 70 undef :: t.getD 71 undef :: t.getD 72 undef :: t.getD 73 undef :: t.getD 74 undef :: t.getD 75 undef :: t.getD 76 undef :: t.getD 77 undef :: t.getD 78 undef :: t.getD 79 undef :: t.getD 80 undef :: t.getD 81 undef :: t.getD 82 undef :: t.getD 83 undef :: t.getD 84 undef :: t.getD 85 undef :: t.getD 86 undef :: t.getD 87 undef :: t.getD 88 undef :: t.getD 89 undef :: t.getD 90 undef :: t.getD 91 undef :: t.getD 92 undef :: t.getD 93 undef :: t.getD 94 undef :: t.getD 95 undef :: t.getD 96 undef :: t.getD 97 undef :: t.getD 98 undef :: t.getD 99 undef :: t.getD 100 undef :: t.getD 101 undef :: t.getD 102 undef :: t.getD 103 undef :: t.getD 104 undef :: t.getD 105 undef :: t.getD 106 undef :: t.getD 107 undef :: t.getD 108 undef :: t.getD 109 undef :: t.getD 110 undef :: t.getD 111 undef :: t.getD 112 undef :: t.getD 113 undef :: t.getD 114 undef :: t.getD 115 undef :: t.getD 116 undef :: t.getD 117 undef :: t.getD 118 undef :: t.getD 119 undef :: t.getD 120 undef :: t.getD 121 undef :: t.getD 122 undef :: t.getD 123 undef :: []) at e
                  have l0 : t.getD 0 undef = _ := hrest 0 (by decide) (by decide)
                  have l1 : t.getD 1 undef = _ := hrest 1 (by decide) (by decide)
                  have l2 : t.getD 2 undef = _ := hrest 2 (by decide) (by decide)
                  have l3 : t.getD 3 undef = _ := hrest 3 (by decide) (by decide)
                  have l4 : t.getD 4 undef = _ := hrest 4 (by decide) (by decide)
                  have l5 : t.getD 5 undef = _ := hrest 5 (by decide) (by decide)
                  have l6 : t.getD 6 undef = _ := hrest 6 (by decide) (by decide)
                  have l7 : t.getD 7 undef = _ := hrest 7 (by decide) (by decide)
                  have l8 : t.getD 8 undef = _ := hrest 8 (by decide) (by decide)
                  have l9 : t.getD 9 undef = _ := hrest 9 (by decide) (by decide)
                  have l10 : t.getD 10 undef = _ := hrest 10 (by decide) (by decide)
                  have l11 : t.getD 11 undef = _ := hrest 11 (by decide) (by decide)
                  have l13 : t.getD 13 undef = _ := hrest 13 (by decide) (by decide)
                  have l14 : t.getD 14 undef = _ := hrest 14 (by decide) (by decide)
                  have l15 : t.getD 15 undef = _ := hrest 15 (by decide) (by decide)
                  have l16 : t.getD 16 undef = _ := hrest 16 (by decide) (by decide)
                  have l17 : t.getD 17 undef = _ := hrest 17 (by decide) (by decide)
                  have l18 : t.getD 18 undef = _ := hrest 18 (by decide) (by decide)
                  have l19 : t.getD 19 undef = _ := hrest 19 (by decide) (by decide)
                  have l20 : t.getD 20 undef = _ := hrest 20 (by decide) (by decide)
                  have l21 : t.getD 21 undef = _ := hrest 21 (by decide) (by decide)
                  have l22 : t.getD 22 undef = _ := hrest 22 (by decide) (by decide)
                  have l23 : t.getD 23 undef = _ := hrest 23 (by decide) (by decide)
                  have l24 : t.getD 24 undef = _ := hrest 24 (by decide) (by decide)
                  have l25 : t.getD 25 undef = _ := hrest 25 (by decide) (by decide)
                  have l26 : t.getD 26 undef = _ := hrest 26 (by decide) (by decide)
                  have l27 : t.getD 27 undef = _ := hrest 27 (by decide) (by decide)
                  have l28 : t.getD 28 undef = _ := hrest 28 (by decide) (by decide)
                  have l29 : t.getD 29 undef = _ := hrest 29 (by decide) (by decide)
                  have l30 : t.getD 30 undef = _ := hrest 30 (by decide) (by decide)
                  have l31 : t.getD 31 undef = _ := hrest 31 (by decide) (by decide)
                  have l32 : t.getD 32 undef = _ := hrest 32 (by decide) (by decide)
                  have l33 : t.getD 33 undef = _ := hrest 33 (by decide) (by decide)
                  have l34 : t.getD 34 undef = _ := hrest 34 (by decide) (by decide)
                  have l35 : t.getD 35 undef = _ := hrest 35 (by decide) (by decide)
                  have l36 : t.getD 36 undef = _ := hrest 36 (by decide) (by decide)
                  have l37 : t.getD 37 undef = _ := hrest 37 (by decide) (by decide)
                  have l38 : t.getD 38 undef = _ := hrest 38 (by decide) (by decide)
                  have l39 : t.getD 39 undef = _ := hrest 39 (by decide) (by decide)
                  have l40 : t.getD 40 undef = _ := hrest 40 (by decide) (by decide)
                  have l41 : t.getD 41 undef = _ := hrest 41 (by decide) (by decide)
                  have l42 : t.getD 42 undef = _ := hrest 42 (by decide) (by decide)
                  have l43 : t.getD 43 undef = _ := hrest 43 (by decide) (by decide)
                  have l44 : t.getD 44 undef = _ := hrest 44 (by decide) (by decide)
                  have l45 : t.getD 45 undef = _ := hrest 45 (by decide) (by decide)
                  have l46 : t.getD 46 undef = _ := hrest 46 (by decide) (by decide)
                  have l47 : t.getD 47 undef = _ := hrest 47 (by decide) (by decide)
                  have l48 : t.getD 48 undef = _ := hrest 48 (by decide) (by decide)
                  have l49 : t.getD 49 undef = _ := hrest 49 (by decide) (by decide)
                  have l50 : t.getD 50 undef = _ := hrest 50 (by decide) (by decide)
                  have l51 : t.getD 51 undef = _ := hrest 51 (by decide) (by decide)
                  have l52 : t.getD 52 undef = _ := hrest 52 (by decide) (by decide)
                  have l53 : t.getD 53 undef = _ := hrest 53 (by decide) (by decide)
                  have l54 : t.getD 54 undef = _ := hrest 54 (by decide) (by decide)
                  have l55 : t.getD 55 undef = _ := hrest 55 (by decide) (by decide)
                  have l56 : t.getD 56 undef = _ := hrest 56 (by decide) (by decide)
                  have l57 : t.getD 57 undef = _ := hrest 57 (by decide) (by decide)
                  have l58 : t.getD 58 undef = _ := hrest 58 (by decide) (by decide)
                  have l59 : t.getD 59 undef = _ := hrest 59 (by decide) (by decide)
                  have l60 : t.getD 60 undef = _ := hrest 60 (by decide) (by decide)
                  have l61 : t.getD 61 undef = _ := hrest 61 (by decide) (by decide)
                  have l62 : t.getD 62 undef = _ := hrest 62 (by decide) (by decide)
                  have l63 : t.getD 63 undef = _ := hrest 63 (by decide) (by decide)
                  have l64 : t.getD 64 undef = _ := hrest 64 (by decide) (by decide)
                  have l65 : t.getD 65 undef = _ := hrest 65 (by decide) (by decide)
                  have l66 : t.getD 66 undef = _ := hrest 66 (by decide) (by decide)
                  have l67 : t.getD 67 undef = _ := hrest 67 (by decide) (by decide)
                  have l68 : t.getD 68 undef = _ := hrest 68 (by decide) (by decide)
                  have l69 : t.getD 69 undef = _ := hrest 69 (by decide) (by decide)
                  have l70 : t.getD 70 undef = _ := hrest 70 (by decide) (by decide)
                  have l71 : t.getD 71 undef = _ := hrest 71 (by decide) (by decide)
                  have l72 : t.getD 72 undef = _ := hrest 72 (by decide) (by decide)
                  have l73 : t.getD 73 undef = _ := hrest 73 (by decide) (by decide)
                  have l74 : t.getD 74 undef = _ := hrest 74 (by decide) (by decide)
                  have l75 : t.getD 75 undef = _ := hrest 75 (by decide) (by decide)
                  have l76 : t.getD 76 undef = _ := hrest 76 (by decide) (by decide)
                  have l77 : t.getD 77 undef = _ := hrest 77 (by decide) (by decide)
                  have l78 : t.getD 78 undef = _ := hrest 78 (by decide) (by decide)
                  have l79 : t.getD 79 undef = _ := hrest 79 (by decide) (by decide)
                  have l80 : t.getD 80 undef = _ := hrest 80 (by decide) (by decide)
                  have l81 : t.getD 81 undef = _ := hrest 81 (by decide) (by decide)
                  have l82 : t.getD 82 undef = _ := hrest 82 (by decide) (by decide)
                  have l83 : t.getD 83 undef = _ := hrest 83 (by decide) (by decide)
                  have l84 : t.getD 84 undef = _ := hrest 84 (by decide) (by decide)
                  have l85 : t.getD 85 undef = _ := hrest 85 (by decide) (by decide)
                  have l86 : t.getD 86 undef = _ := hrest 86 (by decide) (by decide)
                  have l87 : t.getD 87 undef = _ := hrest 87 (by decide) (by decide)
                  have l88 : t.getD 88 undef = _ := hrest 88 (by decide) (by decide)
                  have l89 : t.getD 89 undef = _ := hrest 89 (by decide) (by decide)
                  have l90 : t.getD 90 undef = _ := hrest 90 (by decide) (by decide)
                  have l91 : t.getD 91 undef = _ := hrest 91 (by decide) (by decide)
                  have l92 : t.getD 92 undef = _ := hrest 92 (by decide) (by decide)
                  have l103 : t.getD 103 undef = _ := hrest 103 (by decide) (by decide)
                  have l104 : t.getD 104 undef = _ := hrest 104 (by decide) (by decide)
                  have l105 : t.getD 105 undef = _ := hrest 105 (by decide) (by decide)
                  have l106 : t.getD 106 undef = _ := hrest 106 (by decide) (by decide)
                  have l107 : t.getD 107 undef = _ := hrest 107 (by decide) (by decide)
                  have l108 : t.getD 108 undef = _ := hrest 108 (by decide) (by decide)
                  have l109 : t.getD 109 undef = _ := hrest 109 (by decide) (by decide)
                  have l110 : t.getD 110 undef = _ := hrest 110 (by decide) (by decide)
                  have l111 : t.getD 111 undef = _ := hrest 111 (by decide) (by decide)
                  have l112 : t.getD 112 undef = _ := hrest 112 (by decide) (by decide)
                  have l113 : t.getD 113 undef = _ := hrest 113 (by decide) (by decide)
                  have l114 : t.getD 114 undef = _ := hrest 114 (by decide) (by decide)
                  have l115 : t.getD 115 undef = _ := hrest 115 (by decide) (by decide)
                  have l116 : t.getD 116 undef = _ := hrest 116 (by decide) (by decide)
                  have l117 : t.getD 117 undef = _ := hrest 117 (by decide) (by decide)
                  have l118 : t.getD 118 undef = _ := hrest 118 (by decide) (by decide)
                  have l119 : t.getD 119 undef = _ := hrest 119 (by decide) (by decide)
                  have l120 : t.getD 120 undef = _ := hrest 120 (by decide) (by decide)
                  have l121 : t.getD 121 undef = _ := hrest 121 (by decide) (by decide)
                  have l122 : t.getD 122 undef = _ := hrest 122 (by decide) (by decide)
                  have l123 : t.getD 123 undef = _ := hrest 123 (by decide) (by decide)
                  have l12 : t.getD 12 undef = .bool (xm == ym) := h4'
                  rw [l0, l1, l2, l3, l4, l5, l6, l7, l8, l9, l10, l11, l13, l14, l15, l16, l17, l18, l19, l20, l21, l22, l23, l24, l25, l26, l27, l28, l29, l30, l31, l32, l33, l34, l35, l36, l37, l38, l39, l40, l41, l42, l43, l44, l45, l46, l47, l48, l49, l50, l51, l52, l53, l54, l55, l56, l57, l58, l59, l60, l61, l62, l63, l64, l65, l66, l67, l68, l69, l70, l71, l72, l73, l74, l75, l76, l77, l78, l79, l80, l81, l82, l83, l84, l85, l86, l87, l88, l89, l90, l91, l92, l103, l104, l105, l106, l107, l108, l109, l110, l111, l112, l113, l114, l115, l116, l117, l118, l119, l120, l121, l122, l123, l12] at e
                  clear hrest l0 l1 l2 l3 l4 l5 l6 l7 l8 l9 l10 l11 l13 l14 l15 l16 l17 l18 l19 l20 l21 l22 l23 l24 l25 l26 l27 l28 l29 l30 l31 l32 l33 l34 l35 l36 l37 l38 l39 l40 l41 l42 l43 l44 l45 l46 l47 l48 l49 l50 l51 l52 l53 l54 l55 l56 l57 l58 l59 l60 l61 l62 l63 l64 l65 l66 l67 l68 l69 l70 l71 l72 l73 l74 l75 l76 l77 l78 l79 l80 l81 l82 l83 l84 l85 l86 l87 l88 l89 l90 l91 l92 l103 l104 l105 l106 l107 l108 l109 l110 l111 l112 l113 l114 l115 l116 l117 l118 l119 l120 l121 l122 l123 l12 hsz'
                  generalize t.getD 93 undef = u93 at e
                  generalize t.getD 94 undef = u94 at e
                  generalize t.getD 95 undef = u95 at e
                  generalize t.getD 96 undef = u96 at e
                  generalize t.getD 97 undef = u97 at e
                  generalize t.getD 98 undef = u98 at e
                  generalize t.getD 99 undef = u99 at e
                  generalize t.getD 100 undef = u100 at e
                  generalize t.getD 101 undef = u101 at e
                  generalize t.getD 102 undef = u102 at e
                  subst e
                  have h10 := below_step h9 hbE
                  go_wp2
                  go_roundw
                  case rel => first | exact ⟨i + 1, by omega, by rw [HW1.out], by rw [HS1.out, Bool.true_and], by go_num, below_step hb h10⟩ | ((repeat apply Exists.intro); exact ⟨⟨i + 1, by omega, by rw [HW1.out], by rw [HS1.out, Bool.true_and], by go_num, below_step hb h10⟩, rfl⟩) | ((repeat apply Exists.intro); exact ⟨⟨i + 1, by omega, by rw [HW1.out], by rw [HS1.out, Bool.true_and], by go_num, below_step hb h10⟩, rfl, rfl, rfl, rfl⟩) | ((repeat apply Exists.intro); exact ⟨⟨i + 1, by omega, by rw [HW1.out], by rw [HS1.out, Bool.true_and], by go_num, below_step hb h10⟩, by first | rfl | trivial | omega, by first | rfl | trivial | omega, by first | rfl | trivial | omega, by first | rfl | trivial | omega⟩)
                  case measure => simp [intOf]; omega
                case ops18 =>
                  refine ⟨fun _ => ⟨rfl, fun l a w' hI hdeps => ⟨?_, fun K hK => ?_⟩⟩, ?_⟩
                  · exact Rg.wanted_none rfl
                  · have hbw : Below W9.heap.size W9 w' := ⟨hI.below.os, hI.below.tape, hI.below.output, hI.below.size, hI.below.block⟩
                    have e12 : a.tmps.getD 12 undef = .bool true := hI.rest 12 (by decide) (by decide)
                    exact Rg.wp_move rfl (hK _ _ (Below.refl _ _) e12 (fun h => absurd h (by decide)))
                  refine ⟨fun _ => ⟨rfl, fun l a w' hI hdeps => ⟨?_, fun K hK => ?_⟩⟩, ?_⟩
                  · exact Rg.wanted_none rfl
                  · have hbw : Below W9.heap.size W9 w' := ⟨hI.below.os, hI.below.tape, hI.below.output, hI.below.size, hI.below.block⟩
                    have e93 : a.tmps.getD 93 undef = .bool true := hI.rel 0 (by decide) (hdeps ⟨0, .data⟩ (by simp) rfl)
                    exact Rg.wp_move rfl (hK _ _ (Below.refl _ _) e93 (fun h => absurd h (by decide)))
                  refine ⟨fun _ => ⟨rfl, fun l a w' hI hdeps => ⟨?_, fun K hK => ?_⟩⟩, ?_⟩
                  · exact Rg.wanted_some (d := 94) rfl rfl rfl (by rw [hI.slots]; decide) (hI.rel 1 (by decide) (hdeps ⟨1, .guard⟩ (by simp) rfl))
                  · have hbw : Below W9.heap.size W9 w' := ⟨hI.below.os, hI.below.tape, hI.below.output, hI.below.size, hI.below.block⟩
                    have e8 : a.tmps.getD 8 undef = .pointer (some ⟨g8, 0, none⟩) := hI.rest 8 (by decide) (by decide)
                    exact Rg.wp_load41 rfl e8 ((f8.on hbw).cell0) (hK _ _ (Below.refl _ _) rfl (fun h => absurd h (by decide)))
                  refine ⟨fun _ => ⟨rfl, fun l a w' hI hdeps => ⟨?_, fun K hK => ?_⟩⟩, ?_⟩
                  · exact Rg.wanted_some (d := 94) rfl rfl rfl (by rw [hI.slots]; decide) (hI.rel 1 (by decide) (hdeps ⟨1, .guard⟩ (by simp) rfl))
                  · have hbw : Below W9.heap.size W9 w' := ⟨hI.below.os, hI.below.tape, hI.below.output, hI.below.size, hI.below.block⟩
                    have e14 : a.tmps.getD 14 undef = .int .i64 (mk : Nat) := hI.rest 14 (by decide) (by decide)
                    exact Rg.wp_move rfl (hK _ _ (Below.refl _ _) e14 (fun h => absurd h (by decide)))
                  refine ⟨fun _ => ⟨rfl, fun l a w' hI hdeps => ⟨?_, fun K hK => ?_⟩⟩, ?_⟩
                  · exact Rg.wanted_some (d := 94) rfl rfl rfl (by rw [hI.slots]; decide) (hI.rel 1 (by decide) (hdeps ⟨1, .guard⟩ (by simp) rfl))
                  · have hbw : Below W9.heap.size W9 w' := ⟨hI.below.os, hI.below.tape, hI.below.output, hI.below.size, hI.below.block⟩
                    have e95 : a.tmps.getD 95 undef = .func (.func 25) #[] #[.pointer (some ⟨g2, 0, none⟩)] := hI.rel 2 (by decide) (hdeps ⟨2, .data⟩ (by simp) rfl)
                    have e96 : a.tmps.getD 96 undef = .int .i64 (mk : Nat) := hI.rel 3 (by decide) (hdeps ⟨3, .data⟩ (by simp) rfl)
                    refine Rg.wp_callv rfl e95 (enters_of Tryd.func25 (by kernel_rfl) rfl) ?_
                    rw [e96]
                    refine (HX.out w' hbw).mono ?_
                    rintro e w'' ⟨rfl, y⟩
                    exact ⟨_, rfl, hK _ _ y rfl (fun h => absurd h (by decide))⟩
                  refine ⟨fun _ => ⟨rfl, fun l a w' hI hdeps => ⟨?_, fun K hK => ?_⟩⟩, ?_⟩
                  · exact Rg.wanted_some (d := 94) rfl rfl rfl (by rw [hI.slots]; decide) (hI.rel 1 (by decide) (hdeps ⟨1, .guard⟩ (by simp) rfl))
                  · have hbw : Below W9.heap.size W9 w' := ⟨hI.below.os, hI.below.tape, hI.below.output, hI.below.size, hI.below.block⟩
                    have e9 : a.tmps.getD 9 undef = .pointer (some ⟨g9, 0, none⟩) := hI.rest 9 (by decide) (by decide)
                    exact Rg.wp_load41 rfl e9 ((f9.on hbw).cell0) (hK _ _ (Below.refl _ _) rfl (fun h => absurd h (by decide)))
                  refine ⟨fun _ => ⟨rfl, fun l a w' hI hdeps => ⟨?_, fun K hK => ?_⟩⟩, ?_⟩
                  · exact Rg.wanted_some (d := 94) rfl rfl rfl (by rw [hI.slots]; decide) (hI.rel 1 (by decide) (hdeps ⟨1, .guard⟩ (by simp) rfl))
                  · have hbw : Below W9.heap.size W9 w' := ⟨hI.below.os, hI.below.tape, hI.below.output, hI.below.size, hI.below.block⟩
                    have e14 : a.tmps.getD 14 undef = .int .i64 (mk : Nat) := hI.rest 14 (by decide) (by decide)
                    exact Rg.wp_move rfl (hK _ _ (Below.refl _ _) e14 (fun h => absurd h (by decide)))
                  refine ⟨fun _ => ⟨rfl, fun l a w' hI hdeps => ⟨?_, fun K hK => ?_⟩⟩, ?_⟩
                  · exact Rg.wanted_some (d := 94) rfl rfl rfl (by rw [hI.slots]; decide) (hI.rel 1 (by decide) (hdeps ⟨1, .guard⟩ (by simp) rfl))
                  · have hbw : Below W9.heap.size W9 w' := ⟨hI.below.os, hI.below.tape, hI.below.output, hI.below.size, hI.below.block⟩
                    have e98 : a.tmps.getD 98 undef = .func (.func 26) #[] #[.pointer (some ⟨g3, 0, none⟩)] := hI.rel 5 (by decide) (hdeps ⟨5, .data⟩ (by simp) rfl)
                    have e99 : a.tmps.getD 99 undef = .int .i64 (mk : Nat) := hI.rel 6 (by decide) (hdeps ⟨6, .data⟩ (by simp) rfl)
                    refine Rg.wp_callv rfl e98 (enters_of Tryd.func26 (by kernel_rfl) rfl) ?_
                    rw [e99]
                    refine (HY.out w' hbw).mono ?_
                    rintro e w'' ⟨rfl, y⟩
                    exact ⟨_, rfl, hK _ _ y rfl (fun h => absurd h (by decide))⟩
                  refine ⟨fun _ => ⟨rfl, fun l a w' hI hdeps => ⟨?_, fun K hK => ?_⟩⟩, ?_⟩
                  · exact Rg.wanted_some (d := 94) rfl rfl rfl (by rw [hI.slots]; decide) (hI.rel 1 (by decide) (hdeps ⟨1, .guard⟩ (by simp) rfl))
                  · have hbw : Below W9.heap.size W9 w' := ⟨hI.below.os, hI.below.tape, hI.below.output, hI.below.size, hI.below.block⟩
                    have e97 : a.tmps.getD 97 undef = .bool xm := hI.rel 4 (by decide) (hdeps ⟨4, .data⟩ (by simp) rfl)
                    have e100 : a.tmps.getD 100 undef = .bool ym := hI.rel 7 (by decide) (hdeps ⟨7, .data⟩ (by simp) rfl)
                    exact Rg.wp_eqlB rfl e97 e100 (hK _ _ (Below.refl _ _) rfl (fun h => absurd h (by decide)))
                  refine ⟨fun _ => ⟨rfl, fun l a w' hI hdeps => ⟨?_, fun K hK => ?_⟩⟩, ?_⟩
                  · exact Rg.wanted_none rfl
                  · have hbw : Below W9.heap.size W9 w' := ⟨hI.below.os, hI.below.tape, hI.below.output, hI.below.size, hI.below.block⟩
                    have e94 : a.tmps.getD 94 undef = .bool true := hI.rel 1 (by decide) (hdeps ⟨1, .data⟩ (by simp) rfl)
                    have e101 : a.tmps.getD 101 undef = .bool (xm == ym) := hI.rel 8 (by decide) (hdeps ⟨8, .data⟩ (by simp) rfl)
                    exact Rg.wp_pick_yes rfl e94 (hK _ _ (Below.refl _ _) e101 (fun h => absurd h (by decide)))
                  refine ⟨fun h => absurd h (by decide), ?_⟩
                  trivial
          · obtain rfl : i = ml := by omega
            rw [show (marksOf (Ma ++ Mb)).take i = marksOf (Ma ++ Mb) from List.take_of_length_le (by rw [HML.out]; exact Nat.le_refl _)]
            obtain ⟨wv, hwv⟩ : ∃ v, ((marksOf (Ma ++ Mb)).all fun m => !hasR Ma (m : Nat) || hasR Mb (m : Nat)) = v := ⟨_, rfl⟩
            obtain ⟨sv, hsv⟩ : ∃ v, ((marksOf (Ma ++ Mb)).all fun m => hasR Ma (m : Nat) == hasR Mb (m : Nat)) = v := ⟨_, rfl⟩
            have hw1 := marks_all HOK.out (fun a b => !a || b) rfl
            have hs1 := marks_all HOK.out (fun a b => a == b) rfl
            have hw2 : wv = true ↔ ∀ c, (memS S c && !memS T c) = false := by
              rw [← hwv, hw1]
              refine forall_congr' fun c => ?_
              rw [HMS.out, HMT.out, ← hasR_inR, ← hasR_inR]
              cases hasR Ma (c : Int) <;> cases hasR Mb (c : Int) <;> simp
            have hs2 : sv = true ↔ S = T := by
              rw [← hsv, hs1]
              constructor
              · intro h
                refine hgS.unique hgT (fun c => ?_)
                rw [HMS.out, HMT.out, ← hasR_inR, ← hasR_inR]
                simpa using h c
              · intro h c
                have := HMS.out c
                rw [h, HMT.out, ← hasR_inR, ← hasR_inR] at this
                simp [this]
            rw [hwv, hsv]
            clear hwv hsv hw1 hs1
            have hX5 := hX5.on hb
            have hX6 := hX6.on hb
            have hsS := hsS.below hb
            have hsT := hsT.below hb
            have bF := bE.trans (hb.mono bE.size)
            obtain ⟨W14, hW14⟩ : ∃ W14, W14 = wr := ⟨_, rfl⟩
            rw [← hW14] at hX5 hX6 hsS hsT bF ⊢
            clear hW14 hb
            have HWI := Lib.hid (fun W (h1 : Below W14.heap.size W14 W) => within_any S T _ _ wv W (hsS.below h1) (hsT.below h1) hw2)
            have HSA := Lib.hid (fun W (h1 : Below W14.heap.size W14 W) => same_any S T _ _ sv W (hsS.below h1) (hsT.below h1) hs2)
            have HAL := Lib.hid (fun W (h1 : Below W14.heap.size W14 W) => all_any W ((HE.out.kept bF).kept h1))
            have HNO := Lib.hid (fun W (h1 : Below W14.heap.size W14 W) => not_any S _ W ((HE.out.kept bF).kept h1) (hsS.below h1) (MayMerge.of allS_good hgS))
            have HOX : Hid (∀ W', Below W14.heap.size W14 W' → ∀ v2 S2, IsSet W' v2 S2 → (∀ c, memS S2 c = (fun c => allB c && !memS S c) c) → Calls Tryd.prog 27 #[.agg #[.slice aS nS cS], v2] W' (RetSet (fun c => memS S c || (allB c && !memS S c)) W'.heap.size W')) := Lib.hid fun W' h1 v2 S2 i2 m2 => by
              have h := setOr_any S S2 _ v2 W' (hsS.below h1) i2 (MayMerge.of hgS i2.good)
              have e : (fun c => (fun a b => (a || b)) (memS S c) (memS S2 c)) = (fun c => memS S c || (allB c && !memS S c)) := funext fun c => by simp only [m2]
              rw [e] at h
              exact h
            have HSX : Hid (∀ W' v1 S1 v2 S2, IsSet W' v1 S1 → (∀ c, memS S1 c = allB c) → IsSet W' v2 S2 → (∀ c, memS S2 c = (fun c => memS S c || (allB c && !memS S c)) c) → Calls Tryd.prog 38 #[v1, v2] W' (RetV (.bool true) W')) := Lib.hid fun W' v1 S1 v2 S2 i1 m1 i2 m2 => by
              have h := i2.as i1.good (fun c => by
                rw [m1, m2]
                show (memS S c || (allB c && !memS S c)) = allB c
                cases e : memS S c with
                | false => simp
                | true =>
                  have := hgS.le e
                  have hb : allB c = true := by unfold allB; rw [decide_eq_true_eq]; omega
                  rw [hb]; rfl)
              exact same_yes S1 v1 v2 W' i1 h
            clear hw2 hs2
            go_upto_region 20 with fail
            refine Rg.wp_region_frame (q := 21) (n := 21) (m := 124) (ds := fun i => (104 :: 105 :: 106 :: 107 :: 108 :: 109 :: 110 :: 111 :: 112 :: 113 :: 114 :: 115 :: 116 :: 117 :: 118 :: 119 :: 120 :: 121 :: 122 :: 123 :: 4 :: []).getD i 0) (al := fun i => false) (R := fun i w v => ((Rg.Wr.eq (.agg #[.slice aS nS cS]) :: Rg.Wr.eq (.agg #[.slice aT nT cT]) :: Rg.Wr.eq (.bool wv) :: Rg.Wr.eq (.bool wv) :: Rg.Wr.eq (.bool true) :: Rg.Wr.eq (.bool true) :: Rg.Wr.eq (.agg #[.slice aS nS cS]) :: Rg.Wr.eq (.agg #[.slice aT nT cT]) :: Rg.Wr.eq (.bool sv) :: Rg.Wr.eq (.bool sv) :: Rg.Wr.eq (.bool true) :: Rg.Wr.eq (.bool true) :: Rg.Wr.eq (.bool true) :: Rg.Wr.mem allB :: Rg.Wr.eq (.agg #[.slice aS nS cS]) :: Rg.Wr.eq (.agg #[.slice aS nS cS]) :: Rg.Wr.mem (fun c => allB c && !memS S c) :: Rg.Wr.mem (fun c => memS S c || (allB c && !memS S c)) :: Rg.Wr.eq (.bool true) :: Rg.Wr.eq (.bool true) :: Rg.Wr.eq (.bool true) :: []).getD i (.eq undef)).ok w v)
                (fun fr k a w => k = 21 ∧ a.tmps.size = 124 ∧ a.defers = [] ∧ (∀ k, k < 124 → (∀ i, i < 21 → (104 :: 105 :: 106 :: 107 :: 108 :: 109 :: 110 :: 111 :: 112 :: 113 :: 114 :: 115 :: 116 :: 117 :: 118 :: 119 :: 120 :: 121 :: 122 :: 123 :: 4 :: []).getD i 0 ≠ k) → a.tmps.getD k undef = fr k) ∧ a.tmps.getD 4 undef = .bool true ∧ Below W14.heap.size W14 w)
                (by kernel_rfl) rfl (by decide) (by kernel_rfl) (by kernel_rfl) (by decide) (by decide) (fun j v w w' hb h => Rg.Wr.stable hb h) rfl rfl ?ops20 ?mid20 ?tail20 ?end20
            case mid20 =>
              intro a' w' h1 h2 h3 h4 h5 _ _
              exact ⟨rfl, h1, h2, h4, h5 20 (by decide), h3⟩
            case tail20 =>
              iterate 21 refine ⟨fun h => absurd h (by decide), ?_⟩
              trivial
            case end20 =>
              rintro ⟨t, d⟩ w' ⟨_, hsz, hd, hrest, h4, hbE⟩
              have hd' : d = [] := hd
              have hsz' : t.size = 124 := hsz
              have h4' : t.getD 4 undef = .bool true := h4
              have e := Rg.arr_eta t 124 hsz'
              subst hd'
              change t = List.toArray (t.getD 0 undef :: t.getD 1 undef :: t.getD 2 undef :: t.getD 3 undef :: t.getD 4 undef :: t.getD 5 undef :: t.getD 6 undef :: t.getD 7 undef :: t.getD 8 undef :: t.getD 9 undef :: t.getD 10 undef :: t.getD 11 undef :: t.getD 12 undef :: t.getD 13 undef :: t.getD 14 undef :: t.getD 15 undef :: t.getD 16 undef :: t.getD 17 undef :: t.getD 18 undef :: t.getD 19 undef :: t.getD 20 undef :: t.getD 21 undef :: t.getD 22 undef :: t.getD 23 undef :: t.getD 24 undef :: t.getD 25 undef :: t.getD 26 undef :: t.getD 27 undef :: t.getD 28 undef :: t.getD 29 undef :: t.getD 30 undef :: t.getD 31 undef :: t.getD 32 undef :: t.getD 33 undef :: t.getD 34 undef :: t.getD 35 undef :: t.getD 36 undef :: t.getD 37 undef :: t.getD 38 undef :: t.getD 39 undef :: t.getD 40 undef :: t.getD 41 undef :: t.getD 42 undef :: t.getD 43 undef :: t.getD 44 undef :: t.getD 45 undef :: t.getD 46 undef :: t.getD 47 undef :: t.getD 48 undef :: t.getD 49 undef :: t.getD 50 undef :: t.getD 51 undef :: t.getD 52 undef :: t.getD 53 undef :: t.getD 54 undef :: t.getD 55 undef :: t.getD 56 undef :: t.getD 57 undef :: t.getD 58 undef :: t.getD 59 undef :: t.getD 60 undef :: t.getD 61 undef :: t.getD 62 undef :: t.getD 63 undef :: t.getD 64 undef :: t.getD 65 undef :: t.getD 66 undef :: t.getD 67 undef :: t.getD 68 undef :: t.getD 69 undef :: t.getD 70 undef :: t.getD 71 undef :: t.getD 72 undef :: t.getD 73 undef :: t.getD 74 undef :: t.getD 75 undef :: t.getD 76 undef :: t.getD 77 undef :: t.getD 78 undef :: t.getD 79 undef :: t.getD 80 undef :: t.getD 81 undef :: t.getD 82 undef :: t.getD 83 undef :: t.getD 84 undef :: t.getD 85 undef :: t.getD 86 undef :: t.getD 87 undef :: t.getD 88 undef :: t.getD 89 undef :: t.getD 90 undef :: t.getD 91 undef :: t.getD 92 undef :: t.getD 93 undef :: t.getD 94 undef :: t.getD 95 undef :: t.getD 96 undef :: t.getD 97 undef :: t.getD 98 undef :: t.getD 99 undef :: t.getD 100 undef :: t.getD 101 undef :: t.getD 102 undef :: t.getD 103 undef :: t.getD 104 undef :: t.getD 105 undef :: t.getD 106 undef :: t.getD 107 undef :: t.getD 108 undef :: t.getD 109 undef :: t.getD 110 undef :: t.getD 111 undef :: t.getD 112 undef :: t.getD 113 undef :: t.getD 114 undef :: t.getD 115 undef :: t.getD 116 undef :: t.getD 117 undef :: t.getD 118 undef :: t.getD 119 undef :: t.getD 120 undef :: t.getD 121 undef :: t.getD 122 undef :: t.getD 123 undef :: []) at e
              rw [h4'] at e
              clear hrest hsz hd hsz' h4 h4'
              generalize t.getD 0 undef = u0 at e
              generalize t.getD 1 undef = u1 at e
              generalize t.getD 2 undef = u2 at e
              generalize t.getD 3 undef = u3 at e
              generalize t.getD 5 undef = u5 at e
              generalize t.getD 6 undef = u6 at e
              generalize t.getD 7 undef = u7 at e
              generalize t.getD 8 undef = u8 at e
              generalize t.getD 9 undef = u9 at e
              generalize t.getD 10 undef = u10 at e
              generalize t.getD 11 undef = u11 at e
              generalize t.getD 12 undef = u12 at e
              generalize t.getD 13 undef = u13 at e
              generalize t.getD 14 undef = u14 at e
              generalize t.getD 15 undef = u15 at e
              generalize t.getD 16 undef = u16 at e
              generalize t.getD 17 undef = u17 at e
              generalize t.getD 18 undef = u18 at e
              generalize t.getD 19 undef = u19 at e
              generalize t.getD 20 undef = u20 at e
              generalize t.getD 21 undef = u21 at e
              generalize t.getD 22 undef = u22 at e
              generalize t.getD 23 undef = u23 at e
              generalize t.getD 24 undef = u24 at e
              generalize t.getD 25 undef = u25 at e
              generalize t.getD 26 undef = u26 at e
              generalize t.getD 27 undef = u27 at e
              generalize t.getD 28 undef = u28 at e
              generalize t.getD 29 undef = u29 at e
              generalize t.getD 30 undef = u30 at e
              generalize t.getD 31 undef = u31 at e
              generalize t.getD 32 undef = u32 at e
              generalize t.getD 33 undef = u33 at e
              generalize t.getD 34 undef = u34 at e
              generalize t.getD 35 undef = u35 at e
              generalize t.getD 36 undef = u36 at e
              generalize t.getD 37 undef = u37 at e
              generalize t.getD 38 undef = u38 at e
              generalize t.getD 39 undef = u39 at e
              generalize t.getD 40 undef = u40 at e
              generalize t.getD 41 undef = u41 at e
              generalize t.getD 42 undef = u42 at e
              generalize t.getD 43 undef = u43 at e
              generalize t.getD 44 undef = u44 at e
              generalize t.getD 45 undef = u45 at e
              generalize t.getD 46 undef = u46 at e
              generalize t.getD 47 undef = u47 at e
              generalize t.getD 48 undef = u48 at e
              generalize t.getD 49 undef = u49 at e
              generalize t.getD 50 undef = u50 at e
              generalize t.getD 51 undef = u51 at e
              generalize t.getD 52 undef = u52 at e
              generalize t.getD 53 undef = u53 at e
              generalize t.getD 54 undef = u54 at e
              generalize t.getD 55 undef = u55 at e
              generalize t.getD 56 undef = u56 at e
              generalize t.getD 57 undef = u57 at e
              generalize t.getD 58 undef = u58 at e
              generalize t.getD 59 undef = u59 at e
              generalize t.getD 60 undef = u60 at e
              generalize t.getD 61 undef = u61 at e
              generalize t.getD 62 undef = u62 at e
              generalize t.getD 63 undef = u63 at e
              generalize t.getD 64 undef = u64 at e
              generalize t.getD 65 undef = u65 at e
              generalize t.getD 66 undef = u66 at e
              generalize t.getD 67 undef = u67 at e
              generalize t.getD 68 undef = u68 at e
              generalize t.getD 69 undef = u69 at e
              generalize t.getD 70 undef = u70 at e
              generalize t.getD 71 undef = u71 at e
              generalize t.getD 72 undef = u72 at e
              generalize t.getD 73 undef = u73 at e
              generalize t.getD 74 undef = u74 at e
              generalize t.getD 75 undef = u75 at e
              generalize t.getD 76 undef = u76 at e
              generalize t.getD 77 undef = u77 at e
              generalize t.getD 78 undef = u78 at e
              generalize t.getD 79 undef = u79 at e
              generalize t.getD 80 undef = u80 at e
              generalize t.getD 81 undef = u81 at e
              generalize t.getD 82 undef = u82 at e
              generalize t.getD 83 undef = u83 at e
              generalize t.getD 84 undef = u84 at e
              generalize t.getD 85 undef = u85 at e
              generalize t.getD 86 undef = u86 at e
              generalize t.getD 87 undef = u87 at e
              generalize t.getD 88 undef = u88 at e
              generalize t.getD 89 undef = u89 at e
              generalize t.getD 90 undef = u90 at e
              generalize t.getD 91 undef = u91 at e
              generalize t.getD 92 undef = u92 at e
              generalize t.getD 93 undef = u93 at e
              generalize t.getD 94 undef = u94 at e
              generalize t.getD 95 undef = u95 at e
              generalize t.getD 96 undef = u96 at e
              generalize t.getD 97 undef = u97 at e
              generalize t.getD 98 undef = u98 at e
              generalize t.getD 99 undef = u99 at e
              generalize t.getD 100 undef = u100 at e
              generalize t.getD 101 undef = u101 at e
              generalize t.getD 102 undef = u102 at e
              generalize t.getD 103 undef = u103 at e
              generalize t.getD 104 undef = u104 at e
              generalize t.getD 105 undef = u105 at e
              generalize t.getD 106 undef = u106 at e
              generalize t.getD 107 undef = u107 at e
              generalize t.getD 108 undef = u108 at e
              generalize t.getD 109 undef = u109 at e
              generalize t.getD 110 undef = u110 at e
              generalize t.getD 111 undef = u111 at e
              generalize t.getD 112 undef = u112 at e
              generalize t.getD 113 undef = u113 at e
              generalize t.getD 114 undef = u114 at e
              generalize t.getD 115 undef = u115 at e
              generalize t.getD 116 undef = u116 at e
              generalize t.getD 117 undef = u117 at e
              generalize t.getD 118 undef = u118 at e
              generalize t.getD 119 undef = u119 at e
              generalize t.getD 120 undef = u120 at e
              generalize t.getD 121 undef = u121 at e
              generalize t.getD 122 undef = u122 at e
              generalize t.getD 123 undef = u123 at e
              subst e
              go_wp2_with fail
              go_ret
              exact ⟨rfl, below_step bF hbE⟩
            case ops20 =>
              refine ⟨fun _ => ⟨rfl, fun l a w' hI hdeps => ⟨?_, fun K hK => ?_⟩⟩, ?_⟩
              · exact Rg.wanted_none rfl
              · have hbw : Below W14.heap.size W14 w' := ⟨hI.below.os, hI.below.tape, hI.below.output, hI.below.size, hI.below.block⟩
                have e5 : a.tmps.getD 5 undef = .pointer (some ⟨g5, 0, none⟩) := hI.rest 5 (by decide) (by decide)
                exact Rg.wp_load29 rfl e5 ((hX5.on hbw).cell0) (hK _ _ (Below.refl _ _) rfl (fun h => absurd h (by decide)))
              refine ⟨fun _ => ⟨rfl, fun l a w' hI hdeps => ⟨?_, fun K hK => ?_⟩⟩, ?_⟩
              · exact Rg.wanted_none rfl
              · have hbw : Below W14.heap.size W14 w' := ⟨hI.below.os, hI.below.tape, hI.below.output, hI.below.size, hI.below.block⟩
                have e6 : a.tmps.getD 6 undef = .pointer (some ⟨g6, 0, none⟩) := hI.rest 6 (by decide) (by decide)
                exact Rg.wp_load29 rfl e6 ((hX6.on hbw).cell0) (hK _ _ (Below.refl _ _) rfl (fun h => absurd h (by decide)))
              refine ⟨fun _ => ⟨rfl, fun l a w' hI hdeps => ⟨?_, fun K hK => ?_⟩⟩, ?_⟩
              · exact Rg.wanted_none rfl
              · have hbw : Below W14.heap.size W14 w' := ⟨hI.below.os, hI.below.tape, hI.below.output, hI.below.size, hI.below.block⟩
                have e104 : a.tmps.getD 104 undef = .agg #[.slice aS nS cS] := hI.rel 0 (by decide) (hdeps ⟨0, .data⟩ (by simp) rfl)
                have e105 : a.tmps.getD 105 undef = .agg #[.slice aT nT cT] := hI.rel 1 (by decide) (hdeps ⟨1, .data⟩ (by simp) rfl)
                refine Rg.wp_call2 rfl (enters_of Tryd.func37 (by kernel_rfl) rfl) ?_
                rw [e104, e105]
                refine (HWI.out w' hbw).mono ?_
                rintro e w'' ⟨rfl, y⟩
                exact ⟨_, rfl, hK _ _ y rfl (fun h => absurd h (by decide))⟩
              refine ⟨fun _ => ⟨rfl, fun l a w' hI hdeps => ⟨?_, fun K hK => ?_⟩⟩, ?_⟩
              · exact Rg.wanted_none rfl
              · have hbw : Below W14.heap.size W14 w' := ⟨hI.below.os, hI.below.tape, hI.below.output, hI.below.size, hI.below.block⟩
                have e11 : a.tmps.getD 11 undef = .bool wv := hI.rest 11 (by decide) (by decide)
                exact Rg.wp_move rfl (hK _ _ (Below.refl _ _) e11 (fun h => absurd h (by decide)))
              refine ⟨fun _ => ⟨rfl, fun l a w' hI hdeps => ⟨?_, fun K hK => ?_⟩⟩, ?_⟩
              · exact Rg.wanted_none rfl
              · have hbw : Below W14.heap.size W14 w' := ⟨hI.below.os, hI.below.tape, hI.below.output, hI.below.size, hI.below.block⟩
                have e106 : a.tmps.getD 106 undef = .bool wv := hI.rel 2 (by decide) (hdeps ⟨2, .data⟩ (by simp) rfl)
                have e107 : a.tmps.getD 107 undef = .bool wv := hI.rel 3 (by decide) (hdeps ⟨3, .data⟩ (by simp) rfl)
                exact Rg.wp_eqlB rfl e106 e107 (hK _ _ (Below.refl _ _) (by cases wv <;> rfl) (fun h => absurd h (by decide)))
              refine ⟨fun _ => ⟨rfl, fun l a w' hI hdeps => ⟨?_, fun K hK => ?_⟩⟩, ?_⟩
              · exact Rg.wanted_none rfl
              · have hbw : Below W14.heap.size W14 w' := ⟨hI.below.os, hI.below.tape, hI.below.output, hI.below.size, hI.below.block⟩
                have e108 : a.tmps.getD 108 undef = .bool true := hI.rel 4 (by decide) (hdeps ⟨4, .data⟩ (by simp) rfl)
                exact Rg.wp_move rfl (hK _ _ (Below.refl _ _) e108 (fun h => absurd h (by decide)))
              refine ⟨fun _ => ⟨rfl, fun l a w' hI hdeps => ⟨?_, fun K hK => ?_⟩⟩, ?_⟩
              · exact Rg.wanted_some (d := 109) rfl rfl rfl (by rw [hI.slots]; decide) (hI.rel 5 (by decide) (hdeps ⟨5, .guard⟩ (by simp) rfl))
              · have hbw : Below W14.heap.size W14 w' := ⟨hI.below.os, hI.below.tape, hI.below.output, hI.below.size, hI.below.block⟩
                have e5 : a.tmps.getD 5 undef = .pointer (some ⟨g5, 0, none⟩) := hI.rest 5 (by decide) (by decide)
                exact Rg.wp_load29 rfl e5 ((hX5.on hbw).cell0) (hK _ _ (Below.refl _ _) rfl (fun h => absurd h (by decide)))
              refine ⟨fun _ => ⟨rfl, fun l a w' hI hdeps => ⟨?_, fun K hK => ?_⟩⟩, ?_⟩
              · exact Rg.wanted_some (d := 109) rfl rfl rfl (by rw [hI.slots]; decide) (hI.rel 5 (by decide) (hdeps ⟨5, .guard⟩ (by simp) rfl))
              · have hbw : Below W14.heap.size W14 w' := ⟨hI.below.os, hI.below.tape, hI.below.output, hI.below.size, hI.below.block⟩
                have e6 : a.tmps.getD 6 undef = .pointer (some ⟨g6, 0, none⟩) := hI.rest 6 (by decide) (by decide)
                exact Rg.wp_load29 rfl e6 ((hX6.on hbw).cell0) (hK _ _ (Below.refl _ _) rfl (fun h => absurd h (by decide)))
              refine ⟨fun _ => ⟨rfl, fun l a w' hI hdeps => ⟨?_, fun K hK => ?_⟩⟩, ?_⟩
              · exact Rg.wanted_some (d := 109) rfl rfl rfl (by rw [hI.slots]; decide) (hI.rel 5 (by decide) (hdeps ⟨5, .guard⟩ (by simp) rfl))
              · have hbw : Below W14.heap.size W14 w' := ⟨hI.below.os, hI.below.tape, hI.below.output, hI.below.size, hI.below.block⟩
                have e110 : a.tmps.getD 110 undef = .agg #[.slice aS nS cS] := hI.rel 6 (by decide) (hdeps ⟨6, .data⟩ (by simp) rfl)
                have e111 : a.tmps.getD 111 undef = .agg #[.slice aT nT cT] := hI.rel 7 (by decide) (hdeps ⟨7, .data⟩ (by simp) rfl)
                refine Rg.wp_call2 rfl (enters_of Tryd.func38 (by kernel_rfl) rfl) ?_
                rw [e110, e111]
                refine (HSA.out w' hbw).mono ?_
                rintro e w'' ⟨rfl, y⟩
                exact ⟨_, rfl, hK _ _ y rfl (fun h => absurd h (by decide))⟩
              refine ⟨fun _ => ⟨rfl, fun l a w' hI hdeps => ⟨?_, fun K hK => ?_⟩⟩, ?_⟩
              · exact Rg.wanted_some (d := 109) rfl rfl rfl (by rw [hI.slots]; decide) (hI.rel 5 (by decide) (hdeps ⟨5, .guard⟩ (by simp) rfl))
              · have hbw : Below W14.heap.size W14 w' := ⟨hI.below.os, hI.below.tape, hI.below.output, hI.below.size, hI.below.block⟩
                have e12 : a.tmps.getD 12 undef = .bool sv := hI.rest 12 (by decide) (by decide)
                exact Rg.wp_move rfl (hK _ _ (Below.refl _ _) e12 (fun h => absurd h (by decide)))
              refine ⟨fun _ => ⟨rfl, fun l a w' hI hdeps => ⟨?_, fun K hK => ?_⟩⟩, ?_⟩
              · exact Rg.wanted_some (d := 109) rfl rfl rfl (by rw [hI.slots]; decide) (hI.rel 5 (by decide) (hdeps ⟨5, .guard⟩ (by simp) rfl))
              · have hbw : Below W14.heap.size W14 w' := ⟨hI.below.os, hI.below.tape, hI.below.output, hI.below.size, hI.below.block⟩
                have e112 : a.tmps.getD 112 undef = .bool sv := hI.rel 8 (by decide) (hdeps ⟨8, .data⟩ (by simp) rfl)
                have e113 : a.tmps.getD 113 undef = .bool sv := hI.rel 9 (by decide) (hdeps ⟨9, .data⟩ (by simp) rfl)
                exact Rg.wp_eqlB rfl e112 e113 (hK _ _ (Below.refl _ _) (by cases sv <;> rfl) (fun h => absurd h (by decide)))
              refine ⟨fun _ => ⟨rfl, fun l a w' hI hdeps => ⟨?_, fun K hK => ?_⟩⟩, ?_⟩
              · exact Rg.wanted_none rfl
              · have hbw : Below W14.heap.size W14 w' := ⟨hI.below.os, hI.below.tape, hI.below.output, hI.below.size, hI.below.block⟩
                have e109 : a.tmps.getD 109 undef = .bool true := hI.rel 5 (by decide) (hdeps ⟨5, .data⟩ (by simp) rfl)
                have e114 : a.tmps.getD 114 undef = .bool true := hI.rel 10 (by decide) (hdeps ⟨10, .data⟩ (by simp) rfl)
                exact Rg.wp_pick_yes rfl e109 (hK _ _ (Below.refl _ _) e114 (fun h => absurd h (by decide)))
              refine ⟨fun _ => ⟨rfl, fun l a w' hI hdeps => ⟨?_, fun K hK => ?_⟩⟩, ?_⟩
              · exact Rg.wanted_none rfl
              · have hbw : Below W14.heap.size W14 w' := ⟨hI.below.os, hI.below.tape, hI.below.output, hI.below.size, hI.below.block⟩
                have e115 : a.tmps.getD 115 undef = .bool true := hI.rel 11 (by decide) (hdeps ⟨11, .data⟩ (by simp) rfl)
                exact Rg.wp_move rfl (hK _ _ (Below.refl _ _) e115 (fun h => absurd h (by decide)))
              refine ⟨fun _ => ⟨rfl, fun l a w' hI hdeps => ⟨?_, fun K hK => ?_⟩⟩, ?_⟩
              · exact Rg.wanted_some (d := 116) rfl rfl rfl (by rw [hI.slots]; decide) (hI.rel 12 (by decide) (hdeps ⟨12, .guard⟩ (by simp) rfl))
              · have hbw : Below W14.heap.size W14 w' := ⟨hI.below.os, hI.below.tape, hI.below.output, hI.below.size, hI.below.block⟩
                refine Rg.wp_call0 rfl (enters_of Tryd.func39 (by kernel_rfl) rfl) ?_
                refine (HAL.out w' hbw).mono ?_
                rintro e w'' ⟨v, S', rfl, hset, hmem, y⟩
                exact ⟨_, rfl, hK _ _ y ⟨S', hset, hmem⟩ (fun h => absurd h (by decide))⟩
              refine ⟨fun _ => ⟨rfl, fun l a w' hI hdeps => ⟨?_, fun K hK => ?_⟩⟩, ?_⟩
              · exact Rg.wanted_some (d := 116) rfl rfl rfl (by rw [hI.slots]; decide) (hI.rel 12 (by decide) (hdeps ⟨12, .guard⟩ (by simp) rfl))
              · have hbw : Below W14.heap.size W14 w' := ⟨hI.below.os, hI.below.tape, hI.below.output, hI.below.size, hI.below.block⟩
                have e5 : a.tmps.getD 5 undef = .pointer (some ⟨g5, 0, none⟩) := hI.rest 5 (by decide) (by decide)
                exact Rg.wp_load29 rfl e5 ((hX5.on hbw).cell0) (hK _ _ (Below.refl _ _) rfl (fun h => absurd h (by decide)))
              refine ⟨fun _ => ⟨rfl, fun l a w' hI hdeps => ⟨?_, fun K hK => ?_⟩⟩, ?_⟩
              · exact Rg.wanted_some (d := 116) rfl rfl rfl (by rw [hI.slots]; decide) (hI.rel 12 (by decide) (hdeps ⟨12, .guard⟩ (by simp) rfl))
              · have hbw : Below W14.heap.size W14 w' := ⟨hI.below.os, hI.below.tape, hI.below.output, hI.below.size, hI.below.block⟩
                have e5 : a.tmps.getD 5 undef = .pointer (some ⟨g5, 0, none⟩) := hI.rest 5 (by decide) (by decide)
                exact Rg.wp_load29 rfl e5 ((hX5.on hbw).cell0) (hK _ _ (Below.refl _ _) rfl (fun h => absurd h (by decide)))
              refine ⟨fun _ => ⟨rfl, fun l a w' hI hdeps => ⟨?_, fun K hK => ?_⟩⟩, ?_⟩
              · exact Rg.wanted_some (d := 116) rfl rfl rfl (by rw [hI.slots]; decide) (hI.rel 12 (by decide) (hdeps ⟨12, .guard⟩ (by simp) rfl))
              · have hbw : Below W14.heap.size W14 w' := ⟨hI.below.os, hI.below.tape, hI.below.output, hI.below.size, hI.below.block⟩
                have e119 : a.tmps.getD 119 undef = .agg #[.slice aS nS cS] := hI.rel 15 (by decide) (hdeps ⟨15, .data⟩ (by simp) rfl)
                refine Rg.wp_call1 rfl (enters_of Tryd.func35 (by kernel_rfl) rfl) ?_
                rw [e119]
                refine (HNO.out w' hbw).mono ?_
                rintro e w'' ⟨v, S', rfl, hset, hmem, y⟩
                exact ⟨_, rfl, hK _ _ y ⟨S', hset, hmem⟩ (fun h => absurd h (by decide))⟩
              refine ⟨fun _ => ⟨rfl, fun l a w' hI hdeps => ⟨?_, fun K hK => ?_⟩⟩, ?_⟩
              · exact Rg.wanted_some (d := 116) rfl rfl rfl (by rw [hI.slots]; decide) (hI.rel 12 (by decide) (hdeps ⟨12, .guard⟩ (by simp) rfl))
              · have hbw : Below W14.heap.size W14 w' := ⟨hI.below.os, hI.below.tape, hI.below.output, hI.below.size, hI.below.block⟩
                have e118 : a.tmps.getD 118 undef = .agg #[.slice aS nS cS] := hI.rel 14 (by decide) (hdeps ⟨14, .data⟩ (by simp) rfl)
                obtain ⟨S120, i120, m120⟩ : ∃ S', IsSet w' (a.tmps.getD 120 undef) S' ∧ ∀ c, memS S' c = (fun c => allB c && !memS S c) c := hI.rel 16 (by decide) (hdeps ⟨16, .data⟩ (by simp) rfl)
                refine Rg.wp_call2 rfl (enters_of Tryd.func27 (by kernel_rfl) rfl) ?_
                rw [e118]
                refine (HOX.out w' hbw _ _ i120 m120).mono ?_
                rintro e w'' ⟨v, S', rfl, hset, hmem, y⟩
                exact ⟨_, rfl, hK _ _ y ⟨S', hset, hmem⟩ (fun h => absurd h (by decide))⟩
              refine ⟨fun _ => ⟨rfl, fun l a w' hI hdeps => ⟨?_, fun K hK => ?_⟩⟩, ?_⟩
              · exact Rg.wanted_some (d := 116) rfl rfl rfl (by rw [hI.slots]; decide) (hI.rel 12 (by decide) (hdeps ⟨12, .guard⟩ (by simp) rfl))
              · have hbw : Below W14.heap.size W14 w' := ⟨hI.below.os, hI.below.tape, hI.below.output, hI.below.size, hI.below.block⟩
                obtain ⟨S117, i117, m117⟩ : ∃ S', IsSet w' (a.tmps.getD 117 undef) S' ∧ ∀ c, memS S' c = allB c := hI.rel 13 (by decide) (hdeps ⟨13, .data⟩ (by simp) rfl)
                obtain ⟨S121, i121, m121⟩ : ∃ S', IsSet w' (a.tmps.getD 121 undef) S' ∧ ∀ c, memS S' c = (fun c => memS S c || (allB c && !memS S c)) c := hI.rel 17 (by decide) (hdeps ⟨17, .data⟩ (by simp) rfl)
                refine Rg.wp_call2 rfl (enters_of Tryd.func38 (by kernel_rfl) rfl) ?_
                refine (HSX.out w' _ _ _ _ i117 m117 i121 m121).mono ?_
                rintro e w'' ⟨rfl, y⟩
                exact ⟨_, rfl, hK _ _ y rfl (fun h => absurd h (by decide))⟩
              refine ⟨fun _ => ⟨rfl, fun l a w' hI hdeps => ⟨?_, fun K hK => ?_⟩⟩, ?_⟩
              · exact Rg.wanted_none rfl
              · have hbw : Below W14.heap.size W14 w' := ⟨hI.below.os, hI.below.tape, hI.below.output, hI.below.size, hI.below.block⟩
                have e116 : a.tmps.getD 116 undef = .bool true := hI.rel 12 (by decide) (hdeps ⟨12, .data⟩ (by simp) rfl)
                have e122 : a.tmps.getD 122 undef = .bool true := hI.rel 18 (by decide) (hdeps ⟨18, .data⟩ (by simp) rfl)
                exact Rg.wp_pick_yes rfl e116 (hK _ _ (Below.refl _ _) e122 (fun h => absurd h (by decide)))
              refine ⟨fun _ => ⟨rfl, fun l a w' hI hdeps => ⟨?_, fun K hK => ?_⟩⟩, ?_⟩
              · exact Rg.wanted_none rfl
              · have hbw : Below W14.heap.size W14 w' := ⟨hI.below.os, hI.below.tape, hI.below.output, hI.below.size, hI.below.block⟩
                have e123 : a.tmps.getD 123 undef = .bool true := hI.rel 19 (by decide) (hdeps ⟨19, .data⟩ (by simp) rfl)
                exact Rg.wp_assign rfl (hK _ _ (Below.refl _ _) e123 (fun h => absurd h (by decide)))
              trivial
end Go.Proofs.YtccbofaefpbhlaaDoor
