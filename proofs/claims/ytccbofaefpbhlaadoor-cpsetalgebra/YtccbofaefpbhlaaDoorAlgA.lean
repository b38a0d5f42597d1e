/-
  The closures of CpsetAlgebra.
-/
import Derived.Test.YtccbofaefpbhlaaDoorAlgM
import Derived.Test.YtccbofaefpbhlaaDoorRegC
namespace Go.Proofs.YtccbofaefpbhlaaDoor
set_option linter.unusedVariables false
set_option maxRecDepth 20000
open Go.RowKit

theorem hasX_any (A : Option Addr) (n c g : Nat) (L : List (Int × Int)) (w : World) (hX : w.cell? ⟨g, 0, none⟩ = some (.slice A n c)) (hL : L.length = n) (hr : PairAt w A L) (hn : n ≤ 1000000) (x : Int) (b : Bool) (hb : hasR L x = b) : Calls Tryd.prog 25 (#[.int .i64 x] ++ #[.pointer (some ⟨g, 0, none⟩)]) w (RetV (.bool b) w) := by
  have H := Lib.hid (refHas_any A n c L x b w hL hr hn hb)
  clear hL hr hb
  go_enter Tryd.func25, Tryd.ntmps25
  go_wp2_with fail
  refine H.out.mono ?_
  rintro e w1 ⟨rfl, y1⟩
  go_wp2
  go_ret
  exact ⟨rfl, y1⟩
theorem hasY_any (A : Option Addr) (n c g : Nat) (L : List (Int × Int)) (w : World) (hX : w.cell? ⟨g, 0, none⟩ = some (.slice A n c)) (hL : L.length = n) (hr : PairAt w A L) (hn : n ≤ 1000000) (x : Int) (b : Bool) (hb : hasR L x = b) : Calls Tryd.prog 26 (#[.int .i64 x] ++ #[.pointer (some ⟨g, 0, none⟩)]) w (RetV (.bool b) w) := by
  have H := Lib.hid (refHas_any A n c L x b w hL hr hn hb)
  clear hL hr hb
  go_enter Tryd.func26, Tryd.ntmps26
  go_wp2_with fail
  refine H.out.mono ?_
  rintro e w1 ⟨rfl, y1⟩
  go_wp2
  go_ret
  exact ⟨rfl, y1⟩

/-- What the law's world holds: the two slices of ranges in their boxes, and the two closures over them. -/
structure Held (w : World) (g2 g3 g8 g9 : Nat) (Aa : Option Addr) (na ca : Nat) (Ab : Option Addr) (nb cb : Nat) (a b : List (Int × Int)) : Prop where
  x2 : Blk w g2 22 #[.slice Aa na ca]
  x3 : Blk w g3 22 #[.slice Ab nb cb]
  x8 : Blk w g8 41 #[.func (.func 25) #[] #[.pointer (some ⟨g2, 0, none⟩)]]
  x9 : Blk w g9 41 #[.func (.func 26) #[] #[.pointer (some ⟨g3, 0, none⟩)]]
  pa : PairAt w Aa a
  pb : PairAt w Ab b
  la : a.length = na
  lb : b.length = nb
  na6 : na ≤ 1000000
  nb6 : nb ≤ 1000000
theorem Held.on {w w' : World} {g2 g3 g8 g9 na ca nb cb : Nat} {Aa Ab : Option Addr} {a b : List (Int × Int)} (h : Held w g2 g3 g8 g9 Aa na ca Ab nb cb a b) (hb : Below w.heap.size w w') : Held w' g2 g3 g8 g9 Aa na ca Ab nb cb a b :=
  ⟨h.x2.on hb, h.x3.on hb, h.x8.on hb, h.x9.on hb, h.pa.below hb, h.pb.below hb, h.la, h.lb, h.na6, h.nb6⟩
theorem Held.isX {w : World} {g2 g3 g8 g9 na ca nb cb : Nat} {Aa Ab : Option Addr} {a b : List (Int × Int)} (h : Held w g2 g3 g8 g9 Aa na ca Ab nb cb a b) (x : Int) (v : Bool) (hv : hasR a x = v) : Calls Tryd.prog 25 (#[.int .i64 x] ++ #[.pointer (some ⟨g2, 0, none⟩)]) w (RetV (.bool v) w) :=
  hasX_any Aa na ca g2 a w h.x2.cell0 h.la h.pa h.na6 x v hv
theorem Held.isY {w : World} {g2 g3 g8 g9 na ca nb cb : Nat} {Aa Ab : Option Addr} {a b : List (Int × Int)} (h : Held w g2 g3 g8 g9 Aa na ca Ab nb cb a b) (x : Int) (v : Bool) (hv : hasR b x = v) : Calls Tryd.prog 26 (#[.int .i64 x] ++ #[.pointer (some ⟨g3, 0, none⟩)]) w (RetV (.bool v) w) :=
  hasY_any Ab nb cb g3 b w h.x3.cell0 h.lb h.pb h.nb6 x v hv

section
variable {w : World} {g2 g3 g8 g9 na ca nb cb : Nat} {Aa Ab : Option Addr} {a b : List (Int × Int)}
set_option maxHeartbeats 2000000 in
theorem orC_any (h : Held w g2 g3 g8 g9 Aa na ca Ab nb cb a b) (x : Int) : Calls Tryd.prog 28 (#[.int .i64 x] ++ #[.pointer (some ⟨g8, 0, none⟩), .pointer (some ⟨g9, 0, none⟩)]) w (RetV (.bool (hasR a x || hasR b x)) w) := by
  have H1 := Lib.hid (fun W (hW : Below w.heap.size w W) v hv => (h.on hW).isX x v hv)
  have H2 := Lib.hid (fun W (hW : Below w.heap.size w W) v hv => (h.on hW).isY x v hv)
  have k8 := h.x8.cell0
  have h9 := h.x9
  obtain ⟨u, hu⟩ : ∃ u, hasR a x = u := ⟨_, rfl⟩
  obtain ⟨v, hv⟩ : ∃ v, hasR b x = v := ⟨_, rfl⟩
  have HH1 := Lib.hid (fun W hW => H1.out W hW u hu)
  have HH2 := Lib.hid (fun W hW => H2.out W hW v hv)
  rw [hu, hv]
  clear H1 H2 hu hv h
  cases u with
  | true =>
    go_enter Tryd.func28, Tryd.ntmps28
    go_wp2_with fail
    refine (HH1.out _ (Below.refl _ _)).mono ?_
    rintro e w1 ⟨rfl, y1⟩
    go_wp2
    go_ret
    exact ⟨rfl, y1⟩
  | false =>
    go_enter Tryd.func28, Tryd.ntmps28
    go_wp2_with fail
    refine (HH1.out _ (Below.refl _ _)).mono ?_
    rintro e w1 ⟨rfl, y1⟩
    have k9 := (h9.on y1).cell0
    go_wp2_with fail
    refine (HH2.out _ y1).mono ?_
    rintro e w2 ⟨rfl, y2⟩
    go_wp2
    go_ret
    exact ⟨by simp, below_step y1 y2⟩
set_option maxHeartbeats 2000000 in
theorem andC_any (h : Held w g2 g3 g8 g9 Aa na ca Ab nb cb a b) (x : Int) : Calls Tryd.prog 30 (#[.int .i64 x] ++ #[.pointer (some ⟨g8, 0, none⟩), .pointer (some ⟨g9, 0, none⟩)]) w (RetV (.bool (hasR a x && hasR b x)) w) := by
  have H1 := Lib.hid (fun W (hW : Below w.heap.size w W) v hv => (h.on hW).isX x v hv)
  have H2 := Lib.hid (fun W (hW : Below w.heap.size w W) v hv => (h.on hW).isY x v hv)
  have k8 := h.x8.cell0
  have h9 := h.x9
  obtain ⟨u, hu⟩ : ∃ u, hasR a x = u := ⟨_, rfl⟩
  obtain ⟨v, hv⟩ : ∃ v, hasR b x = v := ⟨_, rfl⟩
  have HH1 := Lib.hid (fun W hW => H1.out W hW u hu)
  have HH2 := Lib.hid (fun W hW => H2.out W hW v hv)
  rw [hu, hv]
  clear H1 H2 hu hv h
  cases u with
  | false =>
    go_enter Tryd.func30, Tryd.ntmps30
    go_wp2_with fail
    refine (HH1.out _ (Below.refl _ _)).mono ?_
    rintro e w1 ⟨rfl, y1⟩
    go_wp2
    go_ret
    exact ⟨rfl, y1⟩
  | true =>
    go_enter Tryd.func30, Tryd.ntmps30
    go_wp2_with fail
    refine (HH1.out _ (Below.refl _ _)).mono ?_
    rintro e w1 ⟨rfl, y1⟩
    have k9 := (h9.on y1).cell0
    go_wp2_with fail
    refine (HH2.out _ y1).mono ?_
    rintro e w2 ⟨rfl, y2⟩
    go_wp2
    go_ret
    exact ⟨by first | rfl | simp, below_step y1 y2⟩
set_option maxHeartbeats 2000000 in
theorem lessC_any (h : Held w g2 g3 g8 g9 Aa na ca Ab nb cb a b) (x : Int) : Calls Tryd.prog 32 (#[.int .i64 x] ++ #[.pointer (some ⟨g8, 0, none⟩), .pointer (some ⟨g9, 0, none⟩)]) w (RetV (.bool (hasR a x && !hasR b x)) w) := by
  have H1 := Lib.hid (fun W (hW : Below w.heap.size w W) v hv => (h.on hW).isX x v hv)
  have H2 := Lib.hid (fun W (hW : Below w.heap.size w W) v hv => (h.on hW).isY x v hv)
  have k8 := h.x8.cell0
  have h9 := h.x9
  obtain ⟨u, hu⟩ : ∃ u, hasR a x = u := ⟨_, rfl⟩
  obtain ⟨v, hv⟩ : ∃ v, hasR b x = v := ⟨_, rfl⟩
  have HH1 := Lib.hid (fun W hW => H1.out W hW u hu)
  have HH2 := Lib.hid (fun W hW => H2.out W hW v hv)
  rw [hu, hv]
  clear H1 H2 hu hv h
  cases u with
  | false =>
    go_enter Tryd.func32, Tryd.ntmps32
    go_wp2_with fail
    refine (HH1.out _ (Below.refl _ _)).mono ?_
    rintro e w1 ⟨rfl, y1⟩
    go_wp2
    go_ret
    exact ⟨rfl, y1⟩
  | true =>
    go_enter Tryd.func32, Tryd.ntmps32
    go_wp2_with fail
    refine (HH1.out _ (Below.refl _ _)).mono ?_
    rintro e w1 ⟨rfl, y1⟩
    have k9 := (h9.on y1).cell0
    go_wp2_with fail
    refine (HH2.out _ y1).mono ?_
    rintro e w2 ⟨rfl, y2⟩
    go_wp2
    go_ret
    exact ⟨by first | rfl | simp, below_step y1 y2⟩
set_option maxHeartbeats 2000000 in
theorem xorC_any (h : Held w g2 g3 g8 g9 Aa na ca Ab nb cb a b) (x : Int) : Calls Tryd.prog 34 (#[.int .i64 x] ++ #[.pointer (some ⟨g8, 0, none⟩), .pointer (some ⟨g9, 0, none⟩)]) w (RetV (.bool (hasR a x != hasR b x)) w) := by
  obtain ⟨u, hu⟩ : ∃ u, hasR a x = u := ⟨_, rfl⟩
  obtain ⟨v, hv⟩ : ∃ v, hasR b x = v := ⟨_, rfl⟩
  have HH1 := Lib.hid (fun W (hW : Below w.heap.size w W) => (h.on hW).isX x u hu)
  have HH2 := Lib.hid (fun W (hW : Below w.heap.size w W) => (h.on hW).isY x v hv)
  have h8 := h.x8
  have h9 := h.x9
  rw [hu, hv]
  clear hu hv h
  obtain ⟨W0, hW0⟩ : ∃ W0, W0 = w := ⟨_, rfl⟩
  rw [← hW0] at HH1 HH2 h8 h9 ⊢
  clear hW0
  go_enter Tryd.func34, Tryd.ntmps34
  go_wp2_with fail
  refine Rg.wp_region_frame (q := 8) (n := 8) (m := 12) (ds := fun i => (5 :: 6 :: 7 :: 8 :: 9 :: 10 :: 11 :: 4 :: []).getD i 0) (al := fun i => false) (R := fun i w z => ((Rg.Wd.eq (.func (.func 25) #[] #[.pointer (some ⟨g2, 0, none⟩)]) :: Rg.Wd.eq (.int .i64 x) :: Rg.Wd.eq (.bool u) :: Rg.Wd.eq (.func (.func 26) #[] #[.pointer (some ⟨g3, 0, none⟩)]) :: Rg.Wd.eq (.int .i64 x) :: Rg.Wd.eq (.bool v) :: Rg.Wd.eq (.bool (u != v)) :: Rg.Wd.eq (.bool (u != v)) :: []).getD i (.eq undef)).ok w z)
    (fun fr k a w => k = 8 ∧ a.tmps.size = 12 ∧ a.defers = [] ∧ (∀ k, k < 12 → (∀ i, i < 8 → (5 :: 6 :: 7 :: 8 :: 9 :: 10 :: 11 :: 4 :: []).getD i 0 ≠ k) → a.tmps.getD k undef = fr k) ∧ a.tmps.getD 4 undef = .bool (u != v) ∧ Below W0.heap.size W0 w)
    (by kernel_rfl) rfl (by decide) (by kernel_rfl) (by kernel_rfl) (by decide) (by decide) (fun j v w w' hb h => Rg.Wd.stable hb h) rfl rfl ?opsX ?midX ?tailX ?endX
  case midX =>
    intro a' w' h1 h2 h3 h4 h5 _ _
    exact ⟨rfl, h1, h2, h4, h5 7 (by decide), h3⟩
  case tailX =>
    iterate 8 refine ⟨fun h => absurd h (by decide), ?_⟩
    trivial
  case endX =>
    rintro ⟨t, d⟩ w' ⟨_, hsz, hd, hrest, h4, hbE⟩
    have hd' : d = [] := hd
    have hsz' : t.size = 12 := hsz
    have h4' : t.getD 4 undef = .bool (u != v) := h4
    have e := Rg.arr_eta t 12 hsz'
    subst hd'
    change t = List.toArray (t.getD 0 undef :: t.getD 1 undef :: t.getD 2 undef :: t.getD 3 undef :: t.getD 4 undef :: t.getD 5 undef :: t.getD 6 undef :: t.getD 7 undef :: t.getD 8 undef :: t.getD 9 undef :: t.getD 10 undef :: t.getD 11 undef :: []) at e
    rw [h4'] at e
    clear hrest hsz hd hsz' h4 h4'
    generalize t.getD 0 undef = u0 at e
    generalize t.getD 1 undef = u1 at e
    generalize t.getD 2 undef = u2 at e
    generalize t.getD 3 undef = u3 at e
    generalize t.getD 5 undef = u5 at e
    generalize t.getD 6 undef = u6 at e
    generalize t.getD 7 undef = u7 at e
    generalize t.getD 8 undef = u8 at e
    generalize t.getD 9 undef = u9 at e
    generalize t.getD 10 undef = u10 at e
    generalize t.getD 11 undef = u11 at e
    subst e
    go_wp2_with fail
    go_ret
    exact ⟨rfl, hbE⟩
  case opsX =>
    refine ⟨fun _ => ⟨rfl, fun l a w' hI hdeps => ⟨Rg.wanted_none rfl, fun K hK => ?_⟩⟩, ?_⟩
    · have hbw : Below W0.heap.size W0 w' := ⟨hI.below.os, hI.below.tape, hI.below.output, hI.below.size, hI.below.block⟩
      have e1 : a.tmps.getD 1 undef = .pointer (some ⟨g8, 0, none⟩) := hI.rest 1 (by decide) (by decide)
      exact Rg.wp_load41 rfl e1 ((h8.on hbw).cell0) (hK _ _ (Below.refl _ _) rfl (fun h => absurd h (by decide)))
    refine ⟨fun _ => ⟨rfl, fun l a w' hI hdeps => ⟨Rg.wanted_none rfl, fun K hK => ?_⟩⟩, ?_⟩
    · have hbw : Below W0.heap.size W0 w' := ⟨hI.below.os, hI.below.tape, hI.below.output, hI.below.size, hI.below.block⟩
      have e0 : a.tmps.getD 0 undef = .int .i64 x := hI.rest 0 (by decide) (by decide)
      exact Rg.wp_move rfl (hK _ _ (Below.refl _ _) e0 (fun h => absurd h (by decide)))
    refine ⟨fun _ => ⟨rfl, fun l a w' hI hdeps => ⟨Rg.wanted_none rfl, fun K hK => ?_⟩⟩, ?_⟩
    · have hbw : Below W0.heap.size W0 w' := ⟨hI.below.os, hI.below.tape, hI.below.output, hI.below.size, hI.below.block⟩
      have e5 : a.tmps.getD 5 undef = .func (.func 25) #[] #[.pointer (some ⟨g2, 0, none⟩)] := hI.rel 0 (by decide) (hdeps ⟨0, .data⟩ (by simp) rfl)
      have e6 : a.tmps.getD 6 undef = .int .i64 x := hI.rel 1 (by decide) (hdeps ⟨1, .data⟩ (by simp) rfl)
      refine Rg.wp_callv rfl e5 (enters_of Tryd.func25 (by kernel_rfl) rfl) ?_
      rw [e6]
      refine (HH1.out w' hbw).mono ?_
      rintro e w'' ⟨rfl, y⟩
      exact ⟨_, rfl, hK _ _ y rfl (fun h => absurd h (by decide))⟩
    refine ⟨fun _ => ⟨rfl, fun l a w' hI hdeps => ⟨Rg.wanted_none rfl, fun K hK => ?_⟩⟩, ?_⟩
    · have hbw : Below W0.heap.size W0 w' := ⟨hI.below.os, hI.below.tape, hI.below.output, hI.below.size, hI.below.block⟩
      have e2 : a.tmps.getD 2 undef = .pointer (some ⟨g9, 0, none⟩) := hI.rest 2 (by decide) (by decide)
      exact Rg.wp_load41 rfl e2 ((h9.on hbw).cell0) (hK _ _ (Below.refl _ _) rfl (fun h => absurd h (by decide)))
    refine ⟨fun _ => ⟨rfl, fun l a w' hI hdeps => ⟨Rg.wanted_none rfl, fun K hK => ?_⟩⟩, ?_⟩
    · have hbw : Below W0.heap.size W0 w' := ⟨hI.below.os, hI.below.tape, hI.below.output, hI.below.size, hI.below.block⟩
      have e0 : a.tmps.getD 0 undef = .int .i64 x := hI.rest 0 (by decide) (by decide)
      exact Rg.wp_move rfl (hK _ _ (Below.refl _ _) e0 (fun h => absurd h (by decide)))
    refine ⟨fun _ => ⟨rfl, fun l a w' hI hdeps => ⟨Rg.wanted_none rfl, fun K hK => ?_⟩⟩, ?_⟩
    · have hbw : Below W0.heap.size W0 w' := ⟨hI.below.os, hI.below.tape, hI.below.output, hI.below.size, hI.below.block⟩
      have e8 : a.tmps.getD 8 undef = .func (.func 26) #[] #[.pointer (some ⟨g3, 0, none⟩)] := hI.rel 3 (by decide) (hdeps ⟨3, .data⟩ (by simp) rfl)
      have e9 : a.tmps.getD 9 undef = .int .i64 x := hI.rel 4 (by decide) (hdeps ⟨4, .data⟩ (by simp) rfl)
      refine Rg.wp_callv rfl e8 (enters_of Tryd.func26 (by kernel_rfl) rfl) ?_
      rw [e9]
      refine (HH2.out w' hbw).mono ?_
      rintro e w'' ⟨rfl, y⟩
      exact ⟨_, rfl, hK _ _ y rfl (fun h => absurd h (by decide))⟩
    refine ⟨fun _ => ⟨rfl, fun l a w' hI hdeps => ⟨Rg.wanted_none rfl, fun K hK => ?_⟩⟩, ?_⟩
    · have hbw : Below W0.heap.size W0 w' := ⟨hI.below.os, hI.below.tape, hI.below.output, hI.below.size, hI.below.block⟩
      have e7 : a.tmps.getD 7 undef = .bool u := hI.rel 2 (by decide) (hdeps ⟨2, .data⟩ (by simp) rfl)
      have e10 : a.tmps.getD 10 undef = .bool v := hI.rel 5 (by decide) (hdeps ⟨5, .data⟩ (by simp) rfl)
      exact Rg.wp_neqB rfl e7 e10 (hK _ _ (Below.refl _ _) rfl (fun h => absurd h (by decide)))
    refine ⟨fun _ => ⟨rfl, fun l a w' hI hdeps => ⟨Rg.wanted_none rfl, fun K hK => ?_⟩⟩, ?_⟩
    · have hbw : Below W0.heap.size W0 w' := ⟨hI.below.os, hI.below.tape, hI.below.output, hI.below.size, hI.below.block⟩
      have e11 : a.tmps.getD 11 undef = .bool (u != v) := hI.rel 6 (by decide) (hdeps ⟨6, .data⟩ (by simp) rfl)
      exact Rg.wp_assign rfl (hK _ _ (Below.refl _ _) e11 (fun h => absurd h (by decide)))
    trivial
/-- What is asked of all but one. -/
theorem notC_any (g10 : Nat) (cA : Nat) (h : Held w g2 g3 g8 g9 Aa na ca Ab nb cb a b) (A0 : Option Addr) (hX : Blk w g10 22 #[.slice A0 1 cA]) (hA : PairAt w A0 [((0 : Int), (1114111 : Int))]) (x : Int) :
    Calls Tryd.prog 36 (#[.int .i64 x] ++ #[.pointer (some ⟨g10, 0, none⟩), .pointer (some ⟨g8, 0, none⟩)]) w (RetV (.bool (hasR [((0 : Int), (1114111 : Int))] x && !hasR a x)) w) := by
  have H1 := Lib.hid (fun W (hW : Below w.heap.size w W) v hv => (h.on hW).isX x v hv)
  have H0 := Lib.hid (fun v hv => refHas_any A0 1 cA [((0 : Int), (1114111 : Int))] x v w rfl hA (by omega) hv)
  have h8 := h.x8
  have k10 := hX.cell0
  obtain ⟨u, hu⟩ : ∃ u, hasR [((0 : Int), (1114111 : Int))] x = u := ⟨_, rfl⟩
  obtain ⟨v, hv⟩ : ∃ v, hasR a x = v := ⟨_, rfl⟩
  have HH0 := Lib.hid (H0.out u hu)
  have HH1 := Lib.hid (fun W hW => H1.out W hW v hv)
  rw [hu, hv]
  clear H1 H0 hu hv h hA
  cases u with
  | false =>
    go_enter Tryd.func36, Tryd.ntmps36
    go_wp2_with fail
    refine HH0.out.mono ?_
    rintro e w1 ⟨rfl, y1⟩
    go_wp2
    go_ret
    exact ⟨rfl, y1⟩
  | true =>
    go_enter Tryd.func36, Tryd.ntmps36
    go_wp2_with fail
    refine HH0.out.mono ?_
    rintro e w1 ⟨rfl, y1⟩
    have k8 := (h8.on y1).cell0
    go_wp2_with fail
    refine (HH1.out _ y1).mono ?_
    rintro e w2 ⟨rfl, y2⟩
    go_wp2
    go_ret
    exact ⟨by first | rfl | simp, below_step y1 y2⟩
end
end Go.Proofs.YtccbofaefpbhlaaDoor
