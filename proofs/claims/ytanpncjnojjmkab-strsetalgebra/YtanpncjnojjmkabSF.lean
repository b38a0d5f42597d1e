/-
  Begin and Between of a set of texts: their walks.
-/
import Derived.Test.YtanpncjnojjmkabSE
namespace Go.Proofs.Ytanpncjnojjmkab
set_option linter.unusedVariables false
set_option maxRecDepth 20000
open Go.RowKit

theorem below_dn (w : World) (n : Nat) : Below w.heap.size w (w.drewN n) := ⟨rfl, rfl, rfl, Nat.le_refl _, fun _ _ => rfl⟩
set_option maxHeartbeats 1000000 in
theorem begin1_any (A : Option Addr) (c : Nat) (l : List Tx) (x : Tx) (R X i : Nat) (w : World) (hp : Part w A c l) (hi : i < l.length) (hl : l.length ≤ 1000000) (hR : w.cell? ⟨R, 0, none⟩ = some (.slice A l.length c)) (hX : w.cell? ⟨X, 0, none⟩ = some (.string ⟨x.toArray⟩)) :
    Calls Try.prog 35 (#[.int .i64 (i : Int)] ++ #[.pointer (some ⟨R, 0, none⟩), .pointer (some ⟨X, 0, none⟩)]) w (RetV (.bool (!beg x (l.getD i []))) w) := by
  obtain ⟨hlc, hp⟩ := hp
  rcases hp with ⟨_, h0, _⟩ | ⟨ad, rfl, hb, hc⟩
  · rw [h0] at hi; simp at hi
  have hci := hc i hi
  have HH := Lib.hid fun W => Try.strings_HasPrefix ⟨(l.getD i []).toArray⟩ ⟨x.toArray⟩ W
  change Hid (∀ W, Calls Try.prog 36 #[.string ⟨(l.getD i []).toArray⟩, .string ⟨x.toArray⟩] W fun e w' => e = .returned (.bool (beg x (l.getD i []))) ∧ w' = W) at HH
  clear hc
  generalize beg x (l.getD i []) = r at *
  generalize l.getD i [] = y at *
  generalize l.length = n at *
  go_enter Try.func35, Try.ntmps35
  go_wp2
  go_quiet ((go_at_call 36; exact Calls.quiet_of_same (HH.out _)))
  go_wp2
  go_ret
  exact ⟨rfl, below_dn w _⟩

theorem blk_three (w : World) (o1 o2 : Obj) (t : TypeId) (cs : Array Value) : Blk (((w.alloc o1).alloc o2).alloc (.cells cs t)) (w.heap.size + 1 + 1) t cs := by
  have := Blk.new ((w.alloc o1).alloc o2) t cs
  simpa using this
theorem blk_two (w : World) (o1 : Obj) (t : TypeId) (cs : Array Value) : Blk ((w.alloc o1).alloc (.cells cs t)) (w.heap.size + 1) t cs := by
  have := Blk.new (w.alloc o1) t cs
  simpa using this
theorem keep2 {W w' : World} {g g' : Nat} {t t' : TypeId} {x y : Value} (h : Blk W g t #[x]) (h' : Blk W g' t' #[y]) (hb : Below W.heap.size W w') : w'.cell? ⟨g, 0, none⟩ = some x ∧ w'.cell? ⟨g', 0, none⟩ = some y := ⟨(h.on hb).cell0, (h'.on hb).cell0⟩

theorem bel_new {V W : World} (h : Below V.heap.size V W) (o : Obj) : Below V.heap.size V (W.alloc o) := h.alloc h.size o
theorem bel_set {B g o : Nat} {V W : World} (h : Below B V W) (hp : B ≤ g) (u : Value) : Below B V (W.setCell ⟨g, o, none⟩ u) := h.setCell (p := ⟨g, o, none⟩) hp u
theorem bel_drew {B : Nat} {V W : World} (h : Below B V W) : Below B V W.drew := h.drew
/-- A new box of a slice. -/
def BoxR (W : World) (s u : Value) (wx : World) : Prop := ∃ g, u = .pointer (some ⟨g, 0, none⟩) ∧ Blk wx g 22 #[s] ∧ W.heap.size ≤ g ∧ Below W.heap.size W wx
theorem boxR_new {W x1 : World} {s : Value} (h : Below W.heap.size W x1) : BoxR W s (.pointer (some ⟨x1.heap.size, 0, none⟩)) (x1.alloc (.cells #[s] 22)) :=
  ⟨_, rfl, Blk.new x1 22 #[s], h.size, bel_new h _⟩
theorem boxR_old {W x1 : World} {s s0 : Value} (h : Below (W.alloc (.cells #[s0] 22)).heap.size (W.alloc (.cells #[s0] 22)) x1) : BoxR W s (.pointer (some ⟨W.heap.size, 0, none⟩)) (x1.setCell ⟨W.heap.size, 0, none⟩ s) :=
  ⟨_, rfl, (Blk.over h).set0 s, Nat.le_refl _, (below_step (below_new W _) h).setCell (p := ⟨W.heap.size, 0, none⟩) (Nat.le_refl _) s⟩
theorem boxR_set {W x1 : World} {s s0 : Value} (h : Below W.heap.size W x1) : BoxR W s (.pointer (some ⟨x1.heap.size, 0, none⟩)) ((x1.alloc (.cells #[s0] 22)).setCell ⟨x1.heap.size, 0, none⟩ s) :=
  ⟨_, rfl, (Blk.new x1 22 #[s0]).set0 s, h.size, (bel_new h _).setCell (p := ⟨x1.heap.size, 0, none⟩) h.size s⟩

set_option maxHeartbeats 2000000 in
theorem begin_any (v : Value) (l : List Tx) (x : Tx) (w : World) (h : IsS w v l) : Calls Try.prog 24 #[v, .string ⟨x.toArray⟩] w (RetS (begOf l x) w) := by
  have hi0 := Lib.hid fun W hb => index_any v l x W (h.below hb)
  obtain ⟨u, rfl, ht, hr, hn⟩ := h
  obtain ⟨A, c, rfl, hlc, _⟩ := ht.form
  have hle := less_le l x
  obtain ⟨A', hp, hsl, _⟩ := ht.part.from_ hle (by omega)
  have hrr := begOf_take (hr.drop (less l x)) (drop_less hr x)
  rw [begOf_drop hr x] at hrr
  have hdl : (l.drop (less l x)).length = l.length - less l x := List.length_drop
  obtain ⟨hb1, hb2, hb3⟩ := hrr
  have hup := hp.upto hb2
  rw [hdl] at hup hb2
  have HS : Hid (∀ W, Below w.heap.size w W → ∀ R X : Nat, W.cell? ⟨R, 0, none⟩ = some (.slice A' (l.length - less l x) (c - less l x)) → W.cell? ⟨X, 0, none⟩ = some (.string ⟨x.toArray⟩) → R < W.heap.size → X < W.heap.size →
      Calls Try.prog 34 #[.int .i64 ((l.length - less l x : Nat) : Int), .func (.func 35) #[] #[.pointer (some ⟨R, 0, none⟩), .pointer (some ⟨X, 0, none⟩)]] W (RetV (.int .i64 (runOf (l.drop (less l x)) x : Nat)) W)) :=
    Lib.hid fun W hb R X hR hX hRl hXl => search_any 35 _ _ _ (fun i => !beg x ((l.drop (less l x)).getD i [])) W (by omega) hb2 (fun i hi => by
      have := hb3 i (by rw [hdl]; exact hi)
      cases hc : beg x ((l.drop (less l x)).getD i []) with
      | true => rw [hc] at this; have := this.1 rfl; simp; omega
      | false => rw [hc] at this; have h4 : ¬ i < runOf (l.drop (less l x)) x := (fun h5 => by have := this.2 h5; cases this); simp; omega) (enters_of Try.func35 (by kernel_rfl) rfl) (fun W' hb' i hi => begin1_any A' (c - less l x) (l.drop (less l x)) x R X i W' ((hp.below hb).below hb') (by rw [hdl]; exact hi) (by rw [hdl]; omega) (by rw [hdl]; exact (hb'.cell (p := ⟨R, 0, none⟩) hRl).trans hR) ((hb'.cell (p := ⟨X, 0, none⟩) hXl).trans hX))
  have HP : Hid (∀ W, Below w.heap.size w W → Calls Try.prog 26 #[.slice A' (runOf (l.drop (less l x)) x) (c - less l x)] W (RetT (begOf l x) W)) := Lib.hid fun W hb => by
    have h1 := ((hp.below hb).take (runOf (l.drop (less l x)) x)).copied (by rw [List.length_take]; omega)
    rw [← hb1] at h1
    have h2 : (begOf l x).length = runOf (l.drop (less l x)) x := by rw [hb1, List.length_take, hdl]; omega
    rw [h2] at h1
    exact h1
  have hrise : Rise (begOf l x) := hr.filter _
  have hsize : (begOf l x).length ≤ 100 := Nat.le_trans (List.length_filter_le _ _) hn
  have HU := Lib.hid hup
  have HSL := Lib.hid hsl
  clear hup hsl hb1 hb3 hp ht hdl
  generalize less l x = k at *
  generalize runOf (l.drop k) x = m at *
  generalize begOf l x = B at *
  generalize l.length = n at *
  go_enter Try.func24, Try.ntmps24
  go_upto_region 1 with fail
  have hS1 : Blk (((w.alloc (.cells #[.slice A n c] 26)).alloc (.cells #[.string ⟨x.toArray⟩] 9)).alloc (.cells #[.slice none 0 0] 26)) w.heap.size 26 #[.slice A n c] := ((Blk.new w 26 _).alloc _).alloc _
  have hX1 : Blk (((w.alloc (.cells #[.slice A n c] 26)).alloc (.cells #[.string ⟨x.toArray⟩] 9)).alloc (.cells #[.slice none 0 0] 26)) (w.heap.size + 1) 9 #[.string ⟨x.toArray⟩] := (blk_two w _ 9 _).alloc _
  have hR1 := blk_three w (.cells #[.slice A n c] 26) (.cells #[.string ⟨x.toArray⟩] 9) 26 #[.slice none 0 0]
  have bW : Below w.heap.size w (((w.alloc (.cells #[.slice A n c] 26)).alloc (.cells #[.string ⟨x.toArray⟩] 9)).alloc (.cells #[.slice none 0 0] 26)) := below_step (below_step (below_new w _) (below_new _ _)) (below_new _ _)
  have hWs : (((w.alloc (.cells #[.slice A n c] 26)).alloc (.cells #[.string ⟨x.toArray⟩] 9)).alloc (.cells #[.slice none 0 0] 26)).heap.size = w.heap.size + 3 := by simp
  generalize (((w.alloc (.cells #[.slice A n c] 26)).alloc (.cells #[.string ⟨x.toArray⟩] 9)).alloc (.cells #[.slice none 0 0] 26)) = W at *
  have HWs : w.heap.size + 3 ≤ W.heap.size := by omega
  clear hWs
  go_cut [5] (fun u5 wx => BoxR W (.slice A' (n - k) (c - k)) u5 wx)
  case first =>
    have hq := fun W' => HSL.out W'
    have bWd := bel_drew bW
    have bWn := fun o => below_step bW (below_new W o)
    go_region_held3 (fun w' => w'.cell? ⟨w.heap.size, 0, none⟩ = some (.slice A n c) ∧ w'.cell? ⟨w.heap.size + 1, 0, none⟩ = some (.string ⟨x.toArray⟩))
      ((refine keep2 hS1 hX1 ?_; (repeat (first | exact hw1 | exact Below.refl _ _ | refine bel_drew ?_ | refine bel_new ?_ _ | refine bel_set ?_ (Nat.le_refl _) _ | refine bel_set ?_ hw1.size _))))
      (first
        | (go_at_call 20; (with_reducible refine (hi0.out _ (below_step bW (below_drew _))).mono ?_); rintro e x1 ⟨rfl, y1⟩; have hw1 : Below W.heap.size W x1 := below_step (below_drew _) y1)
        | (go_at_call 20; (with_reducible refine (hi0.out _ (below_step (bWn _) (below_drew _))).mono ?_); rintro e x1 ⟨rfl, y1⟩; have hold := below_step (below_drew _) y1; have c5 := (Blk.over hold).cell0; have f5 := (Blk.over hold).free 0; have hw1 : Below W.heap.size W x1 := below_step (below_new W _) hold))
    all_goals go_wp2_with fail
    all_goals go_meet
    all_goals first | exact boxR_new hw1 | exact boxR_old hold
  case rest =>
    obtain ⟨g5, rfl, hB5, hg5, hb5⟩ := hcut
    have c5 := hB5.cell0
    have l5 := hB5.lt
    have b5 := below_step bW hb5
    have hX5 := hX1.on hb5
    have hR5 := hR1.on hb5
    have cX := hX5.cell0
    have HC := Lib.hid (HS.out wc b5 g5 (w.heap.size + 1) c5 cX l5 hX5.lt)
    clear HS hi0 HSL
    generalize hnk : n - k = p at *
    clear hnk
    go_wp2_with fail
    with_reducible refine HC.out.mono ?_
    rintro e w6 ⟨rfl, y6⟩
    have c6 := (hB5.on y6).cell0
    have hR6 := hR5.on y6
    have b6 := below_step b5 y6
    have hup := HU.out
    have hcp := Lib.hid (HP.out w6 b6)
    go_wp2_with fail
    with_reducible refine hcp.out.mono ?_
    rintro e w7 ⟨v7, rfl, ht7, y7⟩
    have hR7 := hR6.on y7
    have b7 := below_step b6 y7
    obtain ⟨a7, q7, rfl, _⟩ := ht7.form
    have hq := (hR7.set0 (.slice a7 B.length q7)).cell0
    have c7 := hR7.cell0
    have f7 := hR7.free 0
    have ht8 : IsT (w7.setCell ⟨w.heap.size + 1 + 1, 0, none⟩ (.slice a7 B.length q7)) (.slice a7 B.length q7) B := by
      rcases ht7 with h | ⟨g, c, cs, e, h1, h2, h3⟩
      · exact .inl h
      · exact .inr ⟨g, c, cs, e, h1, h2.far (h2.ne_ hR7 (by decide)) _, h3⟩
    have y8 := b7.setCell (p := ⟨w.heap.size + 1 + 1, 0, none⟩) (show w.heap.size ≤ w.heap.size + 1 + 1 by omega) (.slice a7 B.length q7)
    clear c5 c6 cX hup HU hcp HP HC
    go_wp2
    exact bodyPost_ret (v := .agg #[.slice a7 B.length q7]) (by simp [results, Try.results24, go_sem, hq]) rfl ⟨_, rfl, ⟨_, rfl, ht8, hrise, hsize⟩, y8⟩
end Go.Proofs.Ytanpncjnojjmkab
