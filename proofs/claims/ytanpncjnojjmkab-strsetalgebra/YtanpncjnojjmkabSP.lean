/-
  Within.
-/
import Derived.Test.YtanpncjnojjmkabSO
namespace Go.Proofs.Ytanpncjnojjmkab
set_option linter.unusedVariables false
set_option maxRecDepth 100000
open Go.RowKit Go.Shelf

attribute [local go_sem] Oper.semAt_some

set_option maxHeartbeats 8000000 in
theorem within_any (u v : Value) (la lb : List Tx) (w : World) (ha : IsS w u la) (hb : IsS w v lb) :
    Calls Try.prog 15 #[u, v] w (RetV (.bool (withinOf (sidesOf la lb))) w) := by
  obtain ⟨u1, rfl, ta, ra, na'⟩ := ha
  obtain ⟨v1, rfl, tb, rb, nb'⟩ := hb
  obtain ⟨A, ca, rfl, hlca, _⟩ := ta.form
  obtain ⟨B, cb, rfl, hlcb, _⟩ := tb.form
  have pa := ta.part
  have pb := tb.part
  obtain ⟨na, hna⟩ : ∃ n, Hid (la.length = n) := ⟨_, rfl⟩
  obtain ⟨nb, hnb⟩ : ∃ n, Hid (lb.length = n) := ⟨_, rfl⟩
  have HSi := Lib.hid fun W => sides_any A B la.length ca lb.length cb W
  have HST := Lib.hid fun (W : World) (n₀ Bs Bt : Nat) h1 h2 h3 h4 h5 h6 h7 => sides_stops 4 (by decide) Bs Bt n₀ A B ca cb la lb (by omega) (by omega) W h1 h2 h3 h4 h5 h6 h7
  rw [hna.out, hnb.out] at HSi HST ⊢
  clear ta tb hlca hlcb
  refine (callsIn_wide (n := 5)).1 ?_
  refine callsIn_of_wp_marks Try.func15 rfl trivial ?_ rfl
  simp only [Try.ntmps15, List.size_toArray, List.length_cons, List.length_nil, Nat.reduceAdd, Nat.reduceSub, Array.replicate_succ, Array.replicate_zero, List.push_toArray, List.append_toArray, List.nil_append, List.cons_append]
  gi_wp2_with fail
  have hV1 : Below w.heap.size w (((w.alloc (.cells #[.slice A na ca] 26)).alloc (.cells #[.slice B nb cb] 26)).alloc (.cells #[.bool false] 4)) := below_step (below_step (below_new w _) (below_new _ _)) (below_new _ _)
  have hVr := blk_three w (.cells #[.slice A na ca] 26) (.cells #[.slice B nb cb] 26) 4 #[.bool false]
  have hVs : (((w.alloc (.cells #[.slice A na ca] 26)).alloc (.cells #[.slice B nb cb] 26)).alloc (.cells #[.bool false] 4)).heap.size = w.heap.size + 1 + 1 + 1 := by simp
  have pa := (pa.below hV1).at_n
  have pb := (pb.below hV1).at_n
  generalize (((w.alloc (.cells #[.slice A na ca] 26)).alloc (.cells #[.slice B nb cb] 26)).alloc (.cells #[.bool false] 4)) = V at *
  have hVs1 : w.heap.size + 3 ≤ V.heap.size := by omega
  clear hVs
  refine ⟨trivial, (callsIn_wide.2 (HSi.out _)).mono ?_⟩
  rintro e w' ⟨rfl, rfl⟩
  have cS : ((V.alloc (.cells #[.slice A na ca] 26)).alloc (.cells #[.slice B nb cb] 26)).cell? ⟨V.heap.size, 0, none⟩ = some (.slice A na ca) := ((Blk.new V 26 #[.slice A na ca]).alloc _).cell0
  have cT : ((V.alloc (.cells #[.slice A na ca] 26)).alloc (.cells #[.slice B nb cb] 26)).cell? ⟨V.heap.size + 1, 0, none⟩ = some (.slice B nb cb) := (blk_two V (.cells #[.slice A na ca] 26) 26 #[.slice B nb cb]).cell0
  have y0 : Below V.heap.size V ((V.alloc (.cells #[.slice A na ca] 26)).alloc (.cells #[.slice B nb cb] 26)) := below_step (below_new V _) (below_new _ _)
  have hs0 : ((V.alloc (.cells #[.slice A na ca] 26)).alloc (.cells #[.slice B nb cb] 26)).heap.size = V.heap.size + 1 + 1 := by simp
  generalize ((V.alloc (.cells #[.slice A na ca] 26)).alloc (.cells #[.slice B nb cb] 26)) = W0 at *
  gi_wp2_with fail
  refine wpIn_rangeFunc_ownG rfl (by decide) (gf := 41) (lb := #[.pointer (some ⟨V.heap.size, 0, none⟩), .pointer (some ⟨V.heap.size + 1, 0, none⟩)]) rfl trivial (enters_of Try.func41 (by kernel_rfl) rfl)
    (HST.out W0 V.heap.size V.heap.size (V.heap.size + 1) (by omega) cS (by omega) cT (by omega) (pa.below y0) (pb.below y0))
    belowK_t (belowK_b (by omega)) (Below.refl _ _) (fun _ => rfl)
    (fun pre W => (∀ p ∈ pre, p.2 ≠ -1) ∧ Below V.heap.size V W)
    (fun c pre W => (c = .ret ∧ ∃ p ∈ pre, p.2 = -1) ∧ Boxed W (w.heap.size + 1 + 1) 4 (.bool false) ∧ Below w.heap.size w W)
    (OwnFrom.and (ownFrom_pure _ _) (ownFrom_below (Nat.le_refl _) (by omega)))
    (fun c => OwnFrom.and (ownFrom_pure _ _) (OwnFrom.and (Own.from (boxed_own (w.heap.size + 1 + 1) 4 (fun _ => .bool false)) _) (ownFrom_below (Nat.le_refl _) (by omega))))
    ⟨(fun p hp => by cases hp), y0⟩
    (fun x => { tmps := #[.agg #[.slice A na ca], .agg #[.slice B nb cb], .pointer (some ⟨w.heap.size, 0, none⟩), .pointer (some ⟨w.heap.size + 1, 0, none⟩), .pointer (some ⟨w.heap.size + 1 + 1, 0, none⟩), undef, .int .i64 x.2, .agg #[.slice A na ca], .agg #[.slice B nb cb], .func (.func 41) #[] #[.pointer (some ⟨V.heap.size, 0, none⟩), .pointer (some ⟨V.heap.size + 1, 0, none⟩)], .string ⟨x.1.toArray⟩, .int .i64 x.2, undef, undef], defers := [] }) ?assign ?body ?done ?stop
  case assign =>
    intro l' x W K hK
    gi_wp2
    exact hK
  case body =>
    rintro l' pre x W ⟨hall, hB⟩ hpl
    have HA := Lib.hid hall
    have hR := hVr.on hB
    have cR := hR.cell0
    have fR := hR.free 0
    clear hall HST HSi
    by_cases hx : x.2 = -1
    · have HX := Lib.hid hx
      rw [hx]
      clear hx
      gi_wp2
      refine ⟨(KeepsOthers.setCell _ _ _).from _, ⟨rfl, x, by simp, HX.out⟩, hR.set0 _, (below_step hV1 hB).setCell (p := ⟨w.heap.size + 1 + 1, 0, none⟩) (by show w.heap.size ≤ w.heap.size + 1 + 1; omega) _⟩
    · have hne : (x.2 == -1) = false := by rw [beq_eq_false_iff_ne]; exact hx
      gi_wp2
      refine ⟨(KeepsOthers.refl _).from _, Below.refl _ _, fun p hp => ?_, hB⟩
      rw [List.mem_append, List.mem_singleton] at hp
      rcases hp with hp | rfl
      · exact HA.out p hp
      · exact hx
  case done =>
    rintro D ys W hD rfl ⟨hall, hB⟩ hK
    have HA := Lib.hid hall
    have hR := hVr.on hB
    have cR := hR.cell0
    have fR := hR.free 0
    have hRl := hR.lt
    clear hall HST HSi
    have hK1 : (W.setCell ⟨w.heap.size + 1 + 1, 0, none⟩ (.bool true)).heap[D]? = some (.deferred (some [])) := (Below.heap_setCell W _ _ D (by show D ≠ w.heap.size + 1 + 1; omega)).trans hK
    have hR1 := (hR.set0 (.bool true)).put hK1 (.deferred none)
    have hq := hR1.cell0
    have hw : withinOf (sidesOf la lb) = true := by unfold withinOf; rw [decide_eq_true_eq]; exact HA.out
    have HW := Lib.hid hw
    clear hw
    have bE : Below w.heap.size w ((W.setCell ⟨w.heap.size + 1 + 1, 0, none⟩ (.bool true)).putObj D (.deferred none)) :=
      ((below_step hV1 hB).setCell (p := ⟨w.heap.size + 1 + 1, 0, none⟩) (by show w.heap.size ≤ w.heap.size + 1 + 1; omega) _).trans (belowK_b (w := w) (Nat.le_refl _) _ D _ _ (by omega) hK1 rfl rfl)
    gi_wp2
    refine ⟨by simp, .inl ⟨_, _, rfl, run_takeDeferred hK1, ?_⟩⟩
    exact ⟨.bool true, by simp [results, Try.results15, go_sem, hq], by rw [HW.out], bE⟩
  case stop =>
    rintro D c pre W hD hpre ⟨⟨rfl, p, hp, hp1⟩, hR, hB⟩ hK
    have hR1 := Blk.put (W := W) (g := w.heap.size + 1 + 1) (t := 4) (cs := #[.bool false]) hR hK (.deferred none)
    have hq := hR1.cell0
    have hw : withinOf (sidesOf la lb) = false := by
      unfold withinOf
      rw [decide_eq_false_iff_not]
      intro h
      exact h p (hpre.subset hp) hp1
    have HW := Lib.hid hw
    clear hw HST HSi
    gi_wp2
    refine ⟨by simp, .inl ⟨_, _, rfl, run_takeDeferred hK, ?_⟩⟩
    exact ⟨.bool false, by simp [results, Try.results15, go_sem, hq], by rw [HW.out], hB.trans (belowK_b (w := w) (Nat.le_refl _) W D _ _ (by omega) hK rfl rfl)⟩
end Go.Proofs.Ytanpncjnojjmkab
