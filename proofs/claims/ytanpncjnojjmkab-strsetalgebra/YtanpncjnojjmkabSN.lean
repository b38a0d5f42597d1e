/-
  merge.
-/
import Derived.Test.YtanpncjnojjmkabSM
namespace Go.Proofs.Ytanpncjnojjmkab
set_option linter.unusedVariables false
set_option maxRecDepth 100000
open Go.RowKit Go.Shelf

attribute [local go_sem] Oper.semAt_some

theorem Blk.put {W : World} {g D : Nat} {t : TypeId} {cs : Array Value} {ds : Option (List Deferred)} (h : Blk W g t cs) (hD : W.heap[D]? = some (.deferred ds)) (o : Obj) : Blk (W.putObj D o) g t cs := by
  have hne : g ≠ D := by rintro rfl; unfold Blk at h; rw [h] at hD; cases hD
  unfold Blk at h ⊢
  rw [World.putObj_heap_other hne]
  exact h
theorem IsT.put {W : World} {D : Nat} {v : Value} {l : List Tx} {ds : Option (List Deferred)} (h : IsT W v l) (hD : W.heap[D]? = some (.deferred ds)) (o : Obj) : IsT (W.putObj D o) v l := by
  rcases h with h | ⟨g, c, cs, e, h1, h2, h3⟩
  · exact .inl h
  · exact .inr ⟨g, c, cs, e, h1, h2.put hD o, h3⟩
set_option maxHeartbeats 8000000 in
theorem merge_any (u v kv : Value) (la lb : List Tx) (ks : List Int) (w : World) (ha : IsS w u la) (hb : IsS w v lb) (hk : IsI w kv ks) (hks : ks.length ≤ 3) (hsz : la.length + lb.length ≤ 100) :
    Calls Try.prog 30 #[u, v, kv] w (RetS (keepOf ks (sidesOf la lb)) w) := by
  obtain ⟨i0, hi, hz0, hz1, hz2⟩ := info_parts str_info
  obtain ⟨u1, rfl, ta, ra, na'⟩ := ha
  obtain ⟨v1, rfl, tb, rb, nb'⟩ := hb
  obtain ⟨A, ca, rfl, hlca, _⟩ := ta.form
  obtain ⟨B, cb, rfl, hlcb, _⟩ := tb.form
  have hrise := keepOf_rise ks ra rb
  have hlen := Nat.le_trans (keepOf_len ks (sidesOf la lb)) (sidesOf_len la lb)
  have hsl := sidesOf_len la lb
  have pa := ta.part
  have pb := tb.part
  have HK := Lib.hid fun W (hW : Below w.heap.size w W) k => contains_any kv ks k W (hk.below hW) (by omega)
  obtain ⟨gk, ck, rfl, _, _⟩ := hk
  obtain ⟨na, hna⟩ : ∃ n, Hid (la.length = n) := ⟨_, rfl⟩
  obtain ⟨nb, hnb⟩ : ∃ n, Hid (lb.length = n) := ⟨_, rfl⟩
  obtain ⟨nk, hnk⟩ : ∃ n, Hid (ks.length = n) := ⟨_, rfl⟩
  rw [hnk.out] at HK ⊢
  have HSi := Lib.hid fun W => sides_any A B la.length ca lb.length cb W
  have HST := Lib.hid fun (W : World) (n₀ Bs Bt : Nat) h1 h2 h3 h4 h5 h6 h7 => sides_stops 4 (by decide) Bs Bt n₀ A B ca cb la lb (by omega) (by omega) W h1 h2 h3 h4 h5 h6 h7
  rw [hna.out, hnb.out] at HSi HST ⊢
  clear ta tb hlca hlcb
  refine (callsIn_wide (n := 5)).1 ?_
  refine callsIn_of_wp_marks Try.func30 rfl trivial ?_ rfl
  simp only [Try.ntmps30, List.size_toArray, List.length_cons, List.length_nil, Nat.reduceAdd, Nat.reduceSub, Array.replicate_succ, Array.replicate_zero, List.push_toArray, List.append_toArray, List.nil_append, List.cons_append]
  gi_wp2_with fail
  have hV1 : Below w.heap.size w ((((w.alloc (.cells #[.slice A na ca] 26)).alloc (.cells #[.slice B nb cb] 26)).alloc (.cells #[.slice (some ⟨gk, 0, none⟩) nk ck] 62)).alloc (.cells #[.slice none 0 0] 26)) := below_step (below_step (below_step (below_new w _) (below_new _ _)) (below_new _ _)) (below_new _ _)
  have hVk : Blk ((((w.alloc (.cells #[.slice A na ca] 26)).alloc (.cells #[.slice B nb cb] 26)).alloc (.cells #[.slice (some ⟨gk, 0, none⟩) nk ck] 62)).alloc (.cells #[.slice none 0 0] 26)) (w.heap.size + 1 + 1) 62 #[.slice (some ⟨gk, 0, none⟩) nk ck] := (blk_three w _ _ 62 _).alloc _
  have hVr : Blk ((((w.alloc (.cells #[.slice A na ca] 26)).alloc (.cells #[.slice B nb cb] 26)).alloc (.cells #[.slice (some ⟨gk, 0, none⟩) nk ck] 62)).alloc (.cells #[.slice none 0 0] 26)) (w.heap.size + 1 + 1 + 1) 26 #[.slice none 0 0] := by
    have := Blk.new (((w.alloc (.cells #[.slice A na ca] 26)).alloc (.cells #[.slice B nb cb] 26)).alloc (.cells #[.slice (some ⟨gk, 0, none⟩) nk ck] 62)) 26 #[.slice none 0 0]
    simpa using this
  have hVs : ((((w.alloc (.cells #[.slice A na ca] 26)).alloc (.cells #[.slice B nb cb] 26)).alloc (.cells #[.slice (some ⟨gk, 0, none⟩) nk ck] 62)).alloc (.cells #[.slice none 0 0] 26)).heap.size = w.heap.size + 1 + 1 + 1 + 1 := by simp
  have pa := (pa.below hV1).at_n
  have pb := (pb.below hV1).at_n
  rw [← hVs]
  generalize ((((w.alloc (.cells #[.slice A na ca] 26)).alloc (.cells #[.slice B nb cb] 26)).alloc (.cells #[.slice (some ⟨gk, 0, none⟩) nk ck] 62)).alloc (.cells #[.slice none 0 0] 26)) = V at *
  have hVs1 : w.heap.size + 4 ≤ V.heap.size := by omega
  clear hVs
  refine ⟨trivial, (callsIn_wide.2 (HSi.out _)).mono ?_⟩
  rintro e w' ⟨rfl, rfl⟩
  rw [World.size_alloc]
  have bT : Boxed (((V.alloc (.cells #[.slice none 0 0] 22)).alloc (.cells #[.slice A na ca] 26)).alloc (.cells #[.slice B nb cb] 26)) V.heap.size 22 (.slice none 0 0) := ((Boxed.new V 22 (.slice none 0 0)).alloc _).alloc _
  have cS : (((V.alloc (.cells #[.slice none 0 0] 22)).alloc (.cells #[.slice A na ca] 26)).alloc (.cells #[.slice B nb cb] 26)).cell? ⟨V.heap.size + 1, 0, none⟩ = some (.slice A na ca) := ((blk_two V (.cells #[.slice none 0 0] 22) 26 #[.slice A na ca]).alloc _).cell0
  have cT : (((V.alloc (.cells #[.slice none 0 0] 22)).alloc (.cells #[.slice A na ca] 26)).alloc (.cells #[.slice B nb cb] 26)).cell? ⟨V.heap.size + 1 + 1, 0, none⟩ = some (.slice B nb cb) := (blk_three V (.cells #[.slice none 0 0] 22) (.cells #[.slice A na ca] 26) 26 #[.slice B nb cb]).cell0
  have y0 : Below V.heap.size V (((V.alloc (.cells #[.slice none 0 0] 22)).alloc (.cells #[.slice A na ca] 26)).alloc (.cells #[.slice B nb cb] 26)) := below_step (below_step (below_new V _) (below_new _ _)) (below_new _ _)
  have hs0 : (((V.alloc (.cells #[.slice none 0 0] 22)).alloc (.cells #[.slice A na ca] 26)).alloc (.cells #[.slice B nb cb] 26)).heap.size = V.heap.size + 1 + 1 + 1 := by simp
  generalize (((V.alloc (.cells #[.slice none 0 0] 22)).alloc (.cells #[.slice A na ca] 26)).alloc (.cells #[.slice B nb cb] 26)) = W0 at *
  gi_wp2_with fail
  refine wpIn_rangeFunc_ownG rfl (by decide) (gf := 41) (lb := #[.pointer (some ⟨V.heap.size + 1, 0, none⟩), .pointer (some ⟨V.heap.size + 1 + 1, 0, none⟩)]) rfl trivial (enters_of Try.func41 (by kernel_rfl) rfl)
    (HST.out W0 V.heap.size (V.heap.size + 1) (V.heap.size + 1 + 1) (by omega) cS (by omega) cT (by omega) (pa.below y0) (pb.below y0))
    belowK_t (belowK_b (by omega)) (Below.refl _ _) (fun _ => rfl)
    (fun pre W => (∃ v, Boxed W V.heap.size 22 v ∧ W.ownsRow V.heap.size 9 1 v (keepOf ks pre).length (strC (keepOf ks pre)) ∧ True) ∧ Below V.heap.size V W)
    (fun _ _ _ => False)
    (OwnFrom.and (Own.from (holdsRow_own V.heap.size V.heap.size 22 9 1 (fun pre => (keepOf ks pre).length) (fun pre => strC (keepOf ks pre)) (fun _ _ => True)) _) (ownFrom_below (Nat.le_refl _) (by omega)))
    (fun _ _ _ _ _ hs _ _ => hs)
    ⟨⟨_, bT, by simpa [keepOf, strC] using World.ownsRow_nil W0 V.heap.size 9 1, trivial⟩, y0⟩
    (fun x => { tmps := #[.agg #[.slice A na ca], .agg #[.slice B nb cb], .slice (some ⟨gk, 0, none⟩) nk ck, .pointer (some ⟨w.heap.size, 0, none⟩), .pointer (some ⟨w.heap.size + 1, 0, none⟩), .pointer (some ⟨w.heap.size + 1 + 1, 0, none⟩), .pointer (some ⟨w.heap.size + 1 + 1 + 1, 0, none⟩), .pointer (some ⟨V.heap.size, 0, none⟩), .string ⟨x.1.toArray⟩, .int .i64 x.2, .agg #[.slice A na ca], .agg #[.slice B nb cb], .func (.func 41) #[] #[.pointer (some ⟨V.heap.size + 1, 0, none⟩), .pointer (some ⟨V.heap.size + 1 + 1, 0, none⟩)], .string ⟨x.1.toArray⟩, .int .i64 x.2, undef, undef, undef, undef, undef, undef, undef, undef, undef], defers := [] }) ?assign ?body ?done ?stop
  case assign =>
    intro l' x W K hK
    gi_wp2
    exact hK
  case body =>
    rintro l' pre x W ⟨⟨v, hv, hr, _⟩, hB⟩ hpl
    obtain ⟨ao, cp, rfl⟩ := own_form hr
    have hcv := hv.cell
    have hck := (hVk.on hB).cell0
    have hBs := hB.size
    have hkl := keepOf_len ks pre
    have HKc := Lib.hid (HK.out W (below_step hV1 hB) x.2)
    have hsn := keepOf_snoc ks pre x
    have HSN := Lib.hid hsn
    clear hsn HST HSi
    by_cases hx : x.2 ∈ ks
    · rw [decide_eq_true hx] at HKc
      have HX := Lib.hid hx
      clear hx
      gi_wp2_with fail
      refine ⟨trivial, (CallsIn.inRound l' (callsIn_wide.2 HKc.out)).mono ?_⟩
      rintro e W3 ⟨rfl, rfl⟩
      gi_wp2_with (gi_at_builtin; refine wpListIn_append_own _ rfl _ _ 22 rfl V.heap.size 9 i0 (.string ⟨#[]⟩) 1 16 Try.underlying22 hi hz0 hz1 hz2 rfl (by decide) _ _ _ rfl (hr.alloc _) ⟨W.heap.size, 0, none⟩ 1 1 [.string ⟨x.1.toArray⟩] rfl rfl (cell_one_new _ _ _) (by simp [Value.oneCell']) (by unfold maxLen; omega) (by omega) (by simp; omega) ?_; intro v' w1 hown' hgrow _; obtain ⟨g', cap', rfl⟩ := ownsRow_succ hown'; obtain ⟨hv1, hv2, hr2, hk2, hb2⟩ := hv.appended (by decide) hr hB.size (Nat.le_refl _) hown' hgrow; have hc1 := hv1.cell; have hf1 := hv1.frozen)
      refine ⟨hk2.from _, hb2, ⟨_, hv2, ?_, trivial⟩, hB.trans hb2⟩
      rw [HSN.out, if_pos HX.out]
      simpa [strC] using hr2
    · rw [decide_eq_false hx] at HKc
      have HX := Lib.hid hx
      clear hx
      gi_wp2_with fail
      refine ⟨trivial, (CallsIn.inRound l' (callsIn_wide.2 HKc.out)).mono ?_⟩
      rintro e W3 ⟨rfl, rfl⟩
      gi_wp2
      refine ⟨(KeepsOthers.refl _).from _, Below.refl _ _, ⟨_, hv, ?_, trivial⟩, hB⟩
      rw [HSN.out, if_neg HX.out, List.append_nil]
      exact hr
  case done =>
    rintro D ys W hD rfl ⟨⟨v, hv, hr, _⟩, hB⟩ hK
    have hcv := hv.cell
    have hR := hVr.on hB
    have cR := hR.cell0
    have fR := hR.free 0
    clear HST HSi HK
    have tK := own_isT hr
    obtain ⟨ao, cp, rfl⟩ := own_form hr
    generalize keepOf ks (sidesOf la lb) = KO at *
    have hDl := hR.lt
    have hne : w.heap.size + 1 + 1 + 1 < D := by omega
    have hK1 : (W.setCell ⟨w.heap.size + 1 + 1 + 1, 0, none⟩ (.slice ao KO.length cp)).heap[D]? = some (.deferred (some [])) := (Below.heap_setCell W _ _ D (by show D ≠ w.heap.size + 1 + 1 + 1; omega)).trans hK
    have tK1 : IsT (W.setCell ⟨w.heap.size + 1 + 1 + 1, 0, none⟩ (.slice ao KO.length cp)) (.slice ao KO.length cp) KO := by
      rcases tK with h | ⟨g, c, cs, e, h1, h2, h3⟩
      · exact .inl h
      · exact .inr ⟨g, c, cs, e, h1, h2.far (h2.ne_ hR (by decide)) _, h3⟩
    have hR1 := (hR.set0 (.slice ao KO.length cp)).put hK1 (.deferred none)
    have tK2 := tK1.put hK1 (.deferred none)
    have hq := hR1.cell0
    have bE : Below w.heap.size w ((W.setCell ⟨w.heap.size + 1 + 1 + 1, 0, none⟩ (.slice ao KO.length cp)).putObj D (.deferred none)) :=
      ((below_step hV1 hB).setCell (p := ⟨w.heap.size + 1 + 1 + 1, 0, none⟩) (by show w.heap.size ≤ w.heap.size + 1 + 1 + 1; omega) _).trans (belowK_b (w := w) (Nat.le_refl _) _ D _ _ (by omega) hK1 rfl rfl)
    gi_wp2
    refine ⟨by simp, .inl ⟨_, _, rfl, run_takeDeferred hK1, ?_⟩⟩
    exact ⟨.agg #[.slice ao KO.length cp], by simp [results, Try.results30, go_sem, hq], ⟨_, rfl, ⟨_, rfl, tK2, hrise, by omega⟩, bE⟩⟩
  case stop =>
    rintro D c pre W _ _ h _
    exact h.elim
end Go.Proofs.Ytanpncjnojjmkab
