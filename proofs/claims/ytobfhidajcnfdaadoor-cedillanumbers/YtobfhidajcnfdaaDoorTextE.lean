/-
  digits.Text: the walk.
-/
import Derived.Test.YtobfhidajcnfdaaDoorTextD
namespace Go.Proofs.YtobfhidajcnfdaaDoor
set_option linter.unusedVariables false
set_option maxRecDepth 20000
open Go.RowKit Go.Shelf

attribute [local go_sem] Oper.semAt_some

set_option maxRecDepth 100000 in
set_option maxHeartbeats 4000000 in
theorem text_any (v : Value) (k N : Nat) (w : World) (h : IsN w v k N) (hk : k ≤ 90000) (he : Env w) :
    Calls Tryd.prog 12 #[v] w (RetV (.string ⟨(Lib.decDigits N).toArray⟩) w) := by
  obtain ⟨A0, n0, c0, rfl⟩ := h.shape
  have hlt := groups_lt N
  have hne := groups_ne N
  have hT := groupsText_eq N
  have hlen : (groups N).length ≤ 2880001 := by have := groups_length _ _ h.lt2; omega
  have hG := groups_any _ k N _ (h.alloc (.cells #[.slice A0 n0 c0] 26)) hk
  have b0 := below_new w (.cells #[.slice A0 n0 c0] 26)
  generalize groups N = l at *
  have HT := Lib.hid hT
  have HL := Lib.hid hlt
  clear hT hlt
  refine (callsIn_wide (n := 4)).1 ?_
  refine callsIn_of_wp_marks Tryd.func12 rfl trivial ?_ rfl
  simp only [Tryd.ntmps12, List.size_toArray, List.length_cons, List.length_nil, Nat.reduceAdd, Nat.reduceSub, Array.replicate_succ, Array.replicate_zero, List.push_toArray, List.append_toArray, List.nil_append, List.cons_append]
  gi_wp2_with fail
  refine ⟨trivial, (callsIn_wide.2 hG).mono ?_⟩
  rintro e w1 ⟨gv, rfl, hrow, y1⟩
  have b1 := below_step b0 y1
  have hpos : 0 < l.length := List.length_pos_iff.2 hne
  obtain ⟨t, ht⟩ : ∃ t, l.length = t + 1 := ⟨l.length - 1, by omega⟩
  rw [ht] at hrow hlen
  obtain ⟨g, cap, rfl⟩ := ownsRow_succ hrow
  have hgl : g < w1.heap.size := (hrow.lt g rfl).2
  have hcells : ∀ j, j < l.length → w1.cell? ⟨g, j, none⟩ = some (.int .u64 ((grp l j).1 : Int)) := fun j hj => by
    have h1 := hrow.cells (g := g) rfl j _ (cellsOf_get .u64 l hj)
    rw [add_zero_block] at h1
    rw [grp_val HL.out hj]
    exact h1
  have hct : w1.cell? ⟨g, t, none⟩ = some (.int .u64 (l.getD t 0 : Nat)) := by rw [hcells t (by omega), grp_val HL.out (by omega)]
  have hcap : t + 1 ≤ cap := by
    rcases hrow.2 with ⟨_, h0⟩ | ⟨g', cap', cur, e, _, _, h1, _⟩
    · omega
    · simp only [Value.slice.injEq] at e; omega
  have htop : l.getD t 0 < 1000000000 := HL.out _ (by rw [List.getD_eq_getElem?_getD, List.getElem?_eq_getElem (by omega)]; simp)
  have HG := Lib.hid (show groupsText l = Lib.decDigits (l.getD t 0) ++ roundsText (back (grp l) t t) by
    have := rounds_all HL.out
    rw [ht, Nat.add_sub_cancel] at this
    rw [this, groupsText, ht, Nat.add_sub_cancel])
  have HCE := Lib.hid hcells
  clear hcells hG y1 hrow hpos hne
  generalize l.getD t 0 = top at *
  gi_wp2_with fail
  have hdl : (Lib.decDigits top).length ≤ 20 := by
    rw [Lib.decDigits_length]
    rcases Nat.eq_zero_or_pos top with h0 | h0
    · subst h0; rw [Lib.nDigits_small (by decide)]; decide
    · have := Lib.numDigits_eq top h0 (by omega); split at this <;> omega
  refine ⟨trivial, (callsIn_wide.2 (appendUint_any w1.heap.size 0 top (by omega) (.slice none 0 0) [] w1 (World.ownsRow_nil _ _ _ _) (Nat.le_refl _) (by decide) (he.kept b1))).mono ?_⟩
  rintro e w2 ⟨v', rfl, hown, y2, _⟩
  simp only [Nat.zero_add, List.nil_append] at hown
  obtain ⟨ao, cp, rfl⟩ := own_form hown
  have hg2 := y2.size
  have hd1 : 1 ≤ (Lib.decDigits top).length := by rw [Lib.decDigits]; split <;> simp
  generalize Lib.decDigits top = ds at *
  gi_wp2_with fail
  refine ⟨trivial, (back_in Fence.wide _ trivial rfl _ _ _ _).mono ?_⟩
  rintro e w' ⟨rfl, rfl⟩
  have bT := (Boxed.new w2 42 (.slice ao ds.length cp)).alloc (.cells #[.slice (some ⟨g, 0, none⟩) t cap] 63)
  have bS := Boxed.new (w2.alloc (.cells #[.slice ao ds.length cp] 42)) 63 (.slice (some ⟨g, 0, none⟩) t cap)
  rw [World.size_alloc] at bS
  have hown0 := (hown.alloc (.cells #[.slice ao ds.length cp] 42)).alloc (.cells #[.slice (some ⟨g, 0, none⟩) t cap] 63)
  have y0 : Below w1.heap.size w1 ((w2.alloc (.cells #[.slice ao ds.length cp] 42)).alloc (.cells #[.slice (some ⟨g, 0, none⟩) t cap] 63)) := (y2.alloc hg2 _).alloc (by simp; omega) _
  have hs0 : ((w2.alloc (.cells #[.slice ao ds.length cp] 42)).alloc (.cells #[.slice (some ⟨g, 0, none⟩) t cap] 63)).heap.size = w2.heap.size + 1 + 1 := by simp
  rw [World.size_alloc]
  generalize (w2.alloc (.cells #[.slice ao ds.length cp] 42)).alloc (.cells #[.slice (some ⟨g, 0, none⟩) t cap] 63) = W0 at *
  gi_wp2_with fail
  refine wpIn_rangeFunc_ownG rfl (by decide) (gf := 55) (lb := #[.pointer (some ⟨w2.heap.size + 1, 0, none⟩)]) rfl trivial (enters_of Tryd.func55 (by kernel_rfl) rfl)
    (back_stops Fence.wide 3 trivial rfl (by decide) (w2.heap.size + 1) w1.heap.size g t cap (grp l) (by omega) W0 hgl (by omega) bS (fun j hj => (y0.cell (p := ⟨g, j, none⟩) hgl).trans (HCE.out j (by omega))))
    (fun h k => h.trans k) ?hKb (Below.refl _ _) (fun _ => rfl)
    (fun pre W => (∃ v, Boxed W w2.heap.size 42 v ∧ W.ownsRow w1.heap.size 5 1 v (ds ++ roundsText pre).length (Lib.byteCells (ds ++ roundsText pre)) ∧ True) ∧ Below w1.heap.size w1 W)
    (fun _ _ _ => False)
    (OwnFrom.and (Own.from (holdsRow_own w1.heap.size w2.heap.size 42 5 1 (fun pre => (ds ++ roundsText pre).length) (fun pre => Lib.byteCells (ds ++ roundsText pre)) (fun _ _ => True)) _) (ownFrom_below (Nat.le_refl _) (by omega)))
    (fun _ _ _ _ _ hs _ _ => hs)
    ⟨⟨_, bT, by simpa [roundsText] using hown0, trivial⟩, y0⟩
    (fun x => { tmps := #[.agg #[.slice A0 n0 c0], .pointer (some ⟨w.heap.size, 0, none⟩), .string ⟨#[]⟩, .slice (some ⟨g, 0, none⟩) (t + 1) cap, .int .i64 t, .pointer (some ⟨w2.heap.size, 0, none⟩), undef, .int .u64 (x.2.1 : Int), .agg #[.slice A0 n0 c0], .slice (some ⟨g, 0, none⟩) (t + 1) cap, .slice (some ⟨g, 0, none⟩) (t + 1) cap, .int .i64 (t + 1), .int .i64 t, .slice (some ⟨g, 0, none⟩) (t + 1) cap, .int .i64 t, .pointer (some ⟨g, t, none⟩), .int .u64 top, .slice ao ds.length cp, .slice (some ⟨g, 0, none⟩) (t + 1) cap, .int .i64 t, .slice (some ⟨g, 0, none⟩) t cap, .func (.func 55) #[] #[.pointer (some ⟨w2.heap.size + 1, 0, none⟩)], .int .i64 (x.1 : Int), .int .u64 (x.2.1 : Int), undef, undef, undef, undef, undef], defers := [] }) ?assign ?body ?done ?stop
  case hKb =>
    intro W l' o o' hl' ho h1 h2
    refine ⟨belowK_b (w := W0) (by omega) W l' o o' hl' ho h1 h2, fun v hv => ?_⟩
    exact hv.kept (grownBy_putObj' W l' o') (by intro e; injection e; omega)
  case assign =>
    intro l' x W K hK
    gi_wp2
    exact hK
  case body =>
    rintro l' pre x W ⟨⟨v, hv, hr, _⟩, hB⟩ hpl
    obtain ⟨ao', cp', rfl⟩ := own_form hr
    have hcv := hv.cell
    have hBs := hB.size
    have hrl : (ds ++ roundsText pre).length ≤ 100000000 := by rw [List.length_append, roundsText_length]; omega
    have HW := Lib.hid (whole_any w1.heap.size _ x.2.1 x.2.2 _ _ W hr hBs (by omega) ((he.kept b1).kept hB))
    generalize hln : (ds ++ roundsText pre).length = ln at *
    have HN := Lib.hid hln
    clear hln
    gi_wp2_with fail
    refine ⟨trivial, (CallsIn.inRound l' (callsIn_wide.2 HW.out)).mono ?_⟩
    rintro e W3 ⟨v', rfl, hr3, hB3, hK3⟩
    obtain ⟨ao3, cp3, rfl⟩ := own_form hr3
    have hv3 : Boxed W3 w2.heap.size 42 (.slice ao' ln cp') := hK3 _ _ hv (by simp) (by intro c fz e; injection e with _ e; revert e; decide)
    have hc3 := hv3.cell
    have hf3 := hv3.frozen
    have ho3 : KeepsOthers W W3 := ⟨hB3.size, fun k o hk ho => hK3 k o hk (by simp) (by rintro c fz rfl; cases ho)⟩
    gi_wp2
    have e1 : (ds ++ roundsText (pre ++ [x])).length = ln + 9 := by
      rw [roundsText_snoc, ← List.append_assoc, List.length_append, HN.out, pad9_length x.2.2]
    have e2 : Lib.byteCells (ds ++ roundsText (pre ++ [x])) = Lib.byteCells (ds ++ roundsText pre) ++ Lib.byteCells (pad9 x.2.1) := by
      rw [roundsText_snoc]; simp [Lib.byteCells]
    have hBw : Below w1.heap.size W (W3.setCell ⟨w2.heap.size, 0, none⟩ (.slice ao3 (ln + 9) cp3)) := hB3.setCell (p := ⟨w2.heap.size, 0, none⟩) hg2 _
    refine ⟨(ho3.trans (KeepsOthers.setCell _ _ _)).from _, ⟨hBw, fun v hv' => ?_⟩, ⟨_, hv3.set _, ?_, trivial⟩, hB.trans hBw⟩
    · have h63 : Boxed W3 (w2.heap.size + 1) 63 v := hK3 _ _ hv' (by simp) (by intro c fz e; injection e with _ e; revert e; decide)
      exact h63.kept (grownBy_setCell' W3 w2.heap.size _) (by intro e; injection e; omega)
    · rw [e1, e2]
      exact hr3.kept (grownBy_setCell' W3 w2.heap.size _) (.inr (hv3.not_row (by decide) hr3).symm)
  case done =>
    rintro D ys W hD rfl ⟨⟨v, hv, hr, _⟩, hB⟩ hK
    have HD : Hid (ds ++ roundsText (back (grp l) t t) = Lib.decDigits N) := by rw [Hid, ← HT.out, HG.out]
    have hlen1 : 1 ≤ (ds ++ roundsText (back (grp l) t t)).length := by rw [List.length_append]; omega
    generalize ds ++ roundsText (back (grp l) t t) = bs at *
    obtain ⟨m, hm⟩ : ∃ m, bs.length = m + 1 := ⟨bs.length - 1, by omega⟩
    obtain ⟨gb, cb, rfl⟩ : ∃ gb cb, v = .slice (some ⟨gb, 0, none⟩) bs.length cb := by
      rw [hm] at hr ⊢
      exact ownsRow_succ hr
    clear hm
    have hcv := hv.cell
    have hconv := run_convert_bytes_back (P := Tryd.prog) W 42 9 5 ⟨gb, 0, none⟩ cb bs Tryd.underlying42 Tryd.underlying5 Tryd.underlying9 (fun j hj => by
      have h1 := hr.cells (g := gb) rfl j (.int .u8 (bs[j].toNat : Int)) (by simp [Lib.byteCells, hj])
      exact h1)
    gi_wp2
    refine ⟨by simp, .inl ⟨_, _, rfl, run_takeDeferred hK, ?_⟩⟩
    exact ⟨_, results_tmp rfl _ _ _, by rw [← HD.out]; rfl, (below_step b1 hB).trans (belowK_b (w := w) (Nat.le_refl _) W D _ _ (by have := b1.size; omega) hK rfl rfl)⟩
  case stop =>
    rintro D c pre W _ _ h _
    exact h.elim
end Go.Proofs.YtobfhidajcnfdaaDoor
