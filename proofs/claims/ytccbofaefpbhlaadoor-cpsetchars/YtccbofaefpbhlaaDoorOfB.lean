/-
  cpset.Of: its contract.
-/
import Derived.Test.YtccbofaefpbhlaaDoorOfA
namespace Go.Proofs.YtccbofaefpbhlaaDoor
set_option linter.unusedVariables false
set_option maxRecDepth 20000
open Go.RowKit

/-- It answers a set, and that nothing is wrong. -/
def RetSE (p : Nat → Bool) (w : World) (e : Ending) (w' : World) : Prop := ∃ v S, e = .returned (.tuple #[v, .int .i64 0]) ∧ IsSet w' v S ∧ (∀ c, memS S c = p c) ∧ Below w.heap.size w w'
/-- It answers what there is, up to place k. -/
def RetOf (L : List (Int × Int)) (k n : Nat) (w : World) (e : Ending) (w' : World) : Prop :=
  (k = n ∧ RetSE (inR L) w e w') ∨ (k < n ∧ RetV (.tuple #[.agg #[.slice none 0 0], .int .i64 1]) w e w')
/-- A set stays over a store into a box of a slice. -/
theorem IsSet.far {w : World} {v : Value} {S : List (Nat × Nat)} (h : IsSet w v S) {b n c : Nat} {a : Option Addr} (hc : w.cell? ⟨b, 0, none⟩ = some (.slice a n c)) (u : Value) : IsSet (w.setCell ⟨b, 0, none⟩ u) v S := by
  obtain ⟨A, cp, e, hs, hg⟩ := h
  refine ⟨A, cp, e, fun hne => ?_, hg⟩
  obtain ⟨g, e1, hl, hcs⟩ := hs hne
  have hgb : g ≠ b := by
    rintro rfl
    have h0 := (hcs 0 (List.length_pos_iff.2 hne)).1
    rw [Nat.zero_mul, hc] at h0
    cases h0
  exact ⟨g, e1, by simpa [World.setCell] using hl, fun i hi => ⟨cell_far (hcs i hi).1 hgb, cell_far (hcs i hi).2.1 hgb, cell_far (hcs i hi).2.2 hgb⟩⟩
theorem first_bad : ∀ (L : List (Int × Int)), ∃ k, k ≤ L.length ∧ (∀ j, j < k → OkR (L.getD j (0, 0))) ∧ (k < L.length → ¬ OkR (L.getD k (0, 0)))
  | [] => ⟨0, Nat.le_refl _, fun j hj => by omega, fun h => by simp at h⟩
  | r :: L => by
    obtain ⟨k, h1, h2, h3⟩ := first_bad L
    rcases Classical.em (OkR r) with h | h
    · refine ⟨k + 1, by simpa using h1, fun j hj => ?_, fun hk => ?_⟩
      · rcases j with _ | j
        · exact h
        · exact h2 j (by omega)
      · exact h3 (by simpa using hk)
    · exact ⟨0, Nat.zero_le _, fun j hj => by omega, fun _ => h⟩
theorem all_ok {L : List (Int × Int)} (h : ∀ j, j < L.length → OkR (L.getD j (0, 0))) : ∀ r ∈ L, OkR r := by
  intro r hr
  obtain ⟨i, hi, rfl⟩ := List.getElem_of_mem hr
  simpa [List.getD, hi] using h i hi
theorem take_cutAll (L : List (Int × Int)) (i : Nat) (hi : i < L.length) : cutAll (L.take (i + 1)) = cutAll (L.take i) ++ cutR (L.getD i (0, 0)).1 (L.getD i (0, 0)).2 := by
  rw [List.take_succ_eq_append_getElem hi, cutAll_snoc]
  simp [List.getD, hi]
theorem cutAll_take_len (L : List (Int × Int)) (i : Nat) : (cutAll (L.take i)).length ≤ 2 * i := by
  have h1 := cutAll_len (L.take i)
  have h2 : (L.take i).length ≤ i := by simp [List.length_take]; omega
  omega

set_option maxHeartbeats 8000000 in
theorem of_any (L : List (Int × Int)) (A : Option Addr) (c k : Nat) (w : World) (he : EnvR w) (hin : RgIn w A L) (hn : L.length ≤ 1000) (hk : k ≤ L.length) (hok : ∀ j, j < k → OkR (L.getD j (0, 0))) (hbad : k < L.length → ¬ OkR (L.getD k (0, 0))) :
    Calls Tryd.prog 15 #[.slice A L.length c] w (RetOf L k L.length w) := by
  have hX := Blk.new w 29 #[.slice none 0 0]
  have bW := below_new w (.cells #[.slice none 0 0] 29)
  have hsz0 : w.heap.size + 1 ≤ (w.alloc (.cells #[.slice none 0 0] 29)).heap.size := by simp
  obtain ⟨n, hn'⟩ : ∃ n, L.length = n := ⟨_, rfl⟩
  have HN := Lib.hid hn'
  have HOK := Lib.hid hok
  have HBAD := Lib.hid hbad
  rw [hn'] at hn hk ⊢
  clear hn' hok hbad
  go_enter Tryd.func15, Tryd.ntmps15
  go_wp2
  go_loopw [4, 9] (fun u t wr => ∃ i m : Nat, i ≤ k ∧ t = .int .i64 (i : Int) ∧ wr.ownsRow (w.heap.size + 1) 59 2 u m (rgCells (cutAll (L.take i))) ∧ Hid ((cutAll (L.take i)).length = m) ∧ Below w.heap.size w wr ∧ w.heap.size + 1 ≤ wr.heap.size ∧ Blk wr w.heap.size 29 #[.slice none 0 0]) (fun _ t _ => n - (intOf t).toNat)
  case atStart => exact ⟨0, 0, by omega, rfl, World.ownsRow_nil _ _ _ _, rfl, bW, hsz0, hX⟩
  case round =>
    obtain ⟨i, m, hik, rfl, hown, HM, hbw, hsz, hXw⟩ := hrel
    have hml := cutAll_take_len L i
    rw [HM.out] at hml
    by_cases hin2 : i < n
    · obtain ⟨g, rfl, hl, c1, c2⟩ := (hin.below hbw).at_ (i := i) (by rw [HN.out]; exact hin2)
      have HT := Lib.hid (take_cutAll L i (by rw [HN.out]; exact hin2))
      have hXr := hXw.alloc (.cells #[.int .i32 (L.getD i (0, 0)).1, .int .i32 (L.getD i (0, 0)).2] 59)
      have hor := hown.alloc (.cells #[.int .i32 (L.getD i (0, 0)).1, .int .i32 (L.getD i (0, 0)).2] 59)
      have hbr := below_step hbw (below_new wr (.cells #[.int .i32 (L.getD i (0, 0)).1, .int .i32 (L.getD i (0, 0)).2] 59))
      by_cases hlt : i < k
      · obtain ⟨o1, o2, o3⟩ := HOK.out i hlt
        generalize (L.getD i (0, 0)).1 = x at *
        generalize (L.getD i (0, 0)).2 = y at *
        have d1 : decide (x < 0) = false := by simp; omega
        have d2 : decide (1114111 < y) = false := by simp; omega
        have d3 : decide (y < x) = false := by simp; omega
        have hsz2 : w.heap.size + 1 ≤ (wr.alloc (.cells #[.int .i32 x, .int .i32 y] 59)).heap.size := by simp; omega
        have HC := Lib.hid (appendChars_any _ _ x y (w.heap.size + 1) m _ (he.kept hbr) hor HM.out hsz2 (by omega) o1 o3 o2)
        go_wp2_with fail
        refine HC.out.mono ?_
        rintro e w2 ⟨u', rfl, hown2, hb2⟩
        have hX2 := hXr.below hb2 (by omega)
        have hb3 := hbr.trans (hb2.mono (by omega))
        have hs2 := hb2.size
        go_wp2
        go_roundw
        case rel => exact ⟨i + 1, m + (cutR x y).length, by omega, by go_num, by rw [HT.out]; exact hown2, by rw [Hid, HT.out, List.length_append, HM.out], hb3, by omega, hX2⟩
        case measure => simp [intOf]; omega
      · obtain rfl : i = k := by omega
        have hb := HBAD.out (by rw [HN.out]; exact hin2)
        unfold OkR at hb
        generalize (L.getD i (0, 0)).1 = x at *
        generalize (L.getD i (0, 0)).2 = y at *
        have cX := hXr.cell0
        have fX := hXr.free 0
        have hq := (hXr.set0 (.slice none 0 0)).cell0
        have hbE := hbr.setCell (p := ⟨w.heap.size, 0, none⟩) (Nat.le_refl _) (.slice none 0 0)
        by_cases h1 : x < 0
        · have d1 : decide (x < 0) = true := by simpa using h1
          clear hb
          go_wp2
          exact bodyPost_ret (v := .tuple #[.agg #[.slice none 0 0], .int .i64 1]) (by simp [results, Tryd.results15, go_sem, hq]) rfl (Or.inr ⟨hin2, rfl, hbE⟩)
        · have d1 : decide (x < 0) = false := by simpa using h1
          by_cases h2 : 1114111 < y
          · have d2 : decide (1114111 < y) = true := by simpa using h2
            clear hb
            go_wp2
            exact bodyPost_ret (v := .tuple #[.agg #[.slice none 0 0], .int .i64 1]) (by simp [results, Tryd.results15, go_sem, hq]) rfl (Or.inr ⟨hin2, rfl, hbE⟩)
          · have d2 : decide (1114111 < y) = false := by simpa using h2
            have h3 : y < x := by omega
            have d3 : decide (y < x) = true := by simpa using h3
            clear hb
            go_wp2
            exact bodyPost_ret (v := .tuple #[.agg #[.slice none 0 0], .int .i64 1]) (by simp [results, Tryd.results15, go_sem, hq]) rfl (Or.inr ⟨hin2, rfl, hbE⟩)
    · obtain rfl : i = n := by omega
      obtain rfl : k = i := by omega
      have hpt := cutAll_part L
      have hokL : ∀ r ∈ L, OkR r := all_ok (by rw [HN.out]; exact HOK.out)
      have hcm := cut_mem L hokL
      have hir := intR_natR _ hpt
      have hlen : (natR (cutAll L)).length = m := by rw [natR, List.length_map, ← HM.out, List.take_of_length_le (by rw [HN.out]; exact Nat.le_refl _)]
      have hown1 : wr.ownsRow (w.heap.size + 1) 59 2 u4 (natR (cutAll L)).length (rgCells (intR (natR (cutAll L)))) := by
        rw [hlen, hir]
        rw [List.take_of_length_le (by rw [HN.out]; exact Nat.le_refl _)] at hown
        exact hown
      have HJ := Lib.hid (join_all (natR (cutAll L)) _ _ wr hown1 hsz (by omega) (natR_part _ hpt))
      have HCM := Lib.hid hcm
      clear hpt hokL hcm hir hlen hown1 hown
      go_wp2_with fail
      refine HJ.out.mono ?_
      rintro e w2 ⟨v, S, rfl, hset, hmem, hb2⟩
      have hX2 := hXw.below hb2 (by omega)
      have cX := hX2.cell0
      have fX := hX2.free 0
      have hb3 := hbw.trans (hb2.mono (by omega))
      obtain ⟨ao, cp, rfl⟩ := hset.shape
      have hq := (hX2.set0 (.slice ao S.length cp)).cell0
      have hset' : IsSet (w2.setCell ⟨w.heap.size, 0, none⟩ (.slice ao S.length cp)) (.agg #[.slice ao S.length cp]) S := hset.far cX _
      have hbE := hb3.setCell (p := ⟨w.heap.size, 0, none⟩) (Nat.le_refl _) (.slice ao S.length cp)
      have HM2 := Lib.hid hmem
      clear hmem hset
      generalize S.length = sl at *
      go_wp2
      exact bodyPost_ret (v := .tuple #[.agg #[.slice ao sl cp], .int .i64 0]) (by simp [results, Tryd.results15, go_sem, hq]) rfl (Or.inl ⟨rfl, _, S, rfl, hset', fun c => by rw [HM2.out, HCM.out], hbE⟩)
end Go.Proofs.YtccbofaefpbhlaaDoor
