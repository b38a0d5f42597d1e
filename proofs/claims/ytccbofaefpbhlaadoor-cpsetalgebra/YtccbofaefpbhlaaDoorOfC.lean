/-
  cpset: Of.
  cpset.Of: its contract.
  cpset.Chars of characters that are handed in: its contract.
-/
import Derived.Test.YtccbofaefpbhlaaDoorSortT
namespace Go.Proofs.YtccbofaefpbhlaaDoor
set_option linter.unusedVariables false
set_option maxRecDepth 20000
open Go.RowKit

/-- Ranges that are handed in. -/
def RgIn (w : World) (A : Option Addr) (L : List (Int × Int)) : Prop :=
  L ≠ [] → ∃ g, A = some ⟨g, 0, none⟩ ∧ g < w.heap.size ∧ ∀ i, i < L.length → w.cell? ⟨g, i * 2, none⟩ = some (.int .i32 (L.getD i (0, 0)).1) ∧ w.cell? ⟨g, i * 2 + 1, none⟩ = some (.int .i32 (L.getD i (0, 0)).2)
theorem RgIn.below {w w' : World} {A : Option Addr} {L : List (Int × Int)} (h : RgIn w A L) (hb : Below w.heap.size w w') : RgIn w' A L := fun hn => by
  obtain ⟨g, e, hl, hc⟩ := h hn
  exact ⟨g, e, Nat.lt_of_lt_of_le hl hb.size, fun i hi => ⟨(hb.cell (p := ⟨g, _, none⟩) hl).trans (hc i hi).1, (hb.cell (p := ⟨g, _, none⟩) hl).trans (hc i hi).2⟩⟩
theorem RgIn.at_ {w : World} {A : Option Addr} {L : List (Int × Int)} (h : RgIn w A L) {i : Nat} (hi : i < L.length) : ∃ g, A = some ⟨g, 0, none⟩ ∧ g < w.heap.size ∧ w.cell? ⟨g, i * 2, none⟩ = some (.int .i32 (L.getD i (0, 0)).1) ∧ w.cell? ⟨g, i * 2 + 1, none⟩ = some (.int .i32 (L.getD i (0, 0)).2) := by
  obtain ⟨g, e, hl, hc⟩ := h (by intro e; simp [e] at hi)
  exact ⟨g, e, hl, (hc i hi).1, (hc i hi).2⟩

/-- A range that may be. -/
def OkR (r : Int × Int) : Prop := 0 ≤ r.1 ∧ r.2 ≤ 1114111 ∧ r.1 ≤ r.2
/-- Without their surrogates. -/
def cutAll (L : List (Int × Int)) : List (Int × Int) := L.flatMap fun r => cutR r.1 r.2
theorem cutAll_snoc (L : List (Int × Int)) (r : Int × Int) : cutAll (L ++ [r]) = cutAll L ++ cutR r.1 r.2 := by simp [cutAll]
theorem cutAll_len : ∀ (L : List (Int × Int)), (cutAll L).length ≤ 2 * L.length
  | [] => by simp [cutAll]
  | r :: L => by
    have := cutAll_len L
    have := cutR_len r.1 r.2
    simp only [cutAll, List.flatMap_cons, List.length_append, List.length_cons] at *
    omega
def natR (M : List (Int × Int)) : List (Nat × Nat) := M.map fun r => (r.1.toNat, r.2.toNat)
theorem cutR_mem {x y : Int} {s : Int × Int} (h : s ∈ cutR x y) : max x 0 ≤ s.1 ∧ s.1 ≤ s.2 ∧ s.2 ≤ y ∧ s.2 ≤ 1114111 ∧ (s.2 < 55296 ∨ 57344 ≤ s.1) := by
  unfold cutR part1 at h
  rw [List.mem_append] at h
  rcases h with h | h
  · split at h
    · rename_i h1
      simp at h
      subst h
      simp only
      omega
    · simp at h
  · split at h
    · rename_i h1
      simp at h
      subst h
      simp only
      omega
    · simp at h
theorem cutAll_part (L : List (Int × Int)) : ∀ s ∈ cutAll L, 0 ≤ s.1 ∧ s.1 ≤ s.2 ∧ s.2 ≤ 1114111 ∧ (s.2 < 55296 ∨ 57344 ≤ s.1) := by
  intro s hs
  simp only [cutAll, List.mem_flatMap] at hs
  obtain ⟨r, _, h⟩ := hs
  have := cutR_mem h
  omega
theorem intR_natR (M : List (Int × Int)) (h : ∀ s ∈ M, 0 ≤ s.1 ∧ s.1 ≤ s.2 ∧ s.2 ≤ 1114111 ∧ (s.2 < 55296 ∨ 57344 ≤ s.1)) : intR (natR M) = M := by
  unfold intR natR
  rw [List.map_map]
  conv => rhs; rw [← List.map_id M]
  apply List.map_congr_left
  intro s hs
  have := h s hs
  simp only [Function.comp, id]
  rw [Int.toNat_of_nonneg (by omega), Int.toNat_of_nonneg (by omega)]
theorem natR_part (M : List (Int × Int)) (h : ∀ s ∈ M, 0 ≤ s.1 ∧ s.1 ≤ s.2 ∧ s.2 ≤ 1114111 ∧ (s.2 < 55296 ∨ 57344 ≤ s.1)) : ∀ r ∈ natR M, Part r := by
  intro r hr
  simp only [natR, List.mem_map] at hr
  obtain ⟨s, hs, rfl⟩ := hr
  have := h s hs
  exact ⟨by simp only; omega, by simp only; omega, by simp only; omega⟩
/-- Is c a character of some range? -/
def inR (L : List (Int × Int)) (c : Nat) : Bool := L.any fun r => decide (r.1 ≤ (c : Int) ∧ (c : Int) ≤ r.2 ∧ (c < 55296 ∨ 57344 ≤ c) ∧ c ≤ 1114111)
theorem cut_mem (L : List (Int × Int)) (hok : ∀ r ∈ L, OkR r) (c : Nat) : memS (natR (cutAll L)) c = inR L c := by
  rw [Bool.eq_iff_iff]
  simp only [memS, inR, List.any_eq_true, natR, List.mem_map, Bool.and_eq_true, decide_eq_true_eq]
  constructor
  · rintro ⟨x, ⟨s, hs, rfl⟩, h1, h2⟩
    have hp := cutAll_part L s hs
    simp only [cutAll, List.mem_flatMap] at hs
    obtain ⟨r, hr, h⟩ := hs
    have := cutR_mem h
    exact ⟨r, hr, by simp only at h1 h2; omega⟩
  · rintro ⟨r, hr, h1, h2, h3, h4⟩
    obtain ⟨o1, o2, o3⟩ := hok r hr
    rcases h3 with h3 | h3
    · have hle : max r.1 0 ≤ min r.2 55295 := by omega
      refine ⟨_, ⟨(max r.1 0, min r.2 55295), ?_, rfl⟩, by simp only; omega, by simp only; omega⟩
      simp only [cutAll, List.mem_flatMap]
      exact ⟨r, hr, by simp [cutR, part1, hle]⟩
    · have hle : max r.1 57344 ≤ min r.2 1114111 := by omega
      refine ⟨_, ⟨(max r.1 57344, min r.2 1114111), ?_, rfl⟩, by simp only; omega, by simp only; omega⟩
      simp only [cutAll, List.mem_flatMap]
      exact ⟨r, hr, by simp [cutR, part1, hle]⟩
end Go.Proofs.YtccbofaefpbhlaaDoor

namespace Go.Proofs.YtccbofaefpbhlaaDoor
set_option linter.unusedVariables false
set_option maxRecDepth 20000
open Go.RowKit

/-- It answers a set, and that nothing is wrong. -/
def RetSE (p : Nat → Bool) (w : World) (e : Ending) (w' : World) : Prop := ∃ v S, e = .returned (.tuple #[v, .int .i64 0]) ∧ IsSet w' v S ∧ (∀ c, memS S c = p c) ∧ Below w.heap.size w w'
/-- It answers what there is, up to place k. -/
def RetOf (L : List (Int × Int)) (k n : Nat) (w : World) (e : Ending) (w' : World) : Prop :=
  (k = n ∧ RetSE (inR L) w e w') ∨ (k < n ∧ RetV (.tuple #[.agg #[.slice none 0 0], .int .i64 1]) w e w')
/-- A set stays over a store into a box of a slice. -/
theorem IsSet.far {w : World} {v : Value} {S : List (Nat × Nat)} (h : IsSet w v S) {b n c : Nat} {a : Option Addr} (hc : w.cell? ⟨b, 0, none⟩ = some (.slice a n c)) (u : Value) : IsSet (w.setCell ⟨b, 0, none⟩ u) v S := by
  obtain ⟨A, cp, e, hs, hg⟩ := h
  refine ⟨A, cp, e, fun hne => ?_, hg⟩
  obtain ⟨g, e1, hl, hcs⟩ := hs hne
  have hgb : g ≠ b := by
    rintro rfl
    have h0 := (hcs 0 (List.length_pos_iff.2 hne)).1
    rw [Nat.zero_mul, hc] at h0
    cases h0
  exact ⟨g, e1, by simpa [World.setCell] using hl, fun i hi => ⟨cell_far (hcs i hi).1 hgb, cell_far (hcs i hi).2.1 hgb, cell_far (hcs i hi).2.2 hgb⟩⟩
theorem first_bad : ∀ (L : List (Int × Int)), ∃ k, k ≤ L.length ∧ (∀ j, j < k → OkR (L.getD j (0, 0))) ∧ (k < L.length → ¬ OkR (L.getD k (0, 0)))
  | [] => ⟨0, Nat.le_refl _, fun j hj => by omega, fun h => by simp at h⟩
  | r :: L => by
    obtain ⟨k, h1, h2, h3⟩ := first_bad L
    rcases Classical.em (OkR r) with h | h
    · refine ⟨k + 1, by simpa using h1, fun j hj => ?_, fun hk => ?_⟩
      · rcases j with _ | j
        · exact h
        · exact h2 j (by omega)
      · exact h3 (by simpa using hk)
    · exact ⟨0, Nat.zero_le _, fun j hj => by omega, fun _ => h⟩
theorem all_ok {L : List (Int × Int)} (h : ∀ j, j < L.length → OkR (L.getD j (0, 0))) : ∀ r ∈ L, OkR r := by
  intro r hr
  obtain ⟨i, hi, rfl⟩ := List.getElem_of_mem hr
  simpa [List.getD, hi] using h i hi
theorem take_cutAll (L : List (Int × Int)) (i : Nat) (hi : i < L.length) : cutAll (L.take (i + 1)) = cutAll (L.take i) ++ cutR (L.getD i (0, 0)).1 (L.getD i (0, 0)).2 := by
  rw [List.take_succ_eq_append_getElem hi, cutAll_snoc]
  simp [List.getD, hi]
theorem cutAll_take_len (L : List (Int × Int)) (i : Nat) : (cutAll (L.take i)).length ≤ 2 * i := by
  have h1 := cutAll_len (L.take i)
  have h2 : (L.take i).length ≤ i := by simp [List.length_take]; omega
  omega

set_option maxHeartbeats 8000000 in
theorem of_any (L : List (Int × Int)) (A : Option Addr) (c k : Nat) (w : World) (he : EnvR w) (hin : RgIn w A L) (hn : L.length ≤ 1000000) (hk : k ≤ L.length) (hok : ∀ j, j < k → OkR (L.getD j (0, 0))) (hbad : k < L.length → ¬ OkR (L.getD k (0, 0))) :
    Calls Tryd.prog 15 #[.slice A L.length c] w (RetOf L k L.length w) := by
  have hX := Blk.new w 29 #[.slice none 0 0]
  have bW := below_new w (.cells #[.slice none 0 0] 29)
  have hsz0 : w.heap.size + 1 ≤ (w.alloc (.cells #[.slice none 0 0] 29)).heap.size := by simp
  obtain ⟨n, hn'⟩ : ∃ n, L.length = n := ⟨_, rfl⟩
  have HN := Lib.hid hn'
  have HOK := Lib.hid hok
  have HBAD := Lib.hid hbad
  rw [hn'] at hn hk ⊢
  clear hn' hok hbad
  go_enter Tryd.func15, Tryd.ntmps15
  go_wp2
  go_loopw [4, 9] (fun u t wr => ∃ i m : Nat, i ≤ k ∧ t = .int .i64 (i : Int) ∧ wr.ownsRow (w.heap.size + 1) 59 2 u m (rgCells (cutAll (L.take i))) ∧ Hid ((cutAll (L.take i)).length = m) ∧ Below w.heap.size w wr ∧ w.heap.size + 1 ≤ wr.heap.size ∧ Blk wr w.heap.size 29 #[.slice none 0 0]) (fun _ t _ => n - (intOf t).toNat)
  case atStart => exact ⟨0, 0, by omega, rfl, World.ownsRow_nil _ _ _ _, rfl, bW, hsz0, hX⟩
  case round =>
    obtain ⟨i, m, hik, rfl, hown, HM, hbw, hsz, hXw⟩ := hrel
    have hml := cutAll_take_len L i
    rw [HM.out] at hml
    by_cases hin2 : i < n
    · obtain ⟨g, rfl, hl, c1, c2⟩ := (hin.below hbw).at_ (i := i) (by rw [HN.out]; exact hin2)
      have HT := Lib.hid (take_cutAll L i (by rw [HN.out]; exact hin2))
      have hXr := hXw.alloc (.cells #[.int .i32 (L.getD i (0, 0)).1, .int .i32 (L.getD i (0, 0)).2] 59)
      have hor := hown.alloc (.cells #[.int .i32 (L.getD i (0, 0)).1, .int .i32 (L.getD i (0, 0)).2] 59)
      have hbr := below_step hbw (below_new wr (.cells #[.int .i32 (L.getD i (0, 0)).1, .int .i32 (L.getD i (0, 0)).2] 59))
      by_cases hlt : i < k
      · obtain ⟨o1, o2, o3⟩ := HOK.out i hlt
        generalize (L.getD i (0, 0)).1 = x at *
        generalize (L.getD i (0, 0)).2 = y at *
        have d1 : decide (x < 0) = false := by simp; omega
        have d2 : decide (1114111 < y) = false := by simp; omega
        have d3 : decide (y < x) = false := by simp; omega
        have hsz2 : w.heap.size + 1 ≤ (wr.alloc (.cells #[.int .i32 x, .int .i32 y] 59)).heap.size := by simp; omega
        have HC := Lib.hid (appendChars_any _ _ x y (w.heap.size + 1) m _ (he.kept hbr) hor HM.out hsz2 (by omega) o1 o3 o2)
        go_wp2_with fail
        refine HC.out.mono ?_
        rintro e w2 ⟨u', rfl, hown2, hb2⟩
        have hX2 := hXr.below hb2 (by omega)
        have hb3 := hbr.trans (hb2.mono (by omega))
        have hs2 := hb2.size
        go_wp2
        go_roundw
        case rel => exact ⟨i + 1, m + (cutR x y).length, by omega, by go_num, by rw [HT.out]; exact hown2, by rw [Hid, HT.out, List.length_append, HM.out], hb3, by omega, hX2⟩
        case measure => simp [intOf]; omega
      · obtain rfl : i = k := by omega
        have hb := HBAD.out (by rw [HN.out]; exact hin2)
        unfold OkR at hb
        generalize (L.getD i (0, 0)).1 = x at *
        generalize (L.getD i (0, 0)).2 = y at *
        have cX := hXr.cell0
        have fX := hXr.free 0
        have hq := (hXr.set0 (.slice none 0 0)).cell0
        have hbE := hbr.setCell (p := ⟨w.heap.size, 0, none⟩) (Nat.le_refl _) (.slice none 0 0)
        by_cases h1 : x < 0
        · have d1 : decide (x < 0) = true := by simpa using h1
          clear hb
          go_wp2
          exact bodyPost_ret (v := .tuple #[.agg #[.slice none 0 0], .int .i64 1]) (by simp [results, Tryd.results15, go_sem, hq]) rfl (Or.inr ⟨hin2, rfl, hbE⟩)
        · have d1 : decide (x < 0) = false := by simpa using h1
          by_cases h2 : 1114111 < y
          · have d2 : decide (1114111 < y) = true := by simpa using h2
            clear hb
            go_wp2
            exact bodyPost_ret (v := .tuple #[.agg #[.slice none 0 0], .int .i64 1]) (by simp [results, Tryd.results15, go_sem, hq]) rfl (Or.inr ⟨hin2, rfl, hbE⟩)
          · have d2 : decide (1114111 < y) = false := by simpa using h2
            have h3 : y < x := by omega
            have d3 : decide (y < x) = true := by simpa using h3
            clear hb
            go_wp2
            exact bodyPost_ret (v := .tuple #[.agg #[.slice none 0 0], .int .i64 1]) (by simp [results, Tryd.results15, go_sem, hq]) rfl (Or.inr ⟨hin2, rfl, hbE⟩)
    · obtain rfl : i = n := by omega
      obtain rfl : k = i := by omega
      have hpt := cutAll_part L
      have hokL : ∀ r ∈ L, OkR r := all_ok (by rw [HN.out]; exact HOK.out)
      have hcm := cut_mem L hokL
      have hir := intR_natR _ hpt
      have hlen : (natR (cutAll L)).length = m := by rw [natR, List.length_map, ← HM.out, List.take_of_length_le (by rw [HN.out]; exact Nat.le_refl _)]
      have hown1 : wr.ownsRow (w.heap.size + 1) 59 2 u4 (natR (cutAll L)).length (rgCells (intR (natR (cutAll L)))) := by
        rw [hlen, hir]
        rw [List.take_of_length_le (by rw [HN.out]; exact Nat.le_refl _)] at hown
        exact hown
      have HJ := Lib.hid (join_all (natR (cutAll L)) _ _ wr hown1 hsz (by omega) (natR_part _ hpt))
      have HCM := Lib.hid hcm
      clear hpt hokL hcm hir hlen hown1 hown
      go_wp2_with fail
      refine HJ.out.mono ?_
      rintro e w2 ⟨v, S, rfl, hset, hmem, hb2⟩
      have hX2 := hXw.below hb2 (by omega)
      have cX := hX2.cell0
      have fX := hX2.free 0
      have hb3 := hbw.trans (hb2.mono (by omega))
      obtain ⟨ao, cp, rfl⟩ := hset.shape
      have hq := (hX2.set0 (.slice ao S.length cp)).cell0
      have hset' : IsSet (w2.setCell ⟨w.heap.size, 0, none⟩ (.slice ao S.length cp)) (.agg #[.slice ao S.length cp]) S := hset.far cX _
      have hbE := hb3.setCell (p := ⟨w.heap.size, 0, none⟩) (Nat.le_refl _) (.slice ao S.length cp)
      have HM2 := Lib.hid hmem
      clear hmem hset
      generalize S.length = sl at *
      go_wp2
      exact bodyPost_ret (v := .tuple #[.agg #[.slice ao sl cp], .int .i64 0]) (by simp [results, Tryd.results15, go_sem, hq]) rfl (Or.inl ⟨rfl, _, S, rfl, hset', fun c => by rw [HM2.out, HCM.out], hbE⟩)
end Go.Proofs.YtccbofaefpbhlaaDoor

namespace Go.Proofs.YtccbofaefpbhlaaDoor
set_option linter.unusedVariables false
set_option maxRecDepth 20000
open Go.RowKit

/-- Runes that are handed in. -/
def RunIn (w : World) (A : Option Addr) (L : List Int) : Prop :=
  L ≠ [] → ∃ ad, A = some ad ∧ ad.block < w.heap.size ∧ ∀ i, i < L.length → w.cell? (ad.add i) = some (.int .i32 (L.getD i 0))
theorem RunIn.below {w w' : World} {A : Option Addr} {L : List Int} (h : RunIn w A L) (hb : Below w.heap.size w w') : RunIn w' A L := fun hn => by
  obtain ⟨ad, e, hl, hc⟩ := h hn
  exact ⟨ad, e, Nat.lt_of_lt_of_le hl hb.size, fun i hi => (hb.cell (by rw [add_block]; exact hl)).trans (hc i hi)⟩
theorem RunIn.at_ {w : World} {A : Option Addr} {L : List Int} (h : RunIn w A L) {i : Nat} (hi : i < L.length) : ∃ ad, A = some ad ∧ ad.block < w.heap.size ∧ w.cell? (ad.add i) = some (.int .i32 (L.getD i 0)) := by
  obtain ⟨ad, e, hl, hc⟩ := h (by intro e; simp [e] at hi)
  exact ⟨ad, e, hl, hc i hi⟩

/-- Each that is a character, as a range. -/
def single (L : List Int) : List (Int × Int) := L.flatMap fun c => if isI c then [(c, c)] else []
theorem single_snoc (L : List Int) (c : Int) : single (L ++ [c]) = single L ++ if isI c then [(c, c)] else [] := by simp [single]
theorem single_take (L : List Int) (i : Nat) (hi : i < L.length) : single (L.take (i + 1)) = single (L.take i) ++ if isI (L.getD i 0) then [(L.getD i 0, L.getD i 0)] else [] := by
  rw [List.take_succ_eq_append_getElem hi, single_snoc]
  simp [List.getD, hi]
theorem single_len : ∀ (L : List Int), (single L).length ≤ L.length
  | [] => by simp [single]
  | c :: L => by
    have := single_len L
    have e : single (c :: L) = (if isI c then [(c, c)] else []) ++ single L := by simp [single]
    rw [e, List.length_append, List.length_cons]
    split <;> simp only [List.length_cons, List.length_nil] <;> omega
theorem single_take_len (L : List Int) (i : Nat) : (single (L.take i)).length ≤ i := by
  have h1 := single_len (L.take i)
  have h2 : (L.take i).length ≤ i := by simp [List.length_take]; omega
  omega
theorem single_part (L : List Int) : ∀ s ∈ single L, 0 ≤ s.1 ∧ s.1 ≤ s.2 ∧ s.2 ≤ 1114111 ∧ (s.2 < 55296 ∨ 57344 ≤ s.1) := by
  intro s hs
  simp only [single, List.mem_flatMap] at hs
  obtain ⟨c, _, hs⟩ := hs
  split at hs
  · rename_i hc
    simp at hs
    subst hs
    simp only [isI, decide_eq_true_eq] at hc
    simp only
    omega
  · simp at hs
/-- Is c one of these? -/
def inL (L : List Int) (c : Nat) : Bool := L.any fun x => isI x && decide (x = (c : Int))
theorem single_mem (L : List Int) (c : Nat) : memS (natR (single L)) c = inL L c := by
  rw [Bool.eq_iff_iff]
  simp only [memS, inL, List.any_eq_true, natR, List.mem_map, Bool.and_eq_true, decide_eq_true_eq]
  constructor
  · rintro ⟨x, ⟨s, hs, rfl⟩, h1, h2⟩
    have hp := single_part L s hs
    simp only [single, List.mem_flatMap] at hs
    obtain ⟨y, hy, hs⟩ := hs
    split at hs
    · rename_i hc
      simp at hs
      subst hs
      simp only at h1 h2 hp
      exact ⟨y, hy, hc, by omega⟩
    · simp at hs
  · rintro ⟨x, hx, h1, h2⟩
    subst h2
    refine ⟨(c, c), ⟨((c : Int), (c : Int)), ?_, by simp⟩, Nat.le_refl _, Nat.le_refl _⟩
    simp only [single, List.mem_flatMap]
    exact ⟨_, hx, by rw [if_pos h1]; simp⟩

set_option maxHeartbeats 8000000 in
theorem chars_any (L : List Int) (A : Option Addr) (c : Nat) (w : World) (hin : RunIn w A L) (hn : L.length ≤ 1000) :
    Calls Tryd.prog 43 #[.slice A L.length c] w (RetSet (inL L) w.heap.size w) := by
  obtain ⟨i0, hi0, hz0, hz1, hz2⟩ := info_parts rg_info
  have hX := Blk.new w 29 #[.slice none 0 0]
  have bW := below_new w (.cells #[.slice none 0 0] 29)
  have hsz0 : w.heap.size + 1 ≤ (w.alloc (.cells #[.slice none 0 0] 29)).heap.size := by simp
  obtain ⟨n, hn'⟩ : ∃ n, L.length = n := ⟨_, rfl⟩
  have HN := Lib.hid hn'
  rw [hn'] at hn ⊢
  clear hn'
  go_enter Tryd.func43, Tryd.ntmps43
  go_wp2
  go_loopw [3, 8] (fun u t wr => ∃ i m : Nat, i ≤ n ∧ t = .int .i64 (i : Int) ∧ wr.ownsRow (w.heap.size + 1) 59 2 u m (rgCells (single (L.take i))) ∧ Hid ((single (L.take i)).length = m) ∧ Below w.heap.size w wr ∧ w.heap.size + 1 ≤ wr.heap.size ∧ Blk wr w.heap.size 29 #[.slice none 0 0]) (fun _ t _ => n - (intOf t).toNat)
  case atStart => exact ⟨0, 0, by omega, rfl, World.ownsRow_nil _ _ _ _, rfl, bW, hsz0, hX⟩
  case round =>
    obtain ⟨i, m, hik, rfl, hown, HM, hbw, hsz, hXw⟩ := hrel
    have hml := single_take_len L i
    rw [HM.out] at hml
    by_cases hin2 : i < n
    · obtain ⟨ad, rfl, hl, c1⟩ := (hin.below hbw).at_ (i := i) (by rw [HN.out]; exact hin2)
      have HT := Lib.hid (single_take L i (by rw [HN.out]; exact hin2))
      generalize L.getD i 0 = x at *
      obtain ⟨b, hb⟩ : ∃ b, isI x = b := ⟨_, rfl⟩
      have HI := Lib.hid (is_any x wr)
      rw [hb] at HI HT
      clear hb
      cases b with
      | true =>
        go_wp2_with fail
        refine HI.out.mono ?_
        rintro e w1 ⟨rfl, y1⟩
        have ho2 := (own_kept hown y1).alloc (.cells #[.int .i32 x, .int .i32 x] 59)
        have hX2 := (hXw.on y1).alloc (.cells #[.int .i32 x, .int .i32 x] 59)
        have hb2 := below_step (below_step hbw y1) (below_new w1 (.cells #[.int .i32 x, .int .i32 x] 59))
        have hs1 := y1.size
        have HC2 := Lib.hid (cell_two_at w1 59 (.int .i32 x) (.int .i32 x))
        clear c1
        go_wp2_with (at_builtin; refine wpList_append_own _ rfl (.tmp 14) (.tmp 18) 33 rfl (w.heap.size + 1) 59 i0 (.agg #[.int .i32 0, .int .i32 0]) 2 8 Tryd.underlying33 hi0 hz0 hz1 hz2 rfl (by decide) _ m _ rfl ho2 ⟨w1.heap.size, 0, none⟩ 1 1 [.int .i32 x, .int .i32 x] rfl rfl HC2.out (by simp [Value.oneCell']) (by unfold maxLen; omega) (by omega) (by simp; omega) ?_; intro v' w4 hown4 hgrow _; have hb4 : Below w.heap.size w w4 := hb2.grown hgrow (by simp; omega) (fun k hk => by have := (ho2.lt k hk).1; omega); have hs4 := hgrow.size; have hX4 := blk_grown hX2 ho2 hgrow (by decide); clear hgrow)
        simp only [World.size_alloc] at hs4
        go_roundw
        case rel => exact ⟨i + 1, m + 1, by omega, by go_num, by rw [HT.out, if_pos trivial, rgCells_snoc]; exact hown4, by rw [Hid, HT.out, if_pos trivial, List.length_append, HM.out]; rfl, hb4, by omega, hX4⟩
        case measure => simp [intOf]; omega
      | false =>
        go_wp2_with fail
        refine HI.out.mono ?_
        rintro e w1 ⟨rfl, y1⟩
        have ho2 := own_kept hown y1
        have hX2 := hXw.on y1
        have hb2 := below_step hbw y1
        have hs1 := y1.size
        clear c1
        go_wp2
        go_roundw
        case rel => exact ⟨i + 1, m, by omega, by go_num, by rw [HT.out, if_neg (by simp), List.append_nil]; exact ho2, by rw [Hid, HT.out, if_neg (by simp), List.append_nil, HM.out], hb2, by omega, hX2⟩
        case measure => simp [intOf]; omega
    · obtain rfl : i = n := by omega
      have hpt := single_part L
      have hcm := single_mem L
      have hir := intR_natR _ hpt
      have hlen : (natR (single L)).length = m := by rw [natR, List.length_map, ← HM.out, List.take_of_length_le (by rw [HN.out]; exact Nat.le_refl _)]
      have hown1 : wr.ownsRow (w.heap.size + 1) 59 2 u3 (natR (single L)).length (rgCells (intR (natR (single L)))) := by
        rw [hlen, hir]
        rw [List.take_of_length_le (by rw [HN.out]; exact Nat.le_refl _)] at hown
        exact hown
      have HJ := Lib.hid (join_all (natR (single L)) _ _ wr hown1 hsz (by omega) (natR_part _ hpt))
      have HCM := Lib.hid hcm
      clear hpt hcm hir hlen hown1 hown
      go_wp2_with fail
      refine HJ.out.mono ?_
      rintro e w2 ⟨v, S, rfl, hset, hmem, hb2⟩
      have hX2 := hXw.below hb2 (by omega)
      have cX := hX2.cell0
      have fX := hX2.free 0
      have hb3 := hbw.trans (hb2.mono (by omega))
      obtain ⟨ao, cp, rfl⟩ := hset.shape
      have hq := (hX2.set0 (.slice ao S.length cp)).cell0
      have hset' : IsSet (w2.setCell ⟨w.heap.size, 0, none⟩ (.slice ao S.length cp)) (.agg #[.slice ao S.length cp]) S := hset.far cX _
      have hbE := hb3.setCell (p := ⟨w.heap.size, 0, none⟩) (Nat.le_refl _) (.slice ao S.length cp)
      have HM2 := Lib.hid hmem
      clear hmem hset
      generalize S.length = sl at *
      go_wp2
      exact bodyPost_ret (v := .agg #[.slice ao sl cp]) (by simp [results, Tryd.results43, go_sem, hq]) rfl ⟨_, S, rfl, hset', fun c => by rw [HM2.out, HCM.out], hbE⟩

/-- 'All': each character. -/
theorem all_mem (c : Nat) : inR [(0, 1114111)] c = decide (c < 55296 ∨ (57344 ≤ c ∧ c ≤ 1114111)) := by
  rw [Bool.eq_iff_iff]
  simp only [inR, List.any_eq_true, List.mem_singleton, decide_eq_true_eq]
  constructor
  · rintro ⟨r, rfl, h⟩
    simp only at h
    omega
  · intro h
    exact ⟨_, rfl, by simp only; omega⟩
def allB (c : Nat) : Bool := decide (c < 55296 ∨ (57344 ≤ c ∧ c ≤ 1114111))

set_option maxHeartbeats 4000000 in
theorem all_any (w : World) (he : EnvR w) : Calls Tryd.prog 39 #[] w (RetSet allB w.heap.size w) := by
  have hX := Blk.new w 29 #[.slice none 0 0]
  have bW := below_new w (.cells #[.slice none 0 0] 29)
  have hXr := hX.alloc (.cells #[.int .i32 0, .int .i32 1114111] 59)
  have bW2 := below_step bW (below_new _ (.cells #[.int .i32 0, .int .i32 1114111] 59))
  have hin : RgIn ((w.alloc (.cells #[.slice none 0 0] 29)).alloc (.cells #[.int .i32 0, .int .i32 1114111] 59)) (some ⟨w.heap.size + 1, 0, none⟩) [(0, 1114111)] := fun _ => by
    have hB := blk_two w (.cells #[.slice none 0 0] 29) 59 #[.int .i32 0, .int .i32 1114111]
    refine ⟨_, rfl, by simp, fun i hi => ?_⟩
    obtain rfl : i = 0 := by simp at hi; omega
    exact ⟨(hB.cell 0).trans rfl, (hB.cell 1).trans rfl⟩
  have HO := Lib.hid (of_any [(0, 1114111)] _ 1 1 _ (he.kept bW2) hin (by decide) (by decide) (fun j hj => by obtain rfl : j = 0 := (by omega); exact ⟨by decide, by decide, by decide⟩) (fun h => absurd h (by decide)))
  simp only [List.length_cons, List.length_nil, Nat.zero_add] at HO
  clear hin
  go_enter Tryd.func39, Tryd.ntmps39
  go_wp2_with fail
  refine HO.out.mono ?_
  rintro e w2 (⟨_, v, S, rfl, hset, hmem, hb2⟩ | ⟨h, _⟩)
  · obtain ⟨ao, cp, rfl⟩ := hset.shape
    have hb3 := (below_step bW2 hb2).alloc (below_step bW2 hb2).size (.cells #[.slice ao S.length cp] 29)
    have hX3 := (hXr.on hb2).alloc (.cells #[.slice ao S.length cp] 29)
    have cX := hX3.cell0
    have fX := hX3.free 0
    have hq := (hX3.set0 (.slice ao S.length cp)).cell0
    have hset' : IsSet ((w2.alloc (.cells #[.slice ao S.length cp] 29)).setCell ⟨w.heap.size, 0, none⟩ (.slice ao S.length cp)) (.agg #[.slice ao S.length cp]) S := (hset.alloc _).far cX _
    have hbE := hb3.setCell (p := ⟨w.heap.size, 0, none⟩) (Nat.le_refl _) (.slice ao S.length cp)
    have HM2 := Lib.hid hmem
    clear hmem hset
    generalize S.length = sl at *
    go_wp2
    exact bodyPost_ret (v := .agg #[.slice ao sl cp]) (by simp [results, Tryd.results39, go_sem, hq]) rfl ⟨_, S, rfl, hset', fun c => by rw [HM2.out, all_mem]; rfl, hbE⟩
  · exact absurd h (by decide)
end Go.Proofs.YtccbofaefpbhlaaDoor
