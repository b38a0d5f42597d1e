/-
  Or, And, Less, Xor; Same.
-/
import Derived.Test.YtanpncjnojjmkabSN
namespace Go.Proofs.Ytanpncjnojjmkab
set_option linter.unusedVariables false
set_option maxRecDepth 100000
open Go.RowKit Go.Shelf

theorem isI_new (w : World) (ks : List Int) : IsI (w.alloc (.cells (ks.map (Value.int .i64)).toArray 50)) (.slice (some ⟨w.heap.size, 0, none⟩) ks.length ks.length) ks :=
  ⟨_, _, rfl, by simp, fun i hi => by
    rw [(Blk.new w 50 _).cell]
    simp [List.getD, hi]⟩

set_option maxHeartbeats 2000000 in
theorem or_any (u v : Value) (la lb : List Tx) (w : World) (ha : IsS w u la) (hb : IsS w v lb) (hsz : la.length + lb.length ≤ 100) : Calls Try.prog 11 #[u, v] w (RetS (keepOf [-1, 0, 1] (sidesOf la lb)) w) := by
  have HM := Lib.hid fun W kv h1 h2 h3 => merge_any u v kv la lb [-1, 0, 1] W h1 h2 h3 (by decide) hsz
  obtain ⟨A, ca, ea⟩ := ha.form
  obtain ⟨B, cb, eb⟩ := hb.form
  obtain ⟨na, hna⟩ : ∃ n, Hid (la.length = n) := ⟨_, rfl⟩
  obtain ⟨nb, hnb⟩ : ∃ n, Hid (lb.length = n) := ⟨_, rfl⟩
  rw [hna.out] at ea
  rw [hnb.out] at eb
  subst ea eb
  generalize keepOf [-1, 0, 1] (sidesOf la lb) = KO at *
  go_enter Try.func11, Try.ntmps11
  go_wp2_with fail
  have hR := blk_three w (.cells #[.slice A na ca] 26) (.cells #[.slice B nb cb] 26) 26 #[.slice none 0 0]
  have b3 : Below w.heap.size w (((w.alloc (.cells #[.slice A na ca] 26)).alloc (.cells #[.slice B nb cb] 26)).alloc (.cells #[.slice none 0 0] 26)) := below_step (below_step (below_new w _) (below_new _ _)) (below_new _ _)
  have hI := isI_new (((w.alloc (.cells #[.slice A na ca] 26)).alloc (.cells #[.slice B nb cb] 26)).alloc (.cells #[.slice none 0 0] 26)) [-1, 0, 1]
  change IsI ((((w.alloc (.cells #[.slice A na ca] 26)).alloc (.cells #[.slice B nb cb] 26)).alloc (.cells #[.slice none 0 0] 26)).alloc (.cells #[.int .i64 (-1), .int .i64 0, .int .i64 1] 50)) (.slice (some ⟨(((w.alloc (.cells #[.slice A na ca] 26)).alloc (.cells #[.slice B nb cb] 26)).alloc (.cells #[.slice none 0 0] 26)).heap.size, 0, none⟩) 3 3) [-1, 0, 1] at hI
  have hs3 : (((w.alloc (.cells #[.slice A na ca] 26)).alloc (.cells #[.slice B nb cb] 26)).alloc (.cells #[.slice none 0 0] 26)).heap.size = w.heap.size + 1 + 1 + 1 := by simp
  rw [hs3] at hI
  clear hs3
  generalize (((w.alloc (.cells #[.slice A na ca] 26)).alloc (.cells #[.slice B nb cb] 26)).alloc (.cells #[.slice none 0 0] 26)) = V at *
  have hR := hR.alloc (.cells #[.int .i64 (-1), .int .i64 0, .int .i64 1] 50)
  have b4 := below_step b3 (below_new V (.cells #[.int .i64 (-1), .int .i64 0, .int .i64 1] 50))
  with_reducible refine (HM.out _ _ (ha.below b4) (hb.below b4) hI).mono ?_
  rintro e w7 ⟨v7, rfl, hs7, y7⟩
  have hR7 := hR.on y7
  have b7 := below_step b4 y7
  obtain ⟨u7, rfl, ht7, hri7, hn7⟩ := hs7
  obtain ⟨a7, q7, rfl, _⟩ := ht7.form
  have hq := (hR7.set0 (.slice a7 KO.length q7)).cell0
  have c7 := hR7.cell0
  have f7 := hR7.free 0
  have ht8 : IsT (w7.setCell ⟨w.heap.size + 1 + 1, 0, none⟩ (.slice a7 KO.length q7)) (.slice a7 KO.length q7) KO := by
    rcases ht7 with h | ⟨g, c, cs, e, h1, h2, h3⟩
    · exact .inl h
    · exact .inr ⟨g, c, cs, e, h1, h2.far (h2.ne_ hR7 (by decide)) _, h3⟩
  have y8 := b7.setCell (p := ⟨w.heap.size + 1 + 1, 0, none⟩) (show w.heap.size ≤ w.heap.size + 1 + 1 by omega) (.slice a7 KO.length q7)
  clear HM
  go_wp2
  exact bodyPost_ret (v := .agg #[.slice a7 KO.length q7]) (by simp [results, Try.results11, go_sem, hq]) rfl ⟨_, rfl, ⟨_, rfl, ht8, hri7, hn7⟩, y8⟩

set_option maxHeartbeats 2000000 in
theorem and_any (u v : Value) (la lb : List Tx) (w : World) (ha : IsS w u la) (hb : IsS w v lb) (hsz : la.length + lb.length ≤ 100) : Calls Try.prog 12 #[u, v] w (RetS (keepOf [0] (sidesOf la lb)) w) := by
  have HM := Lib.hid fun W kv h1 h2 h3 => merge_any u v kv la lb [0] W h1 h2 h3 (by decide) hsz
  obtain ⟨A, ca, ea⟩ := ha.form
  obtain ⟨B, cb, eb⟩ := hb.form
  obtain ⟨na, hna⟩ : ∃ n, Hid (la.length = n) := ⟨_, rfl⟩
  obtain ⟨nb, hnb⟩ : ∃ n, Hid (lb.length = n) := ⟨_, rfl⟩
  rw [hna.out] at ea
  rw [hnb.out] at eb
  subst ea eb
  generalize keepOf [0] (sidesOf la lb) = KO at *
  go_enter Try.func12, Try.ntmps12
  go_wp2_with fail
  have hR := blk_three w (.cells #[.slice A na ca] 26) (.cells #[.slice B nb cb] 26) 26 #[.slice none 0 0]
  have b3 : Below w.heap.size w (((w.alloc (.cells #[.slice A na ca] 26)).alloc (.cells #[.slice B nb cb] 26)).alloc (.cells #[.slice none 0 0] 26)) := below_step (below_step (below_new w _) (below_new _ _)) (below_new _ _)
  have hI := isI_new (((w.alloc (.cells #[.slice A na ca] 26)).alloc (.cells #[.slice B nb cb] 26)).alloc (.cells #[.slice none 0 0] 26)) [0]
  change IsI ((((w.alloc (.cells #[.slice A na ca] 26)).alloc (.cells #[.slice B nb cb] 26)).alloc (.cells #[.slice none 0 0] 26)).alloc (.cells #[.int .i64 0] 50)) (.slice (some ⟨(((w.alloc (.cells #[.slice A na ca] 26)).alloc (.cells #[.slice B nb cb] 26)).alloc (.cells #[.slice none 0 0] 26)).heap.size, 0, none⟩) 1 1) [0] at hI
  have hs3 : (((w.alloc (.cells #[.slice A na ca] 26)).alloc (.cells #[.slice B nb cb] 26)).alloc (.cells #[.slice none 0 0] 26)).heap.size = w.heap.size + 1 + 1 + 1 := by simp
  rw [hs3] at hI
  clear hs3
  generalize (((w.alloc (.cells #[.slice A na ca] 26)).alloc (.cells #[.slice B nb cb] 26)).alloc (.cells #[.slice none 0 0] 26)) = V at *
  have hR := hR.alloc (.cells #[.int .i64 0] 50)
  have b4 := below_step b3 (below_new V (.cells #[.int .i64 0] 50))
  with_reducible refine (HM.out _ _ (ha.below b4) (hb.below b4) hI).mono ?_
  rintro e w7 ⟨v7, rfl, hs7, y7⟩
  have hR7 := hR.on y7
  have b7 := below_step b4 y7
  obtain ⟨u7, rfl, ht7, hri7, hn7⟩ := hs7
  obtain ⟨a7, q7, rfl, _⟩ := ht7.form
  have hq := (hR7.set0 (.slice a7 KO.length q7)).cell0
  have c7 := hR7.cell0
  have f7 := hR7.free 0
  have ht8 : IsT (w7.setCell ⟨w.heap.size + 1 + 1, 0, none⟩ (.slice a7 KO.length q7)) (.slice a7 KO.length q7) KO := by
    rcases ht7 with h | ⟨g, c, cs, e, h1, h2, h3⟩
    · exact .inl h
    · exact .inr ⟨g, c, cs, e, h1, h2.far (h2.ne_ hR7 (by decide)) _, h3⟩
  have y8 := b7.setCell (p := ⟨w.heap.size + 1 + 1, 0, none⟩) (show w.heap.size ≤ w.heap.size + 1 + 1 by omega) (.slice a7 KO.length q7)
  clear HM
  go_wp2
  exact bodyPost_ret (v := .agg #[.slice a7 KO.length q7]) (by simp [results, Try.results12, go_sem, hq]) rfl ⟨_, rfl, ⟨_, rfl, ht8, hri7, hn7⟩, y8⟩

set_option maxHeartbeats 2000000 in
theorem less_any (u v : Value) (la lb : List Tx) (w : World) (ha : IsS w u la) (hb : IsS w v lb) (hsz : la.length + lb.length ≤ 100) : Calls Try.prog 13 #[u, v] w (RetS (keepOf [-1] (sidesOf la lb)) w) := by
  have HM := Lib.hid fun W kv h1 h2 h3 => merge_any u v kv la lb [-1] W h1 h2 h3 (by decide) hsz
  obtain ⟨A, ca, ea⟩ := ha.form
  obtain ⟨B, cb, eb⟩ := hb.form
  obtain ⟨na, hna⟩ : ∃ n, Hid (la.length = n) := ⟨_, rfl⟩
  obtain ⟨nb, hnb⟩ : ∃ n, Hid (lb.length = n) := ⟨_, rfl⟩
  rw [hna.out] at ea
  rw [hnb.out] at eb
  subst ea eb
  generalize keepOf [-1] (sidesOf la lb) = KO at *
  go_enter Try.func13, Try.ntmps13
  go_wp2_with fail
  have hR := blk_three w (.cells #[.slice A na ca] 26) (.cells #[.slice B nb cb] 26) 26 #[.slice none 0 0]
  have b3 : Below w.heap.size w (((w.alloc (.cells #[.slice A na ca] 26)).alloc (.cells #[.slice B nb cb] 26)).alloc (.cells #[.slice none 0 0] 26)) := below_step (below_step (below_new w _) (below_new _ _)) (below_new _ _)
  have hI := isI_new (((w.alloc (.cells #[.slice A na ca] 26)).alloc (.cells #[.slice B nb cb] 26)).alloc (.cells #[.slice none 0 0] 26)) [-1]
  change IsI ((((w.alloc (.cells #[.slice A na ca] 26)).alloc (.cells #[.slice B nb cb] 26)).alloc (.cells #[.slice none 0 0] 26)).alloc (.cells #[.int .i64 (-1)] 50)) (.slice (some ⟨(((w.alloc (.cells #[.slice A na ca] 26)).alloc (.cells #[.slice B nb cb] 26)).alloc (.cells #[.slice none 0 0] 26)).heap.size, 0, none⟩) 1 1) [-1] at hI
  have hs3 : (((w.alloc (.cells #[.slice A na ca] 26)).alloc (.cells #[.slice B nb cb] 26)).alloc (.cells #[.slice none 0 0] 26)).heap.size = w.heap.size + 1 + 1 + 1 := by simp
  rw [hs3] at hI
  clear hs3
  generalize (((w.alloc (.cells #[.slice A na ca] 26)).alloc (.cells #[.slice B nb cb] 26)).alloc (.cells #[.slice none 0 0] 26)) = V at *
  have hR := hR.alloc (.cells #[.int .i64 (-1)] 50)
  have b4 := below_step b3 (below_new V (.cells #[.int .i64 (-1)] 50))
  with_reducible refine (HM.out _ _ (ha.below b4) (hb.below b4) hI).mono ?_
  rintro e w7 ⟨v7, rfl, hs7, y7⟩
  have hR7 := hR.on y7
  have b7 := below_step b4 y7
  obtain ⟨u7, rfl, ht7, hri7, hn7⟩ := hs7
  obtain ⟨a7, q7, rfl, _⟩ := ht7.form
  have hq := (hR7.set0 (.slice a7 KO.length q7)).cell0
  have c7 := hR7.cell0
  have f7 := hR7.free 0
  have ht8 : IsT (w7.setCell ⟨w.heap.size + 1 + 1, 0, none⟩ (.slice a7 KO.length q7)) (.slice a7 KO.length q7) KO := by
    rcases ht7 with h | ⟨g, c, cs, e, h1, h2, h3⟩
    · exact .inl h
    · exact .inr ⟨g, c, cs, e, h1, h2.far (h2.ne_ hR7 (by decide)) _, h3⟩
  have y8 := b7.setCell (p := ⟨w.heap.size + 1 + 1, 0, none⟩) (show w.heap.size ≤ w.heap.size + 1 + 1 by omega) (.slice a7 KO.length q7)
  clear HM
  go_wp2
  exact bodyPost_ret (v := .agg #[.slice a7 KO.length q7]) (by simp [results, Try.results13, go_sem, hq]) rfl ⟨_, rfl, ⟨_, rfl, ht8, hri7, hn7⟩, y8⟩

set_option maxHeartbeats 2000000 in
theorem xor_any (u v : Value) (la lb : List Tx) (w : World) (ha : IsS w u la) (hb : IsS w v lb) (hsz : la.length + lb.length ≤ 100) : Calls Try.prog 14 #[u, v] w (RetS (keepOf [-1, 1] (sidesOf la lb)) w) := by
  have HM := Lib.hid fun W kv h1 h2 h3 => merge_any u v kv la lb [-1, 1] W h1 h2 h3 (by decide) hsz
  obtain ⟨A, ca, ea⟩ := ha.form
  obtain ⟨B, cb, eb⟩ := hb.form
  obtain ⟨na, hna⟩ : ∃ n, Hid (la.length = n) := ⟨_, rfl⟩
  obtain ⟨nb, hnb⟩ : ∃ n, Hid (lb.length = n) := ⟨_, rfl⟩
  rw [hna.out] at ea
  rw [hnb.out] at eb
  subst ea eb
  generalize keepOf [-1, 1] (sidesOf la lb) = KO at *
  go_enter Try.func14, Try.ntmps14
  go_wp2_with fail
  have hR := blk_three w (.cells #[.slice A na ca] 26) (.cells #[.slice B nb cb] 26) 26 #[.slice none 0 0]
  have b3 : Below w.heap.size w (((w.alloc (.cells #[.slice A na ca] 26)).alloc (.cells #[.slice B nb cb] 26)).alloc (.cells #[.slice none 0 0] 26)) := below_step (below_step (below_new w _) (below_new _ _)) (below_new _ _)
  have hI := isI_new (((w.alloc (.cells #[.slice A na ca] 26)).alloc (.cells #[.slice B nb cb] 26)).alloc (.cells #[.slice none 0 0] 26)) [-1, 1]
  change IsI ((((w.alloc (.cells #[.slice A na ca] 26)).alloc (.cells #[.slice B nb cb] 26)).alloc (.cells #[.slice none 0 0] 26)).alloc (.cells #[.int .i64 (-1), .int .i64 1] 50)) (.slice (some ⟨(((w.alloc (.cells #[.slice A na ca] 26)).alloc (.cells #[.slice B nb cb] 26)).alloc (.cells #[.slice none 0 0] 26)).heap.size, 0, none⟩) 2 2) [-1, 1] at hI
  have hs3 : (((w.alloc (.cells #[.slice A na ca] 26)).alloc (.cells #[.slice B nb cb] 26)).alloc (.cells #[.slice none 0 0] 26)).heap.size = w.heap.size + 1 + 1 + 1 := by simp
  rw [hs3] at hI
  clear hs3
  generalize (((w.alloc (.cells #[.slice A na ca] 26)).alloc (.cells #[.slice B nb cb] 26)).alloc (.cells #[.slice none 0 0] 26)) = V at *
  have hR := hR.alloc (.cells #[.int .i64 (-1), .int .i64 1] 50)
  have b4 := below_step b3 (below_new V (.cells #[.int .i64 (-1), .int .i64 1] 50))
  with_reducible refine (HM.out _ _ (ha.below b4) (hb.below b4) hI).mono ?_
  rintro e w7 ⟨v7, rfl, hs7, y7⟩
  have hR7 := hR.on y7
  have b7 := below_step b4 y7
  obtain ⟨u7, rfl, ht7, hri7, hn7⟩ := hs7
  obtain ⟨a7, q7, rfl, _⟩ := ht7.form
  have hq := (hR7.set0 (.slice a7 KO.length q7)).cell0
  have c7 := hR7.cell0
  have f7 := hR7.free 0
  have ht8 : IsT (w7.setCell ⟨w.heap.size + 1 + 1, 0, none⟩ (.slice a7 KO.length q7)) (.slice a7 KO.length q7) KO := by
    rcases ht7 with h | ⟨g, c, cs, e, h1, h2, h3⟩
    · exact .inl h
    · exact .inr ⟨g, c, cs, e, h1, h2.far (h2.ne_ hR7 (by decide)) _, h3⟩
  have y8 := b7.setCell (p := ⟨w.heap.size + 1 + 1, 0, none⟩) (show w.heap.size ≤ w.heap.size + 1 + 1 by omega) (.slice a7 KO.length q7)
  clear HM
  go_wp2
  exact bodyPost_ret (v := .agg #[.slice a7 KO.length q7]) (by simp [results, Try.results14, go_sem, hq]) rfl ⟨_, rfl, ⟨_, rfl, ht8, hri7, hn7⟩, y8⟩

theorem strs_inj (l m : List Tx) : (l.map fun x => (⟨x.toArray⟩ : ByteArray)) = (m.map fun x => (⟨x.toArray⟩ : ByteArray)) ↔ l = m := by
  constructor
  · intro h
    have h2 := congrArg (List.map fun b : ByteArray => b.data.toList) h
    simpa [List.map_map, Function.comp_def] using h2
  · rintro rfl; rfl
theorem equal_any (u v : Value) (la lb : List Tx) (w : World) (ha : IsT w u la) (hb : IsT w v lb) (hla : la.length ≤ 100) (hlb : lb.length ≤ 100) : Calls Try.prog 32 #[u, v] w (RetV (.bool (decide (la = lb))) w) := by
  by_cases hn : la.length = lb.length
  · rcases ha with ⟨rfl, rfl⟩ | ⟨g, c, cs, rfl, h1, h2, h3⟩
    · obtain rfl : lb = [] := List.eq_nil_of_length_eq_zero hn.symm
      obtain ⟨B, cb, rfl, _, _⟩ := hb.form
      exact (Try.slices_Equal_string_empty none B 0 0 cb w (by omega)).mono fun e w' ⟨h1, h2⟩ => ⟨h1, by rw [h2]; exact Below.refl _ _⟩
    · rcases hb with ⟨rfl, rfl⟩ | ⟨g', c', cs', rfl, h1', h2', h3'⟩
      · obtain rfl : la = [] := List.eq_nil_of_length_eq_zero hn
        exact (Try.slices_Equal_string_empty _ none c 0 0 w (by omega)).mono fun e w' ⟨h1, h2⟩ => ⟨h1, by rw [h2]; exact Below.refl _ _⟩
      · have hc := Try.slices_Equal_string g 0 la.length c g' 0 lb.length c' (la.map fun x => (⟨x.toArray⟩ : ByteArray)) (lb.map fun x => (⟨x.toArray⟩ : ByteArray)) w (by simp) (by simp) (by omega) (by omega)
          (fun j hj => by
            have hj' : j < la.length := by simpa using hj
            rw [Nat.zero_add, h2.cell, h3 j hj']
            simp [List.getD, hj'])
          (fun j hj => by
            have hj' : j < lb.length := by simpa using hj
            rw [Nat.zero_add, h2'.cell, h3' j hj']
            simp [List.getD, hj'])
        refine hc.mono fun e w' ⟨h4, q, h5⟩ => ⟨?_, by rw [h5]; exact below_dn w q⟩
        rw [h4, List.take_of_length_le (by simp), List.take_of_length_le (by simp)]
        congr 2
        rw [decide_eq_decide]
        exact strs_inj la lb
  · obtain ⟨A, ca, rfl, _, _⟩ := ha.form
    obtain ⟨B, cb, rfl, _, _⟩ := hb.form
    rw [decide_eq_false (fun h => hn (by rw [h]))]
    exact (Try.slices_Equal_string_lens A B la.length ca lb.length cb w hn).mono fun e w' ⟨h1, h2⟩ => ⟨h1, by rw [h2]; exact Below.refl _ _⟩
theorem same_any (u v : Value) (la lb : List Tx) (w : World) (ha : IsS w u la) (hb : IsS w v lb) : Calls Try.prog 16 #[u, v] w (RetV (.bool (decide (la = lb))) w) := by
  obtain ⟨u1, rfl, ta, _, na'⟩ := ha
  obtain ⟨v1, rfl, tb, _, nb'⟩ := hb
  have HE := Lib.hid fun W hW => equal_any u1 v1 la lb W (ta.below hW) (tb.below hW) na' nb'
  obtain ⟨A, ca, rfl, _, _⟩ := ta.form
  obtain ⟨B, cb, rfl, _, _⟩ := tb.form
  generalize decide (la = lb) = r at *
  clear ta tb
  generalize la.length = na at *
  generalize lb.length = nb at *
  have b2 : Below w.heap.size w ((w.alloc (.cells #[.slice A na ca] 26)).alloc (.cells #[.slice B nb cb] 26)) := below_step (below_new w _) (below_new _ _)
  go_enter Try.func16, Try.ntmps16
  go_wp2_with fail
  with_reducible refine (HE.out _ b2).mono ?_
  rintro e w1 ⟨rfl, y1⟩
  go_wp2
  go_ret
  exact ⟨rfl, below_step b2 y1⟩
end Go.Proofs.Ytanpncjnojjmkab
