/-
  The laws' Is, and their fixed fact.
-/
import Derived.Test.YtanpncjnojjmkabSG
namespace Go.Proofs.Ytanpncjnojjmkab
set_option linter.unusedVariables false
set_option maxRecDepth 40000
open Go.RowKit

theorem IsS.form {w : World} {v : Value} {l : List Tx} (h : IsS w v l) : ∃ A c, v = .agg #[.slice A l.length c] := by
  obtain ⟨u, rfl, ht, _⟩ := h
  obtain ⟨A, c, rfl, _⟩ := ht.form
  exact ⟨A, c, rfl⟩
set_option maxHeartbeats 4000000 in
theorem is_yes (v vw : Value) (l : List Tx) (w : World) (h : IsS w v l) (hw : IsT w vw l) : Calls Try.prog 9 #[v, vw] w (RetV (.bool true) w) := by
  have HL := Lib.hid fun W hb => list_any v l W (h.below hb)
  have HN := Lib.hid fun W hb => len_any v l W (h.below hb)
  obtain ⟨u, rfl, ht, hr, hn⟩ := h
  obtain ⟨A, c, rfl, hlc, _⟩ := ht.form
  obtain ⟨Aw, cw, rfl, hlw, _⟩ := hw.form
  obtain ⟨n, hln⟩ : ∃ n, Hid (l.length = n) := ⟨_, rfl⟩
  rw [hln.out] at HL HN hn hw ⊢
  clear ht hlc hlw hr
  go_enter Try.func9, Try.ntmps9
  go_wp2_with fail
  with_reducible refine (HL.out _ (below_new w _)).mono ?_
  rintro e w1 ⟨v1, rfl, t1, y1⟩
  have hb1 := Blk.over y1
  have c1 := hb1.cell0
  have b1 := below_step (below_new w _) y1
  obtain ⟨A1, c1', e1, _, _⟩ := t1.form
  rw [hln.out] at e1
  subst e1
  have HN1 := Lib.hid (HN.out _ b1)
  clear HL HN
  go_wp2_with fail
  with_reducible refine HN1.out.mono ?_
  rintro e w2 ⟨rfl, y2⟩
  have t2 := t1.below y2
  have b2 := below_step b1 y2
  have tw := hw.below b2
  clear c1 t1 hw HN1 hb1
  go_wp2
  go_loopw [6, 23] (fun _ t wr => ∃ i : Nat, t = .int .i64 i ∧ i ≤ n ∧ Below w2.heap.size w2 wr) (fun _ t _ => n - (intOf t).toNat)
  case atStart => exact ⟨0, rfl, by omega, Below.refl _ _⟩
  case round =>
    obtain ⟨i, rfl, hin, hb⟩ := hrel
    by_cases hlt : i < n
    · have hil : i < l.length := by rw [hln.out]; exact hlt
      obtain ⟨g1, rfl, hg1, hc1⟩ := (t2.below hb).at_ hil
      obtain ⟨g2, rfl, hg2, hc2⟩ := (tw.below hb).at_ hil
      generalize l.getD i [] = x at *
      go_wp2
      go_quiet (fail)
      go_wp2
      go_roundw
      case rel => exact ⟨i + 1, by go_num, by omega, below_step hb (below_dn wr _)⟩
      case measure => simp [intOf]; omega
    · go_wp2
      go_ret
      exact ⟨rfl, below_step b2 hb⟩

theorem set_ab : setOf [[98], [97], [98]] = [[97], [98]] := by
  refine (setOf_rise _).unique ?_ fun x => ?_
  · unfold Rise
    decide
  · rw [setOf_mem]
    simp only [List.mem_cons, List.not_mem_nil, or_false]
    constructor
    · rintro (h | h | h)
      · exact .inr h
      · exact .inl h
      · exact .inr h
    · rintro (h | h)
      · exact .inr (.inl h)
      · exact .inl h
theorem beg_ab : begOf [[97], [98]] [] = [[97], [98]] := by
  unfold begOf
  simp [beg_nil]
set_option maxHeartbeats 4000000 in
theorem awake_any (w : World) : Calls Try.prog 6 #[] w (RetV (.bool true) w) := by
  have HO : Hid (∀ (W : World) v, IsT W v [[98], [97], [98]] → Calls Try.prog 8 #[v] W (RetS [[97], [98]] W)) := Lib.hid fun W v h => by
    have := of_any v _ W h (by decide)
    rw [set_ab] at this
    exact this
  have HL := Lib.hid fun v W h => list_any v [[97], [98]] W h
  have HB : Hid (∀ v W, IsS W v [[97], [98]] → Calls Try.prog 24 #[v, .string ⟨#[]⟩] W (RetS [[97], [98]] W)) := Lib.hid fun v W h => by
    have := begin_any v _ [] W h
    rw [beg_ab] at this
    exact this
  have HN : Hid (∀ v W, IsS W v [[97], [98]] → Calls Try.prog 19 #[v] W (RetV (.int .i64 2) W)) := Lib.hid fun v W h => len_any v [[97], [98]] W h
  have h0 : IsT (w.alloc (.cells #[.string ⟨#[98]⟩, .string ⟨#[97]⟩, .string ⟨#[98]⟩] 9)) (.slice (some ⟨w.heap.size, 0, none⟩) 3 3) [[98], [97], [98]] := .inr ⟨w.heap.size, 3, _, rfl, by decide, Blk.new w 9 _, fun i hi => by
    rcases i with _ | _ | _ | i
    · rfl
    · rfl
    · rfl
    · simp at hi; omega⟩
  have H0 := Lib.hid h0
  clear h0
  go_enter Try.func6, Try.ntmps6
  go_wp2_with fail
  with_reducible refine (HO.out _ _ H0.out).mono ?_
  rintro e w1 ⟨v1, rfl, hs1, y1⟩
  have b1 := below_step (below_new w _) y1
  obtain ⟨A1, c1, e1⟩ := hs1.form
  change v1 = .agg #[.slice A1 2 c1] at e1
  subst e1
  have hs2 := hs1.below (below_new w1 (.cells #[.slice A1 2 c1] 26))
  have hX := Blk.new w1 26 #[.slice A1 2 c1]
  have b2 := below_step b1 (below_new w1 (.cells #[.slice A1 2 c1] 26))
  have HL2 := Lib.hid (HL.out _ _ hs2)
  clear HL HO H0
  go_wp2_with fail
  with_reducible refine HL2.out.mono ?_
  rintro e w3 ⟨v3, rfl, t3, y3⟩
  have hX := hX.on y3
  have cX := hX.cell0
  have b3 := below_step b2 y3
  have hs3 := hs2.below y3
  obtain ⟨A3, c3, e3, _, _⟩ := t3.form
  change v3 = .slice A3 2 c3 at e3
  subst e3
  obtain ⟨g3, hA3, hg3, hc0⟩ := t3.at_ (i := 0) (by decide)
  obtain ⟨g3', hA3', _, hc1⟩ := t3.at_ (i := 1) (by decide)
  rw [hA3] at hA3'
  injection hA3' with hA3'
  injection hA3' with hA3' _
  subst hA3' hA3
  have hc0 : w3.cell? ⟨g3, 0, none⟩ = some (.string ⟨#[97]⟩) := hc0
  have hc1 : w3.cell? ⟨g3, 1, none⟩ = some (.string ⟨#[98]⟩) := hc1
  have HB3 := Lib.hid (HB.out _ _ hs3)
  clear HB HL2 t3
  go_wp2_with fail
  with_reducible refine HB3.out.mono ?_
  rintro e w4 ⟨v4, rfl, hs4, y4⟩
  have b4 := below_step b3 y4
  obtain ⟨A4, c4, e4⟩ := hs4.form
  change v4 = .agg #[.slice A4 2 c4] at e4
  subst e4
  have HN4 := Lib.hid (HN.out _ _ hs4)
  clear HN HB3
  go_wp2_with fail
  with_reducible refine HN4.out.mono ?_
  rintro e w5 ⟨rfl, y5⟩
  have b5 := below_step b4 y5
  go_wp2
  go_ret
  exact ⟨rfl, b5⟩
end Go.Proofs.Ytanpncjnojjmkab
