/-
  slices.Grow, slices.Concat, slices.Compact at runes: their contracts.
-/
import Derived.Test.YtccbofaefpbhlaaDoorCutsA
import Derived.Test.YtccbofaefpbhlaaDoorCutsM
import Derived.Test.YtccbofaefpbhlaaDoorShelfG
import Derived.Laws.AppendOwnNone
namespace Go.Proofs.YtccbofaefpbhlaaDoor
set_option linter.unusedVariables false
set_option maxRecDepth 20000
open Go.RowKit Go.Shelf Go.Lib Go.Sort

theorem grow_any (n : Nat) (w : World) (hn : n ≤ 10000000) : Calls Tryd.prog 122 #[.slice none 0 0, .int .i64 (n : Int)] w fun e w' => ∃ u, e = .returned u ∧ w'.ownsRow w.heap.size 21 1 u 0 [] ∧ Below w.heap.size w w' := by
  obtain ⟨i0, hi0, hz0, hz1, hz2⟩ := info_parts rune_info
  rcases Nat.eq_zero_or_pos n with rfl | hp
  · have hcon := Any8.slices_Grow_room Tryd.growRn none 0 0 0 w (by omega) (by omega) (by omega) (by omega)
    change Calls Tryd.prog 122 _ _ _ at hcon
    refine hcon.mono ?_
    rintro e w' ⟨rfl, rfl⟩
    exact ⟨_, rfl, World.ownsRow_nil _ _ _ _, Below.refl _ _⟩
  · have hcon := Any8.slices_Grow_grow Tryd.growRn i0 (.int .i32 0) hi0 hz0 (by omega) none 0 0 n [] w (by omega) (by omega) (by rw [hz2]; omega) (by omega) (by simp) (fun _ => rfl) (fun a h => by cases h)
    change Calls Tryd.prog 122 _ _ _ at hcon
    refine hcon.mono ?_
    rintro e w' ⟨rfl, rfl⟩
    have hge := grownCap_ge w (0 + n) 0 21
    have hge' := grownCap_ge w n 0 21
    have hle := grownCap_le_maxLen w (0 + n) 0 21 (by unfold maxLen; omega)
    refine ⟨_, rfl, ⟨rfl, .inr ⟨w.heap.size, _, _, rfl, Nat.le_refl _, heap_alloc_new w.drew _, by omega, hle, ?_, rfl⟩⟩, (below_drew w).alloc (Nat.le_refl _) _⟩
    have hr : Tryd.growRn_ren.t 25 = 21 := rfl
    rw [hr]
    simp [Builtin.zeroCells, Value.cells]
    omega

/-- Rows of runes in a slice of slices. -/
def RowsAt (w : World) (g : Nat) (Us : List Value) (Ls : List (List Nat)) : Prop :=
  g < w.heap.size ∧ ∀ i, i < Ls.length → w.cell? ⟨g, i, none⟩ = some (Us.getD i (.bool false)) ∧ ∃ B, w.ownsRow B 21 1 (Us.getD i (.bool false)) (Ls.getD i []).length (cellsOf .i32 (Ls.getD i []))
theorem RowsAt.below {w w' : World} {g : Nat} {Us : List Value} {Ls : List (List Nat)} (h : RowsAt w g Us Ls) (hb : Below w.heap.size w w') : RowsAt w' g Us Ls :=
  ⟨Nat.lt_of_lt_of_le h.1 hb.size, fun i hi => ⟨(hb.cell (p := ⟨g, i, none⟩) h.1).trans (h.2 i hi).1, by obtain ⟨B, h1⟩ := (h.2 i hi).2; exact ⟨B, own_kept h1 hb⟩⟩⟩
theorem flat_take (Ls : List (List Nat)) (i : Nat) (h : i < Ls.length) : (Ls.take (i + 1)).flatten = (Ls.take i).flatten ++ Ls.getD i [] := by
  rw [List.take_succ_eq_append_getElem h, List.flatten_append]
  simp [List.getD, h]
theorem flat_take_le (Ls : List (List Nat)) (i : Nat) : (Ls.take i).flatten.length ≤ Ls.flatten.length := by
  have h : Ls.flatten = (Ls.take i).flatten ++ (Ls.drop i).flatten := by rw [← List.flatten_append, List.take_append_drop]
  rw [h, List.length_append]; omega

set_option maxHeartbeats 8000000 in
theorem concat_any (g0 c : Nat) (Us : List Value) (Ls : List (List Nat)) (w : World) (hR : RowsAt w g0 Us Ls) (hn : Ls.length ≤ 1000) (hf : Ls.flatten.length ≤ 5000000) :
    Calls Tryd.prog 98 #[.slice (some ⟨g0, 0, none⟩) Ls.length c] w (RetOw Ls.flatten w) := by
  obtain ⟨i0, hi0, hz0, hz1, hz2⟩ := info_parts rune_info
  obtain ⟨n, hn'⟩ : ∃ n, Ls.length = n := ⟨_, rfl⟩
  have HN := Lib.hid hn'
  rw [hn'] at hn ⊢
  clear hn'
  obtain ⟨m, hm'⟩ : ∃ m, Ls.flatten.length = m := ⟨_, rfl⟩
  have HM := Lib.hid hm'
  rw [hm'] at hf
  clear hm'
  go_enter Tryd.func98, Tryd.ntmps98
  go_wp2
  go_loopw [3, 11] (fun s t wr => ∃ i k : Nat, i ≤ n ∧ t = .int .i64 (i : Int) ∧ s = .int .i64 (k : Int) ∧ Hid ((Ls.take i).flatten.length = k) ∧ k ≤ m ∧ w = wr) (fun _ t _ => n - (intOf t).toNat)
  case atStart => exact ⟨0, 0, by omega, rfl, rfl, rfl, by omega, rfl⟩
  case round =>
    obtain ⟨i, k, hi, rfl, rfl, HK, hkm, rfl⟩ := hrel
    by_cases hil : i < n
    · obtain ⟨c1, B0, hA⟩ := hR.2 i (by rw [HN.out]; exact hil)
      obtain ⟨A, cp, hu⟩ := own_form1 hA
      rw [hu] at c1
      have HT := Lib.hid (flat_take Ls i (by rw [HN.out]; exact hil))
      have hle := flat_take_le Ls (i + 1)
      rw [HT.out, List.length_append, HK.out, HM.out] at hle
      have HK2 : Hid ((Ls.take (i + 1)).flatten.length = k + (Ls.getD i []).length) := by rw [Hid, HT.out, List.length_append, HK.out]
      generalize (Ls.getD i []).length = p at *
      clear hu hA
      have hnn : ¬ ((k : Int) + (p : Int) < 0) := by omega
      go_wp2
      go_roundw
      case rel => exact ⟨i + 1, k + p, by omega, by go_num, by go_num, HK2, by omega, trivial⟩
      case measure => simp [intOf]; omega
    · obtain rfl : i = n := by omega
      obtain rfl : k = m := by rw [← HK.out, ← HM.out, List.take_of_length_le (by rw [HN.out]; exact Nat.le_refl _)]
      have HG := Lib.hid (grow_any k w (by omega))
      go_wp2_with fail
      refine HG.out.mono ?_
      rintro e w1 ⟨u0, rfl, hown1, hb1⟩
      have HR := Lib.hid hR
      have hs1 := hb1.size
      clear HG hR
      go_wp2
      go_loopw [6, 27] (fun s t wr => ∃ j q : Nat, j ≤ i ∧ t = .int .i64 (j : Int) ∧ wr.ownsRow w.heap.size 21 1 s q (cellsOf .i32 (Ls.take j).flatten) ∧ Hid ((Ls.take j).flatten.length = q) ∧ q ≤ k ∧ Below w.heap.size w wr) (fun _ t _ => i - (intOf t).toNat)
      case atStart => exact ⟨0, 0, by omega, rfl, hown1, rfl, by omega, hb1⟩
      case round =>
        clear hb1 hown1
        obtain ⟨j, q, hj, rfl, hown, HQ, hqm, hbw⟩ := hrel
        have hsw := hbw.size
        by_cases hjl : j < i
        · obtain ⟨c1, B0, hA⟩ := (HR.out.below hbw).2 j (by rw [HN.out]; exact hjl)
          have HT := Lib.hid (flat_take Ls j (by rw [HN.out]; exact hjl))
          have hle := flat_take_le Ls (j + 1)
          rw [HT.out, List.length_append, HQ.out, HM.out] at hle
          have HK2 : Hid ((Ls.take (j + 1)).flatten.length = q + (Ls.getD j []).length) := by rw [Hid, HT.out, List.length_append, HQ.out]
          generalize Us.getD j (.bool false) = U at *
          generalize Ls.getD j [] = L at *
          obtain ⟨ao, cpo, rfl⟩ := own_form1 hown
          rcases hA.2 with ⟨rfl, h0⟩ | ⟨g1, cap1, cur1, rfl, _⟩
          · have hL : L = [] := List.eq_nil_of_length_eq_zero h0
            subst hL
            clear hA h0
            go_wp2_with (at_builtin; refine wpList_append_own_none rfl (.tmp 31) (.tmp 32) 53 rfl w.heap.size 21 i0 1 Tryd.underlying53 hi0 _ q _ rfl hown rfl ?_)
            go_roundw
            case rel => exact ⟨j + 1, q, by omega, by go_num, by rw [HT.out, List.append_nil]; exact hown, HK2, by omega, hbw⟩
            case measure => simp [intOf]; omega
          · have HSR := Lib.hid (hA.cells (g := g1) rfl)
            obtain ⟨p, hp⟩ : ∃ p, L.length = p := ⟨_, rfl⟩
            have HL1 : Hid ((cellsOf .i32 L).length = p * 1 ∧ ∀ u ∈ cellsOf .i32 L, u.oneCell' = true) := ⟨by rw [cellsOf_length, hp]; omega, cellsOf_one _ _⟩
            rw [hp] at hle HK2 c1
            clear hA hp
            go_wp2_with (at_builtin; refine wpList_append_own _ rfl (.tmp 31) (.tmp 32) 53 rfl w.heap.size 21 i0 (.int .i32 0) 1 4 Tryd.underlying53 hi0 hz0 hz1 hz2 rfl (by decide) _ q _ rfl hown ⟨g1, 0, none⟩ p cap1 (cellsOf .i32 L) rfl HL1.out.1 HSR.out HL1.out.2 (by unfold maxLen; omega) (by omega) hsw ?_; intro v' w4 hown4 hgrow _; have hb4 : Below w.heap.size w w4 := hbw.grown hgrow (by omega) (fun k hk => by have := (hown.lt k hk).1; omega); clear hgrow)
            go_roundw
            case rel => exact ⟨j + 1, q + p, by omega, by go_num, by rw [HT.out, cellsOf_append]; exact hown4, HK2, by omega, hb4⟩
            case measure => simp [intOf]; omega
        · obtain rfl : j = i := by omega
          obtain rfl : q = k := by rw [← HQ.out, ← HM.out, List.take_of_length_le (by rw [HN.out]; exact Nat.le_refl _)]
          rw [List.take_of_length_le (by rw [HN.out]; exact Nat.le_refl _)] at hown
          go_wp2
          go_ret
          exact ⟨_, rfl, by rw [HM.out]; exact hown, hbw⟩
end Go.Proofs.YtccbofaefpbhlaaDoor
