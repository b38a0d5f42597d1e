/-
  The laws of cpset: the document's Marks.
-/
import Derived.Test.YtccbofaefpbhlaaDoorIsA
import Derived.Test.YtccbofaefpbhlaaDoorMarkM
namespace Go.Proofs.YtccbofaefpbhlaaDoor
set_option linter.unusedVariables false
set_option maxRecDepth 20000
open Go.RowKit

theorem int_info : (Tryd.prog.info? 3).map (fun i => (i.zero, i.size, i.bytes)) = some (some (.int .i64 0), 1, 8) := by kernel_rfl
theorem own_intAt {w : World} {B n : Nat} {u : Value} {l : List Nat} (h : w.ownsRow B 3 1 u n (cellsOf .i64 l)) (hl : l.length = n) : ∃ A c, u = .slice A n c ∧ IntAt w A l := by
  rcases h.2 with ⟨rfl, h0⟩ | ⟨g, cap, cur, rfl, _, hh, hnc, _⟩
  · have : l = [] := List.length_eq_zero_iff.1 (by omega)
    subst this
    exact ⟨none, 0, by rw [h0], fun hn => absurd rfl hn⟩
  · refine ⟨_, cap, rfl, fun _ => ⟨g, rfl, (Array.getElem?_eq_some_iff.1 hh).1, fun i hi => ?_⟩⟩
    have c1 := h.cells (g := g) rfl _ _ (cellsOf_get .i64 l hi)
    rw [add_zero_block] at c1
    exact c1
/-- It answers numbers in a row of its own. -/
def RetIn (l : List Nat) (w : World) (e : Ending) (w' : World) : Prop := ∃ u, e = .returned u ∧ w'.ownsRow w.heap.size 3 1 u l.length (cellsOf .i64 l) ∧ Below w.heap.size w w'
theorem take_snocN (L : List Nat) (i : Nat) (h : i < L.length) : L.take (i + 1) = L.take i ++ [L.getD i 0] := by
  rw [List.take_succ_eq_append_getElem h]
  simp [List.getD, h]
theorem allM_take (L : List (Int × Int)) (i : Nat) (h : i < L.length) : allM (L.take (i + 1)) = allM (L.take i) ++ [(L.getD i (0, 0)).1.toNat, (L.getD i (0, 0)).2.toNat + 1] := by
  rw [take_snoc_pr L i h, allM_snoc]
theorem allM_take_len (L : List (Int × Int)) (i : Nat) (h : i ≤ L.length) : (allM (L.take i)).length = 4 + 2 * i := by
  rw [allM_len, List.length_take, Nat.min_eq_left h]

set_option maxHeartbeats 8000000 in
theorem marks_any (A : Option Addr) (n c : Nat) (L : List (Int × Int)) (w : World) (hL : L.length = n) (hr : PairAt w A L) (hok : ∀ r ∈ L, OkR r) (hn : n ≤ 1000) : Calls Tryd.prog 20 #[.slice A n c] w (RetIn (marksOf L) w) := by
  obtain ⟨i0, hi0, hz0, hz1, hz2⟩ := info_parts int_info
  have hokg : ∀ i, i < L.length → OkR (L.getD i (0, 0)) := fun i hi => hok _ (by simp [List.getD, hi])
  have HL := Lib.hid hL
  have HOK := Lib.hid hokg
  clear hL hok hokg
  have ho0 : (w.alloc (.cells #[.int .i64 0, .int .i64 55296, .int .i64 57344, .int .i64 1114112] 3)).ownsRow w.heap.size 3 1 (.slice (some ⟨w.heap.size, 0, none⟩) 4 4) 4 (cellsOf .i64 (allM (L.take 0))) := by
    have := World.ownsRow_lit (base := w.heap.size) (e := 3) (size := 1) w #[.int .i64 0, .int .i64 55296, .int .i64 57344, .int .i64 1114112] 4 (Nat.le_refl _) (by decide) rfl
    simpa [allM, cellsOf] using this
  have b0 := below_new w (.cells #[.int .i64 0, .int .i64 55296, .int .i64 57344, .int .i64 1114112] 3)
  go_enter Tryd.func20, Tryd.ntmps20
  go_wp2
  go_loopw [3, 16] (fun u t wr => ∃ i : Nat, i ≤ n ∧ t = .int .i64 (i : Int) ∧ wr.ownsRow w.heap.size 3 1 u (4 + 2 * i) (cellsOf .i64 (allM (L.take i))) ∧ Below w.heap.size w wr) (fun _ t _ => n - (intOf t).toNat)
  case atStart => exact ⟨0, by omega, rfl, ho0, b0⟩
  case round =>
    clear ho0 b0
    obtain ⟨i, hi, rfl, hown, hbw⟩ := hrel
    have hsw := hbw.size
    by_cases hil : i < n
    · obtain ⟨g, rfl, hl, c0, c1⟩ := (hr.below hbw).at_ (i := i) (by rw [HL.out]; exact hil)
      obtain ⟨o1, o2, o3⟩ := HOK.out i (by rw [HL.out]; exact hil)
      have HT := Lib.hid (allM_take L i (by rw [HL.out]; exact hil))
      generalize L.getD i (0, 0) = r at *
      obtain ⟨x, y⟩ := r
      simp only at c0 c1 o1 o2 o3
      have HXY : Hid (cellsOf .i64 [x.toNat, y.toNat + 1] = [.int .i64 x, .int .i64 (y + 1)]) := by
        have e1 : ((x.toNat : Nat) : Int) = x := by omega
        have e2 : ((y.toNat + 1 : Nat) : Int) = y + 1 := by omega
        simp only [Hid, cellsOf, List.map_cons, List.map_nil, e1, e2]
      have ho2 := (hown.alloc (.cells #[.int .i64 x, .int .i64 y] 26)).alloc (.cells #[.int .i64 x, .int .i64 (y + 1)] 3)
      have hb2 := below_step (below_step hbw (below_new wr (.cells #[.int .i64 x, .int .i64 y] 26))) (below_new _ (.cells #[.int .i64 x, .int .i64 (y + 1)] 3))
      have hc2 : ∀ (j : Nat) (u : Value), [Value.int .i64 x, Value.int .i64 (y + 1)][j]? = some u → ((wr.alloc (.cells #[.int .i64 x, .int .i64 y] 26)).alloc (.cells #[.int .i64 x, .int .i64 (y + 1)] 3)).cell? ((⟨wr.heap.size + 1, 0, none⟩ : Addr).add j) = some u := by
        have := cell_two_at (wr.alloc (.cells #[.int .i64 x, .int .i64 y] 26)) 3 (.int .i64 x) (.int .i64 (y + 1))
        simpa using this
      have HC2 := Lib.hid hc2
      clear hc2
      go_wp2_with (at_builtin; refine wpList_append_own _ rfl (.tmp 20) (.tmp 26) 38 rfl w.heap.size 3 i0 (.int .i64 0) 1 8 Tryd.underlying38 hi0 hz0 hz1 hz2 rfl (by decide) _ (4 + 2 * i) _ rfl ho2 ⟨wr.heap.size + 1, 0, none⟩ 2 2 [.int .i64 x, .int .i64 (y + 1)] rfl rfl HC2.out (by simp [Value.oneCell']) (by unfold maxLen; omega) (by omega) (by simp; omega) ?_; intro v' w4 hown4 hgrow _; have hb4 : Below w.heap.size w w4 := hb2.grown hgrow (by simp; omega) (fun k hk => by have := (ho2.lt k hk).1; omega); clear hgrow)
      go_roundw
      case rel => exact ⟨i + 1, by omega, by go_num, by rw [HT.out, cellsOf_append, HXY.out, show 4 + 2 * (i + 1) = 4 + 2 * i + 2 by omega]; exact hown4, hb4⟩
      case measure => simp [intOf]; omega
    · obtain rfl : i = n := by omega
      rw [List.take_of_length_le (by rw [HL.out]; exact Nat.le_refl _)] at hown
      have hlen := allM_len L
      rw [HL.out] at hlen
      obtain ⟨Aa, ca, rfl, hAll⟩ := own_intAt hown hlen
      obtain ⟨M, hM⟩ : ∃ M, allM L = M := ⟨_, rfl⟩
      have HM : Hid (marksOf L = M.foldl ins []) := by rw [Hid, marksOf, hM]
      rw [hM] at hAll hlen
      obtain ⟨N, hN⟩ : ∃ N, 4 + 2 * i = N := ⟨_, rfl⟩
      rw [hN] at hlen hown ⊢
      have hNb : N ≤ 3000 := by omega
      have HLEN := Lib.hid hlen
      have ho1 := World.ownsRow_lit (base := wr.heap.size) (e := 3) (size := 1) wr #[] 0 (Nat.le_refl _) (by decide) rfl
      have b1 := below_new wr (.cells #[] 3)
      clear hM hN hlen hown hr
      generalize wr = w1 at *
      go_wp2_with fail
      go_loopw [6, 32] (fun u t wr => ∃ j m : Nat, j ≤ N ∧ t = .int .i64 (j : Int) ∧ wr.ownsRow w1.heap.size 3 1 u m (cellsOf .i64 ((M.take j).foldl ins [])) ∧ Hid (((M.take j).foldl ins []).length = m) ∧ m ≤ j ∧ Below w1.heap.size w1 wr) (fun _ t _ => N - (intOf t).toNat)
      case atStart => exact ⟨0, 0, by omega, rfl, ho1, rfl, by omega, b1⟩
      case round =>
        clear ho1 b1
        obtain ⟨j, m, hj, rfl, hown, HO, hmj, hb1⟩ := hrel
        have hs1 := hb1.size
        by_cases hjl : j < N
        · obtain ⟨ga, rfl, la, ca0⟩ := (hAll.below hb1).at_ (i := j) (by rw [HLEN.out]; exact hjl)
          have HT := Lib.hid (take_snocN M j (by rw [HLEN.out]; exact hjl))
          generalize M.getD j 0 = x at *
          obtain ⟨O, hO⟩ : ∃ O, (M.take j).foldl ins [] = O := ⟨_, rfl⟩
          have HS : Hid ((M.take (j + 1)).foldl ins [] = ins O x) := by rw [Hid, HT.out, List.foldl_append, hO]; rfl
          rw [hO] at hown HO
          obtain ⟨Ao, co, rfl, hOut⟩ := own_intAt hown HO.out
          have ho1 := World.ownsRow_lit (base := wr.heap.size) (e := 3) (size := 1) wr #[] 0 (Nat.le_refl _) (by decide) rfl
          have b1 := below_new wr (.cells #[] 3)
          have hd : decide ((j : Int) < (N : Int)) = true := by simp; omega
          clear hO HT hown
          generalize wr = W2 at *
          go_wp2_with fail
          go_loopw [9, 10, 39] (fun u s t wr => ∃ (k p : Nat) (nx : List Nat) (d : Bool), k ≤ m ∧ t = .int .i64 (k : Int) ∧ s = .bool d ∧ wr.ownsRow W2.heap.size 3 1 u p (cellsOf .i64 nx) ∧ Hid (nx.length = p) ∧ p ≤ 2 * k ∧ Hid ((O.take k).foldl (insStep x) ([], false) = (nx, d)) ∧ Below W2.heap.size W2 wr) (fun _ _ t _ => m - (intOf t).toNat)
          case atStart => exact ⟨0, 0, [], false, by omega, rfl, rfl, ho1, rfl, by omega, rfl, b1⟩
          case round =>
            clear ho1 b1 ca0
            obtain ⟨k, p, nx, d, hk, rfl, rfl, hown, HP, hpk, HF, hb2⟩ := hrel
            have hs2 := hb2.size
            by_cases hkm : k < m
            · obtain ⟨go, rfl, lo, co0⟩ := (hOut.below hb2).at_ (i := k) (by rw [HO.out]; exact hkm)
              have hf1 : (O.take (k + 1)).foldl (insStep x) ([], false) = insStep x (nx, d) (O.getD k 0) := by rw [take_snocN O k (by rw [HO.out]; exact hkm), List.foldl_append, HF.out]; rfl
              generalize O.getD k 0 = y at *
              obtain ⟨ao, cp, rfl⟩ := own_form2 hown
              cases d with
              | true =>
                rw [show insStep x (nx, true) y = (nx ++ [y], true) by simp [insStep]] at hf1
                have HF1 := Lib.hid hf1
                clear hf1
                go_wp2_with (at_builtin; refine wpList_append_own _ rfl (.tmp 60) (.tmp 62) 38 rfl W2.heap.size 3 i0 (.int .i64 0) 1 8 Tryd.underlying38 hi0 hz0 hz1 hz2 rfl (by decide) _ p _ rfl (hown.alloc (.cells #[.int .i64 (y : Nat)] 3)) ⟨wr.heap.size, 0, none⟩ 1 1 [.int .i64 (y : Nat)] rfl rfl (cell_one_at _ 3 _) (by simp [Value.oneCell']) (by unfold maxLen; omega) (by omega) (by simp; omega) ?_; intro v4 x4 h4o hgrow _; have h4b : Below W2.heap.size W2 x4 := (hb2.alloc hb2.size (.cells #[.int .i64 (y : Nat)] 3)).grown hgrow (by simp; omega) (fun k hk => by have := ((hown.alloc (.cells #[.int .i64 (y : Nat)] 3)).lt k hk).1; omega); clear hgrow)
                go_roundw
                case rel => exact ⟨k + 1, p + 1, nx ++ [y], true, by omega, by go_num, rfl, by rw [cellsOf_append]; exact h4o, by rw [Hid, List.length_append, HP.out]; rfl, by omega, HF1.out, h4b⟩
                case measure => simp [intOf]; omega
              | false =>
                by_cases hxy : x < y
                · have d1 : decide ((x : Int) < (y : Int)) = true := by simp; omega
                  have d2 : decide (x ≤ y) = true := by simp; omega
                  rw [show insStep x (nx, false) y = (nx ++ [x] ++ [y], true) by simp [insStep, hxy]; omega] at hf1
                  have HF1 := Lib.hid hf1
                  clear hf1
                  go_wp2_with (first
                    | (at_builtin; refine wpList_append_own _ rfl (.tmp 50) (.tmp 52) 38 rfl W2.heap.size 3 i0 (.int .i64 0) 1 8 Tryd.underlying38 hi0 hz0 hz1 hz2 rfl (by decide) _ p _ rfl (hown.alloc (.cells #[.int .i64 (x : Nat)] 3)) ⟨wr.heap.size, 0, none⟩ 1 1 [.int .i64 (x : Nat)] rfl rfl (cell_one_at _ 3 _) (by simp [Value.oneCell']) (by unfold maxLen; omega) (by omega) (by simp; omega) ?_; intro v3 x3 h3o hgrow _; have h3b : Below W2.heap.size W2 x3 := (hb2.alloc hb2.size (.cells #[.int .i64 (x : Nat)] 3)).grown hgrow (by simp; omega) (fun k hk => by have := ((hown.alloc (.cells #[.int .i64 (x : Nat)] 3)).lt k hk).1; omega); clear hgrow; have hs3 := h3b.size; obtain ⟨ao3, cp3, rfl⟩ := own_form2 h3o)
                    | (at_builtin; refine wpList_append_own _ rfl (.tmp 60) (.tmp 62) 38 rfl W2.heap.size 3 i0 (.int .i64 0) 1 8 Tryd.underlying38 hi0 hz0 hz1 hz2 rfl (by decide) _ (p + 1) _ rfl (h3o.alloc (.cells #[.int .i64 (y : Nat)] 3)) ⟨x3.heap.size, 0, none⟩ 1 1 [.int .i64 (y : Nat)] rfl rfl (cell_one_at _ 3 _) (by simp [Value.oneCell']) (by unfold maxLen; omega) (by omega) (by simp; omega) ?_; intro v4 x4 h4o hgrow _; have h4b : Below W2.heap.size W2 x4 := (h3b.alloc h3b.size (.cells #[.int .i64 (y : Nat)] 3)).grown hgrow (by simp; omega) (fun k hk => by have := ((h3o.alloc (.cells #[.int .i64 (y : Nat)] 3)).lt k hk).1; omega); clear hgrow))
                  go_roundw
                  case rel => exact ⟨k + 1, p + 2, nx ++ [x] ++ [y], true, by omega, by go_num, rfl, by rw [cellsOf_append, cellsOf_append]; exact h4o, by rw [Hid, List.length_append, List.length_append, HP.out]; rfl, by omega, HF1.out, h4b⟩
                  case measure => simp [intOf]; omega
                · have d1 : decide ((x : Int) < (y : Int)) = false := by simp; omega
                  obtain ⟨d', hd'⟩ : ∃ d', decide (x ≤ y) = d' := ⟨_, rfl⟩
                  rw [show insStep x (nx, false) y = (nx ++ [y], d') by simp only [insStep, hd']; simp [hxy]] at hf1
                  have HF1 := Lib.hid hf1
                  clear hf1
                  go_wp2_with (at_builtin; refine wpList_append_own _ rfl (.tmp 60) (.tmp 62) 38 rfl W2.heap.size 3 i0 (.int .i64 0) 1 8 Tryd.underlying38 hi0 hz0 hz1 hz2 rfl (by decide) _ p _ rfl (hown.alloc (.cells #[.int .i64 (y : Nat)] 3)) ⟨wr.heap.size, 0, none⟩ 1 1 [.int .i64 (y : Nat)] rfl rfl (cell_one_at _ 3 _) (by simp [Value.oneCell']) (by unfold maxLen; omega) (by omega) (by simp; omega) ?_; intro v4 x4 h4o hgrow _; have h4b : Below W2.heap.size W2 x4 := (hb2.alloc hb2.size (.cells #[.int .i64 (y : Nat)] 3)).grown hgrow (by simp; omega) (fun k hk => by have := ((hown.alloc (.cells #[.int .i64 (y : Nat)] 3)).lt k hk).1; omega); clear hgrow)
                  go_roundw
                  case rel => exact ⟨k + 1, p + 1, nx ++ [y], d', by omega, by go_num, rfl, by rw [cellsOf_append]; exact h4o, by rw [Hid, List.length_append, HP.out]; rfl, by omega, HF1.out, h4b⟩
                  case measure => simp [intOf]; omega
            · obtain rfl : k = m := by omega
              have hend := ins_fold x O []
              rw [List.nil_append] at hend
              have hf2 := HF.out
              rw [List.take_of_length_le (by rw [HO.out]; exact Nat.le_refl _)] at hf2
              rw [hf2] at hend
              have hln := ins_len x O
              rw [HO.out] at hln
              obtain ⟨ao, cp, rfl⟩ := own_form2 hown
              cases d with
              | true =>
                have hnx : nx = ins O x := hend
                have HNX := Lib.hid hnx
                have hpl : p ≤ k + 1 := by rw [← HP.out, hnx]; exact hln
                clear hend hf2 hnx hln
                go_wp2
                go_roundw
                case rel => exact ⟨j + 1, p, by omega, by go_num, by rw [HS.out, ← HNX.out]; exact own_base hown hs1, by rw [Hid, HS.out, ← HNX.out, HP.out], by omega, hb1.trans (hb2.mono hs1)⟩
                case measure => simp [intOf]; omega
              | false =>
                have hnx : nx ++ [x] = ins O x := hend
                have HNX := Lib.hid hnx
                have hpl : p + 1 ≤ k + 1 := by have h9 := congrArg List.length hnx; rw [List.length_append, HP.out] at h9; simp at h9; omega
                clear hend hf2 hnx hln
                go_wp2_with (at_builtin; refine wpList_append_own _ rfl (.tmp 67) (.tmp 69) 38 rfl W2.heap.size 3 i0 (.int .i64 0) 1 8 Tryd.underlying38 hi0 hz0 hz1 hz2 rfl (by decide) _ p _ rfl (hown.alloc (.cells #[.int .i64 (x : Nat)] 3)) ⟨wr.heap.size, 0, none⟩ 1 1 [.int .i64 (x : Nat)] rfl rfl (cell_one_at _ 3 _) (by simp [Value.oneCell']) (by unfold maxLen; omega) (by omega) (by simp; omega) ?_; intro v4 x4 h4o hgrow _; have h4b : Below W2.heap.size W2 x4 := (hb2.alloc hb2.size (.cells #[.int .i64 (x : Nat)] 3)).grown hgrow (by simp; omega) (fun k hk => by have := ((hown.alloc (.cells #[.int .i64 (x : Nat)] 3)).lt k hk).1; omega); clear hgrow)
                go_roundw
                case rel => exact ⟨j + 1, p + 1, by omega, by go_num, by rw [HS.out, ← HNX.out, cellsOf_append]; exact own_base h4o hs1, by rw [Hid, HS.out, ← HNX.out, List.length_append, HP.out]; rfl, by omega, hb1.trans (h4b.mono hs1)⟩
                case measure => simp [intOf]; omega
        · obtain rfl : j = N := by omega
          rw [List.take_of_length_le (by rw [HLEN.out]; exact Nat.le_refl _)] at hown HO
          go_wp2
          go_ret
          exact ⟨_, rfl, by rw [HM.out, HO.out]; exact own_base hown hsw, hbw.trans (hb1.mono hsw)⟩
end Go.Proofs.YtccbofaefpbhlaaDoor
