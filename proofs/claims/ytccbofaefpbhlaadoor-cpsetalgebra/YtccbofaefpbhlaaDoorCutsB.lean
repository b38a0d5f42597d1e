/-
  cpset: cuts, the method Chars.
  A list in order, each once; it speaks of no program.
  slices.Grow, slices.Concat, slices.Compact at runes: their contracts.
-/
import Derived.Test.YtccbofaefpbhlaaDoorOfC
import Derived.Test.YtccbofaefpbhlaaDoorMergeM
import Derived.Laws.MakeOwn
import Derived.Lib.SlicesCompact
import Derived.Test.YtccbofaefpbhlaaDoorShelfG
import Derived.Laws.AppendOwnNone
namespace Go.Proofs.YtccbofaefpbhlaaDoor
set_option linter.unusedVariables false
set_option maxRecDepth 20000
open Go.RowKit

theorem rune_info : (Tryd.prog.info? 21).map (fun i => (i.zero, i.size, i.bytes)) = some (some (.int .i32 0), 1, 4) := by kernel_rfl
/-- It answers runes in a row of its own. -/
def RetOw (l : List Nat) (w : World) (e : Ending) (w' : World) : Prop := ∃ u, e = .returned u ∧ w'.ownsRow w.heap.size 21 1 u l.length (cellsOf .i32 l) ∧ Below w.heap.size w w'
theorem make_runes (w : World) (c : Nat) (hc : c ≤ 1000000000) : ∃ w', (Instr.makeSlice 53 (.int .i64 0) (.int .i64 (c : Int))).run Tryd.prog w = .ok (.slice (some ⟨w.heap.size, 0, none⟩) 0 c) w' ∧ w'.ownsRow w.heap.size 21 1 (.slice (some ⟨w.heap.size, 0, none⟩) 0 c) 0 [] ∧ w.grownBy w' none := by
  obtain ⟨i0, hi, hz0, hz1, hz2⟩ := info_parts rune_info
  exact run_make_own w w.heap.size 53 21 i0 (.int .i32 0) 1 Tryd.underlying53 hi hz0 hz1 .i64 .i64 c (by rw [hz2]; omega) (by unfold maxLen; omega) (Nat.le_refl _)
theorem cutsS_take (S : List (Nat × Nat)) (i : Nat) (h : i < S.length) : cutsS (S.take (i + 1)) = cutsS (S.take i) ++ [(S.getD i (0, 0)).1, (S.getD i (0, 0)).2 + 1] := by
  rw [List.take_succ_eq_append_getElem h, cutsS_snoc]
  simp [List.getD, h]
theorem own_form1 {w : World} {B n s : Nat} {e : TypeId} {u : Value} {xs : List Value} (h : w.ownsRow B e s u n xs) : ∃ ao cap, u = .slice ao n cap := own_form2 h

set_option maxHeartbeats 4000000 in
theorem cuts_any (S : List (Nat × Nat)) (v : Value) (w : World) (h : IsSet w v S) : Calls Tryd.prog 99 #[v] w (RetOw (cutsS S) w) := by
  obtain ⟨i0, hi0, hz0, hz1, hz2⟩ := info_parts rune_info
  obtain ⟨A, cp, rfl, hs, hg⟩ := h
  have hlen := hg.len (by decide)
  have hcl := cutsS_length S
  obtain ⟨n, hn⟩ : ∃ n, S.length = n := ⟨_, rfl⟩
  have HN := Lib.hid hn
  have HCL := Lib.hid hcl
  clear hcl
  have hX := Blk.new w 29 #[.slice A n cp]
  have bW := below_new w (.cells #[.slice A n cp] 29)
  obtain ⟨w2, hmk, hown2, hg2⟩ := make_runes (w.alloc (.cells #[.slice A n cp] 29)) (2 * n) (by omega)
  rw [show ((2 * n : Nat) : Int) = 2 * (n : Int) by omega] at hmk
  have bw2 : Below (w.alloc (.cells #[.slice A n cp] 29)).heap.size (w.alloc (.cells #[.slice A n cp] 29)) w2 := (Below.refl _ _).grown hg2 (Nat.le_refl _) (by simp)
  have hX2 := hX.on bw2
  have cX2 := hX2.cell0
  have b2 := below_step bW bw2
  have hsz2 := bw2.size
  simp only [World.size_alloc] at hown2 hmk hsz2
  rw [hn] at hlen ⊢
  clear hn hg2 bw2
  go_enter Tryd.func99, Tryd.ntmps99
  go_wp2
  go_loopw [3, 14] (fun u t wr => ∃ i : Nat, i ≤ n ∧ t = .int .i64 (i : Int) ∧ wr.ownsRow (w.heap.size + 1) 21 1 u (2 * i) (cellsOf .i32 (cutsS (S.take i))) ∧ Below w.heap.size w wr ∧ w.heap.size + 1 ≤ wr.heap.size) (fun _ t _ => n - (intOf t).toNat)
  case atStart => exact ⟨0, by omega, rfl, hown2, b2, hsz2⟩
  case round =>
    obtain ⟨i, hi, rfl, hown, hbw, hsz⟩ := hrel
    by_cases hil : i < n
    · obtain ⟨g, rfl, hl, c1, c2, c3⟩ := (hs.below hbw).at_ (i := i) (by rw [HN.out]; exact hil)
      obtain ⟨_, _, g3, _⟩ := hg.at_ (i := i) (by rw [HN.out]; exact hil)
      have HT := Lib.hid (cutsS_take S i (by rw [HN.out]; exact hil))
      generalize (S.getD i (0, 0)).1 = a at *
      generalize (S.getD i (0, 0)).2 = b at *
      generalize cnt (S.take i) = q at *
      have ho2 := (hown.alloc (.cells #[.int .i32 (a : Nat), .int .i32 (b : Nat), .int .i64 (q : Nat)] 95)).alloc (.cells #[.int .i32 (a : Nat), .int .i32 ((b : Int) + 1)] 21)
      have hb2 := below_step (below_step hbw (below_new wr (.cells #[.int .i32 (a : Nat), .int .i32 (b : Nat), .int .i64 (q : Nat)] 95))) (below_new _ (.cells #[.int .i32 (a : Nat), .int .i32 ((b : Int) + 1)] 21))
      have hc2 : ∀ (j : Nat) (u : Value), [Value.int .i32 (a : Nat), Value.int .i32 ((b : Int) + 1)][j]? = some u → ((wr.alloc (.cells #[.int .i32 (a : Nat), .int .i32 (b : Nat), .int .i64 (q : Nat)] 95)).alloc (.cells #[.int .i32 (a : Nat), .int .i32 ((b : Int) + 1)] 21)).cell? ((⟨wr.heap.size + 1, 0, none⟩ : Addr).add j) = some u := by
        have := cell_two_at (wr.alloc (.cells #[.int .i32 (a : Nat), .int .i32 (b : Nat), .int .i64 (q : Nat)] 95)) 21 (.int .i32 (a : Nat)) (.int .i32 ((b : Int) + 1))
        simpa using this
      have HC2 := Lib.hid hc2
      clear hc2 hX2 hX cX2
      go_wp2_with (at_builtin; refine wpList_append_own _ rfl (.tmp 18) (.tmp 26) 53 rfl (w.heap.size + 1) 21 i0 (.int .i32 0) 1 4 Tryd.underlying53 hi0 hz0 hz1 hz2 rfl (by decide) _ (2 * i) _ rfl ho2 ⟨wr.heap.size + 1, 0, none⟩ 2 2 [.int .i32 (a : Nat), .int .i32 ((b : Int) + 1)] rfl rfl HC2.out (by simp [Value.oneCell']) (by unfold maxLen; omega) (by omega) (by simp; omega) ?_; intro v' w4 hown4 hgrow _; have hb4 : Below w.heap.size w w4 := hb2.grown hgrow (by simp; omega) (fun k hk => by have := (ho2.lt k hk).1; omega); have hs4 := hgrow.size; clear hgrow)
      simp only [World.size_alloc] at hs4
      go_roundw
      case rel => exact ⟨i + 1, by omega, by go_num, by rw [HT.out, cellsOf_append, show 2 * (i + 1) = 2 * i + 2 by omega]; exact hown4, hb4, by omega⟩
      case measure => simp [intOf]; omega
    · obtain rfl : i = n := by omega
      rw [← HN.out, List.take_length] at hown
      go_wp2
      go_ret
      exact ⟨_, rfl, by rw [HCL.out]; exact own_base hown (by omega), hbw⟩

theorem cell_one_at (w : World) (t : TypeId) (x : Value) : ∀ (j : Nat) (u : Value), [x][j]? = some u → (w.alloc (.cells #[x] t)).cell? ((⟨w.heap.size, 0, none⟩ : Addr).add j) = some u := by
  intro j u hu
  rw [add_off, (Blk.new w t _).cell, Nat.zero_add]
  rcases j with _ | j
  · simpa using hu
  · simp at hu

/-- All characters of a set, rising. -/
def charsS (S : List (Nat × Nat)) : List Nat := S.flatMap fun r => List.range' r.1 (r.2 - r.1 + 1)
theorem charsS_take (S : List (Nat × Nat)) (i : Nat) (h : i < S.length) : charsS (S.take (i + 1)) = charsS (S.take i) ++ List.range' (S.getD i (0, 0)).1 ((S.getD i (0, 0)).2 - (S.getD i (0, 0)).1 + 1) := by
  rw [List.take_succ_eq_append_getElem h, charsS, List.flatMap_append]
  simp [charsS, List.getD, h]
theorem charsS_length : ∀ (S : List (Nat × Nat)), (charsS S).length = cnt S
  | [] => rfl
  | (a, b) :: r => by
    have := charsS_length r
    simp only [charsS, List.flatMap_cons, List.length_append, List.length_range', cnt] at this ⊢
    omega

set_option maxHeartbeats 8000000 in
theorem charsOf_any (S : List (Nat × Nat)) (v : Value) (w : World) (h : IsSet w v S) : Calls Tryd.prog 45 #[v] w (RetOw (charsS S) w) := by
  obtain ⟨i0, hi0, hz0, hz1, hz2⟩ := info_parts rune_info
  have hg : Good 0 S := by obtain ⟨_, _, _, _, hg⟩ := h; exact hg
  have hs : ∀ {A n cp}, IsSet w (.agg #[.slice A n cp]) S → SpansAt w A S := by
    rintro A n cp ⟨A', c', e, hs, _⟩
    injection e with e
    injection e with e
    simp at e
    rw [e.1]
    exact hs
  obtain ⟨A, cp, rfl⟩ := h.shape
  have hs := hs h
  have hlen := hg.len (by decide)
  have hcn := hg.cnt_le (by decide)
  have hcl := charsS_length S
  have hcnt : ∀ i, i < S.length → cnt (S.take (i + 1)) ≤ cnt S := fun i hi => by
    have := cnt_take_mono S (show i + 1 ≤ S.length by omega)
    rwa [List.take_length] at this
  have hX := Blk.new w 29 #[.slice A S.length cp]
  have bW := below_new w (.cells #[.slice A S.length cp] 29)
  have CO := Lib.hid (count_any _ S _ (h.alloc (.cells #[.slice A S.length cp] 29)))
  have HCL := Lib.hid hcl
  have HCN := Lib.hid hcnt
  clear hcl hcnt h
  obtain ⟨n, hn⟩ : ∃ n, S.length = n := ⟨_, rfl⟩
  have HN := Lib.hid hn
  rw [hn] at hlen hX bW CO ⊢
  obtain ⟨m, hm⟩ : ∃ m, cnt S = m := ⟨_, rfl⟩
  have HM := Lib.hid hm
  rw [hm] at hcn CO
  clear hn hm
  go_enter Tryd.func45, Tryd.ntmps45
  go_wp2_with fail
  refine CO.out.mono ?_
  rintro e w1 ⟨rfl, y1⟩
  obtain ⟨w2, hmk, hown2, hg2⟩ := make_runes w1 m (by omega)
  have bw2 : Below w1.heap.size w1 w2 := (Below.refl _ _).grown hg2 (Nat.le_refl _) (by simp)
  have hX2 := (hX.on y1).on bw2
  have cX2 := hX2.cell0
  have b2 := below_step (below_step bW y1) bw2
  have hsz1 := y1.size
  have hsz2 := bw2.size
  simp only [World.size_alloc] at hsz1
  clear hg2 bw2 CO
  go_wp2
  go_loopw [3, 13] (fun u t wr => ∃ i : Nat, i ≤ n ∧ t = .int .i64 (i : Int) ∧ wr.ownsRow w1.heap.size 21 1 u (cnt (S.take i)) (cellsOf .i32 (charsS (S.take i))) ∧ Below w.heap.size w wr ∧ w1.heap.size ≤ wr.heap.size) (fun _ t _ => n - (intOf t).toNat)
  case atStart => exact ⟨0, by omega, rfl, hown2, b2, hsz2⟩
  case round =>
    obtain ⟨i, hi, rfl, hown, hbw, hsz⟩ := hrel
    by_cases hil : i < n
    · obtain ⟨g, rfl, hl, c1, c2, c3⟩ := (hs.below hbw).at_ (i := i) (by rw [HN.out]; exact hil)
      obtain ⟨_, g2, g3, _⟩ := hg.at_ (i := i) (by rw [HN.out]; exact hil)
      have HT := Lib.hid (charsS_take S i (by rw [HN.out]; exact hil))
      have hct := cnt_take_succ S i (by rw [HN.out]; exact hil)
      have hcle := HCN.out i (by rw [HN.out]; exact hil)
      rw [hct, HM.out] at hcle
      have HCT := Lib.hid hct
      clear hct
      generalize (S.getD i (0, 0)).1 = a at *
      generalize (S.getD i (0, 0)).2 = b at *
      generalize cnt (S.take i) = q at *
      generalize charsS (S.take i) = done at *
      have hX5 := Blk.new wr 95 #[.int .i32 (a : Nat), .int .i32 (b : Nat), .int .i64 (q : Nat)]
      have hor := hown.alloc (.cells #[.int .i32 (a : Nat), .int .i32 (b : Nat), .int .i64 (q : Nat)] 95)
      have hbr := below_step hbw (below_new wr (.cells #[.int .i32 (a : Nat), .int .i32 (b : Nat), .int .i64 (q : Nat)] 95))
      have hszr : w1.heap.size ≤ (wr.alloc (.cells #[.int .i32 (a : Nat), .int .i32 (b : Nat), .int .i64 (q : Nat)] 95)).heap.size := by simp; omega
      have hgr : w1.heap.size ≤ wr.heap.size := hsz
      obtain ⟨g5, hg5⟩ : ∃ g5, g5 = wr.heap.size := ⟨_, rfl⟩
      rw [← hg5] at hX5 hgr
      clear hown2 cX2 hX2 hX
      go_wp2
      rw [← hg5]
      clear hg5
      generalize wr.alloc (.cells #[.int .i32 (a : Nat), .int .i32 (b : Nat), .int .i64 (q : Nat)] 95) = V at *
      clear hown hbw hsz hl c1 c2 c3
      generalize wr = W3 at *
      go_loopw [3, 6] (fun u t wx => ∃ k : Nat, k ≤ b - a + 1 ∧ t = .int .i32 ((a : Int) + (k : Int)) ∧ wx.ownsRow w1.heap.size 21 1 u (q + k) (cellsOf .i32 (done ++ List.range' a k)) ∧ Below w.heap.size w wx ∧ w1.heap.size ≤ wx.heap.size ∧ Blk wx g5 95 #[.int .i32 (a : Nat), .int .i32 (b : Nat), .int .i64 (q : Nat)]) (fun _ t _ => b + 1 - (intOf t).toNat)
      case atStart => exact ⟨0, by omega, by simp, by simpa using hor, hbr, hszr, hX5⟩
      case round =>
        clear hor hbr hszr hX5
        obtain ⟨k, hk, rfl, hown, hbw, hsz, hX5⟩ := hrel
        obtain ⟨d0, d1, d2⟩ := hX5.cells3
        by_cases hkl : k < b - a + 1
        · have hle : (a : Int) + (k : Int) ≤ (b : Int) := by omega
          have hR : List.range' a (k + 1) = List.range' a k ++ [a + k] := by simp [List.range'_concat]
          have HR := Lib.hid hR
          clear hR
          have ho2 := hown.alloc (.cells #[.int .i32 ((a : Int) + (k : Int))] 21)
          have hb2 := below_step hbw (below_new wr (.cells #[.int .i32 ((a : Int) + (k : Int))] 21))
          have hX52 := hX5.alloc (.cells #[.int .i32 ((a : Int) + (k : Int))] 21)
          have HC2 := Lib.hid (cell_one_at wr 21 (.int .i32 ((a : Int) + (k : Int))))
          clear hX5
          go_wp2_with (at_builtin; refine wpList_append_own _ rfl (.tmp 27) (.tmp 29) 53 rfl w1.heap.size 21 i0 (.int .i32 0) 1 4 Tryd.underlying53 hi0 hz0 hz1 hz2 rfl (by decide) _ (q + k) _ rfl ho2 ⟨wr.heap.size, 0, none⟩ 1 1 [.int .i32 ((a : Int) + (k : Int))] rfl rfl HC2.out (by simp [Value.oneCell']) (by unfold maxLen; omega) (by omega) (by simp; omega) ?_; intro v' w4 hown4 hgrow _; have hb4 : Below w.heap.size w w4 := hb2.grown hgrow (by simp; omega) (fun k hk => by have := (ho2.lt k hk).1; omega); have hs4 := hgrow.size; have hX4 := blk_grown hX52 ho2 hgrow (by decide); clear hgrow)
          simp only [World.size_alloc] at hs4
          go_roundw
          case rel => exact ⟨k + 1, by omega, by go_num, by rw [HR.out, ← List.append_assoc, cellsOf_append]; exact hown4, hb4, by omega, hX4⟩
          case measure => simp [intOf]; omega
        · obtain rfl : k = b - a + 1 := by omega
          have hgt : (b : Int) < (a : Int) + ((b - a + 1 : Nat) : Int) := by omega
          go_wp2
          go_roundw
          case rel => exact ⟨i + 1, by omega, by go_num, by rw [HT.out, HCT.out]; exact hown, hbw, by omega⟩
          case measure => simp [intOf]; omega
    · obtain rfl : i = n := by omega
      rw [← HN.out, List.take_length] at hown
      go_wp2
      go_ret
      exact ⟨_, rfl, by rw [HCL.out]; exact own_base hown (by omega), hbw⟩
end Go.Proofs.YtccbofaefpbhlaaDoor

namespace Go.Proofs.YtccbofaefpbhlaaDoor
set_option linter.unusedVariables false
open Go.Lib

theorem rise_of_pairwise {C : List Nat} (h : C.Pairwise (· < ·)) : RiseL C := by
  intro i j hij hj
  have := List.pairwise_iff_getElem.1 h i j (by omega) hj hij
  simpa [List.getD, hj, show i < C.length by omega] using this
theorem arr_get (m : List Nat) (i : Nat) (h : i < m.length) : m.toArray[i]! = m.getD i 0 := by
  rw [getElem!_pos m.toArray i (by simpa using h)]
  simp [List.getD, h]
theorem compact_step (m : List Nat) (ho : Ord m.length m) : ∀ k, 1 ≤ k → k ≤ m.length →
    (compactUpTo m.toArray k).Pairwise (· < ·) ∧ ∀ x, x ∈ compactUpTo m.toArray k ↔ ∃ j, j < k ∧ m.getD j 0 = x
  | 0, h, _ => by omega
  | 1, _, h => by
    have e : compactUpTo m.toArray 1 = [m.getD 0 0] := by
      rw [compactUpTo_succ, keeps_lt_one _ 0 (by omega), if_pos rfl, arr_get m 0 (by omega)]
      simp [compactUpTo]
    rw [e]
    refine ⟨List.pairwise_singleton _ _, fun x => ?_⟩
    rw [List.mem_singleton]
    constructor
    · rintro rfl; exact ⟨0, by omega, rfl⟩
    · rintro ⟨j, hj, rfl⟩
      obtain rfl : j = 0 := by omega
      rfl
  | k + 2, _, h => by
    obtain ⟨h1, h2⟩ := compact_step m ho (k + 1) (by omega) (by omega)
    have hle := ho k (k + 1) (by omega) (by omega)
    have e1 := arr_get m (k + 1) (by omega)
    have e0 := arr_get m k (by omega)
    rw [compactUpTo_succ]
    by_cases heq : m.getD (k + 1) 0 = m.getD k 0
    · rw [keeps_neg (by omega) (by rw [e1, Nat.add_sub_cancel, e0, heq]), if_neg (by simp), List.append_nil]
      refine ⟨h1, fun x => ?_⟩
      rw [h2]
      constructor
      · rintro ⟨j, hj, hx⟩; exact ⟨j, by omega, hx⟩
      · rintro ⟨j, hj, hx⟩
        by_cases hjk : j = k + 1
        · subst hjk; exact ⟨k, by omega, by rw [← heq]; exact hx⟩
        · exact ⟨j, by omega, hx⟩
    · rw [keeps_pos (by rw [e1, Nat.add_sub_cancel, e0]; exact heq), if_pos rfl, e1]
      refine ⟨List.pairwise_append.2 ⟨h1, List.pairwise_singleton _ _, fun a ha b hb => ?_⟩, fun x => ?_⟩
      · rw [List.mem_singleton] at hb
        subst hb
        obtain ⟨j, hj, rfl⟩ := (h2 a).1 ha
        by_cases hjk : j = k
        · subst hjk; omega
        · have := ho j k (by omega) (by omega); omega
      · rw [List.mem_append, h2, List.mem_singleton]
        constructor
        · rintro (⟨j, hj, hx⟩ | rfl)
          · exact ⟨j, by omega, hx⟩
          · exact ⟨k + 1, by omega, rfl⟩
        · rintro ⟨j, hj, hx⟩
          by_cases hjk : j = k + 1
          · subst hjk; exact .inr hx.symm
          · exact .inl ⟨j, by omega, hx⟩
/-- In order, each once: the same numbers. -/
theorem compact_spec (m : List Nat) (ho : Ord m.length m) (hp : 1 ≤ m.length) : RiseL (compactUpTo m.toArray m.length) ∧ (∀ x, x ∈ compactUpTo m.toArray m.length ↔ x ∈ m) ∧ (compactUpTo m.toArray m.length).length ≤ m.length := by
  obtain ⟨h1, h2⟩ := compact_step m ho m.length hp (Nat.le_refl _)
  refine ⟨rise_of_pairwise h1, fun x => ?_, ?_⟩
  · rw [h2]
    constructor
    · rintro ⟨j, hj, rfl⟩; exact getD_memL hj
    · intro hx
      obtain ⟨i, hi, e⟩ := mem_getD hx
      exact ⟨i, hi, e⟩
  · unfold compactUpTo
    rw [List.length_map]
    have := List.length_filter_le (keeps m.toArray) (List.range m.length)
    rw [List.length_range] at this
    exact this
end Go.Proofs.YtccbofaefpbhlaaDoor

namespace Go.Proofs.YtccbofaefpbhlaaDoor
set_option linter.unusedVariables false
set_option maxRecDepth 20000
open Go.RowKit Go.Shelf Go.Lib Go.Sort

theorem grow_any (n : Nat) (w : World) (hn : n ≤ 10000000) : Calls Tryd.prog 122 #[.slice none 0 0, .int .i64 (n : Int)] w fun e w' => ∃ u, e = .returned u ∧ w'.ownsRow w.heap.size 21 1 u 0 [] ∧ Below w.heap.size w w' := by
  obtain ⟨i0, hi0, hz0, hz1, hz2⟩ := info_parts rune_info
  rcases Nat.eq_zero_or_pos n with rfl | hp
  · have hcon := Any8.slices_Grow_room Tryd.growRn none 0 0 0 w (by omega) (by omega) (by omega) (by omega)
    change Calls Tryd.prog 122 _ _ _ at hcon
    refine hcon.mono ?_
    rintro e w' ⟨rfl, rfl⟩
    exact ⟨_, rfl, World.ownsRow_nil _ _ _ _, Below.refl _ _⟩
  · have hcon := Any8.slices_Grow_grow Tryd.growRn i0 (.int .i32 0) hi0 hz0 (by omega) none 0 0 n [] w (by omega) (by omega) (by rw [hz2]; omega) (by omega) (by simp) (fun _ => rfl) (fun a h => by cases h)
    change Calls Tryd.prog 122 _ _ _ at hcon
    refine hcon.mono ?_
    rintro e w' ⟨rfl, rfl⟩
    have hge := grownCap_ge w (0 + n) 0 21
    have hge' := grownCap_ge w n 0 21
    have hle := grownCap_le_maxLen w (0 + n) 0 21 (by unfold maxLen; omega)
    refine ⟨_, rfl, ⟨rfl, .inr ⟨w.heap.size, _, _, rfl, Nat.le_refl _, heap_alloc_new w.drew _, by omega, hle, ?_, rfl⟩⟩, (below_drew w).alloc (Nat.le_refl _) _⟩
    have hr : Tryd.growRn_ren.t 25 = 21 := rfl
    rw [hr]
    simp [Builtin.zeroCells, Value.cells]
    omega

/-- Rows of runes in a slice of slices. -/
def RowsAt (w : World) (g : Nat) (Us : List Value) (Ls : List (List Nat)) : Prop :=
  g < w.heap.size ∧ ∀ i, i < Ls.length → w.cell? ⟨g, i, none⟩ = some (Us.getD i (.bool false)) ∧ ∃ B, w.ownsRow B 21 1 (Us.getD i (.bool false)) (Ls.getD i []).length (cellsOf .i32 (Ls.getD i []))
theorem RowsAt.below {w w' : World} {g : Nat} {Us : List Value} {Ls : List (List Nat)} (h : RowsAt w g Us Ls) (hb : Below w.heap.size w w') : RowsAt w' g Us Ls :=
  ⟨Nat.lt_of_lt_of_le h.1 hb.size, fun i hi => ⟨(hb.cell (p := ⟨g, i, none⟩) h.1).trans (h.2 i hi).1, by obtain ⟨B, h1⟩ := (h.2 i hi).2; exact ⟨B, own_kept h1 hb⟩⟩⟩
theorem flat_take (Ls : List (List Nat)) (i : Nat) (h : i < Ls.length) : (Ls.take (i + 1)).flatten = (Ls.take i).flatten ++ Ls.getD i [] := by
  rw [List.take_succ_eq_append_getElem h, List.flatten_append]
  simp [List.getD, h]
theorem flat_take_le (Ls : List (List Nat)) (i : Nat) : (Ls.take i).flatten.length ≤ Ls.flatten.length := by
  have h : Ls.flatten = (Ls.take i).flatten ++ (Ls.drop i).flatten := by rw [← List.flatten_append, List.take_append_drop]
  rw [h, List.length_append]; omega

set_option maxHeartbeats 8000000 in
theorem concat_any (g0 c : Nat) (Us : List Value) (Ls : List (List Nat)) (w : World) (hR : RowsAt w g0 Us Ls) (hn : Ls.length ≤ 1000) (hf : Ls.flatten.length ≤ 5000000) :
    Calls Tryd.prog 98 #[.slice (some ⟨g0, 0, none⟩) Ls.length c] w (RetOw Ls.flatten w) := by
  obtain ⟨i0, hi0, hz0, hz1, hz2⟩ := info_parts rune_info
  obtain ⟨n, hn'⟩ : ∃ n, Ls.length = n := ⟨_, rfl⟩
  have HN := Lib.hid hn'
  rw [hn'] at hn ⊢
  clear hn'
  obtain ⟨m, hm'⟩ : ∃ m, Ls.flatten.length = m := ⟨_, rfl⟩
  have HM := Lib.hid hm'
  rw [hm'] at hf
  clear hm'
  go_enter Tryd.func98, Tryd.ntmps98
  go_wp2
  go_loopw [3, 11] (fun s t wr => ∃ i k : Nat, i ≤ n ∧ t = .int .i64 (i : Int) ∧ s = .int .i64 (k : Int) ∧ Hid ((Ls.take i).flatten.length = k) ∧ k ≤ m ∧ w = wr) (fun _ t _ => n - (intOf t).toNat)
  case atStart => exact ⟨0, 0, by omega, rfl, rfl, rfl, by omega, rfl⟩
  case round =>
    obtain ⟨i, k, hi, rfl, rfl, HK, hkm, rfl⟩ := hrel
    by_cases hil : i < n
    · obtain ⟨c1, B0, hA⟩ := hR.2 i (by rw [HN.out]; exact hil)
      obtain ⟨A, cp, hu⟩ := own_form1 hA
      rw [hu] at c1
      have HT := Lib.hid (flat_take Ls i (by rw [HN.out]; exact hil))
      have hle := flat_take_le Ls (i + 1)
      rw [HT.out, List.length_append, HK.out, HM.out] at hle
      have HK2 : Hid ((Ls.take (i + 1)).flatten.length = k + (Ls.getD i []).length) := by rw [Hid, HT.out, List.length_append, HK.out]
      generalize (Ls.getD i []).length = p at *
      clear hu hA
      have hnn : ¬ ((k : Int) + (p : Int) < 0) := by omega
      go_wp2
      go_roundw
      case rel => exact ⟨i + 1, k + p, by omega, by go_num, by go_num, HK2, by omega, trivial⟩
      case measure => simp [intOf]; omega
    · obtain rfl : i = n := by omega
      obtain rfl : k = m := by rw [← HK.out, ← HM.out, List.take_of_length_le (by rw [HN.out]; exact Nat.le_refl _)]
      have HG := Lib.hid (grow_any k w (by omega))
      go_wp2_with fail
      refine HG.out.mono ?_
      rintro e w1 ⟨u0, rfl, hown1, hb1⟩
      have HR := Lib.hid hR
      have hs1 := hb1.size
      clear HG hR
      go_wp2
      go_loopw [6, 27] (fun s t wr => ∃ j q : Nat, j ≤ i ∧ t = .int .i64 (j : Int) ∧ wr.ownsRow w.heap.size 21 1 s q (cellsOf .i32 (Ls.take j).flatten) ∧ Hid ((Ls.take j).flatten.length = q) ∧ q ≤ k ∧ Below w.heap.size w wr) (fun _ t _ => i - (intOf t).toNat)
      case atStart => exact ⟨0, 0, by omega, rfl, hown1, rfl, by omega, hb1⟩
      case round =>
        clear hb1 hown1
        obtain ⟨j, q, hj, rfl, hown, HQ, hqm, hbw⟩ := hrel
        have hsw := hbw.size
        by_cases hjl : j < i
        · obtain ⟨c1, B0, hA⟩ := (HR.out.below hbw).2 j (by rw [HN.out]; exact hjl)
          have HT := Lib.hid (flat_take Ls j (by rw [HN.out]; exact hjl))
          have hle := flat_take_le Ls (j + 1)
          rw [HT.out, List.length_append, HQ.out, HM.out] at hle
          have HK2 : Hid ((Ls.take (j + 1)).flatten.length = q + (Ls.getD j []).length) := by rw [Hid, HT.out, List.length_append, HQ.out]
          generalize Us.getD j (.bool false) = U at *
          generalize Ls.getD j [] = L at *
          obtain ⟨ao, cpo, rfl⟩ := own_form1 hown
          rcases hA.2 with ⟨rfl, h0⟩ | ⟨g1, cap1, cur1, rfl, _⟩
          · have hL : L = [] := List.eq_nil_of_length_eq_zero h0
            subst hL
            clear hA h0
            go_wp2_with (at_builtin; refine wpList_append_own_none rfl (.tmp 31) (.tmp 32) 53 rfl w.heap.size 21 i0 1 Tryd.underlying53 hi0 _ q _ rfl hown rfl ?_)
            go_roundw
            case rel => exact ⟨j + 1, q, by omega, by go_num, by rw [HT.out, List.append_nil]; exact hown, HK2, by omega, hbw⟩
            case measure => simp [intOf]; omega
          · have HSR := Lib.hid (hA.cells (g := g1) rfl)
            obtain ⟨p, hp⟩ : ∃ p, L.length = p := ⟨_, rfl⟩
            have HL1 : Hid ((cellsOf .i32 L).length = p * 1 ∧ ∀ u ∈ cellsOf .i32 L, u.oneCell' = true) := ⟨by rw [cellsOf_length, hp]; omega, cellsOf_one _ _⟩
            rw [hp] at hle HK2 c1
            clear hA hp
            go_wp2_with (at_builtin; refine wpList_append_own _ rfl (.tmp 31) (.tmp 32) 53 rfl w.heap.size 21 i0 (.int .i32 0) 1 4 Tryd.underlying53 hi0 hz0 hz1 hz2 rfl (by decide) _ q _ rfl hown ⟨g1, 0, none⟩ p cap1 (cellsOf .i32 L) rfl HL1.out.1 HSR.out HL1.out.2 (by unfold maxLen; omega) (by omega) hsw ?_; intro v' w4 hown4 hgrow _; have hb4 : Below w.heap.size w w4 := hbw.grown hgrow (by omega) (fun k hk => by have := (hown.lt k hk).1; omega); clear hgrow)
            go_roundw
            case rel => exact ⟨j + 1, q + p, by omega, by go_num, by rw [HT.out, cellsOf_append]; exact hown4, HK2, by omega, hb4⟩
            case measure => simp [intOf]; omega
        · obtain rfl : j = i := by omega
          obtain rfl : q = k := by rw [← HQ.out, ← HM.out, List.take_of_length_le (by rw [HN.out]; exact Nat.le_refl _)]
          rw [List.take_of_length_le (by rw [HN.out]; exact Nat.le_refl _)] at hown
          go_wp2
          go_ret
          exact ⟨_, rfl, by rw [HM.out]; exact hown, hbw⟩
end Go.Proofs.YtccbofaefpbhlaaDoor
