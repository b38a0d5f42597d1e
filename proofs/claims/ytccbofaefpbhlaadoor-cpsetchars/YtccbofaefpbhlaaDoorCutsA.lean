/-
  cpset: cuts, the method Chars.
-/
import Derived.Test.YtccbofaefpbhlaaDoorOfC
import Derived.Test.YtccbofaefpbhlaaDoorMergeM
import Derived.Laws.MakeOwn
namespace Go.Proofs.YtccbofaefpbhlaaDoor
set_option linter.unusedVariables false
set_option maxRecDepth 20000
open Go.RowKit

theorem rune_info : (Tryd.prog.info? 21).map (fun i => (i.zero, i.size, i.bytes)) = some (some (.int .i32 0), 1, 4) := by kernel_rfl
/-- It answers runes in a row of its own. -/
def RetOw (l : List Nat) (w : World) (e : Ending) (w' : World) : Prop := ∃ u, e = .returned u ∧ w'.ownsRow w.heap.size 21 1 u l.length (cellsOf .i32 l) ∧ Below w.heap.size w w'
theorem make_runes (w : World) (c : Nat) (hc : c ≤ 1000000000) : ∃ w', (Instr.makeSlice 53 (.int .i64 0) (.int .i64 (c : Int))).run Tryd.prog w = .ok (.slice (some ⟨w.heap.size, 0, none⟩) 0 c) w' ∧ w'.ownsRow w.heap.size 21 1 (.slice (some ⟨w.heap.size, 0, none⟩) 0 c) 0 [] ∧ w.grownBy w' none := by
  obtain ⟨i0, hi, hz0, hz1, hz2⟩ := info_parts rune_info
  exact run_make_own w w.heap.size 53 21 i0 (.int .i32 0) 1 Tryd.underlying53 hi hz0 hz1 .i64 .i64 c (by rw [hz2]; omega) (by unfold maxLen; omega) (Nat.le_refl _)
theorem cutsS_take (S : List (Nat × Nat)) (i : Nat) (h : i < S.length) : cutsS (S.take (i + 1)) = cutsS (S.take i) ++ [(S.getD i (0, 0)).1, (S.getD i (0, 0)).2 + 1] := by
  rw [List.take_succ_eq_append_getElem h, cutsS_snoc]
  simp [List.getD, h]
theorem own_form1 {w : World} {B n s : Nat} {e : TypeId} {u : Value} {xs : List Value} (h : w.ownsRow B e s u n xs) : ∃ ao cap, u = .slice ao n cap := own_form2 h

set_option maxHeartbeats 4000000 in
theorem cuts_any (S : List (Nat × Nat)) (v : Value) (w : World) (h : IsSet w v S) : Calls Tryd.prog 99 #[v] w (RetOw (cutsS S) w) := by
  obtain ⟨i0, hi0, hz0, hz1, hz2⟩ := info_parts rune_info
  obtain ⟨A, cp, rfl, hs, hg⟩ := h
  have hlen := hg.len (by decide)
  have hcl := cutsS_length S
  obtain ⟨n, hn⟩ : ∃ n, S.length = n := ⟨_, rfl⟩
  have HN := Lib.hid hn
  have HCL := Lib.hid hcl
  clear hcl
  have hX := Blk.new w 29 #[.slice A n cp]
  have bW := below_new w (.cells #[.slice A n cp] 29)
  obtain ⟨w2, hmk, hown2, hg2⟩ := make_runes (w.alloc (.cells #[.slice A n cp] 29)) (2 * n) (by omega)
  rw [show ((2 * n : Nat) : Int) = 2 * (n : Int) by omega] at hmk
  have bw2 : Below (w.alloc (.cells #[.slice A n cp] 29)).heap.size (w.alloc (.cells #[.slice A n cp] 29)) w2 := (Below.refl _ _).grown hg2 (Nat.le_refl _) (by simp)
  have hX2 := hX.on bw2
  have cX2 := hX2.cell0
  have b2 := below_step bW bw2
  have hsz2 := bw2.size
  simp only [World.size_alloc] at hown2 hmk hsz2
  rw [hn] at hlen ⊢
  clear hn hg2 bw2
  go_enter Tryd.func99, Tryd.ntmps99
  go_wp2
  go_loopw [3, 14] (fun u t wr => ∃ i : Nat, i ≤ n ∧ t = .int .i64 (i : Int) ∧ wr.ownsRow (w.heap.size + 1) 21 1 u (2 * i) (cellsOf .i32 (cutsS (S.take i))) ∧ Below w.heap.size w wr ∧ w.heap.size + 1 ≤ wr.heap.size) (fun _ t _ => n - (intOf t).toNat)
  case atStart => exact ⟨0, by omega, rfl, hown2, b2, hsz2⟩
  case round =>
    obtain ⟨i, hi, rfl, hown, hbw, hsz⟩ := hrel
    by_cases hil : i < n
    · obtain ⟨g, rfl, hl, c1, c2, c3⟩ := (hs.below hbw).at_ (i := i) (by rw [HN.out]; exact hil)
      obtain ⟨_, _, g3, _⟩ := hg.at_ (i := i) (by rw [HN.out]; exact hil)
      have HT := Lib.hid (cutsS_take S i (by rw [HN.out]; exact hil))
      generalize (S.getD i (0, 0)).1 = a at *
      generalize (S.getD i (0, 0)).2 = b at *
      generalize cnt (S.take i) = q at *
      have ho2 := (hown.alloc (.cells #[.int .i32 (a : Nat), .int .i32 (b : Nat), .int .i64 (q : Nat)] 95)).alloc (.cells #[.int .i32 (a : Nat), .int .i32 ((b : Int) + 1)] 21)
      have hb2 := below_step (below_step hbw (below_new wr (.cells #[.int .i32 (a : Nat), .int .i32 (b : Nat), .int .i64 (q : Nat)] 95))) (below_new _ (.cells #[.int .i32 (a : Nat), .int .i32 ((b : Int) + 1)] 21))
      have hc2 : ∀ (j : Nat) (u : Value), [Value.int .i32 (a : Nat), Value.int .i32 ((b : Int) + 1)][j]? = some u → ((wr.alloc (.cells #[.int .i32 (a : Nat), .int .i32 (b : Nat), .int .i64 (q : Nat)] 95)).alloc (.cells #[.int .i32 (a : Nat), .int .i32 ((b : Int) + 1)] 21)).cell? ((⟨wr.heap.size + 1, 0, none⟩ : Addr).add j) = some u := by
        have := cell_two_at (wr.alloc (.cells #[.int .i32 (a : Nat), .int .i32 (b : Nat), .int .i64 (q : Nat)] 95)) 21 (.int .i32 (a : Nat)) (.int .i32 ((b : Int) + 1))
        simpa using this
      have HC2 := Lib.hid hc2
      clear hc2 hX2 hX cX2
      go_wp2_with (at_builtin; refine wpList_append_own _ rfl (.tmp 18) (.tmp 26) 53 rfl (w.heap.size + 1) 21 i0 (.int .i32 0) 1 4 Tryd.underlying53 hi0 hz0 hz1 hz2 rfl (by decide) _ (2 * i) _ rfl ho2 ⟨wr.heap.size + 1, 0, none⟩ 2 2 [.int .i32 (a : Nat), .int .i32 ((b : Int) + 1)] rfl rfl HC2.out (by simp [Value.oneCell']) (by unfold maxLen; omega) (by omega) (by simp; omega) ?_; intro v' w4 hown4 hgrow _; have hb4 : Below w.heap.size w w4 := hb2.grown hgrow (by simp; omega) (fun k hk => by have := (ho2.lt k hk).1; omega); have hs4 := hgrow.size; clear hgrow)
      simp only [World.size_alloc] at hs4
      go_roundw
      case rel => exact ⟨i + 1, by omega, by go_num, by rw [HT.out, cellsOf_append, show 2 * (i + 1) = 2 * i + 2 by omega]; exact hown4, hb4, by omega⟩
      case measure => simp [intOf]; omega
    · obtain rfl : i = n := by omega
      rw [← HN.out, List.take_length] at hown
      go_wp2
      go_ret
      exact ⟨_, rfl, by rw [HCL.out]; exact own_base hown (by omega), hbw⟩

theorem cell_one_at (w : World) (t : TypeId) (x : Value) : ∀ (j : Nat) (u : Value), [x][j]? = some u → (w.alloc (.cells #[x] t)).cell? ((⟨w.heap.size, 0, none⟩ : Addr).add j) = some u := by
  intro j u hu
  rw [add_off, (Blk.new w t _).cell, Nat.zero_add]
  rcases j with _ | j
  · simpa using hu
  · simp at hu

/-- All characters of a set, rising. -/
def charsS (S : List (Nat × Nat)) : List Nat := S.flatMap fun r => List.range' r.1 (r.2 - r.1 + 1)
theorem charsS_take (S : List (Nat × Nat)) (i : Nat) (h : i < S.length) : charsS (S.take (i + 1)) = charsS (S.take i) ++ List.range' (S.getD i (0, 0)).1 ((S.getD i (0, 0)).2 - (S.getD i (0, 0)).1 + 1) := by
  rw [List.take_succ_eq_append_getElem h, charsS, List.flatMap_append]
  simp [charsS, List.getD, h]
theorem charsS_length : ∀ (S : List (Nat × Nat)), (charsS S).length = cnt S
  | [] => rfl
  | (a, b) :: r => by
    have := charsS_length r
    simp only [charsS, List.flatMap_cons, List.length_append, List.length_range', cnt] at this ⊢
    omega

set_option maxHeartbeats 8000000 in
theorem charsOf_any (S : List (Nat × Nat)) (v : Value) (w : World) (h : IsSet w v S) : Calls Tryd.prog 45 #[v] w (RetOw (charsS S) w) := by
  obtain ⟨i0, hi0, hz0, hz1, hz2⟩ := info_parts rune_info
  have hg : Good 0 S := by obtain ⟨_, _, _, _, hg⟩ := h; exact hg
  have hs : ∀ {A n cp}, IsSet w (.agg #[.slice A n cp]) S → SpansAt w A S := by
    rintro A n cp ⟨A', c', e, hs, _⟩
    injection e with e
    injection e with e
    simp at e
    rw [e.1]
    exact hs
  obtain ⟨A, cp, rfl⟩ := h.shape
  have hs := hs h
  have hlen := hg.len (by decide)
  have hcn := hg.cnt_le (by decide)
  have hcl := charsS_length S
  have hcnt : ∀ i, i < S.length → cnt (S.take (i + 1)) ≤ cnt S := fun i hi => by
    have := cnt_take_mono S (show i + 1 ≤ S.length by omega)
    rwa [List.take_length] at this
  have hX := Blk.new w 29 #[.slice A S.length cp]
  have bW := below_new w (.cells #[.slice A S.length cp] 29)
  have CO := Lib.hid (count_any _ S _ (h.alloc (.cells #[.slice A S.length cp] 29)))
  have HCL := Lib.hid hcl
  have HCN := Lib.hid hcnt
  clear hcl hcnt h
  obtain ⟨n, hn⟩ : ∃ n, S.length = n := ⟨_, rfl⟩
  have HN := Lib.hid hn
  rw [hn] at hlen hX bW CO ⊢
  obtain ⟨m, hm⟩ : ∃ m, cnt S = m := ⟨_, rfl⟩
  have HM := Lib.hid hm
  rw [hm] at hcn CO
  clear hn hm
  go_enter Tryd.func45, Tryd.ntmps45
  go_wp2_with fail
  refine CO.out.mono ?_
  rintro e w1 ⟨rfl, y1⟩
  obtain ⟨w2, hmk, hown2, hg2⟩ := make_runes w1 m (by omega)
  have bw2 : Below w1.heap.size w1 w2 := (Below.refl _ _).grown hg2 (Nat.le_refl _) (by simp)
  have hX2 := (hX.on y1).on bw2
  have cX2 := hX2.cell0
  have b2 := below_step (below_step bW y1) bw2
  have hsz1 := y1.size
  have hsz2 := bw2.size
  simp only [World.size_alloc] at hsz1
  clear hg2 bw2 CO
  go_wp2
  go_loopw [3, 13] (fun u t wr => ∃ i : Nat, i ≤ n ∧ t = .int .i64 (i : Int) ∧ wr.ownsRow w1.heap.size 21 1 u (cnt (S.take i)) (cellsOf .i32 (charsS (S.take i))) ∧ Below w.heap.size w wr ∧ w1.heap.size ≤ wr.heap.size) (fun _ t _ => n - (intOf t).toNat)
  case atStart => exact ⟨0, by omega, rfl, hown2, b2, hsz2⟩
  case round =>
    obtain ⟨i, hi, rfl, hown, hbw, hsz⟩ := hrel
    by_cases hil : i < n
    · obtain ⟨g, rfl, hl, c1, c2, c3⟩ := (hs.below hbw).at_ (i := i) (by rw [HN.out]; exact hil)
      obtain ⟨_, g2, g3, _⟩ := hg.at_ (i := i) (by rw [HN.out]; exact hil)
      have HT := Lib.hid (charsS_take S i (by rw [HN.out]; exact hil))
      have hct := cnt_take_succ S i (by rw [HN.out]; exact hil)
      have hcle := HCN.out i (by rw [HN.out]; exact hil)
      rw [hct, HM.out] at hcle
      have HCT := Lib.hid hct
      clear hct
      generalize (S.getD i (0, 0)).1 = a at *
      generalize (S.getD i (0, 0)).2 = b at *
      generalize cnt (S.take i) = q at *
      generalize charsS (S.take i) = done at *
      have hX5 := Blk.new wr 95 #[.int .i32 (a : Nat), .int .i32 (b : Nat), .int .i64 (q : Nat)]
      have hor := hown.alloc (.cells #[.int .i32 (a : Nat), .int .i32 (b : Nat), .int .i64 (q : Nat)] 95)
      have hbr := below_step hbw (below_new wr (.cells #[.int .i32 (a : Nat), .int .i32 (b : Nat), .int .i64 (q : Nat)] 95))
      have hszr : w1.heap.size ≤ (wr.alloc (.cells #[.int .i32 (a : Nat), .int .i32 (b : Nat), .int .i64 (q : Nat)] 95)).heap.size := by simp; omega
      have hgr : w1.heap.size ≤ wr.heap.size := hsz
      obtain ⟨g5, hg5⟩ : ∃ g5, g5 = wr.heap.size := ⟨_, rfl⟩
      rw [← hg5] at hX5 hgr
      clear hown2 cX2 hX2 hX
      go_wp2
      rw [← hg5]
      clear hg5
      generalize wr.alloc (.cells #[.int .i32 (a : Nat), .int .i32 (b : Nat), .int .i64 (q : Nat)] 95) = V at *
      clear hown hbw hsz hl c1 c2 c3
      generalize wr = W3 at *
      go_loopw [3, 6] (fun u t wx => ∃ k : Nat, k ≤ b - a + 1 ∧ t = .int .i32 ((a : Int) + (k : Int)) ∧ wx.ownsRow w1.heap.size 21 1 u (q + k) (cellsOf .i32 (done ++ List.range' a k)) ∧ Below w.heap.size w wx ∧ w1.heap.size ≤ wx.heap.size ∧ Blk wx g5 95 #[.int .i32 (a : Nat), .int .i32 (b : Nat), .int .i64 (q : Nat)]) (fun _ t _ => b + 1 - (intOf t).toNat)
      case atStart => exact ⟨0, by omega, by simp, by simpa using hor, hbr, hszr, hX5⟩
      case round =>
        clear hor hbr hszr hX5
        obtain ⟨k, hk, rfl, hown, hbw, hsz, hX5⟩ := hrel
        obtain ⟨d0, d1, d2⟩ := hX5.cells3
        by_cases hkl : k < b - a + 1
        · have hle : (a : Int) + (k : Int) ≤ (b : Int) := by omega
          have hR : List.range' a (k + 1) = List.range' a k ++ [a + k] := by simp [List.range'_concat]
          have HR := Lib.hid hR
          clear hR
          have ho2 := hown.alloc (.cells #[.int .i32 ((a : Int) + (k : Int))] 21)
          have hb2 := below_step hbw (below_new wr (.cells #[.int .i32 ((a : Int) + (k : Int))] 21))
          have hX52 := hX5.alloc (.cells #[.int .i32 ((a : Int) + (k : Int))] 21)
          have HC2 := Lib.hid (cell_one_at wr 21 (.int .i32 ((a : Int) + (k : Int))))
          clear hX5
          go_wp2_with (at_builtin; refine wpList_append_own _ rfl (.tmp 27) (.tmp 29) 53 rfl w1.heap.size 21 i0 (.int .i32 0) 1 4 Tryd.underlying53 hi0 hz0 hz1 hz2 rfl (by decide) _ (q + k) _ rfl ho2 ⟨wr.heap.size, 0, none⟩ 1 1 [.int .i32 ((a : Int) + (k : Int))] rfl rfl HC2.out (by simp [Value.oneCell']) (by unfold maxLen; omega) (by omega) (by simp; omega) ?_; intro v' w4 hown4 hgrow _; have hb4 : Below w.heap.size w w4 := hb2.grown hgrow (by simp; omega) (fun k hk => by have := (ho2.lt k hk).1; omega); have hs4 := hgrow.size; have hX4 := blk_grown hX52 ho2 hgrow (by decide); clear hgrow)
          simp only [World.size_alloc] at hs4
          go_roundw
          case rel => exact ⟨k + 1, by omega, by go_num, by rw [HR.out, ← List.append_assoc, cellsOf_append]; exact hown4, hb4, by omega, hX4⟩
          case measure => simp [intOf]; omega
        · obtain rfl : k = b - a + 1 := by omega
          have hgt : (b : Int) < (a : Int) + ((b - a + 1 : Nat) : Int) := by omega
          go_wp2
          go_roundw
          case rel => exact ⟨i + 1, by omega, by go_num, by rw [HT.out, HCT.out]; exact hown, hbw, by omega⟩
          case measure => simp [intOf]; omega
    · obtain rfl : i = n := by omega
      rw [← HN.out, List.take_length] at hown
      go_wp2
      go_ret
      exact ⟨_, rfl, by rw [HCL.out]; exact own_base hown (by omega), hbw⟩
end Go.Proofs.YtccbofaefpbhlaaDoor
