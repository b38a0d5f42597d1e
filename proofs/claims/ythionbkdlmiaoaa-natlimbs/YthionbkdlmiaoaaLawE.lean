/-
  The law NatLimbs.
-/
import Derived.Test.YthionbkdlmiaoaaIs
import Derived.Test.YthionbkdlmiaoaaZeros
namespace Go.Proofs.Ythionbkdlmiaoaa
set_option linter.unusedVariables false
open Go.RowKit

set_option maxHeartbeats 4000000 in
theorem natLimbs_walk (a0 : Option Addr) (len0 cap0 : Nat) (l0 : List Nat) (a1 : Int) (w : World) (h0 : Came w a0 len0 cap0 l0) (h1 : -9223372036854775808 ≤ a1) (h2 : a1 ≤ 9223372036854775807) :
    Calls Try.prog 6 #[.slice a0 len0 cap0, .int .i64 a1] w (RetV (.bool true) w) := by
  obtain ⟨i0, hi0, hz0, hz1, hz2⟩ := info_parts u32_info
  have hF := Lib.hid (fun w' (hb : Below w.heap.size w w') => few_own a0 len0 cap0 l0 w' h0.1 (h0.2.below hb) h0.4)
  obtain ⟨t, ht⟩ : ∃ t, t = l0.take 40 := ⟨_, rfl⟩
  have ht40 : t.length ≤ 40 := by rw [ht, List.length_take]; omega
  have htl : ∀ n ∈ t, n < 4294967296 := fun n hn => h0.3 n (List.mem_of_mem_take (ht ▸ hn))
  rw [← ht] at hF
  clear ht h0
  obtain ⟨m, hm⟩ : ∃ m : Nat, (m : Int) = max 0 (min a1 4200) := ⟨(max 0 (min a1 4200)).toNat, by omega⟩
  have hm1 : m ≤ 4200 := by omega
  have HM := Lib.hid hm
  clear hm
  go_enter Try.func6, Try.ntmps6
  go_wp2_with fail
  refine (awake_any _).mono ?_
  rintro e w1 ⟨rfl, b1⟩
  go_wp2_with fail
  refine (hF.out _ b1).mono ?_
  rintro e w2 ⟨v2, rfl, hown2, b2, hnil⟩
  have b2' := below_step b1 b2
  obtain ⟨g, cap, cur, hv2, hg1, hgb, hgc, hgm, hgs, hgt⟩ := hown2.2.resolve_left fun h => hnil h.1
  subst hv2
  have hB2 : Blk w2 g 47 cur := hgb
  have hcur : ∀ i, i < t.length → cur[i]? = some (.int .u32 (t.getD i 0 : Nat)) := fun i hi => by
    have h1 := cellsOf_get .u32 t hi
    rw [← hgt, List.getElem?_take, if_pos (by omega)] at h1
    simpa using h1
  have hrow2 : Row .u32 w2 (some ⟨g, 0, none⟩) t := fun _ => ⟨_, rfl, hB2.lt, fun i hi => by rw [add_zero_block, hB2.cell]; exact hcur i hi⟩
  have hg0 : w.heap.size ≤ g := Nat.le_trans b1.size hg1
  have tok1 : True := trivial
  go_wp2_with (first
    | (at_builtin; have _t := tok1; clear tok1; refine wpList_append_own _ rfl (.tmp 16) (.tmp 17) 22 rfl w2.heap.size 47 i0 (.int .u32 0) 1 4 Try.underlying22 hi0 hz0 hz1 hz2 rfl (by decide) (.slice (some ⟨w2.heap.size, 0, none⟩) 0 0) 0 [] rfl (World.ownsRow_lit w2 #[] 0 (Nat.le_refl _) (by decide) rfl) ⟨g, 0, none⟩ t.length cap (cellsOf .u32 t) rfl (by simp [cellsOf]) (hrow2.alloc _).src (cellsOf_one _ _) (by unfold maxLen; omega) (by omega) (by simp) ?_; intro v3 w3 hown3 hgrow3 hnil3; simp only [Nat.zero_add, List.nil_append] at hown3; have hsz3 := hgrow3.size)
    | (at_builtin; refine wpList_append_zeros _ rfl (.tmp 18) (.tmp 19) rfl w2.heap.size v3 t.length m (cellsOf .u32 t) _ rfl rfl HM.out.symm hown3 (by omega) (by omega) (by simp at hsz3; omega) (.inr (fun e => by simpa using hnil3.1 e)) ?_; intro v4 w4 hown4 hgrow4; clear hnil3)
    | fail)
  have b4 : Below w2.heap.size w2 w4 := ((below_new w2 (Obj.cells #[] 47)).grown hgrow3 (by simp) (by simp [Value.ownBlock])).grown hgrow4 (by simp at hsz3; omega) fun k hk => (hown3.lt k hk).1
  obtain ⟨u, hu⟩ : ∃ u, u = t ++ List.replicate m 0 := ⟨_, rfl⟩
  have hul : u.length = t.length + m := by rw [hu]; simp
  have hucell : cellsOf .u32 u = cellsOf .u32 t ++ List.replicate m (.int .u32 0) := by rw [hu, cellsOf_append]; simp [cellsOf]
  have huv : val 4294967296 u = val 4294967296 t := by rw [hu, val_append, val_replicate]; simp
  have hub : ∀ n ∈ u, n < 4294967296 := fun n hn => by
    rw [hu] at hn
    rcases List.mem_append.1 hn with h | h
    · exact htl n h
    · have := List.eq_of_mem_replicate h; omega
  rw [← hul, ← hucell] at hown4
  obtain ⟨A4, c4, rfl, hr4, hc4⟩ := own_isL hown4
  have hul2 : u.length ≤ 5000 := by omega
  have LF := Lib.hid (fun w' (hr : Row .u32 w' (some ⟨g, 0, none⟩) t) => limbs_fresh (some ⟨g, 0, none⟩) cap t w' hr htl (by omega))
  have LU := Lib.hid (fun w' (hr : Row .u32 w' A4 u) => limbs_fresh A4 c4 u w' hr hub (by omega))
  rw [huv] at LU
  clear hown4 hown3 hgrow3 hgrow4 hsz3 hul hucell huv hu
  generalize val 4294967296 t = N at *
  refine (LF.out _ (hrow2.below b4)).mono ?_
  rintro e w5 ⟨v5, rfl, hN5, b5⟩
  obtain ⟨A5, n5, c5, rfl⟩ := hN5.shape
  go_wp2_with fail
  refine (LU.out _ (hr4.below b5).row).mono ?_
  rintro e w6 ⟨v6, rfl, hM6, b6⟩
  obtain ⟨A6, n6, c6, rfl⟩ := hM6.shape
  have b6' := below_step (below_step b4 b5) b6
  have hg4 : g < w4.heap.size := Nat.lt_of_lt_of_le hB2.lt b4.size
  have hg5 : g < w5.heap.size := Nat.lt_of_lt_of_le hg4 b5.size
  have hX : Blk ((w6.alloc (Obj.cells #[Value.slice A5 n5 c5] 26)).alloc (Obj.cells #[Value.slice A6 n6 c6] 26)) w6.heap.size 26 #[.slice A5 n5 c5] := (Blk.new w6 26 _).alloc _
  have hY : Blk ((w6.alloc (Obj.cells #[Value.slice A5 n5 c5] 26)).alloc (Obj.cells #[Value.slice A6 n6 c6] 26)) (w6.heap.size + 1) 26 #[.slice A6 n6 c6] := by
    have := Blk.new (w6.alloc (Obj.cells #[Value.slice A5 n5 c5] 26)) 26 #[.slice A6 n6 c6]
    simpa using this
  have hN := ((hN5.below b6).alloc (Obj.cells #[Value.slice A5 n5 c5] 26)).alloc (Obj.cells #[Value.slice A6 n6 c6] 26)
  have hM := (hM6.alloc (Obj.cells #[Value.slice A5 n5 c5] 26)).alloc (Obj.cells #[Value.slice A6 n6 c6] 26)
  have hB := ((hB2.on b6').alloc (Obj.cells #[Value.slice A5 n5 c5] 26)).alloc (Obj.cells #[Value.slice A6 n6 c6] 26)
  have bW := below_step (below_step (below_step b2' b6') (below_new _ (Obj.cells #[Value.slice A5 n5 c5] 26))) (below_new _ (Obj.cells #[Value.slice A6 n6 c6] 26))
  have hgX : g ≠ w6.heap.size := by have := b6.size; omega
  have hgY : g ≠ w6.heap.size + 1 := by have := b6.size; omega
  clear b1 b2 b4 b5 b6 b6' b2' hN5 hM6 hB2 hr4 hrow2 LF LU hF hown2 hgb hgt hub
  go_wp2_with fail
  generalize hW : (w6.alloc (Obj.cells #[Value.slice A5 n5 c5] 26)).alloc (Obj.cells #[Value.slice A6 n6 c6] 26) = W at *
  clear hW
  have kx := fun x : Since W => hX.since x
  have ky := fun x : Since W => hY.since x
  have BX := Lib.hid (fun (w' : World) (h : IsN w' (.agg #[.slice A5 n5 c5]) t.length N) => bits_any _ _ N w' h (by omega))
  have BY := Lib.hid (fun (w' : World) (h : IsN w' (.agg #[.slice A6 n6 c6]) u.length N) => bits_any _ _ N w' h (by omega))
  have SM := Lib.hid (fun (w' : World) (h : IsN w' (.agg #[.slice A5 n5 c5]) t.length N) (h' : IsN w' (.agg #[.slice A6 n6 c6]) u.length N) => same_any _ _ _ _ N N true w' h h' (by omega) (by omega) (by simp))
  have CM := Lib.hid (fun (w' : World) (h : IsN w' (.agg #[.slice A5 n5 c5]) t.length N) (h' : IsN w' (.agg #[.slice A6 n6 c6]) u.length N) => compare_any _ _ _ _ N N w' h h' (by omega) (by omega))
  rw [cmpN_eq] at CM
  generalize bl N = p at *
  refine wp_region_since (by kernel_rfl) (by kernel_rfl) ?_
  repeat (go_big_quiet_step ((first | (go_at_call 19; exact since_call (SM.out _ (hN.below (Since.kept _)).isN (hM.below (Since.kept _)).isN)) | (go_at_call_of 28 (Value.agg #[Value.slice A5 n5 c5]); exact since_call (BX.out _ (hN.below (Since.kept _)).isN)) | (go_at_call 28; exact since_call (BY.out _ (hM.below (Since.kept _)).isN)))))
  refine wpQuiet_nil ?_
  rintro _ ⟨⟨w7, b7⟩, rfl⟩
  have hX7 := hX.on b7
  have hY7 := hY.on b7
  have hB7 := hB.on b7
  have hN7 := hN.below b7
  have hM7 := hM.below b7
  have bW7 := below_step bW b7
  clear hX hY hB hN hM bW b7 kx ky
  go_wp2
  go_loopw [38] (fun v wr => ∃ (j : Nat) (cs : Array Value), v = .int .i64 j ∧ j ≤ t.length ∧ cs.size = cap ∧ (∀ i, i < t.length → ∃ x : Nat, x < 4294967296 ∧ cs[i]? = some (.int .u32 (x : Nat))) ∧ Blk wr g 47 cs ∧
      Blk wr w6.heap.size 26 #[.slice A5 n5 c5] ∧ Blk wr (w6.heap.size + 1) 26 #[.slice A6 n6 c6] ∧ IsF w4.heap.size wr (.agg #[.slice A5 n5 c5]) t.length N ∧ IsF w5.heap.size wr (.agg #[.slice A6 n6 c6]) u.length N ∧ Below w.heap.size w wr) (fun v _ => t.length - (intOf v).toNat)
  case atStart => exact ⟨0, cur, rfl, by omega, by omega, fun i hi => ⟨t.getD i 0, getD_lt (by decide) htl i, hcur i hi⟩, hB7, hX7, hY7, hN7, hM7, bW7⟩
  case round =>
    obtain ⟨j, cs, rfl, hj, hcs, hcx, hB, hX, hY, hN, hM, bW⟩ := hrel
    by_cases hjt : j < t.length
    · obtain ⟨x, hx, hxc⟩ := hcx j hjt
      have hcell := (hB.cell j).trans hxc
      have hfree := hB.free j
      have hj0 : (0 : Int) ≤ (j : Int) := by omega
      have hj1 : (j : Int) < (t.length : Int) := by omega
      have HCX := Lib.hid hcx
      clear hcx hxc
      have hB1 : Blk (wr.setCell ⟨g, j, none⟩ (.int .u32 (((x : Int) + 1) % 4294967296))) g 47 (cs.setIfInBounds j (.int .u32 (((x : Int) + 1) % 4294967296))) := hB.set_ j _
      have hX1 : Blk (wr.setCell ⟨g, j, none⟩ (.int .u32 (((x : Int) + 1) % 4294967296))) w6.heap.size 26 #[.slice A5 n5 c5] := hX.far (p := ⟨g, j, none⟩) (Ne.symm hgX) _
      have hY1 : Blk (wr.setCell ⟨g, j, none⟩ (.int .u32 (((x : Int) + 1) % 4294967296))) (w6.heap.size + 1) 26 #[.slice A6 n6 c6] := hY.far (p := ⟨g, j, none⟩) (Ne.symm hgY) _
      have hN1 := hN.off hg4 j (.int .u32 (((x : Int) + 1) % 4294967296))
      have hM1 := hM.off hg5 j (.int .u32 (((x : Int) + 1) % 4294967296))
      have bW1 := bW.setCell (p := ⟨g, j, none⟩) hg0 (.int .u32 (((x : Int) + 1) % 4294967296))
      go_wp2
      go_roundw
      case rel =>
        refine ⟨j + 1, cs.setIfInBounds j (.int .u32 (((x : Int) + 1) % 4294967296)), by go_num, by omega, by rw [Array.size_setIfInBounds]; exact hcs, fun i hi => ?_, hB1, hX1, hY1, hN1, hM1, bW1⟩
        by_cases hij : j = i
        · subst hij
          exact ⟨(x + 1) % 4294967296, Nat.mod_lt _ (by decide), by rw [Array.getElem?_setIfInBounds_self, if_pos (by omega)]; simp⟩
        · obtain ⟨y, hy, hyc⟩ := HCX.out i hi
          exact ⟨y, hy, by rw [Array.getElem?_setIfInBounds_ne hij]; exact hyc⟩
      case measure => simp [intOf]; omega
    · have hc6 := hX.cell0
      have hc7 := hY.cell0
      clear hcx
      go_wp2_with fail
      refine (SM.out _ hN.isN hM.isN).mono ?_
      rintro e w8 ⟨rfl, b8⟩
      have hc68 := (hX.on b8).cell0
      have hc78 := (hY.on b8).cell0
      go_wp2_with fail
      refine (CM.out _ (hN.below b8).isN (hM.below b8).isN).mono ?_
      rintro e w9 ⟨rfl, b9⟩
      go_wp2
      go_ret
      exact ⟨rfl, below_step (below_step bW b8) b9⟩
end Go.Proofs.Ythionbkdlmiaoaa
