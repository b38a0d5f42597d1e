/-
  cpset.merge: its contract, off that of the sort of the cuts.
  cpset: Or, And, Less, Xor, Not.
-/
import Derived.Test.YtccbofaefpbhlaaDoorCutsC
import Derived.Test.YtccbofaefpbhlaaDoorKept
import Derived.Deep.DeepCutAuto
import Derived.Deep.CutRange
namespace Go.Proofs.YtccbofaefpbhlaaDoor
set_option linter.unusedVariables false
set_option maxRecDepth 20000
open Go.RowKit


theorem rows_two {w : World} {B1 B2 : Nat} {u1 u2 : Value} {l1 l2 : List Nat} (h1 : w.ownsRow B1 21 1 u1 l1.length (cellsOf .i32 l1)) (h2 : w.ownsRow B2 21 1 u2 l2.length (cellsOf .i32 l2)) :
    RowsAt (w.alloc (.cells #[u1, u2] 53)) w.heap.size [u1, u2] [l1, l2] := by
  have hX := Blk.new w 53 #[u1, u2]
  refine ⟨by simp, fun i hi => ?_⟩
  rcases i with _ | _ | i
  · exact ⟨(hX.cell 0).trans rfl, B1, h1.alloc _⟩
  · exact ⟨(hX.cell 1).trans rfl, B2, h2.alloc _⟩
  · exact absurd hi (by simp)

theorem memI_nat (S : List (Nat × Nat)) (c : Nat) : memI S (c : Int) = memS S c := by simp [memI]
theorem keptI_succ (f : Nat → Bool) (C : List Nat) (j : Nat) : keptI f C (j + 1) = keptI f C j ++ if f (C.getD j 0) then [(C.getD j 0, C.getD (j + 1) 0 - 1)] else [] := rfl
theorem intR_append (L M : List (Nat × Nat)) : intR (L ++ M) = intR L ++ intR M := by simp [intR]

/-- slices.Compact of nothing. -/
theorem compact_none (A : Option Addr) (c : Nat) (w : World) : Calls Tryd.prog 101 #[.slice A 0 c] w fun e w' => e = .returned (.slice A 0 c) ∧ w = w' := by
  go_enter Tryd.func101, Tryd.ntmps101
  go_wp2
  go_ret
  exact ⟨rfl, rfl⟩

set_option maxHeartbeats 8000000 in
theorem merge_any (S T : List (Nat × Nat)) (vs vt : Value) (gk : Nat) (K : Bool → Bool → Bool) (hK : K false false = false) (w : World) (hS : IsSet w vs S) (hT : IsSet w vt T) (hsort : HSort (2 * S.length + 2 * T.length)) (hne : 0 < S.length + T.length)
    (hn : 2 * S.length + 2 * T.length ≤ 3000000) (eg : ∀ args w, (callFunc gk args).run Tryd.prog w = .ok (.enter gk args) w) (hf : ∀ a b W, Calls Tryd.prog gk #[.bool a, .bool b] W (RetV (.bool (K a b)) W)) :
    Calls Tryd.prog 69 #[vs, vt, .func (.func gk) #[] #[]] w (RetSet (fun c => K (memS S c) (memS T c)) w.heap.size w) := by
  have hgS : Good 0 S := by obtain ⟨_, _, _, _, hg⟩ := hS; exact hg
  have hgT : Good 0 T := by obtain ⟨_, _, _, _, hg⟩ := hT; exact hg
  obtain ⟨A, cp, rfl⟩ := hS.shape
  obtain ⟨A', cp', rfl⟩ := hT.shape
  have hX3 := (((Blk.new w 29 #[.slice A S.length cp]).alloc (.cells #[.slice A' T.length cp'] 29)).alloc (.cells #[.slice none 0 0] 29))
  have hX4 := (blk_two w (.cells #[.slice A S.length cp] 29) 29 #[.slice A' T.length cp']).alloc (.cells #[.slice none 0 0] 29)
  have hX6 := blk_three w (.cells #[.slice A S.length cp] 29) (.cells #[.slice A' T.length cp'] 29) 29 #[.slice none 0 0]
  have bW := below_step (below_step (below_new w (.cells #[.slice A S.length cp] 29)) (below_new _ (.cells #[.slice A' T.length cp'] 29))) (below_new _ (.cells #[.slice none 0 0] 29))
  have hS0 := hS.below bW
  have hT0 := hT.below bW
  have hlS := cutsS_length S
  have hlT := cutsS_length T
  obtain ⟨W0, hW0⟩ : ∃ W0, W0 = ((w.alloc (.cells #[.slice A S.length cp] 29)).alloc (.cells #[.slice A' T.length cp'] 29)).alloc (.cells #[.slice none 0 0] 29) := ⟨_, rfl⟩
  rw [← hW0] at hX3 hX4 hX6 bW hS0 hT0
  have hszW : w.heap.size + 3 = W0.heap.size := by rw [hW0]; simp
  have CU1 := Lib.hid (fun W (hW : Below W0.heap.size W0 W) => cuts_any S _ W (hS0.below hW))
  have CU2 := Lib.hid (fun W (hW : Below W0.heap.size W0 W) => cuts_any T _ W (hT0.below hW))
  have HW0 := Lib.hid hW0
  have HLS := Lib.hid hlS
  have HLT := Lib.hid hlT
  have HSZ := Lib.hid hszW
  have HEG := Lib.hid eg
  have HF := Lib.hid hf
  clear hlS hlT hszW hW0 hS hT eg hf
  obtain ⟨n, hn'⟩ : ∃ n, S.length = n := ⟨_, rfl⟩
  obtain ⟨m, hm'⟩ : ∃ m, T.length = m := ⟨_, rfl⟩
  have HN := Lib.hid hn'
  have HM := Lib.hid hm'
  rw [hn'] at CU1 HW0 hX3 ⊢
  rw [hm'] at CU2 HW0 hX4 ⊢
  clear hn' hm'
  go_enter Tryd.func69, Tryd.ntmps69
  go_wp2_with fail
  rw [← HW0.out]
  go_upto_region 2 with fail
  go_cut [7] (fun s7 wx => ∃ B, W0.heap.size ≤ B ∧ wx.ownsRow B 21 1 s7 (cutsS S ++ cutsS T).length (cellsOf .i32 (cutsS S ++ cutsS T)) ∧ Below W0.heap.size W0 wx)
  case first =>
    refine wp_region_kept (fun w' => w'.cell? ⟨w.heap.size, 0, none⟩ = some (.slice A n cp) ∧ w'.cell? ⟨w.heap.size + 1, 0, none⟩ = some (.slice A' m cp')) (fun i => decide (4 ≤ i)) (by kernel_rfl) ⟨(hX3.on (below_drew _)).cell0, (hX4.on (below_drew _)).cell0⟩ (fun hH => ?_)
    refine wpAnyK_take (i := 0) (v := .agg #[.slice A n cp]) rfl (by kernel_rfl) (by kernel_rfl) (by kernel_rfl) (by kernel_rfl) (by kernel_rfl) (fun _ _ _ h => h) (Or.inl ⟨by rfl, ?_⟩) hH ?_
    · rintro w' ⟨k1, k2⟩; go_simp
    simp only [Act.put, List.setIfInBounds_toArray]
    refine wpAnyK_take (i := 2) (v := .agg #[.slice A' m cp']) rfl (by kernel_rfl) (by kernel_rfl) (by kernel_rfl) (by kernel_rfl) (by kernel_rfl) (fun _ _ _ h => h) (Or.inl ⟨by rfl, ?_⟩) hH ?_
    · rintro w' ⟨k1, k2⟩; go_simp
    simp only [Act.put]
    refine wpAnyK_one (i := 1) (by kernel_rfl) rfl (fun Kk hKk => ?_)
    go_simp
    refine (CU1.out _ (below_drew _)).mono ?_
    rintro e z1 ⟨u1, rfl, o1, y1⟩
    have hz1 : Below W0.heap.size W0 z1 := below_step (below_drew _) y1
    go_wp2_with fail
    refine hKk.out _ _ ⟨(hX3.on hz1).cell0, (hX4.on hz1).cell0⟩ (fun _ => ?_)
    clear hKk Kk
    refine wpAnyK_one (i := 3) (by kernel_rfl) rfl (fun Kk hKk => ?_)
    go_simp
    refine (CU2.out _ hz1).mono ?_
    rintro e z2 ⟨u2, rfl, o2, y2⟩
    have hz2 := below_step hz1 y2
    have o1 := own_kept o1 y2
    obtain ⟨ao1, c1, rfl⟩ := own_form1 o1
    obtain ⟨ao2, c2, rfl⟩ := own_form1 o2
    have hR := rows_two o1 o2
    have b2 := below_new z2 (.cells #[.slice ao1 (cutsS S).length c1, .slice ao2 (cutsS T).length c2] 53)
    have CC := Lib.hid (concat_any z2.heap.size 2 _ _ _ hR (by simp) (by simp only [List.flatten_cons, List.flatten_nil, List.append_nil, List.length_append]; rw [HLS.out, HLT.out]; omega))
    rw [show ([cutsS S, cutsS T] : List (List Nat)).flatten = cutsS S ++ cutsS T by simp, show ([cutsS S, cutsS T] : List (List Nat)).length = 2 from rfl] at CC
    clear hR
    generalize (cutsS S).length = ns at *
    generalize (cutsS T).length = nt at *
    go_wp2_with fail
    refine hKk.out _ _ ⟨(hX3.on hz2).cell0, (hX4.on hz2).cell0⟩ (fun _ => ?_)
    clear hKk Kk
    refine wpAnyK_last (i := 4) (by kernel_rfl) rfl rfl (fun Kk hKk => ?_)
    go_simp
    refine hKk.out _ _ ?_
    clear hKk Kk
    refine wpAnyK_last (i := 5) (by kernel_rfl) rfl rfl (fun Kk hKk => ?_)
    go_simp
    refine CC.out.mono ?_
    rintro e z3 ⟨u3, rfl, o3, y3⟩
    have hs2 := hz2.size
    go_wp2_with fail
    refine hKk.out _ _ ?_
    clear hKk Kk
    refine wpAnyK_last (i := 6) (by kernel_rfl) rfl rfl (fun Kk hKk => ?_)
    go_simp
    refine hKk.out _ _ ?_
    clear hKk Kk
    refine wpAnyK_done (by kernel_rfl) ?_ _
    go_wp2
    go_meet
    exact ⟨_, by simp; omega, o3, below_step (below_step hz2 b2) y3⟩
  case rest =>
    obtain ⟨B, hB, hown, hbw⟩ := hcut
    generalize wc = w1 at *
    obtain ⟨l0, hl0⟩ : ∃ l0, cutsS S ++ cutsS T = l0 := ⟨_, rfl⟩
    have hln : l0.length = 2 * n + 2 * m := by rw [← hl0, List.length_append, HLS.out, HLT.out, HN.out, HM.out]
    have hlb : ∀ x ∈ l0, x ≤ 1114112 := by
      intro x hx
      rw [← hl0, List.mem_append] at hx
      rcases hx with hx | hx
      · exact cutsS_le hgS x hx
      · exact cutsS_le hgT x hx
    rw [hl0] at hown
    have hpos : 0 < 2 * n + 2 * m := by rw [← HN.out, ← HM.out]; omega
    have hN9 : 2 * n + 2 * m ≤ 3000000 := by rw [← HN.out, ← HM.out]; exact hn
    have hsort' : HSort (2 * n + 2 * m) := by rw [← HN.out, ← HM.out]; exact hsort
    have HL0 := Lib.hid hl0
    rw [hln] at hown
    obtain ⟨g, cap, rfl⟩ : ∃ g cap, u7 = .slice (some ⟨g, 0, none⟩) (2 * n + 2 * m) cap := by
      rcases hown.2 with ⟨_, h0⟩ | ⟨g, cap, cur, e, _⟩
      · omega
      · exact ⟨g, cap, e⟩
    obtain ⟨tl, hBl, hBg, hLc, _⟩ := own_blk hown
    have SRT := Lib.hid (hsort' g cap l0 tl w1 hBl hln (fun x hx => by have := hlb x hx; omega))
    have HLN := Lib.hid hln
    have HLB := Lib.hid hlb
    have hgW : W0.heap.size ≤ g := by omega
    clear hl0 hln hlb hown hsort hsort' hn hne
    obtain ⟨N, hN⟩ : ∃ N, 2 * n + 2 * m = N := ⟨_, rfl⟩
    rw [hN] at SRT hLc hN9 hpos HLN ⊢
    clear hN
    go_wp2_with fail
    refine SRT.out.mono ?_
    rintro e w2 ⟨M, rfl, hB2, hp, ho, hon⟩
    have hMN : M.length = N := hp.length_eq.trans HLN.out
    have CMP := Lib.hid (compact_any g N cap M tl w2 hB2 hMN hLc (by omega))
    obtain ⟨hr1, hr2, hr3⟩ := compact_spec M (by rw [hMN]; exact ho) (by omega)
    generalize Lib.compactUpTo M.toArray M.length = C at *
    have hCm : ∀ x, x ∈ C ↔ x ∈ cutsS S ∨ x ∈ cutsS T := fun x => by rw [hr2 x, hp.mem_iff, ← HL0.out, List.mem_append]
    have hC1 : 1 ≤ C.length := by
      rcases Nat.eq_zero_or_pos C.length with h0 | h0
      · have hC0 : C = [] := List.length_eq_zero_iff.1 h0
        have hM0 : M.getD 0 0 ∈ C := (hr2 _).2 (getD_memL (by omega))
        rw [hC0] at hM0
        simp at hM0
      · exact h0
    have hCb : ∀ i, i < C.length → C.getD i 0 ≤ 1114112 := fun i hi => HLB.out _ (hp.mem_iff.1 ((hr2 _).1 (getD_memL hi)))
    rw [hMN] at hr3
    have HRI := Lib.hid hr1
    have HCM := Lib.hid hCm
    have HCB := Lib.hid hCb
    obtain ⟨q, hq⟩ : ∃ q, C.length = q := ⟨_, rfl⟩
    have HQ := Lib.hid hq
    rw [hq] at hr3 hC1 CMP
    clear hr1 hr2 hCm hCb hq hp ho hB2 hMN SRT
    go_wp2_with fail
    refine CMP.out.mono ?_
    rintro e w3 ⟨rfl, hon2, hcell⟩
    have b3 : Below W0.heap.size W0 w3 := (hbw.grown hon hbw.size (fun k hk => by injection hk with hk; omega)).trans (hon2.below hgW)
    have hg3 : g < w3.heap.size := by have := hon.size; have := hon2.size; have := hBl.lt; omega
    have HCELL := Lib.hid hcell
    have hX3 := hX3.on b3
    have hX4 := hX4.on b3
    have hX6 := hX6.on b3
    have hS3 := hS0.below b3
    have hT3 := hT0.below b3
    clear hcell CMP hon hon2 hbw hS0 hT0
    obtain ⟨F, hF⟩ : ∃ F : Nat → Bool, F = fun a => K (memS S a) (memS T a) := ⟨_, rfl⟩
    have HFF := Lib.hid hF
    clear hF
    obtain ⟨i0, hi0, hz0, hz1, hz2⟩ := info_parts rg_info
    go_wp2
    go_loopw [8, 9] (fun u t wr => ∃ j k : Nat, j + 1 ≤ q ∧ t = .int .i64 ((j : Int) + 1) ∧ wr.ownsRow w3.heap.size 59 2 u k (rgCells (intR (keptI F C j))) ∧ Hid ((keptI F C j).length = k) ∧ k ≤ j ∧ Below w3.heap.size w3 wr) (fun _ t _ => q + 1 - (intOf t).toNat)
    case atStart => exact ⟨0, 0, by omega, rfl, World.ownsRow_nil _ _ _ _, rfl, by omega, Below.refl _ _⟩
    case round =>
      obtain ⟨j, k, hj, rfl, hown, HK, hkj, hbw⟩ := hrel
      by_cases hjl : j + 1 < q
      · have hxy := HRI.out j (j + 1) (by omega) (by rw [HQ.out]; omega)
        have hyb := HCB.out (j + 1) (by rw [HQ.out]; omega)
        have c0 := (hbw.cell (p := ⟨g, j, none⟩) hg3).trans (HCELL.out j (by omega))
        have c1 := (hbw.cell (p := ⟨g, j + 1, none⟩) hg3).trans (HCELL.out (j + 1) (by omega))
        have hks := keptI_succ F C j
        generalize C.getD j 0 = x at *
        generalize C.getD (j + 1) 0 = y at *
        obtain ⟨b1, hb1⟩ : ∃ b, memS S x = b := ⟨_, rfl⟩
        obtain ⟨b2, hb2⟩ : ∃ b, memS T x = b := ⟨_, rfl⟩
        have hFx : F x = K b1 b2 := by rw [HFF.out]; show K (memS S x) (memS T x) = _; rw [hb1, hb2]
        rw [hFx] at hks
        have HKS := Lib.hid hks
        have HB1 : Hid (memI S (x : Int) = b1) := by rw [Hid, memI_nat, hb1]
        have HB2 : Hid (memI T (x : Int) = b2) := by rw [Hid, memI_nat, hb2]
        clear hks hFx hb1 hb2
        have hs1 : IntKind.i64.wrap ((j : Int) + 1 - 1) = (j : Int) := by rw [IntWalk.i64_in _ (by omega)]; omega
        have hs2 : (j : Int) + 1 - 1 = (j : Int) := by omega
        have hs3 : IntKind.i32.wrap ((y : Int) - 1) = ((y - 1 : Nat) : Int) := by rw [IntKind.wrap_i32]; omega
        have hs4 : (y : Int) - 1 = ((y - 1 : Nat) : Int) := by omega
        have hjq : j + 1 ≤ 3000000 := by omega
        have hgr : g < wr.heap.size := by have := hbw.size; omega
        have hd : decide ((j : Int) + 1 < (q : Int)) = true := by simp; omega
        have hXn := Blk.new wr 59 #[.int .i32 (x : Nat), .int .i32 ((y - 1 : Nat) : Int)]
        have hor := hown.alloc (.cells #[.int .i32 (x : Nat), .int .i32 ((y - 1 : Nat) : Int)] 59)
        have hbr := below_step hbw (below_new wr (.cells #[.int .i32 (x : Nat), .int .i32 ((y - 1 : Nat) : Int)] 59))
        obtain ⟨g10, hg10⟩ : ∃ g10, g10 = wr.heap.size := ⟨_, rfl⟩
        rw [← hg10] at hXn
        go_wp2_with fail
        go_region
        go_wp2_with fail
        rw [← hg10]
        clear hs1 hs2 hs3 hs4 hg10 c0 c1 hown hbw hgr
        have hXn' : Blk (wr.alloc (.cells #[.int .i32 (x : Nat), .int .i32 ((y - 1 : Nat) : Int)] 59)).drew g10 59 #[.int .i32 (x : Nat), .int .i32 ((y - 1 : Nat) : Int)] := hXn
        have hor' : (wr.alloc (.cells #[.int .i32 (x : Nat), .int .i32 ((y - 1 : Nat) : Int)] 59)).drew.ownsRow w3.heap.size 59 2 u8 k (rgCells (intR (keptI F C j))) := hor
        have hbr' : Below w3.heap.size w3 (wr.alloc (.cells #[.int .i32 (x : Nat), .int .i32 ((y - 1 : Nat) : Int)] 59)).drew := hbr.drew
        clear hXn hor hbr
        generalize (wr.alloc (.cells #[.int .i32 (x : Nat), .int .i32 ((y - 1 : Nat) : Int)] 59)).drew = V at *
        have hV3 := hX3.on hbr'
        have hV4 := hX4.on hbr'
        have H1 := Lib.hid (fun W (hW : Below V.heap.size V W) => has_any S _ (x : Int) b1 W ((hS3.below hbr').below hW) HB1.out)
        have H2 := Lib.hid (fun W (hW : Below V.heap.size V W) => has_any T _ (x : Int) b2 W ((hT3.below hbr').below hW) HB2.out)
        rw [HN.out] at H1
        rw [HM.out] at H2
        have eg := HEG.out
        go_region_held3 (fun w' => w'.cell? ⟨w.heap.size, 0, none⟩ = some (.slice A n cp) ∧ w'.cell? ⟨w.heap.size + 1, 0, none⟩ = some (.slice A' m cp') ∧ w'.cell? ⟨g10, 0, none⟩ = some (.int .i32 (x : Nat)))
          (first | exact ⟨(hV3.on (below_drew _)).cell0, (hV4.on (below_drew _)).cell0, ((hXn'.on (below_drew _)).cell 0).trans rfl⟩ | exact ⟨(hV3.on hw1).cell0, (hV4.on hw1).cell0, ((hXn'.on hw1).cell 0).trans rfl⟩)
          (first
            | ((with_reducible refine (H1.out _ (below_drew _)).mono ?_); rintro e x1 ⟨rfl, z1⟩; have hw1 : Below V.heap.size V x1 := below_step (below_drew _) z1)
            | ((with_reducible refine (H2.out _ hw1).mono ?_); rintro e x2 ⟨rfl, z2⟩; have hw1 : Below V.heap.size V x2 := below_step hw1 z2)
            | ((with_reducible refine (HF.out _ _ _).mono ?_); rintro e x3 ⟨rfl, z3⟩; have hw1 : Below V.heap.size V x3 := below_step hw1 z3))
        generalize K b1 b2 = b at *
        have hbr1 := below_step hbr' hw1
        have ho1 := own_kept hor' hw1
        have hX1 := hXn'.on hw1
        have hsz1 := hbr1.size
        have HEG := Lib.hid eg
        clear eg H1 H2 hV3 hV4 hor' hbr' hXn'
        cases b with
        | true =>
          have d0 := (hX1.cell 0).trans rfl
          have d1 := (hX1.cell 1).trans rfl
          have ho2 := ho1.alloc (.cells #[.int .i32 (x : Nat), .int .i32 ((y - 1 : Nat) : Int)] 59)
          have hb2 := below_step hbr1 (below_new x3 (.cells #[.int .i32 (x : Nat), .int .i32 ((y - 1 : Nat) : Int)] 59))
          have HC2 := Lib.hid (cell_two_at x3 59 (.int .i32 (x : Nat)) (.int .i32 ((y - 1 : Nat) : Int)))
          clear hX1 ho1 hbr1
          go_wp2_with (at_builtin; refine wpList_append_own _ rfl (.tmp 48) (.tmp 50) 33 rfl w3.heap.size 59 i0 (.agg #[.int .i32 0, .int .i32 0]) 2 8 Tryd.underlying33 hi0 hz0 hz1 hz2 rfl (by decide) _ k _ rfl ho2 ⟨x3.heap.size, 0, none⟩ 1 1 [.int .i32 (x : Nat), .int .i32 ((y - 1 : Nat) : Int)] rfl rfl HC2.out (by simp [Value.oneCell']) (by unfold maxLen; omega) (by omega) (by simp; omega) ?_; intro v' w4 hown4 hgrow _; have hb4 : Below w3.heap.size w3 w4 := hb2.grown hgrow (by simp; omega) (fun k hk => by have := (ho2.lt k hk).1; omega); clear hgrow)
          go_roundw
          case rel => exact ⟨j + 1, k + 1, by omega, by go_num, by rw [HKS.out, if_pos rfl, intR_append]; show w4.ownsRow _ _ _ _ _ (rgCells (intR (keptI F C j) ++ [((x : Int), ((y - 1 : Nat) : Int))])); rw [rgCells_snoc]; exact hown4, by rw [Hid, HKS.out, if_pos rfl, List.length_append, HK.out]; rfl, by omega, hb4⟩
          case measure => simp [intOf]; omega
        | false =>
          go_wp2
          go_roundw
          case rel => exact ⟨j + 1, k, by omega, by go_num, by rw [HKS.out, if_neg (by simp), List.append_nil]; exact ho1, by rw [Hid, HKS.out, if_neg (by simp), List.append_nil, HK.out], by omega, hbr1⟩
          case measure => simp [intOf]; omega
      · obtain rfl : q = j + 1 := by omega
        have hC1' : C.length - 1 = j := by rw [HQ.out]; omega
        have hsp := kept_spec K hK HRI.out HCM.out
        have hpt := kept_part K hK HRI.out HCM.out hgS hgT
        rw [hC1', ← HFF.out] at hsp hpt
        rw [← HK.out] at hown
        have hsz := hbw.size
        have HJ := Lib.hid (join_all (keptI F C j) _ w3.heap.size wr hown hsz (by rw [HK.out]; omega) hpt)
        rw [HK.out] at hown
        have HSP := Lib.hid hsp
        have hXr := hX6.on hbw
        have hd : decide ((j : Int) + 1 < ((j + 1 : Nat) : Int)) = false := by simp
        clear hsp hpt hC1' hown
        go_wp2_with fail
        refine HJ.out.mono ?_
        rintro e w5 ⟨v, R, rfl, hset, hmem, hb5⟩
        have hX5 := hXr.below hb5 (by have := hX6.lt; omega)
        have cX := hX5.cell0
        have fX := hX5.free 0
        have hb6 : Below w.heap.size w w5 := bW.trans ((b3.trans ((hbw.trans hb5).mono (by have := b3.size; omega))).mono (by have := bW.size; omega))
        obtain ⟨ao, cpp, rfl⟩ := hset.shape
        have hq := (hX5.set0 (.slice ao R.length cpp)).cell0
        have hset' : IsSet (w5.setCell ⟨w.heap.size + 1 + 1, 0, none⟩ (.slice ao R.length cpp)) (.agg #[.slice ao R.length cpp]) R := hset.far cX _
        have hbE := hb6.setCell (p := ⟨w.heap.size + 1 + 1, 0, none⟩) (by show w.heap.size ≤ w.heap.size + 1 + 1; omega) (.slice ao R.length cpp)
        have HM2 := Lib.hid hmem
        clear hmem hset
        generalize R.length = sl at *
        go_wp2
        exact bodyPost_ret (v := .agg #[.slice ao sl cpp]) (by simp [results, Tryd.results69, go_sem, hq]) rfl ⟨_, R, rfl, hset', fun c => by rw [HM2.out, HSP.out], hbE⟩
set_option maxHeartbeats 8000000 in
theorem merge_none (S T : List (Nat × Nat)) (vs vt : Value) (gk : Nat) (K : Bool → Bool → Bool) (hK : K false false = false) (w : World) (hS : IsSet w vs S) (hT : IsSet w vt T) (hne : S.length + T.length = 0) (eg : ∀ args w, (callFunc gk args).run Tryd.prog w = .ok (.enter gk args) w) (hf : ∀ a b W, Calls Tryd.prog gk #[.bool a, .bool b] W (RetV (.bool (K a b)) W)) :
    Calls Tryd.prog 69 #[vs, vt, .func (.func gk) #[] #[]] w (RetSet (fun c => K (memS S c) (memS T c)) w.heap.size w) := by
  have hgS : Good 0 S := by obtain ⟨_, _, _, _, hg⟩ := hS; exact hg
  have hgT : Good 0 T := by obtain ⟨_, _, _, _, hg⟩ := hT; exact hg
  obtain ⟨A, cp, rfl⟩ := hS.shape
  obtain ⟨A', cp', rfl⟩ := hT.shape
  have hX3 := (((Blk.new w 29 #[.slice A S.length cp]).alloc (.cells #[.slice A' T.length cp'] 29)).alloc (.cells #[.slice none 0 0] 29))
  have hX4 := (blk_two w (.cells #[.slice A S.length cp] 29) 29 #[.slice A' T.length cp']).alloc (.cells #[.slice none 0 0] 29)
  have hX6 := blk_three w (.cells #[.slice A S.length cp] 29) (.cells #[.slice A' T.length cp'] 29) 29 #[.slice none 0 0]
  have bW := below_step (below_step (below_new w (.cells #[.slice A S.length cp] 29)) (below_new _ (.cells #[.slice A' T.length cp'] 29))) (below_new _ (.cells #[.slice none 0 0] 29))
  have hS0 := hS.below bW
  have hT0 := hT.below bW
  have hlS := cutsS_length S
  have hlT := cutsS_length T
  obtain ⟨W0, hW0⟩ : ∃ W0, W0 = ((w.alloc (.cells #[.slice A S.length cp] 29)).alloc (.cells #[.slice A' T.length cp'] 29)).alloc (.cells #[.slice none 0 0] 29) := ⟨_, rfl⟩
  rw [← hW0] at hX3 hX4 hX6 bW hS0 hT0
  have hszW : w.heap.size + 3 = W0.heap.size := by rw [hW0]; simp
  have CU1 := Lib.hid (fun W (hW : Below W0.heap.size W0 W) => cuts_any S _ W (hS0.below hW))
  have CU2 := Lib.hid (fun W (hW : Below W0.heap.size W0 W) => cuts_any T _ W (hT0.below hW))
  have HW0 := Lib.hid hW0
  have HLS := Lib.hid hlS
  have HLT := Lib.hid hlT
  have HSZ := Lib.hid hszW
  have HEG := Lib.hid eg
  have HF := Lib.hid hf
  clear hlS hlT hszW hW0 hS hT eg hf
  obtain ⟨n, hn'⟩ : ∃ n, S.length = n := ⟨_, rfl⟩
  obtain ⟨m, hm'⟩ : ∃ m, T.length = m := ⟨_, rfl⟩
  have HN := Lib.hid hn'
  have HM := Lib.hid hm'
  rw [hn'] at CU1 HW0 hX3 ⊢
  rw [hm'] at CU2 HW0 hX4 ⊢
  clear hn' hm'
  go_enter Tryd.func69, Tryd.ntmps69
  go_wp2_with fail
  rw [← HW0.out]
  go_upto_region 2 with fail
  go_cut [7] (fun s7 wx => ∃ B, W0.heap.size ≤ B ∧ wx.ownsRow B 21 1 s7 (cutsS S ++ cutsS T).length (cellsOf .i32 (cutsS S ++ cutsS T)) ∧ Below W0.heap.size W0 wx)
  case first =>
    refine wp_region_kept (fun w' => w'.cell? ⟨w.heap.size, 0, none⟩ = some (.slice A n cp) ∧ w'.cell? ⟨w.heap.size + 1, 0, none⟩ = some (.slice A' m cp')) (fun i => decide (4 ≤ i)) (by kernel_rfl) ⟨(hX3.on (below_drew _)).cell0, (hX4.on (below_drew _)).cell0⟩ (fun hH => ?_)
    refine wpAnyK_take (i := 0) (v := .agg #[.slice A n cp]) rfl (by kernel_rfl) (by kernel_rfl) (by kernel_rfl) (by kernel_rfl) (by kernel_rfl) (fun _ _ _ h => h) (Or.inl ⟨by rfl, ?_⟩) hH ?_
    · rintro w' ⟨k1, k2⟩; go_simp
    simp only [Act.put, List.setIfInBounds_toArray]
    refine wpAnyK_take (i := 2) (v := .agg #[.slice A' m cp']) rfl (by kernel_rfl) (by kernel_rfl) (by kernel_rfl) (by kernel_rfl) (by kernel_rfl) (fun _ _ _ h => h) (Or.inl ⟨by rfl, ?_⟩) hH ?_
    · rintro w' ⟨k1, k2⟩; go_simp
    simp only [Act.put]
    refine wpAnyK_one (i := 1) (by kernel_rfl) rfl (fun Kk hKk => ?_)
    go_simp
    refine (CU1.out _ (below_drew _)).mono ?_
    rintro e z1 ⟨u1, rfl, o1, y1⟩
    have hz1 : Below W0.heap.size W0 z1 := below_step (below_drew _) y1
    go_wp2_with fail
    refine hKk.out _ _ ⟨(hX3.on hz1).cell0, (hX4.on hz1).cell0⟩ (fun _ => ?_)
    clear hKk Kk
    refine wpAnyK_one (i := 3) (by kernel_rfl) rfl (fun Kk hKk => ?_)
    go_simp
    refine (CU2.out _ hz1).mono ?_
    rintro e z2 ⟨u2, rfl, o2, y2⟩
    have hz2 := below_step hz1 y2
    have o1 := own_kept o1 y2
    obtain ⟨ao1, c1, rfl⟩ := own_form1 o1
    obtain ⟨ao2, c2, rfl⟩ := own_form1 o2
    have hR := rows_two o1 o2
    have b2 := below_new z2 (.cells #[.slice ao1 (cutsS S).length c1, .slice ao2 (cutsS T).length c2] 53)
    have CC := Lib.hid (concat_any z2.heap.size 2 _ _ _ hR (by simp) (by simp only [List.flatten_cons, List.flatten_nil, List.append_nil, List.length_append]; rw [HLS.out, HLT.out]; omega))
    rw [show ([cutsS S, cutsS T] : List (List Nat)).flatten = cutsS S ++ cutsS T by simp, show ([cutsS S, cutsS T] : List (List Nat)).length = 2 from rfl] at CC
    clear hR
    generalize (cutsS S).length = ns at *
    generalize (cutsS T).length = nt at *
    go_wp2_with fail
    refine hKk.out _ _ ⟨(hX3.on hz2).cell0, (hX4.on hz2).cell0⟩ (fun _ => ?_)
    clear hKk Kk
    refine wpAnyK_last (i := 4) (by kernel_rfl) rfl rfl (fun Kk hKk => ?_)
    go_simp
    refine hKk.out _ _ ?_
    clear hKk Kk
    refine wpAnyK_last (i := 5) (by kernel_rfl) rfl rfl (fun Kk hKk => ?_)
    go_simp
    refine CC.out.mono ?_
    rintro e z3 ⟨u3, rfl, o3, y3⟩
    have hs2 := hz2.size
    go_wp2_with fail
    refine hKk.out _ _ ?_
    clear hKk Kk
    refine wpAnyK_last (i := 6) (by kernel_rfl) rfl rfl (fun Kk hKk => ?_)
    go_simp
    refine hKk.out _ _ ?_
    clear hKk Kk
    refine wpAnyK_done (by kernel_rfl) ?_ _
    go_wp2
    go_meet
    exact ⟨_, by simp; omega, o3, below_step (below_step hz2 b2) y3⟩
  case rest =>
    obtain ⟨B, hB, hown, hbw⟩ := hcut
    generalize wc = w1 at *
    have hS0' : S = [] := List.length_eq_zero_iff.1 (by omega)
    have hT0' : T = [] := List.length_eq_zero_iff.1 (by omega)
    have hlen : (cutsS S ++ cutsS T).length = 0 := by rw [hS0', hT0']; rfl
    rw [hlen] at hown
    obtain ⟨A7, c7, rfl⟩ := own_form1 hown
    have HMEM : Hid (∀ c, memS [] c = K (memS S c) (memS T c)) := Lib.hid fun c => by rw [hS0', hT0']; show false = K false false; rw [hK]
    have hX6' := hX6.on hbw
    have bw1 := below_step bW hbw
    have HJ := Lib.hid (fun W => join_all [] (.slice none 0 0) W.heap.size W (World.ownsRow_nil _ _ _ _) (Nat.le_refl _) (by simp) (by simp))
    clear hS0' hT0' hlen hown hne CU1 CU2 hX3 hX4 hS0 hT0 hbw
    go_wp2_with fail
    refine (sort_none _ _ _).mono ?_
    rintro e w2 ⟨rfl, rfl⟩
    go_wp2_with fail
    refine (compact_none _ _ _).mono ?_
    rintro e w2 ⟨rfl, rfl⟩
    go_wp2
    go_loopw [8, 9] (fun u t wr => u = .slice none 0 0 ∧ t = .int .i64 1 ∧ wr = w1) (fun _ _ _ => 0)
    case atStart => exact ⟨rfl, rfl, rfl⟩
    case round =>
      obtain ⟨rfl, rfl, rfl⟩ := hrel
      go_wp2_with fail
      refine (HJ.out _).mono ?_
      rintro e w5 ⟨v, R, rfl, hset, hmem, hb5⟩
      have hX5 := hX6'.on hb5
      have cX := hX5.cell0
      have fX := hX5.free 0
      have hb6 := below_step bw1 hb5
      obtain ⟨ao, cpp, rfl⟩ := hset.shape
      have hq := (hX5.set0 (.slice ao R.length cpp)).cell0
      have hset' : IsSet (w5.setCell ⟨w.heap.size + 1 + 1, 0, none⟩ (.slice ao R.length cpp)) (.agg #[.slice ao R.length cpp]) R := hset.far cX _
      have hbE := hb6.setCell (p := ⟨w.heap.size + 1 + 1, 0, none⟩) (by show w.heap.size ≤ w.heap.size + 1 + 1; omega) (.slice ao R.length cpp)
      have HM2 := Lib.hid hmem
      clear hmem hset
      generalize R.length = sl at *
      go_wp2
      exact bodyPost_ret (v := .agg #[.slice ao sl cpp]) (by simp [results, Tryd.results69, go_sem, hq]) rfl ⟨_, R, rfl, hset', fun c => by rw [HM2.out, HMEM.out], hbE⟩

/-- merge, of any two sets. -/
theorem merge_all (S T : List (Nat × Nat)) (vs vt : Value) (gk : Nat) (K : Bool → Bool → Bool) (hK : K false false = false) (w : World) (hS : IsSet w vs S) (hT : IsSet w vt T)
    (hn : 2 * S.length + 2 * T.length ≤ 3000000) (eg : ∀ args w, (callFunc gk args).run Tryd.prog w = .ok (.enter gk args) w) (hf : ∀ a b W, Calls Tryd.prog gk #[.bool a, .bool b] W (RetV (.bool (K a b)) W)) :
    Calls Tryd.prog 69 #[vs, vt, .func (.func gk) #[] #[]] w (RetSet (fun c => K (memS S c) (memS T c)) w.heap.size w) := by
  rcases Nat.eq_zero_or_pos (S.length + T.length) with h | h
  · exact merge_none S T vs vt gk K hK w hS hT h eg hf
  · exact merge_any S T vs vt gk K hK w hS hT (hsort_all _ (by omega)) h hn eg hf
end Go.Proofs.YtccbofaefpbhlaaDoor

namespace Go.Proofs.YtccbofaefpbhlaaDoor
set_option linter.unusedVariables false
set_option maxRecDepth 20000
open Go.RowKit

/-- Two sets that may be merged. -/
structure MayMerge (S T : List (Nat × Nat)) : Prop where
  few : 2 * S.length + 2 * T.length ≤ 3000000

theorem MayMerge.of {S T : List (Nat × Nat)} (hS : Good 0 S) (hT : Good 0 T) : MayMerge S T := ⟨by have h1 := hS.len (by decide); have h2 := hT.len (by decide); omega⟩

theorem orF_any (a b : Bool) (w : World) : Calls Tryd.prog 70 #[.bool a, .bool b] w (RetV (.bool (a || b)) w) := by
  cases a <;> cases b
  all_goals
    go_enter Tryd.func70, Tryd.ntmps70
    go_wp2
    go_ret
    exact ⟨rfl, Below.refl _ _⟩
set_option maxHeartbeats 2000000 in
theorem setOr_any (S T : List (Nat × Nat)) (vs vt : Value) (w : World) (hS : IsSet w vs S) (hT : IsSet w vt T) (hm : MayMerge S T) :
    Calls Tryd.prog 27 #[vs, vt] w (RetSet (fun c => (fun a b => (a || b)) (memS S c) (memS T c)) w.heap.size w) := by
  have MG := Lib.hid (fun W (hW : Below w.heap.size w W) => merge_all S T vs vt 70 (fun a b => (a || b)) rfl W (hS.below hW) (hT.below hW) hm.few (enters_of Tryd.func70 (by kernel_rfl) rfl) (fun a b W => orF_any a b W))
  obtain ⟨A, cp, rfl⟩ := hS.shape
  obtain ⟨A', cp', rfl⟩ := hT.shape
  have hX := blk_three w (.cells #[.slice A S.length cp] 29) (.cells #[.slice A' T.length cp'] 29) 29 #[.slice none 0 0]
  have bW := below_step (below_step (below_new w (.cells #[.slice A S.length cp] 29)) (below_new _ (.cells #[.slice A' T.length cp'] 29))) (below_new _ (.cells #[.slice none 0 0] 29))
  clear hS hT hm
  generalize (fun c => (fun a b => (a || b)) (memS S c) (memS T c)) = p at *
  generalize S.length = n at *
  generalize T.length = m at *
  go_enter Tryd.func27, Tryd.ntmps27
  go_wp2_with fail
  refine (MG.out _ bW).mono ?_
  rintro e w1 ⟨v, R, rfl, hset, hmem, hb1⟩
  have hX1 := hX.on hb1
  have cX := hX1.cell0
  have fX := hX1.free 0
  have hb := below_step bW hb1
  obtain ⟨ao, cpp, rfl⟩ := hset.shape
  have hq := (hX1.set0 (.slice ao R.length cpp)).cell0
  have hset' : IsSet (w1.setCell ⟨w.heap.size + 1 + 1, 0, none⟩ (.slice ao R.length cpp)) (.agg #[.slice ao R.length cpp]) R := hset.far cX _
  have hbE := hb.setCell (p := ⟨w.heap.size + 1 + 1, 0, none⟩) (by show w.heap.size ≤ w.heap.size + 1 + 1; omega) (.slice ao R.length cpp)
  have HM2 := Lib.hid hmem
  clear hmem hset
  generalize R.length = sl at *
  go_wp2
  exact bodyPost_ret (v := .agg #[.slice ao sl cpp]) (by simp [results, Tryd.results27, go_sem, hq]) rfl ⟨_, R, rfl, hset', HM2.out, hbE⟩

theorem andF_any (a b : Bool) (w : World) : Calls Tryd.prog 71 #[.bool a, .bool b] w (RetV (.bool (a && b)) w) := by
  cases a <;> cases b
  all_goals
    go_enter Tryd.func71, Tryd.ntmps71
    go_wp2
    go_ret
    exact ⟨rfl, Below.refl _ _⟩
set_option maxHeartbeats 2000000 in
theorem setAnd_any (S T : List (Nat × Nat)) (vs vt : Value) (w : World) (hS : IsSet w vs S) (hT : IsSet w vt T) (hm : MayMerge S T) :
    Calls Tryd.prog 29 #[vs, vt] w (RetSet (fun c => (fun a b => (a && b)) (memS S c) (memS T c)) w.heap.size w) := by
  have MG := Lib.hid (fun W (hW : Below w.heap.size w W) => merge_all S T vs vt 71 (fun a b => (a && b)) rfl W (hS.below hW) (hT.below hW) hm.few (enters_of Tryd.func71 (by kernel_rfl) rfl) (fun a b W => andF_any a b W))
  obtain ⟨A, cp, rfl⟩ := hS.shape
  obtain ⟨A', cp', rfl⟩ := hT.shape
  have hX := blk_three w (.cells #[.slice A S.length cp] 29) (.cells #[.slice A' T.length cp'] 29) 29 #[.slice none 0 0]
  have bW := below_step (below_step (below_new w (.cells #[.slice A S.length cp] 29)) (below_new _ (.cells #[.slice A' T.length cp'] 29))) (below_new _ (.cells #[.slice none 0 0] 29))
  clear hS hT hm
  generalize (fun c => (fun a b => (a && b)) (memS S c) (memS T c)) = p at *
  generalize S.length = n at *
  generalize T.length = m at *
  go_enter Tryd.func29, Tryd.ntmps29
  go_wp2_with fail
  refine (MG.out _ bW).mono ?_
  rintro e w1 ⟨v, R, rfl, hset, hmem, hb1⟩
  have hX1 := hX.on hb1
  have cX := hX1.cell0
  have fX := hX1.free 0
  have hb := below_step bW hb1
  obtain ⟨ao, cpp, rfl⟩ := hset.shape
  have hq := (hX1.set0 (.slice ao R.length cpp)).cell0
  have hset' : IsSet (w1.setCell ⟨w.heap.size + 1 + 1, 0, none⟩ (.slice ao R.length cpp)) (.agg #[.slice ao R.length cpp]) R := hset.far cX _
  have hbE := hb.setCell (p := ⟨w.heap.size + 1 + 1, 0, none⟩) (by show w.heap.size ≤ w.heap.size + 1 + 1; omega) (.slice ao R.length cpp)
  have HM2 := Lib.hid hmem
  clear hmem hset
  generalize R.length = sl at *
  go_wp2
  exact bodyPost_ret (v := .agg #[.slice ao sl cpp]) (by simp [results, Tryd.results29, go_sem, hq]) rfl ⟨_, R, rfl, hset', HM2.out, hbE⟩

theorem lessF_any (a b : Bool) (w : World) : Calls Tryd.prog 72 #[.bool a, .bool b] w (RetV (.bool (a && !b)) w) := by
  cases a <;> cases b
  all_goals
    go_enter Tryd.func72, Tryd.ntmps72
    go_wp2
    go_ret
    exact ⟨rfl, Below.refl _ _⟩
set_option maxHeartbeats 2000000 in
theorem setLess_any (S T : List (Nat × Nat)) (vs vt : Value) (w : World) (hS : IsSet w vs S) (hT : IsSet w vt T) (hm : MayMerge S T) :
    Calls Tryd.prog 31 #[vs, vt] w (RetSet (fun c => (fun a b => (a && !b)) (memS S c) (memS T c)) w.heap.size w) := by
  have MG := Lib.hid (fun W (hW : Below w.heap.size w W) => merge_all S T vs vt 72 (fun a b => (a && !b)) rfl W (hS.below hW) (hT.below hW) hm.few (enters_of Tryd.func72 (by kernel_rfl) rfl) (fun a b W => lessF_any a b W))
  obtain ⟨A, cp, rfl⟩ := hS.shape
  obtain ⟨A', cp', rfl⟩ := hT.shape
  have hX := blk_three w (.cells #[.slice A S.length cp] 29) (.cells #[.slice A' T.length cp'] 29) 29 #[.slice none 0 0]
  have bW := below_step (below_step (below_new w (.cells #[.slice A S.length cp] 29)) (below_new _ (.cells #[.slice A' T.length cp'] 29))) (below_new _ (.cells #[.slice none 0 0] 29))
  clear hS hT hm
  generalize (fun c => (fun a b => (a && !b)) (memS S c) (memS T c)) = p at *
  generalize S.length = n at *
  generalize T.length = m at *
  go_enter Tryd.func31, Tryd.ntmps31
  go_wp2_with fail
  refine (MG.out _ bW).mono ?_
  rintro e w1 ⟨v, R, rfl, hset, hmem, hb1⟩
  have hX1 := hX.on hb1
  have cX := hX1.cell0
  have fX := hX1.free 0
  have hb := below_step bW hb1
  obtain ⟨ao, cpp, rfl⟩ := hset.shape
  have hq := (hX1.set0 (.slice ao R.length cpp)).cell0
  have hset' : IsSet (w1.setCell ⟨w.heap.size + 1 + 1, 0, none⟩ (.slice ao R.length cpp)) (.agg #[.slice ao R.length cpp]) R := hset.far cX _
  have hbE := hb.setCell (p := ⟨w.heap.size + 1 + 1, 0, none⟩) (by show w.heap.size ≤ w.heap.size + 1 + 1; omega) (.slice ao R.length cpp)
  have HM2 := Lib.hid hmem
  clear hmem hset
  generalize R.length = sl at *
  go_wp2
  exact bodyPost_ret (v := .agg #[.slice ao sl cpp]) (by simp [results, Tryd.results31, go_sem, hq]) rfl ⟨_, R, rfl, hset', HM2.out, hbE⟩

theorem xorF_any (a b : Bool) (w : World) : Calls Tryd.prog 73 #[.bool a, .bool b] w (RetV (.bool (a != b)) w) := by
  cases a <;> cases b
  all_goals
    go_enter Tryd.func73, Tryd.ntmps73
    go_wp2
    go_ret
    exact ⟨rfl, Below.refl _ _⟩
set_option maxHeartbeats 2000000 in
theorem setXor_any (S T : List (Nat × Nat)) (vs vt : Value) (w : World) (hS : IsSet w vs S) (hT : IsSet w vt T) (hm : MayMerge S T) :
    Calls Tryd.prog 33 #[vs, vt] w (RetSet (fun c => (fun a b => (a != b)) (memS S c) (memS T c)) w.heap.size w) := by
  have MG := Lib.hid (fun W (hW : Below w.heap.size w W) => merge_all S T vs vt 73 (fun a b => (a != b)) rfl W (hS.below hW) (hT.below hW) hm.few (enters_of Tryd.func73 (by kernel_rfl) rfl) (fun a b W => xorF_any a b W))
  obtain ⟨A, cp, rfl⟩ := hS.shape
  obtain ⟨A', cp', rfl⟩ := hT.shape
  have hX := blk_three w (.cells #[.slice A S.length cp] 29) (.cells #[.slice A' T.length cp'] 29) 29 #[.slice none 0 0]
  have bW := below_step (below_step (below_new w (.cells #[.slice A S.length cp] 29)) (below_new _ (.cells #[.slice A' T.length cp'] 29))) (below_new _ (.cells #[.slice none 0 0] 29))
  clear hS hT hm
  generalize (fun c => (fun a b => (a != b)) (memS S c) (memS T c)) = p at *
  generalize S.length = n at *
  generalize T.length = m at *
  go_enter Tryd.func33, Tryd.ntmps33
  go_wp2_with fail
  refine (MG.out _ bW).mono ?_
  rintro e w1 ⟨v, R, rfl, hset, hmem, hb1⟩
  have hX1 := hX.on hb1
  have cX := hX1.cell0
  have fX := hX1.free 0
  have hb := below_step bW hb1
  obtain ⟨ao, cpp, rfl⟩ := hset.shape
  have hq := (hX1.set0 (.slice ao R.length cpp)).cell0
  have hset' : IsSet (w1.setCell ⟨w.heap.size + 1 + 1, 0, none⟩ (.slice ao R.length cpp)) (.agg #[.slice ao R.length cpp]) R := hset.far cX _
  have hbE := hb.setCell (p := ⟨w.heap.size + 1 + 1, 0, none⟩) (by show w.heap.size ≤ w.heap.size + 1 + 1; omega) (.slice ao R.length cpp)
  have HM2 := Lib.hid hmem
  clear hmem hset
  generalize R.length = sl at *
  go_wp2
  exact bodyPost_ret (v := .agg #[.slice ao sl cpp]) (by simp [results, Tryd.results33, go_sem, hq]) rfl ⟨_, R, rfl, hset', HM2.out, hbE⟩

/-- All characters. -/
def allS : List (Nat × Nat) := [(0, 55295), (57344, 1114111)]
theorem allS_good : Good 0 allS := ⟨by omega, by omega, by omega, by omega, by omega, by omega, by omega, by omega, trivial⟩
theorem allS_mem (c : Nat) : memS allS c = allB c := by
  rw [Bool.eq_iff_iff, memS_ex, allB, decide_eq_true_eq]
  simp only [allS, List.mem_cons, List.not_mem_nil, or_false]
  constructor
  · rintro ⟨r, rfl | rfl, h1, h2⟩
    · simp only at h1 h2; omega
    · simp only at h1 h2; omega
  · rintro (h | h)
    · exact ⟨_, .inl rfl, by simp only; omega, by simp only; omega⟩
    · exact ⟨_, .inr rfl, by simp only; omega, by simp only; omega⟩
theorem IsSet.good {w : World} {v : Value} {S : List (Nat × Nat)} (h : IsSet w v S) : Good 0 S := by obtain ⟨_, _, _, _, hg⟩ := h; exact hg
/-- The same characters: the same set. -/
theorem IsSet.as {w : World} {v : Value} {S T : List (Nat × Nat)} (h : IsSet w v S) (hT : Good 0 T) (hm : ∀ c, memS S c = memS T c) : IsSet w v T := by
  obtain rfl := h.good.unique hT hm
  exact h

set_option maxHeartbeats 4000000 in
theorem not_any (S : List (Nat × Nat)) (vs : Value) (w : World) (he : EnvR w) (hS : IsSet w vs S) (hm : MayMerge allS S) :
    Calls Tryd.prog 35 #[vs] w (RetSet (fun c => allB c && !memS S c) w.heap.size w) := by
  obtain ⟨A, cp, rfl⟩ := hS.shape
  have hX1 := (Blk.new w 29 #[.slice A S.length cp]).alloc (.cells #[.slice none 0 0] 29)
  have hX2 := blk_two w (.cells #[.slice A S.length cp] 29) 29 #[.slice none 0 0]
  have bW := below_step (below_new w (.cells #[.slice A S.length cp] 29)) (below_new _ (.cells #[.slice none 0 0] 29))
  have AL := Lib.hid (fun W (hW : Below w.heap.size w W) => all_any W (he.kept hW))
  have LS := Lib.hid (fun v W (hW : Below w.heap.size w W) (hv : IsSet W v allS) => setLess_any allS S v _ W hv (hS.below hW) hm)
  have HMF : Hid (∀ c, (fun a b => (a && !b)) (memS allS c) (memS S c) = (allB c && !memS S c)) := fun c => by simp only [allS_mem]
  obtain ⟨W0, hW0⟩ : ∃ W0, W0 = (w.alloc (.cells #[.slice A S.length cp] 29)).alloc (.cells #[.slice none 0 0] 29) := ⟨_, rfl⟩
  rw [← hW0] at hX1 hX2 bW
  have HW0 := Lib.hid hW0
  clear hS hm he hW0
  generalize S.length = n at *
  go_enter Tryd.func35, Tryd.ntmps35
  go_wp2_with fail
  rw [← HW0.out]
  refine wp_region_kept (fun w' => w'.cell? ⟨w.heap.size, 0, none⟩ = some (.slice A n cp)) (fun i => decide (2 ≤ i)) (by kernel_rfl) (hX1.on (below_drew _)).cell0 (fun hH => ?_)
  refine wpAnyK_take (i := 1) (v := .agg #[.slice A n cp]) rfl (by kernel_rfl) (by kernel_rfl) (by kernel_rfl) (by kernel_rfl) (by kernel_rfl) (fun _ _ _ h => h) (Or.inl ⟨by rfl, ?_⟩) hH ?_
  · rintro w' k1; go_simp
  simp only [Act.put, List.setIfInBounds_toArray]
  refine wpAnyK_one (i := 0) (by kernel_rfl) rfl (fun Kk hKk => ?_)
  go_simp
  refine (AL.out _ (below_step bW (below_drew _))).mono ?_
  rintro e z1 ⟨v, R, rfl, hset, hmem, y1⟩
  have hset := hset.as allS_good (fun c => by rw [hmem, allS_mem])
  have hz1 : Below W0.heap.size W0 z1 := below_step (below_drew _) y1
  have LS2 := Lib.hid (LS.out _ z1 (below_step bW hz1) hset)
  obtain ⟨ao1, cp1, rfl⟩ := hset.shape
  clear hset hmem
  go_wp2_with fail
  refine hKk.out _ _ (hX1.on hz1).cell0 (fun _ => ?_)
  clear hKk Kk
  refine wpAnyK_last (i := 2) (by kernel_rfl) rfl rfl (fun Kk hKk => ?_)
  go_simp
  refine LS2.out.mono ?_
  rintro e z2 ⟨v, R2, rfl, hset, hmem, y2⟩
  have hz2 := below_step hz1 y2
  have hX3 := hX2.on hz2
  have cX := hX3.cell0
  have fX := hX3.free 0
  have hb := below_step bW hz2
  obtain ⟨ao, cpp, rfl⟩ := hset.shape
  have hq := (hX3.set0 (.slice ao R2.length cpp)).cell0
  have hset' : IsSet (z2.setCell ⟨w.heap.size + 1, 0, none⟩ (.slice ao R2.length cpp)) (.agg #[.slice ao R2.length cpp]) R2 := hset.far cX _
  have hbE := hb.setCell (p := ⟨w.heap.size + 1, 0, none⟩) (by show w.heap.size ≤ w.heap.size + 1; omega) (.slice ao R2.length cpp)
  have HM2 := Lib.hid hmem
  clear hmem hset
  generalize R2.length = sl at *
  go_wp2_with fail
  refine hKk.out _ _ ?_
  clear hKk Kk
  refine wpAnyK_last (i := 3) (by kernel_rfl) rfl rfl (fun Kk hKk => ?_)
  go_simp
  refine hKk.out _ _ ?_
  clear hKk Kk
  refine wpAnyK_done (by kernel_rfl) ?_ _
  go_wp2
  exact bodyPost_ret (v := .agg #[.slice ao sl cpp]) (by simp [results, Tryd.results35, go_sem, hq]) rfl ⟨_, R2, rfl, hset', fun c => by rw [HM2.out]; exact HMF.out c, hbE⟩
end Go.Proofs.YtccbofaefpbhlaaDoor
