/-
  pages: keep: the blocks that are unlike, the table of them; New.
-/
import Derived.Test.YtblakfpacommfaaPO
import Derived.Test.YtblakfpacommfaaKept
namespace Go.Proofs.Ytblakfpacommfaa
set_option linter.unusedVariables false
set_option maxRecDepth 20000
open Go.RowKit
theorem wp_slice50 {op : Oper} {a : Act} {w : World} {K : Act → World → Prop} {Q : Exit → Act → World → Prop} (x : Operand) (ho : op.op = .buildSlice 50 1 #[(0, x)]) (ds : Array Value) (hx : a.eval x = .agg ds) (hs : ds.size = 256)
    (h : K (a.put op.dst (.slice (some ⟨w.heap.size, 0, none⟩) 1 1)) (w.alloc (.cells ds 48))) : op.wp Try.prog a w K Q := by
  unfold Oper.wp execOp
  have hm : (#[((0 : Nat), x)].map fun (i, x) => (i, a.eval x)) = #[(0, .agg ds)] := by simp [hx]
  simp only [ho, Sem.run_bind, hm, slice50 ds hs, Result.andThen_ok]
  exact h
attribute [local go_sem] zero48 zero43
set_option maxHeartbeats 1000000 in
theorem keep_any (l : List (Int × Nat)) (w : World) (base g0 : Nat) (P : Nat → Option Nat) (cs : Array Value) (hF : Filled w base g0 l P cs) (hv : ∀ c, valAt l c < 65536) :
    Calls Try.prog 16 #[.agg cs] w fun e w' => ∃ g n K W, e = .returned (.pointer (some ⟨g, 0, none⟩)) ∧ PagesOf (valAt l) n K W ∧ PagesAt w' g n K W ∧ Below w.heap.size w w' ∧ PgUp w' g w.heap.size := by
  have hs := hF.size
  have hno : noughts.size = 256 := by simp [noughts]
  have HF := Lib.hid fun W (hb : Below w.heap.size w W) => hF.on hb
  have hmk := fun (w : World) => run_makeMap_plain (P := Try.prog) w 57
  have hisn : IsBlock noughts := by rw [blkOf_zero]; exact blkOf_is _ fun _ _ => Nat.zero_lt_succ _
  have hput := block_put (w := ((((w.alloc (.cells cs 43)).alloc (.cells noughts 48)).alloc (.cells (tab0.setIfInBounds 0 (.slice (some ⟨w.heap.size + 1, 0, none⟩) 1 1)) 53)).alloc (.map #[] 0))) (g := w.heap.size + 1 + 1 + 1) (es := #[]) (c := 0) (L := []) (by
    have := heap_alloc_new (((w.alloc (.cells cs 43)).alloc (.cells noughts 48)).alloc (.cells (tab0.setIfInBounds 0 (.slice (some ⟨w.heap.size + 1, 0, none⟩) 1 1)) 53)) (.map #[] 0)
    simpa using this) ⟨rfl, by simp⟩ hisn (by simp) 0
  have hst := KeptAt.start w cs
  have bV : Below w.heap.size w (pushedB ((((w.alloc (.cells cs 43)).alloc (.cells noughts 48)).alloc (.cells (tab0.setIfInBounds 0 (.slice (some ⟨w.heap.size + 1, 0, none⟩) 1 1)) 53)).alloc (.map #[] 0)) (w.heap.size + 1 + 1 + 1) #[] 0 noughts 0) :=
    pushedB_below (below_step (below_new w _) (below_step (below_new _ _) (below_step (below_new _ _) (below_new _ _)))) (by omega)
  have hB := pushedB_blk (g := w.heap.size + 1 + 1 + 1) (es := #[]) (c := 0) (v := 0) (xs := noughts) ((((Blk.new w 43 cs).alloc (.cells noughts 48)).alloc (.cells (tab0.setIfInBounds 0 (.slice (some ⟨w.heap.size + 1, 0, none⟩) 1 1)) 53)).alloc (.map #[] 0)) (by omega)
  clear hF hisn
  have hput' : Sem.run Try.prog (Instr.mapUpdate 57 (Value.map (some (w.heap.size + 1 + 1 + 1))) (Value.agg noughts) (Value.int IntKind.u16 0)) ((((w.alloc (.cells cs 43)).alloc (.cells noughts 48)).alloc (.cells (tab0.setIfInBounds 0 (.slice (some ⟨w.heap.size + 1, 0, none⟩) 1 1)) 53)).alloc (.map #[] 0)) = _ := hput
  clear hput
  go_enter Try.func16, Try.ntmps16
  go_wp2_with (first | (refine wpList_slice50 rfl (.tmp 9) rfl noughts rfl hno ?_) | (refine wpList_build53 rfl (.tmp 10) rfl _ _ _ rfl ?_) | (refine load43_list rfl (.tmp 1) rfl rfl hB hs ?_))
  generalize pushedB ((((w.alloc (.cells cs 43)).alloc (.cells noughts 48)).alloc (.cells (tab0.setIfInBounds 0 (.slice (some ⟨w.heap.size + 1, 0, none⟩) 1 1)) 53)).alloc (.map #[] 0)) (w.heap.size + 1 + 1 + 1) #[] 0 noughts 0 = V at *
  generalize hG : w.heap.size + 1 + 1 = G at *
  generalize hM : G + 1 = M at *
  have hMG : M ≠ G := by omega
  have hsG : w.heap.size ≤ G := by omega
  have hsM : w.heap.size ≤ M := by omega
  clear hput' hmk hno hB hs
  go_loopw [17] (fun s wr => ∃ (i : Nat) (v : Value) (es : Array MapEntry) (c : Nat) (F : List (Nat → Nat)) (W : Nat → Nat) (ts : Array Value), s = .int .i64 (i : Int) ∧ i ≤ 4352 ∧ KeptAt wr w.heap.size G M v es c F W ts ∧ KeptF (valAt l) i F W ∧ Below w.heap.size w wr) (fun s _ => 4352 - (intOf s).toNat)
  case atStart => exact ⟨0, _, _, _, _, _, _, rfl, by omega, hst, KeptF.start _, bV⟩
  case round =>
    obtain ⟨i, v, es, c, F, W, ts, rfl, hi0, hK, hKF, hb⟩ := hrel
    clear hst bV
    have hFi := HF.out _ hb
    by_cases hi : i < 4352
    · have hix := fun W => index43 (v := .pointer ((P i).map fun b => ⟨b, 0, none⟩)) hi (hFi.at_ i hi) W
      rcases hp : P i with _ | b
      · rw [hp] at hix
        have hnt : Hid (∀ k, k < 256 → valAt l (i * 256 + k) = 0) := Lib.hid fun k hk => valAt_far ((hFi.some_ i hi).1 hp) hi hk
        have hix' : ∀ W, Sem.run Try.prog (Instr.index 43 (.agg cs) (.int .i64 (i : Int))) W = .ok (.pointer none) W := hix
        clear hix hp hFi
        go_wp2
        go_roundw
        case rel => exact ⟨i + 1, v, es, c, F, W, ts, by go_num, by omega, hK, hKF.skip hnt.out, hb⟩
        case measure => simp [intOf]; omega
      · rw [hp] at hix
        obtain ⟨hbn, ds, hd1, hd2, hd3⟩ := hFi.blk i b hi hp
        have hds := blkOf_eq hd2 hd3
        have hisb : IsBlock ds := by rw [hds]; exact blkOf_is _ fun k _ => hv _
        have hix' : ∀ W, Sem.run Try.prog (Instr.index 43 (.agg cs) (.int .i64 (i : Int))) W = .ok (.pointer (some ⟨b, 0, none⟩)) W := hix
        have hbw : b < w.heap.size := by
          obtain ⟨_, ds', hd', _⟩ := (HF.out w (Below.refl _ _)).blk i b hi hp
          exact hd'.lt
        clear hix hd3 hFi
        obtain ⟨vA, vq, rfl⟩ := own_len' hK.own
        have hlen := hKF.few
        have hone : ∀ u ∈ ds.toList, u.oneCell' = true := by rw [hds]; intro u hu; simp [blkOf] at hu; obtain ⟨k, _, rfl⟩ := hu; rfl
        rcases block_look hK.map hK.ents hisb with ⟨hlk, hno⟩ | ⟨j, jj, hlk, hj⟩
        · have hnew : Hid (∀ j, j < F.length → ¬ ∀ k, k < 256 → nth F j k = valAt l (i * 256 + k)) := Lib.hid fun j hj he => by
            refine hno _ (known_mem hj) ?_
            rw [hds]
            refine blkOf_eq (blkOf_size _) fun k hk => ?_
            rw [← he k hk]
            exact blkOf_at _ hk
          have hup := block_put hK.map hK.ents hisb hno F.length
          have h0 := hK.head
          rw [← hK.tab.cell] at h0
          have hd1' := pushedB_blk (g := M) (es := es) (c := c) (v := F.length) (xs := ds) hd1 (by rintro rfl; have := hK.map; unfold Blk at hd1; rw [hd1] at this; cases this)
          have hT := pushedB_blk (g := M) (es := es) (c := c) (v := F.length) (xs := ds) hK.tab hMG
          have hO := hK.own.kept (pushedB_grown _ M es c ds F.length) (.inr (own_nemap hK.own hK.map))
          have hnn : F.length ≤ 4353 := by omega
          generalize hn : F.length = n at *
          have hN := Lib.hid hn
          have HDS := Lib.hid hds
          clear hno hn hds
          go_wp2_with (first | (refine load48_list rfl (.tmp 26) rfl rfl hd1 hd2 ?_) | (refine load48_list rfl (.tmp 41) rfl rfl hd1 hd2 ?_))
          have bW1 : Below w.heap.size w (pushedB wr M es c ds n) := pushedB_below hb hsM
          have hm1 := pushedB_map (w := wr) (g := M) (es := es) (c := c) (v := n) (xs := ds) (by
            rcases Nat.lt_or_ge M wr.heap.size with h | h
            · exact h
            · have := hK.map
              rw [Array.getElem?_eq_none h] at this; cases this)
          have hMl : M < (pushedB wr M es c ds n).heap.size := by
            rcases Nat.lt_or_ge M (pushedB wr M es c ds n).heap.size with h | h
            · exact h
            · rw [Array.getElem?_eq_none h] at hm1; cases hm1
          have hKp := hK.ents.push hisb n c
          have hKh := hK.head
          have hKs := hK.size
          have hKw := hK.wh
          obtain ⟨i0, hi0', hz0, hz1, hz2⟩ := info_parts info48
          generalize pushedB wr M es c ds n = W1 at *
          clear hup hlk hix' hd1 h0 hK hisb
          have h0 := hT.cell 0
          rw [hKh] at h0
          have hTd : Blk W1.drew G 53 ts := hT
          have hDd : Blk W1.drew b 48 ds := hd1'
          have hTa := hTd.alloc (.cells ds 48)
          have hDa := hDd.alloc (.cells ds 48)
          have hOa := (show W1.drew.ownsRow w.heap.size 48 256 (.slice vA n vq) n (blocks F) from hO).alloc (.cells ds 48)
          have h63 : n + 1 ≤ maxLen := by unfold maxLen; omega
          have hby : (n + 1) * 512 ≤ 140737488355328 := by omega
          have hbase : w.heap.size ≤ (W1.drew.alloc (.cells ds 48)).heap.size := by have := bW1.size; simp; omega
          have hSk : ∀ W, Blk W G 53 ts → Blk W b 48 ds → W.cell? ⟨G, 0, none⟩ = some (.slice vA n vq) ∧ Blk W b 48 ds := fun W h h' => ⟨(h.cell 0).trans hKh, h'⟩
          refine wp_region_kept (fun w' => w'.cell? ⟨G, 0, none⟩ = some (.slice vA n vq) ∧ Blk w' b 48 ds) (fun i => decide (12 ≤ i)) (by kernel_rfl) (hSk _ hTd hDd) (fun hH => ?_)
          refine wpAnyK_take (i := 0) (v := .pointer (some ⟨G, 0, none⟩)) rfl (by kernel_rfl) (by kernel_rfl) (by kernel_rfl) (by kernel_rfl) (by kernel_rfl) (fun _ _ _ h => h) (Or.inl ⟨by rfl, ?_⟩) hH ?_
          · rintro w' ⟨k1, k2⟩; go_simp
          simp only [Act.put]
          refine wpAnyK_take (i := 1) (v := .pointer (some ⟨G, 0, none⟩)) rfl (by kernel_rfl) (by kernel_rfl) (by kernel_rfl) (by kernel_rfl) (by kernel_rfl) (fun _ _ _ h => h) (Or.inl ⟨by rfl, ?_⟩) hH ?_
          · rintro w' ⟨k1, k2⟩; go_simp
          simp only [Act.put]
          refine wpAnyK_take (i := 2) (v := .pointer (some ⟨G, 0, none⟩)) rfl (by kernel_rfl) (by kernel_rfl) (by kernel_rfl) (by kernel_rfl) (by kernel_rfl) (fun _ _ _ h => h) (Or.inl ⟨by rfl, ?_⟩) hH ?_
          · rintro w' ⟨k1, k2⟩; go_simp
          simp only [Act.put]
          refine wpAnyK_take (i := 3) (v := .pointer (some ⟨G, 0, none⟩)) rfl (by kernel_rfl) (by kernel_rfl) (by kernel_rfl) (by kernel_rfl) (by kernel_rfl) (fun _ _ _ h => h) (Or.inl ⟨by rfl, ?_⟩) hH ?_
          · rintro w' ⟨k1, k2⟩; go_simp
          simp only [Act.put]
          refine wpAnyK_take (i := 4) (v := .slice vA n vq) rfl (by kernel_rfl) (by kernel_rfl) (by kernel_rfl) (by kernel_rfl) (by kernel_rfl) (fun _ _ _ h => h) (Or.inl ⟨by rfl, ?_⟩) hH ?_
          · rintro w' ⟨k1, k2⟩; go_simp
          simp only [Act.put]
          refine wpAnyK_take (i := 5) (v := .pointer (some ⟨b, 0, none⟩)) rfl (by kernel_rfl) (by kernel_rfl) (by kernel_rfl) (by kernel_rfl) (by kernel_rfl) (fun _ _ _ h => h) (Or.inl ⟨by rfl, ?_⟩) hH ?_
          · rintro w' ⟨k1, k2⟩; go_simp
          simp only [Act.put]
          refine wpAnyK_take (i := 6) (v := .pointer (some ⟨b, 0, none⟩)) rfl (by kernel_rfl) (by kernel_rfl) (by kernel_rfl) (by kernel_rfl) (by kernel_rfl) (fun _ _ _ h => h) (Or.inl ⟨by rfl, ?_⟩) hH ?_
          · rintro w' ⟨k1, k2⟩; go_simp
          simp only [Act.put]
          refine wpAnyK_take (i := 7) (v := .agg ds) rfl (by kernel_rfl) (by kernel_rfl) (by kernel_rfl) (by kernel_rfl) (by kernel_rfl) (fun _ _ _ h => h) (yieldsIf_load_mid (by kernel_rfl) 48 (.tmp 50) rfl b 0 (by kernel_rfl) ds.toList (.array 256 32) (fun W hW j v hv => by rw [Nat.zero_add, hW.2.cell]; simpa using hv) Try.underlying48 rfl (by rw [Array.length_toList, hd2]; kernel_rfl)) hH ?_
          simp only [Act.put]
          refine wpAnyK_one (i := 8) (by kernel_rfl) rfl (fun Kk hKk => ?_)
          rw [if_pos (by rfl)]
          refine wp_slice50 (.tmp 51) rfl ds (by kernel_rfl) hd2 ?_
          refine hKk.out _ _ (hSk _ hTa hDa) (fun _ => ?_)
          clear hKk Kk
          refine wpAnyK_one (i := 9) (by kernel_rfl) rfl (fun Kk hKk => ?_)
          rw [if_pos (by rfl)]
          refine wp_append_lies _ (.tmp 48) (.tmp 52) 50 (by rfl) w.heap.size 48 i0 _ 256 512 Try.underlying50 hi0' hz0 hz1 hz2 (by simp [noughts, Value.cells]) (by decide) (.slice vA n vq) n (blocks F) (by kernel_rfl) hOa ⟨W1.heap.size, 0, none⟩ 1 1 ds.toList (by kernel_rfl) (by simp [hd2]) (World.news_of_block (cs := ds) (t := 48) (fr := (0, 0)) (heap_alloc_new W1.drew _)) hone (by decide) h63 hby hbase (W1.heap.size + 1) (by simp) ?_
          intro gg cap w2 hown2 hgrow hat hlt
          have hT2 := hTa.grown hgrow (own_ne hOa hTa (by decide))
          have hD2 := hDa.grown hgrow (fun e => by have := (hOa.lt _ e).1; omega)
          have hm2 : w2.heap[M]? = some (.map (es.push { key := .agg ds, val := .int .u16 (n : Int), born := c }) (c + 1)) := by
            have hma : (W1.drew.alloc (.cells ds 48)).heap[M]? = _ := (Below.heap_alloc W1.drew _ M hMl).trans hm1
            exact (hgrow.block M (by simp; omega) (Ne.symm (own_nemap hOa hma))).trans hma
          have b2 : Below w.heap.size w w2 := (below_step bW1 (below_step (below_drew W1) (below_new W1.drew (.cells ds 48)))).grown hgrow hbase (fun kk h => (hOa.lt kk h).1)
          have hS2 := hSk _ hT2 hD2
          have k1 := hS2.1
          have k2 := hT2.free 0
          refine hKk.out _ _ hS2 (fun _ => ?_)
          clear hKk Kk
          refine wpAnyK_one (i := 10) (by kernel_rfl) rfl (fun Kk hKk => ?_)
          go_simp
          refine hKk.out _ _ hS2 (fun _ => ?_)
          clear hKk Kk
          refine wpAnyK_one (i := 11) (by kernel_rfl) rfl (fun Kk hKk => ?_)
          go_simp
          refine hKk.out _ _ hS2 (fun _ => ?_)
          clear hKk Kk
          refine wpAnyK_last (i := 12) (by kernel_rfl) rfl rfl (fun Kk hKk => ?_)
          go_simp
          refine hKk.out _ _ ?_
          clear hKk Kk
          refine wpAnyK_done (by kernel_rfl) ?_ _
          have hT3 := hT2.set_ 0 (.slice (some ⟨gg, 0, none⟩) (n + 1) cap)
          have hO3 := ownsRow_setCell_other hown2 (own_ne hown2 hT2 (by decide)) (a := ⟨G, 0, none⟩) (.slice (some ⟨gg, 0, none⟩) (n + 1) cap)
          have hm3 := (Below.heap_setCell w2 ⟨G, 0, none⟩ (.slice (some ⟨gg, 0, none⟩) (n + 1) cap) M hMG).trans hm2
          have b3 := b2.setCell (p := ⟨G, 0, none⟩) hsG (.slice (some ⟨gg, 0, none⟩) (n + 1) cap)
          generalize w2.setCell ⟨G, 0, none⟩ (.slice (some ⟨gg, 0, none⟩) (n + 1) cap) = w3 at *
          have hw := hT3.cell (1 + i)
          rw [Array.getElem?_setIfInBounds_ne (by omega), hKw i hi] at hw
          have hfz := hT3.free (1 + i)
          clear k1 k2 hS2 hT2 hm2 hSk hH hT hD2 h0
          go_wp2
          go_roundw
          case rel =>
            have hs3 : (ts.setIfInBounds 0 (.slice (some ⟨gg, 0, none⟩) (n + 1) cap)).size = 4353 := by simpa using hKs
            refine ⟨i + 1, .slice (some ⟨gg, 0, none⟩) (n + 1) cap, es.push { key := .agg ds, val := .int .u16 (n : Int), born := c }, c + 1, F ++ [fun k => valAt l (i * 256 + k)], upd W i n, (ts.setIfInBounds 0 (.slice (some ⟨gg, 0, none⟩) (n + 1) cap)).setIfInBounds (1 + i) (.int .u16 (n : Nat)), by go_num, by omega, ⟨hT3.set_ _ _, by simpa using hKs, ?_, fun a ha => ?_, ?_, ?_, ?_⟩, ?_, b3.setCell (p := ⟨G, 1 + i, none⟩) hsG _⟩
            · rw [Array.getElem?_setIfInBounds_ne (by omega), Array.getElem?_setIfInBounds_self_of_lt (by omega)]
            · by_cases e : a = i
              · subst e
                rw [upd_same, Array.getElem?_setIfInBounds_self_of_lt (by omega)]
              · rw [upd_other _ e, Array.getElem?_setIfInBounds_ne (by omega), Array.getElem?_setIfInBounds_ne (by omega)]
                exact hKw a ha
            · rw [List.length_append, List.length_singleton, hN.out, blocks_append]
              have e : blocks [fun k => valAt l (i * 256 + k)] = ds.toList := by rw [HDS.out]; simp [blocks]
              rw [e]
              exact ownsRow_setCell_other hO3 (own_ne hO3 hT3 (by decide)) _
            · exact (Below.heap_setCell _ ⟨G, 1 + i, none⟩ _ M hMG).trans hm3
            · rw [known_more, hN.out, ← HDS.out]
              exact hKp
            · rw [← hN.out]
              refine hKF.new_ (fun k _ => hv _) ?_
              rw [hN.out]
              exact hnew.out
          case measure => simp [intOf]; omega
        · obtain ⟨hj1, hj2⟩ := known_at hj
          have hsame : Hid (∀ k, k < 256 → nth F j k = valAt l (i * 256 + k)) := Lib.hid (by rw [hds] at hj2; exact blkOf_inj hj2)
          have hj3 : j ≤ 4353 := by omega
          have hw := hK.wh i hi
          rw [← hK.tab.cell] at hw
          have hfz := hK.tab.free (1 + i)
          clear hds hj hj2
          go_wp2_with (refine load48_list rfl (.tmp 26) rfl rfl hd1 hd2 ?_)
          go_roundw
          case rel =>
            have hne := own_ne hK.own hK.tab (by decide)
            refine ⟨i + 1, .slice vA F.length vq, es, c, F, upd W i j, ts.setIfInBounds (1 + i) (.int .u16 (j : Nat)), by go_num, by omega, ⟨hK.tab.set_ _ _, by simpa using hK.size, by rw [Array.getElem?_setIfInBounds_ne (by omega)]; exact hK.head, fun a ha => ?_, ?_, ?_, hK.ents⟩, hKF.old hj1 hsame.out, hb.setCell (by exact hsG) _⟩
            · by_cases e : a = i
              · subst e
                rw [upd_same, Array.getElem?_setIfInBounds_self_of_lt (by rw [hK.size]; omega)]
              · rw [upd_other _ e, Array.getElem?_setIfInBounds_ne (by omega)]
                exact hK.wh a ha
            · exact ownsRow_setCell_other hK.own hne _
            · exact (Below.heap_setCell _ ⟨G, 1 + i, none⟩ _ M hMG).trans hK.map
          case measure => simp [intOf]; omega
    · obtain rfl : i = 4352 := by omega
      have hown := hK.own
      have hfew := hKF.few
      go_wp2
      go_ret
      refine ⟨G, F.length, nth F, W, rfl, hKF.done, ⟨hK.tab.lt, ?_, fun a ha => by rw [hK.tab.cell]; exact hK.wh a ha, by omega, fun a ha => (hKF.val a ha).1⟩, hb, hsG, ?_⟩
      rotate_left
      · intro h' o' n' q' e
        rw [hK.tab.cell, hK.head] at e
        injection e with e
        subst e
        exact (hown.lt _ rfl).1
      have hpos := hKF.pos
      rcases hown.2 with ⟨_, h0⟩ | ⟨g, cap, cur, rfl, hg, hh, h1, h2, h3, h4⟩
      · omega
      · have hbg : Blk wr g 48 cur := hh
        refine ⟨g, 0, cap, hbg.lt, by rw [hK.tab.cell]; exact hK.head, fun j k hj hk => ?_⟩
        rw [hbg.cell]
        have h5 := blocks_at F j k hj hk
        rw [← h4, List.getElem?_take, if_pos (by omega)] at h5
        rw [Nat.zero_add]
        simpa using h5
theorem valAt_lt {l : List (Int × Nat)} (h : ∀ x ∈ l, x.2 < 65536) (c : Nat) : valAt l c < 65536 := by
  suffices H : ∀ (l : List (Int × Nat)) (v : Nat), v < 65536 → (∀ x ∈ l, x.2 < 65536) → l.foldl (fun v x => if x.1 = (c : Int) then x.2 else v) v < 65536 from H l 0 (by omega) h
  intro l
  induction l with
  | nil => intro v hv _; exact hv
  | cons y t ih =>
    intro v hv hx
    rw [List.foldl_cons]
    refine ih _ ?_ fun x hx' => hx x (List.mem_cons_of_mem _ hx')
    split
    · exact hx y (List.mem_cons_self ..)
    · exact hv
/-- It answers a table of pages, of these numbers. -/
def RetPg (f : Nat → Nat) (w : World) (e : Ending) (w' : World) : Prop := ∃ g n K W, e = .returned (.pointer (some ⟨g, 0, none⟩)) ∧ PagesOf f n K W ∧ PagesAt w' g n K W ∧ Below w.heap.size w w' ∧ PgUp w' g w.heap.size
/-- New. -/
theorem new_pages (A : Option Addr) (q : Nat) (l : List (Int × Nat)) (w : World) (ht : CellsAt w A l) (hn : l.length ≤ 2000000) (hx : ∀ x ∈ l, -2147483648 ≤ x.1 ∧ x.1 ≤ 2147483647 ∧ x.2 < 65536) :
    Calls Try.prog 8 #[.slice A l.length q] w (RetPg (valAt l) w) :=
  new_any A q l w ht hn hx _ fun w1 g P cs hb hF => (keep_any l w1 w.heap.size g P cs hF (valAt_lt fun x h => (hx x h).2.2)).mono fun e w' h => by
    obtain ⟨g, n, K, W, rfl, h1, h2, h3, h4⟩ := h
    exact ⟨_, rfl, g, n, K, W, rfl, h1, h2, below_step hb h3, h4.down hb.size⟩
end Go.Proofs.Ytblakfpacommfaa
