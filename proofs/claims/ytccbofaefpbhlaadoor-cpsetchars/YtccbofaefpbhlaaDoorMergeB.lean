/-
  cpset: Or, And, Less, Xor, Not.
-/
import Derived.Test.YtccbofaefpbhlaaDoorMergeA
namespace Go.Proofs.YtccbofaefpbhlaaDoor
set_option linter.unusedVariables false
set_option maxRecDepth 20000
open Go.RowKit

/-- Two sets that may be merged. -/
structure MayMerge (S T : List (Nat × Nat)) : Prop where
  sort : HSort (2 * S.length + 2 * T.length)
  pos : 0 < S.length + T.length
  few : 2 * S.length + 2 * T.length ≤ 1000000

theorem orF_any (a b : Bool) (w : World) : Calls Tryd.prog 70 #[.bool a, .bool b] w (RetV (.bool (a || b)) w) := by
  cases a <;> cases b
  all_goals
    go_enter Tryd.func70, Tryd.ntmps70
    go_wp2
    go_ret
    exact ⟨rfl, Below.refl _ _⟩
set_option maxHeartbeats 2000000 in
theorem setOr_any (S T : List (Nat × Nat)) (vs vt : Value) (w : World) (hS : IsSet w vs S) (hT : IsSet w vt T) (hm : MayMerge S T) :
    Calls Tryd.prog 27 #[vs, vt] w (RetSet (fun c => (fun a b => (a || b)) (memS S c) (memS T c)) w.heap.size w) := by
  have MG := Lib.hid (fun W (hW : Below w.heap.size w W) => merge_any S T vs vt 70 (fun a b => (a || b)) rfl W (hS.below hW) (hT.below hW) hm.sort hm.pos hm.few (enters_of Tryd.func70 (by kernel_rfl) rfl) (fun a b W => orF_any a b W))
  obtain ⟨A, cp, rfl⟩ := hS.shape
  obtain ⟨A', cp', rfl⟩ := hT.shape
  have hX := blk_three w (.cells #[.slice A S.length cp] 29) (.cells #[.slice A' T.length cp'] 29) 29 #[.slice none 0 0]
  have bW := below_step (below_step (below_new w (.cells #[.slice A S.length cp] 29)) (below_new _ (.cells #[.slice A' T.length cp'] 29))) (below_new _ (.cells #[.slice none 0 0] 29))
  clear hS hT hm
  generalize (fun c => (fun a b => (a || b)) (memS S c) (memS T c)) = p at *
  generalize S.length = n at *
  generalize T.length = m at *
  go_enter Tryd.func27, Tryd.ntmps27
  go_wp2_with fail
  refine (MG.out _ bW).mono ?_
  rintro e w1 ⟨v, R, rfl, hset, hmem, hb1⟩
  have hX1 := hX.on hb1
  have cX := hX1.cell0
  have fX := hX1.free 0
  have hb := below_step bW hb1
  obtain ⟨ao, cpp, rfl⟩ := hset.shape
  have hq := (hX1.set0 (.slice ao R.length cpp)).cell0
  have hset' : IsSet (w1.setCell ⟨w.heap.size + 1 + 1, 0, none⟩ (.slice ao R.length cpp)) (.agg #[.slice ao R.length cpp]) R := hset.far cX _
  have hbE := hb.setCell (p := ⟨w.heap.size + 1 + 1, 0, none⟩) (by show w.heap.size ≤ w.heap.size + 1 + 1; omega) (.slice ao R.length cpp)
  have HM2 := Lib.hid hmem
  clear hmem hset
  generalize R.length = sl at *
  go_wp2
  exact bodyPost_ret (v := .agg #[.slice ao sl cpp]) (by simp [results, Tryd.results27, go_sem, hq]) rfl ⟨_, R, rfl, hset', HM2.out, hbE⟩

theorem andF_any (a b : Bool) (w : World) : Calls Tryd.prog 71 #[.bool a, .bool b] w (RetV (.bool (a && b)) w) := by
  cases a <;> cases b
  all_goals
    go_enter Tryd.func71, Tryd.ntmps71
    go_wp2
    go_ret
    exact ⟨rfl, Below.refl _ _⟩
set_option maxHeartbeats 2000000 in
theorem setAnd_any (S T : List (Nat × Nat)) (vs vt : Value) (w : World) (hS : IsSet w vs S) (hT : IsSet w vt T) (hm : MayMerge S T) :
    Calls Tryd.prog 29 #[vs, vt] w (RetSet (fun c => (fun a b => (a && b)) (memS S c) (memS T c)) w.heap.size w) := by
  have MG := Lib.hid (fun W (hW : Below w.heap.size w W) => merge_any S T vs vt 71 (fun a b => (a && b)) rfl W (hS.below hW) (hT.below hW) hm.sort hm.pos hm.few (enters_of Tryd.func71 (by kernel_rfl) rfl) (fun a b W => andF_any a b W))
  obtain ⟨A, cp, rfl⟩ := hS.shape
  obtain ⟨A', cp', rfl⟩ := hT.shape
  have hX := blk_three w (.cells #[.slice A S.length cp] 29) (.cells #[.slice A' T.length cp'] 29) 29 #[.slice none 0 0]
  have bW := below_step (below_step (below_new w (.cells #[.slice A S.length cp] 29)) (below_new _ (.cells #[.slice A' T.length cp'] 29))) (below_new _ (.cells #[.slice none 0 0] 29))
  clear hS hT hm
  generalize (fun c => (fun a b => (a && b)) (memS S c) (memS T c)) = p at *
  generalize S.length = n at *
  generalize T.length = m at *
  go_enter Tryd.func29, Tryd.ntmps29
  go_wp2_with fail
  refine (MG.out _ bW).mono ?_
  rintro e w1 ⟨v, R, rfl, hset, hmem, hb1⟩
  have hX1 := hX.on hb1
  have cX := hX1.cell0
  have fX := hX1.free 0
  have hb := below_step bW hb1
  obtain ⟨ao, cpp, rfl⟩ := hset.shape
  have hq := (hX1.set0 (.slice ao R.length cpp)).cell0
  have hset' : IsSet (w1.setCell ⟨w.heap.size + 1 + 1, 0, none⟩ (.slice ao R.length cpp)) (.agg #[.slice ao R.length cpp]) R := hset.far cX _
  have hbE := hb.setCell (p := ⟨w.heap.size + 1 + 1, 0, none⟩) (by show w.heap.size ≤ w.heap.size + 1 + 1; omega) (.slice ao R.length cpp)
  have HM2 := Lib.hid hmem
  clear hmem hset
  generalize R.length = sl at *
  go_wp2
  exact bodyPost_ret (v := .agg #[.slice ao sl cpp]) (by simp [results, Tryd.results29, go_sem, hq]) rfl ⟨_, R, rfl, hset', HM2.out, hbE⟩

theorem lessF_any (a b : Bool) (w : World) : Calls Tryd.prog 72 #[.bool a, .bool b] w (RetV (.bool (a && !b)) w) := by
  cases a <;> cases b
  all_goals
    go_enter Tryd.func72, Tryd.ntmps72
    go_wp2
    go_ret
    exact ⟨rfl, Below.refl _ _⟩
set_option maxHeartbeats 2000000 in
theorem setLess_any (S T : List (Nat × Nat)) (vs vt : Value) (w : World) (hS : IsSet w vs S) (hT : IsSet w vt T) (hm : MayMerge S T) :
    Calls Tryd.prog 31 #[vs, vt] w (RetSet (fun c => (fun a b => (a && !b)) (memS S c) (memS T c)) w.heap.size w) := by
  have MG := Lib.hid (fun W (hW : Below w.heap.size w W) => merge_any S T vs vt 72 (fun a b => (a && !b)) rfl W (hS.below hW) (hT.below hW) hm.sort hm.pos hm.few (enters_of Tryd.func72 (by kernel_rfl) rfl) (fun a b W => lessF_any a b W))
  obtain ⟨A, cp, rfl⟩ := hS.shape
  obtain ⟨A', cp', rfl⟩ := hT.shape
  have hX := blk_three w (.cells #[.slice A S.length cp] 29) (.cells #[.slice A' T.length cp'] 29) 29 #[.slice none 0 0]
  have bW := below_step (below_step (below_new w (.cells #[.slice A S.length cp] 29)) (below_new _ (.cells #[.slice A' T.length cp'] 29))) (below_new _ (.cells #[.slice none 0 0] 29))
  clear hS hT hm
  generalize (fun c => (fun a b => (a && !b)) (memS S c) (memS T c)) = p at *
  generalize S.length = n at *
  generalize T.length = m at *
  go_enter Tryd.func31, Tryd.ntmps31
  go_wp2_with fail
  refine (MG.out _ bW).mono ?_
  rintro e w1 ⟨v, R, rfl, hset, hmem, hb1⟩
  have hX1 := hX.on hb1
  have cX := hX1.cell0
  have fX := hX1.free 0
  have hb := below_step bW hb1
  obtain ⟨ao, cpp, rfl⟩ := hset.shape
  have hq := (hX1.set0 (.slice ao R.length cpp)).cell0
  have hset' : IsSet (w1.setCell ⟨w.heap.size + 1 + 1, 0, none⟩ (.slice ao R.length cpp)) (.agg #[.slice ao R.length cpp]) R := hset.far cX _
  have hbE := hb.setCell (p := ⟨w.heap.size + 1 + 1, 0, none⟩) (by show w.heap.size ≤ w.heap.size + 1 + 1; omega) (.slice ao R.length cpp)
  have HM2 := Lib.hid hmem
  clear hmem hset
  generalize R.length = sl at *
  go_wp2
  exact bodyPost_ret (v := .agg #[.slice ao sl cpp]) (by simp [results, Tryd.results31, go_sem, hq]) rfl ⟨_, R, rfl, hset', HM2.out, hbE⟩

theorem xorF_any (a b : Bool) (w : World) : Calls Tryd.prog 73 #[.bool a, .bool b] w (RetV (.bool (a != b)) w) := by
  cases a <;> cases b
  all_goals
    go_enter Tryd.func73, Tryd.ntmps73
    go_wp2
    go_ret
    exact ⟨rfl, Below.refl _ _⟩
set_option maxHeartbeats 2000000 in
theorem setXor_any (S T : List (Nat × Nat)) (vs vt : Value) (w : World) (hS : IsSet w vs S) (hT : IsSet w vt T) (hm : MayMerge S T) :
    Calls Tryd.prog 33 #[vs, vt] w (RetSet (fun c => (fun a b => (a != b)) (memS S c) (memS T c)) w.heap.size w) := by
  have MG := Lib.hid (fun W (hW : Below w.heap.size w W) => merge_any S T vs vt 73 (fun a b => (a != b)) rfl W (hS.below hW) (hT.below hW) hm.sort hm.pos hm.few (enters_of Tryd.func73 (by kernel_rfl) rfl) (fun a b W => xorF_any a b W))
  obtain ⟨A, cp, rfl⟩ := hS.shape
  obtain ⟨A', cp', rfl⟩ := hT.shape
  have hX := blk_three w (.cells #[.slice A S.length cp] 29) (.cells #[.slice A' T.length cp'] 29) 29 #[.slice none 0 0]
  have bW := below_step (below_step (below_new w (.cells #[.slice A S.length cp] 29)) (below_new _ (.cells #[.slice A' T.length cp'] 29))) (below_new _ (.cells #[.slice none 0 0] 29))
  clear hS hT hm
  generalize (fun c => (fun a b => (a != b)) (memS S c) (memS T c)) = p at *
  generalize S.length = n at *
  generalize T.length = m at *
  go_enter Tryd.func33, Tryd.ntmps33
  go_wp2_with fail
  refine (MG.out _ bW).mono ?_
  rintro e w1 ⟨v, R, rfl, hset, hmem, hb1⟩
  have hX1 := hX.on hb1
  have cX := hX1.cell0
  have fX := hX1.free 0
  have hb := below_step bW hb1
  obtain ⟨ao, cpp, rfl⟩ := hset.shape
  have hq := (hX1.set0 (.slice ao R.length cpp)).cell0
  have hset' : IsSet (w1.setCell ⟨w.heap.size + 1 + 1, 0, none⟩ (.slice ao R.length cpp)) (.agg #[.slice ao R.length cpp]) R := hset.far cX _
  have hbE := hb.setCell (p := ⟨w.heap.size + 1 + 1, 0, none⟩) (by show w.heap.size ≤ w.heap.size + 1 + 1; omega) (.slice ao R.length cpp)
  have HM2 := Lib.hid hmem
  clear hmem hset
  generalize R.length = sl at *
  go_wp2
  exact bodyPost_ret (v := .agg #[.slice ao sl cpp]) (by simp [results, Tryd.results33, go_sem, hq]) rfl ⟨_, R, rfl, hset', HM2.out, hbE⟩

/-- All characters. -/
def allS : List (Nat × Nat) := [(0, 55295), (57344, 1114111)]
theorem allS_good : Good 0 allS := ⟨by omega, by omega, by omega, by omega, by omega, by omega, by omega, by omega, trivial⟩
theorem allS_mem (c : Nat) : memS allS c = allB c := by
  rw [Bool.eq_iff_iff, memS_ex, allB, decide_eq_true_eq]
  simp only [allS, List.mem_cons, List.not_mem_nil, or_false]
  constructor
  · rintro ⟨r, rfl | rfl, h1, h2⟩
    · simp only at h1 h2; omega
    · simp only at h1 h2; omega
  · rintro (h | h)
    · exact ⟨_, .inl rfl, by simp only; omega, by simp only; omega⟩
    · exact ⟨_, .inr rfl, by simp only; omega, by simp only; omega⟩
theorem IsSet.good {w : World} {v : Value} {S : List (Nat × Nat)} (h : IsSet w v S) : Good 0 S := by obtain ⟨_, _, _, _, hg⟩ := h; exact hg
/-- The same characters: the same set. -/
theorem IsSet.as {w : World} {v : Value} {S T : List (Nat × Nat)} (h : IsSet w v S) (hT : Good 0 T) (hm : ∀ c, memS S c = memS T c) : IsSet w v T := by
  obtain rfl := h.good.unique hT hm
  exact h

set_option maxHeartbeats 4000000 in
theorem not_any (S : List (Nat × Nat)) (vs : Value) (w : World) (he : EnvR w) (hS : IsSet w vs S) (hm : MayMerge allS S) :
    Calls Tryd.prog 35 #[vs] w (RetSet (fun c => allB c && !memS S c) w.heap.size w) := by
  obtain ⟨A, cp, rfl⟩ := hS.shape
  have hX1 := (Blk.new w 29 #[.slice A S.length cp]).alloc (.cells #[.slice none 0 0] 29)
  have hX2 := blk_two w (.cells #[.slice A S.length cp] 29) 29 #[.slice none 0 0]
  have bW := below_step (below_new w (.cells #[.slice A S.length cp] 29)) (below_new _ (.cells #[.slice none 0 0] 29))
  have AL := Lib.hid (fun W (hW : Below w.heap.size w W) => all_any W (he.kept hW))
  have LS := Lib.hid (fun v W (hW : Below w.heap.size w W) (hv : IsSet W v allS) => setLess_any allS S v _ W hv (hS.below hW) hm)
  have HMF : Hid (∀ c, (fun a b => (a && !b)) (memS allS c) (memS S c) = (allB c && !memS S c)) := fun c => by simp only [allS_mem]
  obtain ⟨W0, hW0⟩ : ∃ W0, W0 = (w.alloc (.cells #[.slice A S.length cp] 29)).alloc (.cells #[.slice none 0 0] 29) := ⟨_, rfl⟩
  rw [← hW0] at hX1 hX2 bW
  have HW0 := Lib.hid hW0
  clear hS hm he hW0
  generalize S.length = n at *
  go_enter Tryd.func35, Tryd.ntmps35
  go_wp2_with fail
  rw [← HW0.out]
  refine wp_region_kept (fun w' => w'.cell? ⟨w.heap.size, 0, none⟩ = some (.slice A n cp)) (fun i => decide (2 ≤ i)) (by kernel_rfl) (hX1.on (below_drew _)).cell0 (fun hH => ?_)
  refine wpAnyK_take (i := 1) (v := .agg #[.slice A n cp]) rfl (by kernel_rfl) (by kernel_rfl) (by kernel_rfl) (by kernel_rfl) (by kernel_rfl) (fun _ _ _ h => h) (Or.inl ⟨by rfl, ?_⟩) hH ?_
  · rintro w' k1; go_simp
  simp only [Act.put, List.setIfInBounds_toArray]
  refine wpAnyK_one (i := 0) (by kernel_rfl) rfl (fun Kk hKk => ?_)
  go_simp
  refine (AL.out _ (below_step bW (below_drew _))).mono ?_
  rintro e z1 ⟨v, R, rfl, hset, hmem, y1⟩
  have hset := hset.as allS_good (fun c => by rw [hmem, allS_mem])
  have hz1 : Below W0.heap.size W0 z1 := below_step (below_drew _) y1
  have LS2 := Lib.hid (LS.out _ z1 (below_step bW hz1) hset)
  obtain ⟨ao1, cp1, rfl⟩ := hset.shape
  clear hset hmem
  go_wp2_with fail
  refine hKk.out _ _ (hX1.on hz1).cell0 (fun _ => ?_)
  clear hKk Kk
  refine wpAnyK_last (i := 2) (by kernel_rfl) rfl rfl (fun Kk hKk => ?_)
  go_simp
  refine LS2.out.mono ?_
  rintro e z2 ⟨v, R2, rfl, hset, hmem, y2⟩
  have hz2 := below_step hz1 y2
  have hX3 := hX2.on hz2
  have cX := hX3.cell0
  have fX := hX3.free 0
  have hb := below_step bW hz2
  obtain ⟨ao, cpp, rfl⟩ := hset.shape
  have hq := (hX3.set0 (.slice ao R2.length cpp)).cell0
  have hset' : IsSet (z2.setCell ⟨w.heap.size + 1, 0, none⟩ (.slice ao R2.length cpp)) (.agg #[.slice ao R2.length cpp]) R2 := hset.far cX _
  have hbE := hb.setCell (p := ⟨w.heap.size + 1, 0, none⟩) (by show w.heap.size ≤ w.heap.size + 1; omega) (.slice ao R2.length cpp)
  have HM2 := Lib.hid hmem
  clear hmem hset
  generalize R2.length = sl at *
  go_wp2_with fail
  refine hKk.out _ _ ?_
  clear hKk Kk
  refine wpAnyK_last (i := 3) (by kernel_rfl) rfl rfl (fun Kk hKk => ?_)
  go_simp
  refine hKk.out _ _ ?_
  clear hKk Kk
  refine wpAnyK_done (by kernel_rfl) ?_ _
  go_wp2
  exact bodyPost_ret (v := .agg #[.slice ao sl cpp]) (by simp [results, Tryd.results35, go_sem, hq]) rfl ⟨_, R2, rfl, hset', fun c => by rw [HM2.out]; exact HMF.out c, hbE⟩
end Go.Proofs.YtccbofaefpbhlaaDoor
