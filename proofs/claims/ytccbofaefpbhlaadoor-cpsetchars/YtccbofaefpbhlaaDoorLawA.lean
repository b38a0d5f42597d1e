/-
  The laws of cpset: the fixed fact.
-/
import Derived.Test.YtccbofaefpbhlaaDoorMergeB
import Derived.Laws.StructEq
namespace Go.Proofs.YtccbofaefpbhlaaDoor
set_option linter.unusedVariables false
set_option maxRecDepth 20000
open Go.RowKit Go.Shelf Go.Lib

/-- '==' of two ranges. -/
theorem eqRg : EqlAt Tryd.prog 59 (fun x : Int × Int => .agg #[.int .i32 x.1, .int .i32 x.2]) (fun x y => x.1 == y.1 && x.2 == y.2) := by
  refine ⟨fun x y w => ?_, GuardAt.agg _ (by kernel_rfl)⟩
  have u21 := Tryd.underlying21
  have a21 := Tryd.isAgg21
  have hS : Tryd.prog.underlying 59 = some (.struct (Tryd.prog.fieldsOf 59)) := by kernel_rfl
  have hp : Tryd.prog.stoodInHeld 59 = false := by kernel_rfl
  rw [run_eql_struct, show (10000 : Nat) = 9999 + 1 from rfl, run_equalIn_agg w 9999 59 _ _ hS hp]
  simp only [Program.fieldsOf, Tryd.underlying59]
  go_simp
  by_cases h1 : x.fst = y.fst <;> by_cases h2 : x.snd = y.snd <;> simp [h1, h2]

def awS : List (Nat × Nat) := [(97, 101)]
theorem awS_good : Good 0 awS := ⟨by omega, by omega, by omega, by omega, trivial⟩
theorem awS_mem (c : Nat) : memS awS c = inR [(97, 99), (98, 101)] c := by
  rw [Bool.eq_iff_iff, memS_ex]
  simp only [awS, inR, List.any_eq_true, List.mem_cons, List.not_mem_nil, or_false, decide_eq_true_eq]
  constructor
  · rintro ⟨r, rfl, h1, h2⟩
    simp only at h1 h2
    by_cases h : c ≤ 99
    · exact ⟨_, .inl rfl, by simp only; omega⟩
    · exact ⟨_, .inr rfl, by simp only; omega⟩
  · rintro ⟨r, rfl | rfl, h⟩
    · exact ⟨_, rfl, by simp only at h ⊢; omega, by simp only at h ⊢; omega⟩
    · exact ⟨_, rfl, by simp only at h ⊢; omega, by simp only at h ⊢; omega⟩
def awN : List (Nat × Nat) := [(0, 96), (102, 55295), (57344, 1114111)]
theorem awN_good : Good 0 awN := ⟨by omega, by omega, by omega, by omega, by omega, by omega, by omega, by omega, by omega, by omega, by omega, by omega, trivial⟩
theorem awN_mem (c : Nat) : memS awN c = (allB c && !memS awS c) := by
  rw [Bool.eq_iff_iff, Bool.and_eq_true, Bool.not_eq_true', ← Bool.not_eq_true, memS_ex, memS_ex, allB, decide_eq_true_eq]
  simp only [awN, awS, List.mem_cons, List.not_mem_nil, or_false]
  constructor
  · rintro ⟨r, rfl | rfl | rfl, h1, h2⟩
    all_goals
      simp only at h1 h2
      refine ⟨by omega, ?_⟩
      rintro ⟨r, rfl, h3, h4⟩
      simp only at h3 h4
      omega
  · rintro ⟨h, h0⟩
    have h1 : ¬ (97 ≤ c ∧ c ≤ 101) := fun h1 => h0 ⟨_, rfl, h1⟩
    by_cases h2 : c < 97
    · exact ⟨_, .inl rfl, by simp only; omega, by simp only; omega⟩
    · by_cases h3 : c < 55296
      · exact ⟨_, .inr (.inl rfl), by simp only; omega, by simp only; omega⟩
      · exact ⟨_, .inr (.inr rfl), by simp only; omega, by simp only; omega⟩
theorem MayMerge.small {S T : List (Nat × Nat)} (h1 : 0 < S.length + T.length) (h2 : S.length + T.length ≤ 6) : MayMerge S T := ⟨hsort_small _ (by omega) (by omega), h1, by omega⟩

set_option maxHeartbeats 4000000 in
theorem awake_any (w : World) (he : EnvR w) : Calls Tryd.prog 13 #[] w (RetV (.bool true) w) := by
  have hq : ∀ w, Sem.run Tryd.prog (binOp .eql 59 (.agg #[.int .i32 97, .int .i32 101]) (.agg #[.int .i32 97, .int .i32 101])) w = .ok (.bool true) w := fun w => eqRg.1 (97, 101) (97, 101) w
  have hg : ∀ a b w, Sem.run Tryd.prog (eqGuard .eql 59 a b (.agg #[.int .i32 97, .int .i32 101]) (.agg #[.int .i32 97, .int .i32 101])) w = .ok () w := fun a b w => eqRg.2 .eql a b (97, 101) (97, 101) w
  have hX := Blk.new w 59 #[.int .i32 97, .int .i32 99, .int .i32 98, .int .i32 101]
  have b0 := below_new w (.cells #[.int .i32 97, .int .i32 99, .int .i32 98, .int .i32 101] 59)
  have hin : RgIn (w.alloc (.cells #[.int .i32 97, .int .i32 99, .int .i32 98, .int .i32 101] 59)) (some ⟨w.heap.size, 0, none⟩) [(97, 99), (98, 101)] := fun _ => by
    refine ⟨_, rfl, by simp, fun i hi => ?_⟩
    rcases i with _ | _ | i
    · exact ⟨(hX.cell 0).trans rfl, (hX.cell 1).trans rfl⟩
    · exact ⟨(hX.cell 2).trans rfl, (hX.cell 3).trans rfl⟩
    · exact absurd hi (by simp)
  have HO := Lib.hid (of_any [(97, 99), (98, 101)] _ 2 2 _ (he.kept b0) hin (by decide) (by decide) (fun j hj => by
    rcases j with _ | _ | j
    · exact ⟨by decide, by decide, by decide⟩
    · exact ⟨by decide, by decide, by decide⟩
    · omega) (fun h => absurd h (by decide)))
  simp only [List.length_cons, List.length_nil, Nat.zero_add, Nat.reduceAdd] at HO
  have HE := Lib.hid he
  have HQ := Lib.hid hq
  have HG := Lib.hid hg
  clear hin he hq hg
  go_enter Tryd.func13, Tryd.ntmps13
  go_wp2_with fail
  refine HO.out.mono ?_
  rintro e w1 (⟨_, v, S, rfl, hset, hmem, y1⟩ | ⟨h, _⟩)
  · have hset := hset.as awS_good (fun c => by rw [hmem, awS_mem])
    have b1 := below_step b0 y1
    obtain ⟨ao, cp, rfl⟩ := hset.shape
    have hs := hset.alloc (.cells #[.slice ao awS.length cp] 29)
    have hX1 := Blk.new w1 29 #[.slice ao awS.length cp]
    have b2 := b1.alloc b1.size (.cells #[.slice ao awS.length cp] 29)
    have HR := Lib.hid (ranges_any awS _ _ hs)
    rw [show awS.length = 1 from rfl] at HR hs hX1 b2
    clear hmem hset
    rw [show awS.length = 1 from rfl]
    go_wp2_with fail
    refine HR.out.mono ?_
    rintro e w2 ⟨u, rfl, hown, y2⟩
    obtain ⟨g, cap, rfl, hl, c0, c1⟩ := own_rg (L := awS) (n := 1) (by simpa [intR, awS] using hown) rfl (i := 0) (by omega)
    have hX2 := hX1.on y2
    have k2 := hX2.cell0
    have b3 := b2.trans (y2.mono b2.size)
    have hs2 := hs.below y2
    simp only [Nat.zero_mul, Nat.zero_add, awS, List.getD_cons_zero] at c0 c1
    have CO := Lib.hid (count_any _ awS w2 hs2)
    rw [show cnt awS = 5 from rfl] at CO
    have hq := HQ.out
    have hg := HG.out
    go_wp2_with fail
    refine CO.out.mono ?_
    rintro e w3 ⟨rfl, y3⟩
    have b4 := below_step b3 y3
    have k3 := (hX2.on y3).cell0
    have NO := Lib.hid (not_any awS _ w3 (HE.out.kept b4) (hs2.below y3) (MayMerge.small (by decide) (by decide)))
    go_wp2_with fail
    refine NO.out.mono ?_
    rintro e w4 ⟨v, R, rfl, hset, hmem, y4⟩
    have hset := hset.as awN_good (fun c => by rw [hmem, awN_mem])
    have b5 := b4.trans (y4.mono b4.size)
    have HR4 := Lib.hid (ranges_any awN v w4 hset)
    obtain ⟨ao4, cp4, rfl⟩ := hset.shape
    clear hset hmem
    rw [show awN.length = 3 from rfl] at HR4 ⊢
    go_wp2_with fail
    refine HR4.out.mono ?_
    rintro e w5 ⟨u5, rfl, hown5, y5⟩
    have b6 := below_step b5 y5
    have hown5' : w5.ownsRow w4.heap.size 59 2 u5 3 (rgCells (intR awN)) := hown5
    obtain ⟨ao5, cp5, rfl⟩ := own_form2 hown5'
    clear hown5 hown5'
    go_wp2
    go_ret
    exact ⟨rfl, b6⟩
  · exact absurd h (by decide)
end Go.Proofs.YtccbofaefpbhlaaDoor
