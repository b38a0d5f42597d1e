/-
  Tables: do two primary composites have the same mapping (pairTwice).
-/
import Derived.Test.YthmdapcieghbbabDoorMP
namespace Go.Proofs.YthmdapcieghbbabDoor
set_option linter.unusedVariables false
set_option maxRecDepth 20000
open Go.RowKit

theorem array_two (g q : Nat) (w : World) : Sem.run Tryd.prog (Instr.arrayAt 74 (.slice (some ⟨g, 0, none⟩) 2 q)) w = .ok (.pointer (some ⟨g, 0, none⟩)) w := by
  simp [Instr.arrayAt, go_sem, run_underlying Tryd.underlying74]
theorem drop_getD {T : List Rw} {i : Nat} (h : i < T.length) : T.drop i = T.getD i Rw.nil :: T.drop (i + 1) := by
  rw [List.drop_eq_getElem_cons h, List.getD_eq_getElem?_getD, List.getElem?_eq_getElem h]
  rfl
theorem composed_two {T : List Rw} {E : Int → Bool} {r : Rw} (h : composedC T E r = true) : r.map.length = 2 := by
  unfold composedC at h
  simp at h
  exact h.2.1

set_option maxHeartbeats 4000000 in
theorem pairTwice_any (A B : Option Addr) (q b r : Nat) (T : List Rw) (E : Int → Bool) (w : World) (ht : TabOk w A T) (hr : Rises T) (he : HasAt B b r E w) :
    Calls Tryd.prog 14 #[.agg #[.slice A T.length q, .slice B b r]] w (RetV (.bool (pairTwiceC T E [] T)) w) := by
  have HT := Lib.hid fun W (hb : Below w.heap.size w W) => ht.at_.below hb
  have HM := Lib.hid fun (i : Nat) (hi : i < T.length) W (hb : Below w.heap.size w W) => ((ht.maps _ (getD_mem hi)).below hb).row
  have HC := Lib.hid fun (i : Nat) (hi : i < T.length) W (hb : Below w.heap.size w W) => composed_any A B q b r T E W (ht.below hb) hr (he.below hb) (T.getD i Rw.nil) ((ht.maps _ (getD_mem hi)).below hb) (ht.ok _ (getD_mem hi))
  have HD := Lib.hid fun (i : Nat) (hi : i < T.length) => drop_getD hi
  have hfew := ht.few
  obtain ⟨n, hn'⟩ : ∃ n, T.length = n := ⟨_, rfl⟩
  have HE : Hid (T.drop n = []) := Lib.hid (by rw [← hn']; simp)
  rw [hn'] at hfew HM HC HD ⊢
  have HN := Lib.hid hn'
  clear hn' ht hr he
  obtain ⟨res, hres⟩ : ∃ v, pairTwiceC T E [] T = v := ⟨_, rfl⟩
  rw [hres]
  have HRES : Hid (pairTwiceC T E [] (T.drop 0) = res) := Lib.hid hres
  clear hres
  have bW := below_step (below_new w (.cells #[.slice A n q, .slice B b r] 34)) (below_new _ (.map #[] 0))
  have hX := (Blk.new w 34 #[.slice A n q, .slice B b r]).alloc (.map #[] 0)
  have hmk := fun (w : World) => run_makeMap_plain (P := Tryd.prog) w 72
  have hmap : ((w.alloc (.cells #[.slice A n q, .slice B b r] 34)).alloc (.map #[] 0)).heap[w.heap.size + 1]? = some (.map #[] 0) := by
    have := heap_alloc_new (w.alloc (.cells #[.slice A n q, .slice B b r] 34)) (.map #[] 0)
    simpa using this
  have x0 := (hX.cell 0).trans rfl
  have x1 := (hX.cell 1).trans rfl
  go_enter Tryd.func14, Tryd.ntmps14
  go_wp2
  generalize (w.alloc (.cells #[.slice A n q, .slice B b r] 34)).alloc (.map #[] 0) = V at *
  clear x0 x1 hmk
  go_loopw [13] (fun s wr => ∃ (i : Nat) (S : List (List Int)) (es : Array MapEntry) (c : Nat), s = .int .i64 (i : Int) ∧ i ≤ n ∧ pairTwiceC T E S (T.drop i) = res ∧ wr.heap[w.heap.size + 1]? = some (.map es c) ∧ Ents es S ∧ Blk wr w.heap.size 34 #[.slice A n q, .slice B b r] ∧ Below w.heap.size w wr) (fun s _ => n - (intOf s).toNat)
  case atStart => exact ⟨0, [], #[], 0, rfl, by omega, HRES.out, hmap, ⟨rfl, by simp, by simp⟩, hX, bW⟩
  case round =>
    obtain ⟨i, S, es, c, rfl, hi0, hp, hm, hes, hX1, hb⟩ := hrel
    clear hX hmap bW HRES
    have hml : w.heap.size + 1 < wr.heap.size := by
      rcases Nat.lt_or_ge (w.heap.size + 1) wr.heap.size with h | h
      · exact h
      · rw [Array.getElem?_eq_none h] at hm; cases hm
    by_cases hi : i < n
    · rw [HD.out i hi] at hp
      obtain ⟨g, rfl, hg, c1, c2, c3⟩ := (HT.out _ hb).at_ (i := i) (by rw [HN.out]; exact hi)
      have HCi0 := HC.out i hi
      have HMi0 := HM.out i hi
      have h2 := fun h => composed_two (T := T) (E := E) (r := T.getD i Rw.nil) h
      unfold pairTwiceC at hp
      unfold Rw.val at HCi0
      unfold Rw.slice at *
      generalize (T.getD i Rw.nil).code = rc at *
      generalize (T.getD i Rw.nil).cls = rk at *
      generalize (T.getD i Rw.nil).at_ = ra at *
      generalize (T.getD i Rw.nil).cap = rq at *
      generalize (T.getD i Rw.nil).map = l at *
      generalize composedC T E (T.getD i Rw.nil) = cc at *
      obtain ⟨p, hpl⟩ : ∃ p, l.length = p := ⟨_, rfl⟩
      rw [hpl] at HCi0 c3 h2
      have HPL := Lib.hid hpl
      clear hpl
      have HCi := Lib.hid HCi0
      have HMi := Lib.hid HMi0
      clear HCi0 HMi0
      have hY := Blk.new wr 45 #[.int .i32 rc, .int .i64 rk, .slice ra p rq]
      have hX2 := hX1.alloc (.cells #[.int .i32 rc, .int .i64 rk, .slice ra p rq] 45)
      have bY := below_step hb (below_new wr (.cells #[.int .i32 rc, .int .i64 rk, .slice ra p rq] 45))
      have hm2 := (heap_alloc_old wr (.cells #[.int .i32 rc, .int .i64 rk, .slice ra p rq] 45) hml).trans hm
      have hlY := hY.lt
      obtain ⟨z0, z1, z2⟩ := hY.cells3
      have x0 := (hX2.cell 0).trans rfl
      have x1 := (hX2.cell 1).trans rfl
      cases hcc : cc with
      | false =>
        rw [hcc] at HCi hp
        have hp' : pairTwiceC T E S (T.drop (i + 1)) = res := by rw [← hp]; simp
        have HP := Lib.hid hp'
        clear hp hp' h2
        go_wp2_with fail
        generalize wr.alloc (.cells #[.int .i32 rc, .int .i64 rk, .slice ra p rq] 45) = X at *
        refine (HCi.out _ bY).mono ?_
        rintro e w1 ⟨rfl, y1⟩
        clear z0 z1 z2 x0 x1
        go_wp2
        go_roundw
        case rel => exact ⟨i + 1, S, es, c, by go_num, by omega, HP.out, (y1.block _ (by omega)).trans hm2, hes, hX2.on y1, below_step bY y1⟩
        case measure => simp [intOf]; omega
      | true =>
        rw [hcc] at HCi hp
        obtain rfl : p = 2 := h2 hcc
        have hkey : keyOf l = .agg #[.int .i32 (l.getD 0 0), .int .i32 (l.getD 1 0)] := rfl
        obtain ⟨gm, rfl, hgm, hcm⟩ := HMi.out _ bY (by intro e; have := HPL.out; rw [e] at this; simp at this)
        clear h2 hcc
        go_wp2_with fail
        generalize wr.alloc (.cells #[.int .i32 rc, .int .i64 rk, .slice (some ⟨gm, 0, none⟩) 2 rq] 45) = X at *
        refine (HCi.out _ bY).mono ?_
        rintro e w1 ⟨rfl, y1⟩
        clear z0 z1 z2 x0 x1
        have hY1 := hY.on y1
        have hX3 := hX2.on y1
        have b1 := below_step bY y1
        have hm3 := (y1.block _ (by omega)).trans hm2
        obtain ⟨z0, z1, z2⟩ := hY1.cells3
        have cm0 := (y1.cell (p := ⟨gm, 0, none⟩) hgm).trans (hcm 0 (by rw [HPL.out]; omega))
        have cm1 := (y1.cell (p := ⟨gm, 1, none⟩) hgm).trans (hcm 1 (by rw [HPL.out]; omega))
        generalize l.getD 0 0 = a0 at *
        generalize l.getD 1 0 = a1 at *
        have hZ := Blk.new w1 74 #[.int .i32 a0, .int .i32 a1]
        have b2 := below_step b1 (below_new w1 (.cells #[.int .i32 a0, .int .i32 a1] 74))
        have hml1 : w.heap.size + 1 < w1.heap.size := by have := y1.size; omega
        have hm4 := (heap_alloc_old w1 (.cells #[.int .i32 a0, .int .i32 a1] 74) hml1).trans hm3
        have hlook := lookup_pair hm4 hes HPL.out
        rw [hkey] at hlook
        have harr := fun w => array_two gm rq w
        have q0 := (hZ.cell 0).trans rfl
        have q1 := (hZ.cell 1).trans rfl
        have hZ2 := hZ.alloc (.cells #[] 75)
        have q0' := (hZ2.cell 0).trans rfl
        have q1' := (hZ2.cell 1).trans rfl
        have b3 := below_step b2 (below_new _ (.cells #[] 75))
        have hX5 := ((hX3.alloc (.cells #[.int .i32 a0, .int .i32 a1] 74)).alloc (.cells #[] 75))
        have hml2 : w.heap.size + 1 < (w1.alloc (.cells #[.int .i32 a0, .int .i32 a1] 74)).heap.size := by simp; omega
        have hm5 := (heap_alloc_old (w1.alloc (.cells #[.int .i32 a0, .int .i32 a1] 74)) (.cells #[] 75) hml2).trans hm4
        by_cases hin : l ∈ S
        · rw [if_pos trivial, if_pos hin] at hp
          rw [decide_eq_true hin] at hlook
          have HP : Hid (true = res) := Lib.hid hp
          clear hp hin
          go_wp2
          go_ret
          exact ⟨congrArg (fun z => Ending.returned (.bool z)) HP.out, b3⟩
        · have hup := update_pair hm5 hes HPL.out hin
          rw [hkey] at hup
          rw [if_pos trivial, if_neg hin] at hp
          rw [decide_eq_false hin] at hlook
          have HP := Lib.hid hp
          have hes2 := hes.push HPL.out c
          have hm6 := pushed_map (es := es) (c := c) (l := l) (show w.heap.size + 1 < ((w1.alloc (.cells #[.int .i32 a0, .int .i32 a1] 74)).alloc (.cells #[] 75)).heap.size by simp; omega)
          have hX6 := pushed_blk (es := es) (c := c) (l := l) hX5 (show w.heap.size + 1 ≠ w.heap.size by omega)
          have b6 := pushed_below (es := es) (c := c) (l := l) b3 (show w.heap.size ≤ w.heap.size + 1 by omega)
          clear hp hin hkey
          go_wp2
          go_roundw
          case rel => exact ⟨i + 1, S ++ [l], _, _, by go_num, by omega, HP.out, hm6, hes2, hX6, b6⟩
          case measure => simp [intOf]; omega
    · obtain rfl : i = n := by omega
      rw [HE.out] at hp
      have HP : Hid (false = res) := Lib.hid hp
      clear hp
      go_wp2
      go_ret
      exact ⟨congrArg (fun z => Ending.returned (.bool z)) HP.out, hb⟩
end Go.Proofs.YthmdapcieghbbabDoor
