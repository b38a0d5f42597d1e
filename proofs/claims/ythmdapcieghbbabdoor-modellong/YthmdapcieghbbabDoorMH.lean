/-
  Tables: a table of the program as it lies in memory; what is wrong with the first row that is wrong (wrongRow).
-/
import Derived.Test.YthmdapcieghbbabDoorMG
namespace Go.Proofs.YthmdapcieghbbabDoor
set_option linter.unusedVariables false
set_option maxRecDepth 20000
open Go.RowKit

theorem noteS_ne {k : Nat} (h : k ≠ 0) : (noteS k).toList.isEmpty = false := by
  rw [ByteArray.toList_eq]
  rcases k with _ | _ | _ | _ | _ | k
  · exact absurd rfl h
  all_goals rfl
theorem noteS_zero : (noteS 0).toList.isEmpty = true := by
  rw [ByteArray.toList_eq]
  rfl
/-- The rows T lie at A, with their mappings. -/
structure TabOk (w : World) (A : Option Addr) (T : List Rw) : Prop where
  at_ : TabAt w A T
  maps : ∀ r ∈ T, MapAt w r
  ok : ∀ r ∈ T, RowOk r
  few : T.length ≤ 1000000
theorem TabOk.below {w w' : World} {A : Option Addr} {T : List Rw} (h : TabOk w A T) (hb : Below w.heap.size w w') : TabOk w' A T :=
  ⟨h.at_.below hb, fun r hr => (h.maps r hr).below hb, h.ok, h.few⟩

set_option maxHeartbeats 2000000 in
theorem wrongRow_any (A B : Option Addr) (q b r : Nat) (T : List Rw) (w : World) (ht : TabOk w A T) :
    Calls Tryd.prog 12 #[.agg #[.slice A T.length q, .slice B b r]] w (RetV (noteV (wrongRowC T (-1))) w) := by
  have HT := Lib.hid fun W (hb : Below w.heap.size w W) => ht.at_.below hb
  have HW := Lib.hid fun (i : Nat) (above : Int) (hi : i < T.length) W (hb : Below w.heap.size w W) => wrong_any (T.getD i Rw.nil) above W ((ht.maps _ (getD_mem hi)).below hb) (ht.ok _ (getD_mem hi))
  have HS := Lib.hid fun (i : Nat) (hi : i < T.length) => wrongRowC_take T (-1) i hi
  have hfew := ht.few
  clear ht
  obtain ⟨n, hn'⟩ : ∃ n, T.length = n := ⟨_, rfl⟩
  have HF : Hid (T.take n = T) := Lib.hid (by rw [← hn', List.take_length])
  rw [hn'] at hfew HW HS ⊢
  have HN := Lib.hid hn'
  clear hn'
  have bW := below_new w (.cells #[.slice A n q, .slice B b r] 34)
  have hX := Blk.new w 34 #[.slice A n q, .slice B b r]
  go_enter Tryd.func12, Tryd.ntmps12
  go_wp2
  generalize w.alloc (.cells #[.slice A n q, .slice B b r] 34) = V at *
  go_loopw [10, 3] (fun s t wr => ∃ i : Nat, s = .int .i64 (i : Int) ∧ t = .int .i32 (if i = 0 then -1 else (T.getD (i - 1) Rw.nil).code) ∧ i ≤ n ∧ wrongRowC (T.take i) (-1) = 0 ∧ Below w.heap.size w wr) (fun s _ _ => n - (intOf s).toNat)
  case atStart => exact ⟨0, rfl, rfl, by omega, rfl, bW⟩
  case round =>
    obtain ⟨i, rfl, rfl, hi, h0, hb⟩ := hrel
    by_cases hlt : i < n
    · obtain ⟨e1, e2⟩ := HS.out i hlt h0
      obtain ⟨g, rfl, hg, c1, c2, c3⟩ := (HT.out _ hb).at_ (i := i) (by rw [HN.out]; exact hlt)
      have HC0 := fun W hb => HW.out i (if i = 0 then -1 else (T.getD (i - 1) Rw.nil).code) hlt W hb
      rw [← e1] at HC0
      obtain ⟨k, hk⟩ : ∃ k, wrongRowC (T.take (i + 1)) (-1) = k := ⟨_, rfl⟩
      rw [hk] at HC0 e2
      have HK := Lib.hid hk
      have HE := Lib.hid e2
      unfold Rw.val at HC0
      have hcode : Hid (((if (i + 1 : Nat) = 0 then -1 else (T.getD ((i + 1) - 1) Rw.nil).code) : Int) = (T.getD i Rw.nil).code) := Lib.hid (by rw [if_neg (by omega)]; simp)
      clear e1 e2 hk h0
      generalize ((if i = 0 then -1 else (T.getD (i - 1) Rw.nil).code) : Int) = ab at *
      unfold Rw.slice at *
      generalize (T.getD i Rw.nil).code = rc at *
      generalize (T.getD i Rw.nil).cls = rk at *
      generalize (T.getD i Rw.nil).at_ = ra at *
      generalize (T.getD i Rw.nil).map.length = rn at *
      generalize (T.getD i Rw.nil).cap = rq at *
      have HC := Lib.hid HC0
      clear HC0
      have hZ := Blk.new wr 45 #[.int .i32 rc, .int .i64 rk, .slice ra rn rq]
      have bZ := below_new wr (.cells #[.int .i32 rc, .int .i64 rk, .slice ra rn rq] 45)
      obtain ⟨q0, q1, q2⟩ := hZ.cells3
      by_cases hk0 : k = 0
      · subst hk0
        have hkk := noteS_zero
        unfold noteV at HC
        generalize noteS 0 = S at *
        go_wp2_with fail
        generalize wr.alloc (.cells #[.int .i32 rc, .int .i64 rk, .slice ra rn rq] 45) = X at *
        refine (HC.out _ (below_step hb bZ)).mono ?_
        rintro e w1 ⟨rfl, y1⟩
        clear q0 q1 q2
        obtain ⟨q0, q1, q2⟩ := (hZ.on y1).cells3
        go_wp2
        go_roundw
        case rel => exact ⟨i + 1, by go_num, by rw [hcode.out], by omega, HK.out, below_step (below_step hb bZ) y1⟩
        case measure => simp [intOf]; omega
      · have hne : Hid (noteV k = noteV (wrongRowC T (-1))) := Lib.hid (by rw [HE.out hk0])
        have hkk := noteS_ne hk0
        unfold noteV at HC hne
        generalize noteS k = S at *
        go_wp2_with fail
        generalize wr.alloc (.cells #[.int .i32 rc, .int .i64 rk, .slice ra rn rq] 45) = X at *
        refine (HC.out _ (below_step hb bZ)).mono ?_
        rintro e w1 ⟨rfl, y1⟩
        go_wp2
        go_ret
        exact ⟨congrArg Ending.returned hne.out, below_step (below_step hb bZ) y1⟩
    · obtain rfl : i = n := by omega
      rw [HF.out] at h0
      have he : Hid (noteV 0 = noteV (wrongRowC T (-1))) := Lib.hid (by rw [h0])
      clear h0
      generalize ((if i = 0 then -1 else (T.getD (i - 1) Rw.nil).code) : Int) = ab at *
      go_wp2
      go_ret
      exact ⟨congrArg Ending.returned he.out, hb⟩
end Go.Proofs.YthmdapcieghbbabDoor
