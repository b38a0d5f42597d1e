/-
  Tables: is a row that of a primary composite (composed).
-/
import Derived.Test.YthmdapcieghbbabDoorMH
import Derived.Deep.RegionHeld3
import Derived.Test.YthmdapcieghbbabDoorSince
namespace Go.Proofs.YthmdapcieghbbabDoor
set_option linter.unusedVariables false
set_option maxRecDepth 20000
open Go.RowKit

theorem below_drewN (w : World) (n : Nat) : Below w.heap.size w (w.drewN n) := ⟨rfl, rfl, rfl, Nat.le_refl _, fun _ _ => rfl⟩
/-- The set at B has just these characters. -/
def HasAt (B : Option Addr) (b r : Nat) (E : Int → Bool) (w : World) : Prop := ∀ (x : Int) (W : World), In32 x → Below w.heap.size w W → Calls Tryd.prog 35 #[.agg #[.slice B b r], .int .i32 x] W (RetV (.bool (E x)) W)
theorem HasAt.below {B : Option Addr} {b r : Nat} {E : Int → Bool} {w w' : World} (h : HasAt B b r E w) (hb : Below w.heap.size w w') : HasAt B b r E w' := fun x W hx h' => h x W hx (below_step hb h')

set_option maxHeartbeats 4000000 in
theorem composed_any (A B : Option Addr) (q b r : Nat) (T : List Rw) (E : Int → Bool) (w : World) (ht : TabOk w A T) (hr : Rises T) (he : HasAt B b r E w) (rw_ : Rw) (hm : MapAt w rw_) (ho : RowOk rw_) :
    Calls Tryd.prog 21 #[.agg #[.slice A T.length q, .slice B b r], rw_.val] w (RetV (.bool (composedC T E rw_)) w) := by
  obtain ⟨res, hres⟩ : ∃ v, composedC T E rw_ = v := ⟨_, rfl⟩
  rw [hres]
  unfold composedC at hres
  have hlen := ht.few
  have HC0 := fun c W (hb : Below w.heap.size w W) => class_any A B q b r T c W (ht.at_.below hb) hr (by omega)
  have HE0 := fun W (hb : Below w.heap.size w W) => he rw_.code W ho.code hb
  have hrow := hm.row
  unfold Rw.val Rw.slice
  clear ht hr he ho hm
  generalize rw_.code = rc at *
  generalize rw_.cls = rk at *
  generalize rw_.at_ = ra at *
  generalize rw_.cap = rq at *
  generalize rw_.map = l at *
  generalize T.length = n at *
  have HC := Lib.hid HC0
  have HE := Lib.hid HE0
  clear HC0 HE0
  have bW := below_step (below_new w (.cells #[.slice A n q, .slice B b r] 34)) (below_new _ (.cells #[.int .i32 rc, .int .i64 rk, .slice ra l.length rq] 45))
  by_cases hk : rk = 0
  · by_cases hl : l.length = 2
    · have hrk : (rk == 0) = true := by rw [beq_iff_eq]; exact hk
      obtain ⟨gm, rfl, hgm, hcm⟩ := hrow (by intro e; rw [e] at hl; simp at hl)
      have cm := hcm 0 (by omega)
      clear hcm hrow
      generalize l.getD 0 0 = c at *
      rw [hl] at hres bW ⊢
      rw [decide_eq_true hk, decide_eq_true rfl] at hres
      clear hl hk
      have HCc := Lib.hid fun W hb => HC.out c W hb
      clear HC
      generalize (rowC T c).cls = kc at *
      generalize E rc = ec at *
      have hX := (Blk.new w 34 #[.slice A n q, .slice B b r]).alloc (.cells #[.int .i32 rc, .int .i64 rk, .slice (some ⟨gm, 0, none⟩) 2 rq] 45)
      have hY := blk_two w (.cells #[.slice A n q, .slice B b r] 34) 45 #[.int .i32 rc, .int .i64 rk, .slice (some ⟨gm, 0, none⟩) 2 rq]
      have cm' := (bW.cell (p := ⟨gm, 0, none⟩) hgm).trans cm
      have hgm' : gm < ((w.alloc (.cells #[.slice A n q, .slice B b r] 34)).alloc (.cells #[.int .i32 rc, .int .i64 rk, .slice (some ⟨gm, 0, none⟩) 2 rq] 45)).heap.size := by have := bW.size; omega
      have hkeep : ∀ W, Below ((w.alloc (.cells #[.slice A n q, .slice B b r] 34)).alloc (.cells #[.int .i32 rc, .int .i64 rk, .slice (some ⟨gm, 0, none⟩) 2 rq] 45)).heap.size ((w.alloc (.cells #[.slice A n q, .slice B b r] 34)).alloc (.cells #[.int .i32 rc, .int .i64 rk, .slice (some ⟨gm, 0, none⟩) 2 rq] 45)) W →
          W.cell? ⟨w.heap.size, 0, none⟩ = some (.slice A n q) ∧ W.cell? ⟨w.heap.size, 1, none⟩ = some (.slice B b r) ∧ W.cell? ⟨w.heap.size + 1, 0, none⟩ = some (.int .i32 rc) ∧ W.cell? ⟨w.heap.size + 1, 1, none⟩ = some (.int .i64 rk) ∧ W.cell? ⟨w.heap.size + 1, 2, none⟩ = some (.slice (some ⟨gm, 0, none⟩) 2 rq) ∧ W.cell? ⟨gm, 0, none⟩ = some (.int .i32 c) := fun W hb =>
        ⟨((hX.on hb).cell 0).trans rfl, ((hX.on hb).cell 1).trans rfl, (hY.on hb).cells3.1, (hY.on hb).cells3.2.1, (hY.on hb).cells3.2.2, (hb.cell (p := ⟨gm, 0, none⟩) hgm').trans cm'⟩
      have hd : (decide (kc = 0)) = (kc == 0) := rfl
      rw [hd] at hres
      have HRES := Lib.hid hres
      clear hres hd hX hY cm cm' hgm'
      go_enter Tryd.func21, Tryd.ntmps21
      go_upto_region 1 with fail
      have HB := Lib.hid bW
      generalize (w.alloc (.cells #[.slice A n q, .slice B b r] 34)).alloc (.cells #[.int .i32 rc, .int .i64 rk, .slice (some ⟨gm, 0, none⟩) 2 rq] 45) = V at *
      have k0 := fun x : Since V => (hkeep _ x.kept).1
      have k1 := fun x : Since V => (hkeep _ x.kept).2.1
      have k2 := fun x : Since V => (hkeep _ x.kept).2.2.1
      have k3 := fun x : Since V => (hkeep _ x.kept).2.2.2.1
      have k4 := fun x : Since V => (hkeep _ x.kept).2.2.2.2.1
      have k5 := fun x : Since V => (hkeep _ x.kept).2.2.2.2.2
      clear hkeep
      cases hkc : (kc == 0) with
      | false =>
        rw [hkc] at HRES
        have hres' : res = false := by rw [← HRES.out]; rfl
        subst hres'
        clear HRES HE
        refine wp_region_since (by kernel_rfl) (by kernel_rfl) ?_
        repeat (go_big_quiet_step (first | (go_at_call 34; exact since_call (HCc.out _ (below_step bW (Since.kept _))))))
        refine wpQuiet_nil ?_
        rintro _ ⟨⟨w7, b7⟩, rfl⟩
        go_wp2
        go_ret
        exact ⟨rfl, below_step bW b7⟩
      | true =>
        rw [hkc] at HRES
        have hres' : Hid ((!ec) = res) := Lib.hid (by rw [← HRES.out]; rfl)
        clear HRES
        refine wp_region_since (by kernel_rfl) (by kernel_rfl) ?_
        repeat (go_big_quiet_step (first | (go_at_call 34; exact since_call (HCc.out _ (below_step bW (Since.kept _)))) | (go_at_call 35; exact since_call (HE.out _ (below_step bW (Since.kept _))))))
        refine wpQuiet_nil ?_
        rintro _ ⟨⟨w7, b7⟩, rfl⟩
        go_wp2
        go_ret
        exact ⟨congrArg (fun z => Ending.returned (.bool z)) hres'.out, below_step bW b7⟩
    · subst hk
      have hrk : ((0 : Int) == 0) = true := rfl
      have hln : ((l.length : Int) == 2) = false := by rw [beq_eq_false_iff_ne]; omega
      have hres' : res = false := by rw [← hres, decide_eq_false hl]; simp
      subst hres'
      clear hres
      generalize l.length = p at *
      go_enter Tryd.func21, Tryd.ntmps21
      go_upto_region 1 with fail
      go_quiet (fail)
      go_wp2
      go_ret
      exact ⟨rfl, below_step bW (below_drewN _ _)⟩
  · have hrk : (rk == 0) = false := by rw [beq_eq_false_iff_ne]; exact hk
    have hres' : res = false := by rw [← hres, decide_eq_false hk]; simp
    subst hres'
    clear hres
    generalize l.length = p at *
    go_enter Tryd.func21, Tryd.ntmps21
    go_upto_region 1 with fail
    go_quiet (fail)
    go_wp2
    go_ret
    exact ⟨rfl, below_step bW (below_drewN _ _)⟩
end Go.Proofs.YthmdapcieghbbabDoor
