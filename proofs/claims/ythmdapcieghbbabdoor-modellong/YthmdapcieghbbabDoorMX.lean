/-
  Is a character composed (Primary); the fixed fact (awake).
-/
import Derived.Test.YthmdapcieghbbabDoorMW
import Derived.Test.YthmdapcieghbbabDoorMR
import Derived.Test.YthmdapcieghbbabDoorTS
import Derived.Test.YthmdapcieghbbabDoorMT
namespace Go.Proofs.YthmdapcieghbbabDoor
set_option linter.unusedVariables false
set_option maxRecDepth 20000
open Go.RowKit

def primaryC (T : List Rw) (E : Int → Bool) (c : Int) : Bool := decide (kindI c = 4) || (decide (kindI c = 5) || composedC T E (rowC T c))
set_option maxHeartbeats 4000000 in
theorem primary_any (A B : Option Addr) (q b r : Nat) (T : List Rw) (E : Int → Bool) (c : Int) (w : World) (ht : TabOk w A T) (hr : Rises T) (he : HasAt B b r E w) (hc : In32 c) :
    Calls Tryd.prog 9 #[.agg #[.slice A T.length q, .slice B b r], .int .i32 c] w (RetV (.bool (primaryC T E c)) w) := by
  have hf := ht.few
  have HR0 := fun W (hb : Below w.heap.size w W) => row_any A B q b r T c W (ht.at_.below hb) hr (by omega)
  have HC0 := fun W (hb : Below w.heap.size w W) => composed_any A B q b r T E W (ht.below hb) hr (he.below hb) (rowC T c) (rowC_maps (ht.below hb).maps c) (rowC_ok ht.ok hc)
  obtain ⟨k, hk⟩ : ∃ k, kindI c = k := ⟨_, rfl⟩
  have hks := kind_lt c
  have HK := Lib.hid fun W => of_val hk W hc.1 hc.2
  obtain ⟨res, hres⟩ : ∃ v, primaryC T E c = v := ⟨_, rfl⟩
  rw [hres]
  unfold primaryC at hres
  rw [hk] at hres hks
  clear hk ht hr he hc hf
  unfold Rw.val at HR0 HC0
  unfold Rw.slice at HR0 HC0
  generalize (rowC T c).code = rc at *
  generalize (rowC T c).cls = rk at *
  generalize (rowC T c).at_ = ra at *
  generalize (rowC T c).map.length = rn at *
  generalize (rowC T c).cap = rq at *
  generalize composedC T E (rowC T c) = cc at *
  generalize T.length = n at *
  have HR := Lib.hid HR0
  have HC := Lib.hid HC0
  clear HR0 HC0
  have hX := Blk.new w 34 #[.slice A n q, .slice B b r]
  have bW := below_new w (.cells #[.slice A n q, .slice B b r] 34)
  have HRES := Lib.hid hres
  clear hres
  go_enter Tryd.func9, Tryd.ntmps9
  go_upto_region 2 with (first | ((with_reducible refine (HK.out _).mono ?_); rintro e w' ⟨rfl, rfl⟩))
  generalize w.alloc (.cells #[.slice A n q, .slice B b r] 34) = V at *
  have k0 := fun x : Since V => ((hX.on x.kept).cell 0).trans rfl
  have k1 := fun x : Since V => ((hX.on x.kept).cell 1).trans rfl
  rcases hks with rfl | rfl | rfl | rfl | rfl | rfl
  all_goals
    refine wp_region_since (by kernel_rfl) (by kernel_rfl) ?_
    repeat (go_big_quiet_step (first | (go_at_call 22; exact since_call (HR.out _ (below_step bW (Since.kept _)))) | (go_at_call 21; exact since_call (HC.out _ (below_step bW (Since.kept _))))))
    refine wpQuiet_nil ?_
    rintro _ ⟨⟨w7, b7⟩, rfl⟩
    go_wp2
    go_ret
    exact ⟨by rw [← HRES.out]; rfl, below_step bW b7⟩

/-- Of a right table nothing is told. -/
theorem check_nil (A B : Option Addr) (q b r : Nat) (T : List Rw) (E : Int → Bool) (w : World) (ht : TabOk w A T) (he : HasAt B b r E w) (h : checkC T E = 0) :
    Calls Tryd.prog 6 #[.agg #[.slice A T.length q, .slice B b r]] w (RetV .nilIface w) := by
  refine (check_any A B q b r T E w ht he).mono ?_
  rintro e w' ⟨h1, h2⟩
  rw [h, if_pos rfl] at h1
  exact ⟨h1, h2⟩

/-- The table of the fixed fact. -/
def fixT (a b : Option Addr) (p q : Nat) : List Rw := [⟨197, 0, a, p, [65, 778]⟩, ⟨8491, 0, b, q, [197]⟩]
theorem fixT_strip (a b : Option Addr) (p q : Nat) : strip (fixT a b p q) = fixT none none 0 0 := rfl
theorem fixT_check (a b : Option Addr) (p q : Nat) : checkC (fixT a b p q) (fun _ => false) = 0 := by
  rw [← checkC_strip, fixT_strip]
  decide +kernel
theorem fixT_full (a b : Option Addr) (p q : Nat) : fullC (fixT a b p q) 8491 = some [65, 778] := by
  rw [← fullC_strip, fixT_strip]
  decide +kernel
theorem fixT_prim1 (a b : Option Addr) (p q : Nat) : primaryC (fixT a b p q) (fun _ => false) 8491 = false := by
  unfold primaryC
  rw [← composedC_strip, ← rowC_strip, fixT_strip]
  decide +kernel
theorem fixT_prim2 (a b : Option Addr) (p q : Nat) : primaryC (fixT a b p q) (fun _ => false) 197 = true := by
  unfold primaryC
  rw [← composedC_strip, ← rowC_strip, fixT_strip]
  decide +kernel

theorem fix_ok (V : World) (h : Nat) (hA : Blk V h 21 #[.int .i32 65, .int .i32 778]) (hB : Blk V (h + 1) 21 #[.int .i32 197])
    (hR : Blk V (h + 1 + 1) 45 #[.int .i32 197, .int .i64 0, .slice (some ⟨h, 0, none⟩) 2 2, .int .i32 8491, .int .i64 0, .slice (some ⟨h + 1, 0, none⟩) 1 1]) :
    TabOk V (some ⟨h + 1 + 1, 0, none⟩) (fixT (some ⟨h, 0, none⟩) (some ⟨h + 1, 0, none⟩) 2 1) := by
  refine ⟨fun _ => ⟨h + 1 + 1, rfl, hR.lt, fun i hi => ?_⟩, fun r hr => ?_, fun r hr => ?_, show (2 : Nat) ≤ 1000000 by decide⟩
  · match i, hi with
    | 0, _ => exact ⟨hR.cell 0, hR.cell 1, hR.cell 2⟩
    | 1, _ => exact ⟨hR.cell 3, hR.cell 4, hR.cell 5⟩
    | i + 2, hi => exact absurd (show i + 2 < 2 from hi) (by omega)
  · simp only [fixT, List.mem_cons, List.not_mem_nil, or_false] at hr
    rcases hr with rfl | rfl
    · refine ⟨fun _ => ⟨h, rfl, hA.lt, fun i hi => ?_⟩, fun e => by simp at e, show (2 : Nat) ≤ 1000000 by decide⟩
      match i, hi with
      | 0, _ => exact hA.cell 0
      | 1, _ => exact hA.cell 1
      | i + 2, hi => exact absurd (show i + 2 < 2 from hi) (by omega)
    · refine ⟨fun _ => ⟨h + 1, rfl, hB.lt, fun i hi => ?_⟩, fun e => by simp at e, show (1 : Nat) ≤ 1000000 by decide⟩
      match i, hi with
      | 0, _ => exact hB.cell 0
      | i + 1, hi => exact absurd (show i + 1 < 1 from hi) (by omega)
  · simp only [fixT, List.mem_cons, List.not_mem_nil, or_false] at hr
    rcases hr with rfl | rfl
    · exact ⟨show In32 197 from ⟨by decide, by decide⟩, fun x hx => by simp at hx; rcases hx with rfl | rfl <;> exact ⟨by decide, by decide⟩⟩
    · exact ⟨show In32 8491 from ⟨by decide, by decide⟩, fun x hx => by simp at hx; subst hx; exact ⟨by decide, by decide⟩⟩
theorem fixT_passed (a b : Option Addr) (p q : Nat) : Rises (fixT a b p q) ∧ ∀ r ∈ fixT a b p q, r.map.length ≤ 2 := by
  have h : wrongRowC (fixT a b p q) (-1) = 0 := by
    rw [← wrongRowC_strip, fixT_strip]
    decide +kernel
  exact ⟨(passed_rises h).1, (passed_rises h).2.1⟩

set_option maxHeartbeats 4000000 in
theorem awake_any (w : World) : Calls Tryd.prog 4 #[] w (RetV (.bool true) w) := by
  have hA := Blk.new w 21 #[.int .i32 65, .int .i32 778]
  have hB := blk_two w (.cells #[.int .i32 65, .int .i32 778] 21) 21 #[.int .i32 197]
  have hR := blk_three w (.cells #[.int .i32 65, .int .i32 778] 21) (.cells #[.int .i32 197] 21) 45 #[.int .i32 197, .int .i64 0, .slice (some ⟨w.heap.size, 0, none⟩) 2 2, .int .i32 8491, .int .i64 0, .slice (some ⟨w.heap.size + 1, 0, none⟩) 1 1]
  have bR := below_step (below_step (below_new w (.cells #[.int .i32 65, .int .i32 778] 21)) (below_new _ (.cells #[.int .i32 197] 21))) (below_new _ (.cells #[.int .i32 197, .int .i64 0, .slice (some ⟨w.heap.size, 0, none⟩) 2 2, .int .i32 8491, .int .i64 0, .slice (some ⟨w.heap.size + 1, 0, none⟩) 1 1] 45))
  have hA2 := (hA.alloc (.cells #[.int .i32 197] 21)).alloc (.cells #[.int .i32 197, .int .i64 0, .slice (some ⟨w.heap.size, 0, none⟩) 2 2, .int .i32 8491, .int .i64 0, .slice (some ⟨w.heap.size + 1, 0, none⟩) 1 1] 45)
  have hB2 := hB.alloc (.cells #[.int .i32 197, .int .i64 0, .slice (some ⟨w.heap.size, 0, none⟩) 2 2, .int .i32 8491, .int .i64 0, .slice (some ⟨w.heap.size + 1, 0, none⟩) 1 1] 45)
  have hsz : Hid ((((w.alloc (.cells #[.int .i32 65, .int .i32 778] 21)).alloc (.cells #[.int .i32 197] 21)).alloc (.cells #[.int .i32 197, .int .i64 0, .slice (some ⟨w.heap.size, 0, none⟩) 2 2, .int .i32 8491, .int .i64 0, .slice (some ⟨w.heap.size + 1, 0, none⟩) 1 1] 45)).heap.size = w.heap.size + 1 + 1 + 1) := Lib.hid (by simp)
  go_enter Tryd.func4, Tryd.ntmps4
  go_wp2_with fail
  have bX := below_new (((w.alloc (.cells #[.int .i32 65, .int .i32 778] 21)).alloc (.cells #[.int .i32 197] 21)).alloc (.cells #[.int .i32 197, .int .i64 0, .slice (some ⟨w.heap.size, 0, none⟩) 2 2, .int .i32 8491, .int .i64 0, .slice (some ⟨w.heap.size + 1, 0, none⟩) 1 1] 45)) (.cells #[.slice (some ⟨w.heap.size + 1 + 1, 0, none⟩) 2 2, .slice none 0 0] 34)
  have hX := Blk.new (((w.alloc (.cells #[.int .i32 65, .int .i32 778] 21)).alloc (.cells #[.int .i32 197] 21)).alloc (.cells #[.int .i32 197, .int .i64 0, .slice (some ⟨w.heap.size, 0, none⟩) 2 2, .int .i32 8491, .int .i64 0, .slice (some ⟨w.heap.size + 1, 0, none⟩) 1 1] 45)) 34 #[.slice (some ⟨w.heap.size + 1 + 1, 0, none⟩) 2 2, .slice none 0 0]
  rw [hsz.out] at hX
  have hT := fix_ok _ _ (hA2.on bX) (hB2.on bX) (hR.on bX)
  have bV := below_step bR bX
  generalize ((((w.alloc (.cells #[.int .i32 65, .int .i32 778] 21)).alloc (.cells #[.int .i32 197] 21)).alloc (.cells #[.int .i32 197, .int .i64 0, .slice (some ⟨w.heap.size, 0, none⟩) 2 2, .int .i32 8491, .int .i64 0, .slice (some ⟨w.heap.size + 1, 0, none⟩) 1 1] 45)).alloc (.cells #[.slice (some ⟨w.heap.size + 1 + 1, 0, none⟩) 2 2, .slice none 0 0] 34)) = V at *
  have hps := fixT_passed (some ⟨w.heap.size, 0, none⟩) (some ⟨w.heap.size + 1, 0, none⟩) 2 1
  have HF := full_any (some ⟨w.heap.size + 1 + 1, 0, none⟩) none 2 0 0 _ 8491 V hT hps.1 hps.2 ⟨by decide, by decide⟩
  rw [fixT_full] at HF
  have HF := Lib.hid HF
  have HC : Hid (∀ W, Below V.heap.size V W → Calls Tryd.prog 6 #[.agg #[.slice (some ⟨w.heap.size + 1 + 1, 0, none⟩) 2 2, .slice none 0 0]] W (RetV .nilIface W)) := Lib.hid fun W hb => by
    have hck := fixT_check (some ⟨w.heap.size, 0, none⟩) (some ⟨w.heap.size + 1, 0, none⟩) 2 1
    have h := check_nil (some ⟨w.heap.size + 1 + 1, 0, none⟩) none 2 0 0 (fixT (some ⟨w.heap.size, 0, none⟩) (some ⟨w.heap.size + 1, 0, none⟩) 2 1) (fun _ => false) W (hT.below hb) (hasAt_none W) hck
    exact h
  have HP1 : Hid (∀ W, Below V.heap.size V W → Calls Tryd.prog 9 #[.agg #[.slice (some ⟨w.heap.size + 1 + 1, 0, none⟩) 2 2, .slice none 0 0], .int .i32 8491] W (RetV (.bool false) W)) := Lib.hid fun W hb => by
    have := primary_any (some ⟨w.heap.size + 1 + 1, 0, none⟩) none 2 0 0 _ (fun _ => false) 8491 W (hT.below hb) hps.1 (hasAt_none W) ⟨by decide, by decide⟩
    rw [fixT_prim1] at this
    exact this
  have HP2 : Hid (∀ W, Below V.heap.size V W → Calls Tryd.prog 9 #[.agg #[.slice (some ⟨w.heap.size + 1 + 1, 0, none⟩) 2 2, .slice none 0 0], .int .i32 197] W (RetV (.bool true) W)) := Lib.hid fun W hb => by
    have := primary_any (some ⟨w.heap.size + 1 + 1, 0, none⟩) none 2 0 0 _ (fun _ => false) 197 W (hT.below hb) hps.1 (hasAt_none W) ⟨by decide, by decide⟩
    rw [fixT_prim2] at this
    exact this
  clear hA hB hR hA2 hB2 bX bR hsz hT hps
  refine HF.out.mono ?_
  rintro e w2 ⟨u, rfl, hu, y2⟩
  obtain ⟨gu, cu, rfl, _, _, hgl, hcu⟩ := own_cells hu (by decide)
  have c1 := (hcu 1 (by decide)).trans (rfl : _ = some (Value.int .i32 778))
  have hX2 := hX.on y2
  have z0 := (hX2.cell 0).trans rfl
  have z1 := (hX2.cell 1).trans rfl
  have HZ : ∀ W, Below w2.heap.size w2 W → W.cell? ⟨w.heap.size + 1 + 1 + 1, 0, none⟩ = some (.slice (some ⟨w.heap.size + 1 + 1, 0, none⟩) 2 2) ∧ W.cell? ⟨w.heap.size + 1 + 1 + 1, 1, none⟩ = some (.slice none 0 0) ∧ W.cell? ⟨gu, 1, none⟩ = some (.int .i32 778) := fun W h =>
    ⟨((hX2.on h).cell 0).trans rfl, ((hX2.on h).cell 1).trans rfl, (h.cell (p := ⟨gu, 1, none⟩) hgl).trans c1⟩
  have hrf : Below w2.heap.size w2 w2 := Below.refl _ _
  clear hcu hu HF
  go_wp2_with (first
    | ((with_reducible refine (HC.out _ (below_step y2 (by assumption))).mono ?_); rintro e w3 ⟨rfl, y3⟩; have c3 := below_step (w := w2) (by assumption) y3; obtain ⟨_, _, _⟩ := HZ _ c3)
    | ((with_reducible refine (HP1.out _ (below_step y2 (by assumption))).mono ?_); rintro e w3 ⟨rfl, y3⟩; have c3 := below_step (w := w2) (by assumption) y3; obtain ⟨_, _, _⟩ := HZ _ c3)
    | ((with_reducible refine (HP2.out _ (below_step y2 (by assumption))).mono ?_); rintro e w3 ⟨rfl, y3⟩; have c3 := below_step (w := w2) (by assumption) y3; obtain ⟨_, _, _⟩ := HZ _ c3))
  go_ret
  exact ⟨rfl, below_step bV (below_step y2 (by assumption))⟩
end Go.Proofs.YthmdapcieghbbabDoor
