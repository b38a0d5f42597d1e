/-
  Contracts of the fault package (At, Code); what is wrong with a table (Check).
-/
import Derived.Test.YthmdapcieghbbabDoorAs
import Derived.Test.YthmdapcieghbbabDoorML
import Derived.Test.YthmdapcieghbbabDoorMQ
namespace Go.Proofs.YthmdapcieghbbabDoor
set_option linter.unusedVariables false
set_option maxRecDepth 20000
open Go.RowKit Go.Extern.Stop Go.Stop Go.Extern

theorem at_any (c n : Int) (s : ByteArray) (w : World) (hc : (c == 0) = false) :
    Calls Tryd.prog 15 #[.int .i64 c, .int .i64 n, .string s] w fun e w' => e = .returned (.iface 51 (.pointer (some ⟨w.heap.size, 0, none⟩))) ∧ w.alloc (.cells #[.int .i64 c, .int .i64 n, .string s, .nilIface] 55) = w' := by
  go_enter Tryd.func15, Tryd.ntmps15
  go_wp2
  go_ret
  exact ⟨rfl, rfl⟩
theorem at_ok (n : Int) (s : ByteArray) (w : World) :
    Calls Tryd.prog 15 #[.int .i64 0, .int .i64 n, .string s] w fun e w' => e = .returned .nilIface ∧ w = w' := by
  go_enter Tryd.func15, Tryd.ntmps15
  go_wp2
  go_ret
  exact ⟨rfl, rfl⟩
/-- errors.As of a fault: its block is found. -/
theorem as_fault (g t : Nat) (old : Value) (w : World) (hg : Handle w) (ht : Blk w t 51 #[old]) (hgt : g < w.heap.size) :
    Calls Tryd.prog 16 #[.iface 51 (.pointer (some ⟨g, 0, none⟩)), .iface 53 (.pointer (some ⟨t, 0, none⟩))] w fun e w' => e = .returned (.bool true) ∧ Blk w' t 51 #[.pointer (some ⟨g, 0, none⟩)] ∧ ∀ B, B ≤ t → Below B w w' := by
  have hc : w.cell? ⟨t, 0, none⟩ = some old := ht.cell 0
  refine (as_hit ⟨g, 0, none⟩ ⟨t, 0, none⟩ old w hg hc (ht.free 0)).mono ?_
  rintro e w' ⟨rfl, rfl⟩
  refine ⟨rfl, ((((ht.alloc _).alloc _).alloc _).alloc _).set_ 0 _, fun B hB => ?_⟩
  have hl := ht.lt
  exact (((((Below.refl B w).alloc (by omega) _).alloc (by simp; omega) _).alloc (by simp; omega) _).alloc (by simp; omega) _).setCell (p := ⟨t, 0, none⟩) hB _

theorem code_nil (w : World) : Calls Tryd.prog 7 #[.nilIface] w fun e w' => e = .returned (.int .i64 0) ∧ w = w' := by
  go_enter Tryd.func7, Tryd.ntmps7
  go_wp2
  go_ret
  exact ⟨rfl, rfl⟩

set_option maxHeartbeats 1000000 in
theorem code_fault (g : Nat) (n b c d : Value) (w : World) (hg : Handle w) (h : Blk w g 55 #[n, b, c, d]) :
    Calls Tryd.prog 7 #[.iface 51 (.pointer (some ⟨g, 0, none⟩))] w (RetV n w) := by
  have hT := Blk.new w 51 #[.pointer none]
  have hH := hg.kept (below_new w (.cells #[.pointer none] 51))
  have hl := h.lt
  go_enter Tryd.func7, Tryd.ntmps7
  go_wp2_with fail
  refine (as_fault g w.heap.size (.pointer none) _ hH hT (by simp; omega)).mono ?_
  rintro e w1 ⟨rfl, hT1, hb1⟩
  have hc1 : w1.cell? ⟨w.heap.size, 0, none⟩ = some (.pointer (some ⟨g, 0, none⟩)) := hT1.cell 0
  have hb : Below w.heap.size w w1 := (below_new w _).trans (hb1 _ (Nat.le_refl _))
  have hc2 : w1.cell? ⟨g, 0, none⟩ = some n := (h.on hb).cell 0
  clear hb1
  go_wp2
  go_ret
  exact ⟨rfl, hb⟩


/-- A table that has passed its rows is fit to be measured. -/
theorem passed_rises : ∀ {T : List Rw} {above : Int}, wrongRowC T above = 0 → Rises T ∧ (∀ r ∈ T, r.map.length ≤ 2) ∧ (∀ r ∈ T, above < r.code)
  | [], _, _ => ⟨trivial, by simp, by simp⟩
  | r :: t, above, h => by
    unfold wrongRowC at h
    by_cases h0 : wrongC r above = 0
    · rw [if_pos h0] at h
      obtain ⟨h1, h2, h3⟩ := passed_rises h
      have hw := wrong_ways r above
      have hr : ¬ r.code ≤ above ∧ ¬ r.map.length > 2 := by
        rcases hw with ⟨_, e⟩ | ⟨_, _, e⟩ | ⟨_, _, _, e⟩ | ⟨_, _, _, _, e⟩ | ⟨_, _, _, _, _, e⟩ | ⟨_, _, _, _, _, _, e⟩ | ⟨_, _, _, _, _, _, _, e⟩ | ⟨_, _, _, _, _, _, _, _, e⟩ | ⟨_, a, _, _, b, _, _, _, e⟩
        iterate 8 (rw [e] at h0; cases h0)
        exact ⟨a, b⟩
      refine ⟨⟨h3, h1⟩, fun x hx => ?_, fun x hx => ?_⟩
      · simp at hx
        rcases hx with rfl | hx
        · omega
        · exact h2 x hx
      · simp at hx
        rcases hx with rfl | hx
        · omega
        · have := h3 x hx; omega
    · rw [if_neg h0] at h
      exact absurd h h0

/-- What Check answers: nil, or a fault with ErrData and a note. -/
def RetChk (k : Nat) (w : World) (e : Ending) (w' : World) : Prop :=
  (if k = 0 then e = .returned .nilIface else ∃ g, e = .returned (.iface 51 (.pointer (some ⟨g, 0, none⟩))) ∧ Blk w' g 55 #[.int .i64 8, .int .i64 0, noteV k, .nilIface] ∧ w.heap.size ≤ g) ∧ Below w.heap.size w w'

set_option maxHeartbeats 4000000 in
theorem check_any (A B : Option Addr) (q b r : Nat) (T : List Rw) (E : Int → Bool) (w : World) (ht : TabOk w A T) (he : HasAt B b r E w) :
    Calls Tryd.prog 6 #[.agg #[.slice A T.length q, .slice B b r]] w (RetChk (checkC T E) w) := by
  have hX := Blk.new w 34 #[.slice A T.length q, .slice B b r]
  have bW := below_new w (.cells #[.slice A T.length q, .slice B b r] 34)
  have HW0 := wrongRow_any A B q b r T _ (ht.below bW)
  obtain ⟨k, hk⟩ : ∃ k, wrongRowC T (-1) = k := ⟨_, rfl⟩
  rw [hk] at HW0
  have hpass : k = 0 → Rises T ∧ (∀ r ∈ T, r.map.length ≤ 2) := fun h0 => by
    have := passed_rises (T := T) (above := -1) (by rw [hk, h0])
    exact ⟨this.1, this.2.1⟩
  have hck : checkC T E = if k ≠ 0 then k else if allEndC T = false then 4 else if pairTwiceC T E [] T = true then 5 else 0 := by unfold checkC; rw [hk]
  have HA0 : k = 0 → ∀ W, Below w.heap.size w W → Calls Tryd.prog 13 #[.agg #[.slice A T.length q, .slice B b r]] W (RetV (.bool (allEndC T)) W) := fun h0 W hb => allEnd_any A B q b r T W (ht.below hb) (hpass h0).1 (hpass h0).2
  have HP0 : k = 0 → ∀ W, Below w.heap.size w W → Calls Tryd.prog 14 #[.agg #[.slice A T.length q, .slice B b r]] W (RetV (.bool (pairTwiceC T E [] T)) W) := fun h0 W hb => pairTwice_any A B q b r T E W (ht.below hb) (hpass h0).1 (he.below hb)
  rw [hck]
  clear hk hpass hck ht he
  obtain ⟨res, hres⟩ : ∃ x, (if k ≠ 0 then k else if allEndC T = false then 4 else if pairTwiceC T E [] T = true then 5 else 0) = x := ⟨_, rfl⟩
  rw [hres]
  generalize allEndC T = ae at *
  generalize pairTwiceC T E [] T = pt at *
  generalize T.length = n at *
  have HRES := Lib.hid hres
  have HW := Lib.hid HW0
  clear HW0 hres
  have x0 := (hX.cell 0).trans rfl
  have x1 := (hX.cell 1).trans rfl
  go_enter Tryd.func6, Tryd.ntmps6
  go_wp2_with fail
  generalize w.alloc (.cells #[.slice A n q, .slice B b r] 34) = V at *
  refine HW.out.mono ?_
  rintro e w1 ⟨rfl, y1⟩
  clear x0 x1
  have hX1 := hX.on y1
  have b1 := below_step bW y1
  have x0 := (hX1.cell 0).trans rfl
  have x1 := (hX1.cell 1).trans rfl
  by_cases hk0 : k = 0
  · subst hk0
    have hkk := noteS_zero
    have HA := Lib.hid (HA0 rfl)
    have HP := Lib.hid (HP0 rfl)
    clear HA0 HP0
    unfold noteV at *
    generalize noteS 0 = S at *
    go_wp2_with fail
    refine (HA.out _ b1).mono ?_
    rintro e w2 ⟨rfl, y2⟩
    clear x0 x1
    have hX2 := hX1.on y2
    have b2 := below_step b1 y2
    have x0 := (hX2.cell 0).trans rfl
    have x1 := (hX2.cell 1).trans rfl
    cases ae with
    | false =>
      have hr : Hid (4 = res) := Lib.hid HRES.out
      clear HRES
      go_wp2_with (first | ((with_reducible refine (at_any 8 0 _ _ rfl).mono ?_); rintro e w' ⟨rfl, rfl⟩))
      go_ret
      rw [← hr.out]
      exact ⟨⟨_, rfl, Blk.new w2 55 _, b2.size⟩, below_step b2 (below_new w2 _)⟩
    | true =>
      go_wp2_with fail
      refine (HP.out _ b2).mono ?_
      rintro e w3 ⟨rfl, y3⟩
      have b3 := below_step b2 y3
      cases pt with
      | false =>
        have hr : Hid (0 = res) := Lib.hid HRES.out
        clear HRES
        go_wp2
        go_ret
        rw [← hr.out]
        exact ⟨rfl, b3⟩
      | true =>
        have hr : Hid (5 = res) := Lib.hid HRES.out
        clear HRES
        go_wp2_with (first | ((with_reducible refine (at_any 8 0 _ _ rfl).mono ?_); rintro e w' ⟨rfl, rfl⟩))
        go_ret
        rw [← hr.out]
        exact ⟨⟨_, rfl, Blk.new w3 55 _, b3.size⟩, below_step b3 (below_new w3 _)⟩
  · have hkk := noteS_ne hk0
    have hr : Hid (k = res) := Lib.hid (by have := HRES.out; rw [if_pos hk0] at this; exact this)
    have hS : Hid (noteV k = .string (noteS k)) := Lib.hid rfl
    clear HRES
    unfold noteV
    generalize noteS k = S at *
    go_wp2_with (first | ((with_reducible refine (at_any 8 0 _ _ rfl).mono ?_); rintro e w' ⟨rfl, rfl⟩))
    go_ret
    rw [← hr.out]
    unfold RetChk
    rw [if_neg hk0, hS.out]
    exact ⟨⟨_, rfl, Blk.new w1 55 _, b1.size⟩, below_step b1 (below_new w1 _)⟩
end Go.Proofs.YthmdapcieghbbabDoor
