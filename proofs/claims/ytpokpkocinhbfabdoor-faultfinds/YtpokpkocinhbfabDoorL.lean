/-
  errors.Is of a chain of faults, at a fault of a number alone and at one with a line; errors.New.
-/
import Derived.Test.YtpokpkocinhbfabDoorB
namespace Go.Proofs.YtpokpkocinhbfabDoor
set_option linter.unusedVariables false
set_option maxRecDepth 20000
open Go.RowKit Go.Extern.Stop Go.Stop Go.Extern

/-- A fault that is looked for: of a number alone, or with a line and a note. -/
def Sought (w : World) (t : Nat) : Option Int → Prop
  | some c => Blk w t 38 #[.int .i64 c, .int .i64 0, .string ⟨#[]⟩, .nilIface]
  | none => ∃ c, Blk w t 38 #[.int .i64 c, .int .i64 4, .string ⟨#[101, 108, 115, 101, 119, 104, 101, 114, 101]⟩, .nilIface]
def hit (o : Option Int) (c : Int) : Bool := match o with | some d => c == d | none => false

theorem alone_some (t : Nat) (c : Int) (w : World) (h : Blk w t 38 #[.int .i64 c, .int .i64 0, .string ⟨#[]⟩, .nilIface]) :
    Calls Tryd.prog 42 #[.iface 36 (.pointer (some ⟨t, 0, none⟩))] w fun e w' => e = .returned (.tuple #[.int .i64 c, .bool true]) ∧ w = w' := by
  have t36 := ta36
  have c0 : w.cell? ⟨t, 0, none⟩ = some (.int .i64 c) := h.cell 0
  have c1 : w.cell? ⟨t, 1, none⟩ = some (.int .i64 0) := h.cell 1
  have c2 : w.cell? ⟨t, 2, none⟩ = some (.string ⟨#[]⟩) := h.cell 2
  have c3 : w.cell? ⟨t, 3, none⟩ = some .nilIface := h.cell 3
  go_enter Tryd.func42, Tryd.ntmps42
  go_wp2
  go_ret2
  exact ⟨rfl, rfl⟩
theorem alone_none (t : Nat) (c : Int) (s : ByteArray) (w : World) (h : Blk w t 38 #[.int .i64 c, .int .i64 4, .string s, .nilIface]) :
    Calls Tryd.prog 42 #[.iface 36 (.pointer (some ⟨t, 0, none⟩))] w fun e w' => e = .returned (.tuple #[.int .i64 0, .bool false]) ∧ w = w' := by
  have t36 := ta36
  have c1 : w.cell? ⟨t, 1, none⟩ = some (.int .i64 4) := h.cell 1
  go_enter Tryd.func42, Tryd.ntmps42
  go_wp2
  go_ret2
  exact ⟨rfl, rfl⟩
theorem ta86_36 (v : Value) (w : World) : (Instr.typeAssert (.iface 86 v) 26 36 true).run Tryd.prog w = .ok (.tuple #[.pointer none, .bool false]) w := by kernel_rfl
theorem alone_new (v : Value) (w : World) :
    Calls Tryd.prog 42 #[.iface 86 v] w fun e w' => e = .returned (.tuple #[.int .i64 0, .bool false]) ∧ w = w' := by
  have t36 := ta86_36
  go_enter Tryd.func42, Tryd.ntmps42
  go_wp2
  go_ret2
  exact ⟨rfl, rfl⟩

theorem is_some (g t : Nat) (n c : Int) (x y z : Value) (w : World) (hg : Blk w g 38 #[.int .i64 n, x, y, z]) (h : Blk w t 38 #[.int .i64 c, .int .i64 0, .string ⟨#[]⟩, .nilIface]) :
    Calls Tryd.prog 28 #[.pointer (some ⟨g, 0, none⟩), .iface 36 (.pointer (some ⟨t, 0, none⟩))] w fun e w' => e = .returned (.bool (n == c)) ∧ w = w' := by
  have c0 : w.cell? ⟨g, 0, none⟩ = some (.int .i64 n) := hg.cell 0
  go_enter Tryd.func28, Tryd.ntmps28
  go_wp2_with fail
  refine (alone_some t c w h).mono ?_
  rintro e w1 ⟨rfl, rfl⟩
  go_wp2
  go_ret
  exact ⟨rfl, rfl⟩
theorem is_none (g t : Nat) (c : Int) (s : ByteArray) (w : World) (h : Blk w t 38 #[.int .i64 c, .int .i64 4, .string s, .nilIface]) :
    Calls Tryd.prog 28 #[.pointer (some ⟨g, 0, none⟩), .iface 36 (.pointer (some ⟨t, 0, none⟩))] w fun e w' => e = .returned (.bool false) ∧ w = w' := by
  go_enter Tryd.func28, Tryd.ntmps28
  go_wp2_with fail
  refine (alone_none t c s w h).mono ?_
  rintro e w1 ⟨rfl, rfl⟩
  go_wp2
  go_ret
  exact ⟨rfl, rfl⟩
theorem is_new (g : Nat) (v : Value) (w : World) :
    Calls Tryd.prog 28 #[.pointer (some ⟨g, 0, none⟩), .iface 86 v] w fun e w' => e = .returned (.bool false) ∧ w = w' := by
  go_enter Tryd.func28, Tryd.ntmps28
  go_wp2_with fail
  refine (alone_new v w).mono ?_
  rintro e w1 ⟨rfl, rfl⟩
  go_wp2
  go_ret
  exact ⟨rfl, rfl⟩
theorem is_sought (g t : Nat) (n : Int) (o : Option Int) (x y z : Value) (w : World) (hg : Blk w g 38 #[.int .i64 n, x, y, z]) (h : Sought w t o) :
    Calls Tryd.prog 28 #[.pointer (some ⟨g, 0, none⟩), .iface 36 (.pointer (some ⟨t, 0, none⟩))] w fun e w' => e = .returned (.bool (hit o n)) ∧ w = w' := by
  cases o with
  | some c => exact is_some g t n c x y z w hg h
  | none => obtain ⟨c, h⟩ := h; exact is_none g t c _ w h

theorem Sought.blk {w : World} {t : Nat} {o : Option Int} (h : Sought w t o) : ∃ cs, Blk w t 38 cs := by
  cases o with
  | some c => exact ⟨_, h⟩
  | none => obtain ⟨c, h⟩ := h; exact ⟨_, h⟩

theorem compPtr : (Tryd.prog.info? 36).map (·.comparable) = some true := by kernel_rfl
theorem sizeFault : (Tryd.prog.info? 38).map (·.size) = some 4 := by kernel_rfl
theorem ta102 (v : Value) (w : World) : (Instr.typeAssert (.iface 36 v) 26 102 true).run Tryd.prog w = .ok (.tuple #[.iface 36 v, .bool true]) w := run_typeAssert_hasB Tryd.underlying102 (by kernel_rfl) v 26 w
theorem mIs (v : Value) (w : World) : (Go.method 253 36 v "Is").run Tryd.prog w = .ok (28, v) w := by kernel_rfl

/-- Is one of the chain's numbers the one that is looked for? -/
def hasHit (o : Option Int) (l : List Lk) : Bool := l.any fun x => hit o x.code

set_option maxHeartbeats 2000000 in
theorem is_walk (v : Value) (l : List Lk) (t : Nat) (o : Option Int) (w0 w : World) (h : Chn w0 v l) (hl : l ≠ []) (hb : Below w0.heap.size w0 w) (ht : w0.heap.size ≤ t) (hs : Sought w t o) :
    Calls Tryd.prog 37 #[v, .iface 36 (.pointer (some ⟨t, 0, none⟩)), .bool true] w fun e w' => e = .returned (.bool (hasHit o l)) ∧ w = w' := by
  obtain ⟨i, hi, hcmp⟩ := Option.map_eq_some_iff.1 compPtr
  obtain ⟨j, hj, hjs⟩ := Option.map_eq_some_iff.1 sizeFault
  obtain ⟨ct, hct⟩ := hs.blk
  have t102 := ta102
  have t92 := ta92
  have mU := mUnwrap
  have mI := mIs
  go_enter Tryd.func37, Tryd.ntmps37
  go_wp2
  go_loopg [0] l.length (fun k v wx => ∃ rest, rest ≠ [] ∧ Aside (hasHit o l = hasHit o rest) ∧ rest.length = k ∧ Chn w0 v rest ∧ w = wx)
  case atStart => exact ⟨l, hl, rfl, rfl, h, rfl⟩
  case round =>
    obtain ⟨rest, hne, hh, hk, hc, rfl⟩ := hrel
    cases rest with
    | nil => exact absurd rfl hne
    | cons x r =>
      obtain ⟨g, c, rfl, hk1, hr⟩ := hc
      subst hk
      have hg := hk1.lt
      have hk2 := hk1.on hb
      have heq := run_eql_iface_ptr_other (P := Tryd.prog) w Tryd.underlying26 Tryd.underlying36 hi hcmp hj (by rw [hjs]; decide) (a := ⟨g, 0, none⟩) (b := ⟨t, 0, none⟩) (by intro e; injection e; omega) hk2 hct
      have HH : Hid (hasHit o l = (hit o x.code || hasHit o r)) := by rw [Hid, hh.out]; rfl
      clear hh
      go_wp2_with fail
      refine (is_sought g t x.code o _ _ _ _ hk2 hs).mono ?_
      rintro e w' ⟨rfl, rfl⟩
      generalize hit o x.code = q at *
      cases q with
      | true =>
        go_wp2
        go_ret
        exact ⟨by rw [HH.out]; rfl, rfl⟩
      | false =>
        go_wp2_with fail
        refine (unwrap_any g _ _ _ c _ hk2).mono ?_
        rintro e w' ⟨rfl, rfl⟩
        cases r with
        | nil =>
          obtain rfl : c = .nilIface := hr
          go_wp2
          go_ret
          exact ⟨by rw [HH.out]; rfl, rfl⟩
        | cons y r' =>
          have hr0 := hr
          obtain ⟨g', c', rfl, _⟩ := hr0
          go_wp2
          go_roundg (y :: r').length
          case measure => simp
          case rel => exact ⟨y :: r', by simp, by rw [Aside, HH.out]; simp, rfl, hr, rfl⟩
end Go.Proofs.YtpokpkocinhbfabDoor
