/-
  What one block's writing keeps; the contracts of addTimes and Mul.
-/
import Derived.Test.YtobfhidajcnfdaaDoorIs
import Derived.Deep.RegionHeld
namespace Go.Proofs.YtobfhidajcnfdaaDoor
set_option linter.unusedVariables false
set_option maxRecDepth 20000
open Go.RowKit

/-- Nothing but block g has turned, and no block has come. -/
structure Only (g : Nat) (w w' : World) : Prop where
  os : w'.os = w.os
  tape : w'.tape = w.tape
  output : w'.output = w.output
  size : w'.heap.size = w.heap.size
  block : ∀ k, k ≠ g → w'.heap[k]? = w.heap[k]?

theorem Only.refl (g : Nat) (w : World) : Only g w w := ⟨rfl, rfl, rfl, rfl, fun _ _ => rfl⟩
theorem Only.trans {g : Nat} {a b c : World} (h : Only g a b) (k : Only g b c) : Only g a c := ⟨k.os.trans h.os, k.tape.trans h.tape, k.output.trans h.output, k.size.trans h.size, fun i hi => (k.block i hi).trans (h.block i hi)⟩
theorem Only.drewN {g : Nat} {a b : World} (h : Only g a b) (n : Nat) : Only g a (b.drewN n) := ⟨h.os, h.tape, h.output, h.size, h.block⟩
theorem Only.drew {g : Nat} {a b : World} (h : Only g a b) : Only g a b.drew := ⟨h.os, h.tape, h.output, h.size, h.block⟩
theorem Only.set_ {g : Nat} {a b : World} (h : Only g a b) (i : Nat) (u : Value) : Only g a (b.setCell ⟨g, i, none⟩ u) :=
  h.trans ⟨rfl, rfl, rfl, by simp [World.setCell], fun k hk => Below.heap_setCell b ⟨g, i, none⟩ u k hk⟩
theorem Only.below {g B : Nat} {w w' : World} (h : Only g w w') (hB : B ≤ g) : Below B w w' := ⟨h.os, h.tape, h.output, Nat.le_of_eq h.size.symm, fun k hk => h.block k (by omega)⟩
theorem Blk.only {w w' : World} {g g' : Nat} {t : TypeId} {cs : Array Value} (h : Blk w g' t cs) (ho : Only g w w') (hne : g' ≠ g) : Blk w' g' t cs := (ho.block g' hne).trans h

theorem Only.cell {g : Nat} {w w' : World} (h : Only g w w') {p : Addr} (hp : p.block ≠ g) : w'.cell? p = w.cell? p := World.cell?_of_block (h.block p.block hp)
theorem cell_off {w : World} {p : Addr} {v u : Value} {g o : Nat} (hc : w.cell? p = some v) (hp : p.block ≠ g) : (w.setCell ⟨g, o, none⟩ u).cell? p = some v := (World.cell?_setCell_far w ⟨g, o, none⟩ p u (fun e => hp e.symm)).trans hc

/-- The slice lies in a block other than g. -/
def ArrO (g : Nat) (t : TypeId) (k : IntKind) (w : World) (A : Option Addr) (l : List Nat) : Prop :=
  l ≠ [] → ∃ g' o cs, A = some ⟨g', o, none⟩ ∧ g' ≠ g ∧ Blk w g' t cs ∧ ∀ i, i < l.length → cs[o + i]? = some (.int k (l.getD i 0 : Nat))
section
variable {g : Nat} {t : TypeId} {k : IntKind} {w w' : World} {A : Option Addr} {l : List Nat}
theorem ArrO.arr (h : ArrO g t k w A l) : Arr t k w A l := fun hn => by
  obtain ⟨g, o, cs, e, _, hb, hc⟩ := h hn
  exact ⟨g, o, cs, e, hb, hc⟩
theorem ArrO.only (h : ArrO g t k w A l) (ho : Only g w w') : ArrO g t k w' A l := fun hn => by
  obtain ⟨g', o, cs, e, h0, h1, hc⟩ := h hn
  exact ⟨g', o, cs, e, h0, h1.only ho h0, hc⟩
theorem ArrO.below (h : ArrO g t k w A l) (hb : Below w.heap.size w w') : ArrO g t k w' A l := fun hn => by
  obtain ⟨g', o, cs, e, h0, h1, hc⟩ := h hn
  exact ⟨g', o, cs, e, h0, h1.below hb h1.lt, hc⟩
/-- What lay there before block g was made lies elsewhere. -/
theorem Arr.other (h : Arr t k w A l) (hb : Below w.heap.size w w') (hg : w.heap.size ≤ g) : ArrO g t k w' A l := fun hn => by
  obtain ⟨g', o, cs, e, h1, hc⟩ := h hn
  exact ⟨g', o, cs, e, by have := h1.lt; omega, h1.below hb h1.lt, hc⟩
end

theorem mid_get (a r b : List Nat) {i : Nat} (hi : i < r.length) : (a ++ r ++ b).getD (a.length + i) 0 = r.getD i 0 := by
  have h1 : ¬ a.length + i < a.length := by omega
  simp [List.getD, List.getElem?_append, hi, h1]
theorem mid_set (a r b : List Nat) {i : Nat} (hi : i < r.length) (x : Nat) : (a ++ r ++ b).set (a.length + i) x = a ++ r.set i x ++ b := by
  rw [List.append_assoc, List.set_append_right _ _ (by omega), Nat.add_sub_cancel_left, List.set_append_left _ _ hi, List.append_assoc]

theorem val_set (b : Nat) (l : List Nat) (i x : Nat) (hi : i < l.length) : val b (l.set i x) + b ^ i * l.getD i 0 = val b l + b ^ i * x := by
  induction l generalizing i with
  | nil => simp at hi
  | cons y l ih =>
    cases i with
    | zero => simp [val]; omega
    | succ i =>
      have := ih i (by simpa using hi)
      simp only [List.set_cons_succ, val, Nat.pow_succ, List.getD_cons_succ]
      have h2 : b * (val b (l.set i x) + b ^ i * l.getD i 0) = b * (val b l + b ^ i * x) := by rw [this]
      rw [Nat.mul_add, Nat.mul_add] at h2
      rw [Nat.mul_comm (b ^ i) b, Nat.mul_assoc, Nat.mul_assoc]
      omega

/-- One step of a product's row. -/
theorem times_step (b j k y x cy rv rv' lv v0 : Nat) (h : rv + b ^ j * cy = v0 + k * lv) (hs : rv' + b ^ j * x = rv + b ^ j * ((k * y + x + cy) % b)) :
    rv' + b ^ (j + 1) * ((k * y + x + cy) / b) = v0 + k * (lv + b ^ j * y) := by
  have e := Nat.mod_add_div (k * y + x + cy) b
  have e2 : b ^ j * ((k * y + x + cy) % b) + b ^ (j + 1) * ((k * y + x + cy) / b) = b ^ j * (k * y) + b ^ j * x + b ^ j * cy := by
    rw [Nat.pow_succ, Nat.mul_assoc, ← Nat.mul_add, e, Nat.mul_add, Nat.mul_add]
  have e3 : k * (lv + b ^ j * y) = k * lv + b ^ j * (k * y) := by rw [Nat.mul_add, Nat.mul_left_comm]
  rw [e3]
  omega

/-- It answers a carry, and has left n limbs in block g: together they are V. -/
def RetT (g n : Nat) (a b : List Nat) (V : Nat) (w : World) (e : Ending) (w' : World) : Prop :=
  ∃ (r' : List Nat) (cy : Nat), e = .returned (.int .u32 cy) ∧ cy < 4294967296 ∧ r'.length = n ∧ (∀ x ∈ r', x < 4294967296) ∧ val 4294967296 r' + 4294967296 ^ n * cy = V ∧ Blk w' g 43 (blkOf .u32 (a ++ r' ++ b)) ∧ Only g w w'

set_option maxHeartbeats 1000000 in
/-- 'addTimes'. -/
theorem addTimes_any (S A : Option Addr) (sc c n k g o : Nat) (a r b l : List Nat) (w : World) (hS : 0 < n → S = some ⟨g, o, none⟩) (hn : n ≤ 1000000) (ho : a.length = o) (hr : r.length = n) (hl : l.length = n)
    (hB : Blk w g 43 (blkOf .u32 (a ++ r ++ b))) (hrb : ∀ x ∈ r, x < 4294967296) (hlb : ∀ x ∈ l, x < 4294967296) (hk : k < 4294967296) (hA : ArrO g 43 .u32 w A l) :
    Calls Tryd.prog 50 #[.slice S n sc, .slice A n c, .int .u32 k] w (RetT g n a b (val 4294967296 r + k * val 4294967296 l) w) := by
  go_enter Tryd.func50, Tryd.ntmps50
  go_wp2
  go_loopw [7, 12] (fun cr t wr => ∃ (j cy : Nat) (r' : List Nat), t = .int .i64 j ∧ cr = .int .u64 cy ∧ j ≤ n ∧ cy < 4294967296 ∧ r'.length = n ∧ (∀ x ∈ r', x < 4294967296) ∧ r'.drop j = r.drop j ∧ val 4294967296 r' + 4294967296 ^ j * cy = val 4294967296 r + k * val 4294967296 (l.take j) ∧ Blk wr g 43 (blkOf .u32 (a ++ r' ++ b)) ∧ Only g w wr) (fun _ t _ => n - (intOf t).toNat)
  case atStart => exact ⟨0, 0, r, rfl, rfl, by omega, by omega, hr, hrb, rfl, by simp [val], hB, Only.refl _ _⟩
  case round =>
    obtain ⟨j, cy, r', rfl, rfl, hj, hcy, hr', hrb', hd, hval, hB', hO⟩ := hrel
    have HV := Lib.hid hval
    have HR := Lib.hid hr'
    have HD := Lib.hid hd
    have HL := Lib.hid hl
    have HRl := Lib.hid hr
    have HOo := Lib.hid ho
    clear hval hr' hd hl hr ho
    by_cases hjn : j < n
    · have hs := hS (by omega)
      subst hs
      obtain ⟨ad, rfl, hab, hy⟩ := (hA.only hO).arr.row.at_ (i := j) (by rw [HL.out]; exact hjn)
      have hy1 := getD_lt (b := 4294967296) (by decide) hlb j
      have hx1 := getD_lt (b := 4294967296) (by decide) hrb' j
      have hxc : wr.cell? ⟨g, o + j, none⟩ = some (.int .u32 (r'.getD j 0 : Nat)) := by
        rw [hB'.cell, blkOf_get .u32 _ (by rw [List.length_append, List.length_append, HOo.out, HR.out]; omega), ← HOo.out, mid_get a r' b (by rw [HR.out]; exact hjn)]
      have hfr := hB'.free (o + j)
      have hstep := val_set 4294967296 r' j ((k * l.getD j 0 + r'.getD j 0 + cy) % 4294967296) (by rw [HR.out]; exact hjn)
      have hv2 := times_step 4294967296 j k (l.getD j 0) (r'.getD j 0) cy _ _ _ _ HV.out hstep
      have hB2 : ∀ W : World, Blk W g 43 (blkOf .u32 (a ++ r' ++ b)) → Blk (W.setCell ⟨g, o + j, none⟩ (.int .u32 ((k * l.getD j 0 + r'.getD j 0 + cy) % 4294967296 : Nat))) g 43 (blkOf .u32 (a ++ r'.set j ((k * l.getD j 0 + r'.getD j 0 + cy) % 4294967296) ++ b)) := fun W hW => by
        rw [← mid_set a r' b (by rw [HR.out]; exact hjn), HOo.out, ← blkOf_set]
        exact hW.set_ _ _
      rw [← val_take_next] at hv2
      have hd2 : (r'.set j ((k * l.getD j 0 + r'.getD j 0 + cy) % 4294967296)).drop (j + 1) = r.drop (j + 1) := by
        rw [List.drop_set_of_lt (by omega)]
        have := congrArg (List.drop 1) HD.out
        rw [List.drop_drop, List.drop_drop] at this
        exact this
      obtain ⟨y, hye⟩ : ∃ y, y = l.getD j 0 := ⟨_, rfl⟩
      obtain ⟨x, hxe⟩ : ∃ x, x = r'.getD j 0 := ⟨_, rfl⟩
      rw [← hye] at hy hy1 hv2 hB2 hd2
      rw [← hxe] at hxc hx1 hv2 hB2 hd2
      have hp : k * y ≤ 4294967295 * 4294967295 := Nat.mul_le_mul (by omega) (by omega)
      obtain ⟨p, hpe⟩ : ∃ p, p = k * y := ⟨_, rfl⟩
      have hpI : (k : Int) * (y : Int) = (p : Int) := by rw [hpe]; exact (Int.natCast_mul k y).symm
      rw [← hpe] at hp hv2 hB2 hd2
      have hp : p ≤ 18446744065119617025 := hp
      have HV2 := Lib.hid hv2
      have HB2 := Lib.hid hB2
      have HD2 := Lib.hid hd2
      clear hye hxe hpe hstep hv2 hB2 hd2
      have hj0 : (0 : Int) ≤ (j : Int) := by omega
      have hj1 : (j : Int) < (n : Int) := by omega
      have hw1 : IntKind.u64.wrap (k : Int) = (k : Int) := by simp [IntKind.wrap, IntKind.bits, IntKind.signed]; omega
      have hw2 : IntKind.u64.wrap (y : Int) = (y : Int) := by simp [IntKind.wrap, IntKind.bits, IntKind.signed]; omega
      have hw3 : IntKind.u64.wrap (x : Int) = (x : Int) := by simp [IntKind.wrap, IntKind.bits, IntKind.signed]; omega
      have hw4 : IntKind.u64.wrap (p : Int) = (p : Int) := by simp [IntKind.wrap, IntKind.bits, IntKind.signed]; omega
      have hw5 : IntKind.u64.wrap ((p : Int) + (x : Int)) = (p : Int) + (x : Int) := by simp [IntKind.wrap, IntKind.bits, IntKind.signed]; omega
      have hw6 : IntKind.u64.wrap ((p : Int) + (x : Int) + (cy : Int)) = (p : Int) + (x : Int) + (cy : Int) := by simp [IntKind.wrap, IntKind.bits, IntKind.signed]; omega
      go_wp2
      go_quiet (fail)
      have hb3 := HB2.out (wr.drewN nq) hB'
      have ho3 := (hO.drewN nq).set_ (o + j) (.int .u32 ((p + x + cy) % 4294967296 : Nat))
      have hnat : (((p + x + cy) % 4294967296 : Nat) : Int) = ((p : Int) + (x : Int) + (cy : Int)) % 4294967296 := by omega
      rw [hnat] at hb3 ho3
      clear hw1 hw2 hw3 hw4 hw5 hw6 hnat hpI
      go_wp2
      go_roundw
      case rel => exact ⟨j + 1, (p + x + cy) / 4294967296, r'.set j ((p + x + cy) % 4294967296), by go_num, by go_num, by omega, by omega, by rw [List.length_set]; exact HR.out, set_lt hrb' j (Nat.mod_lt _ (by decide)), HD2.out, HV2.out, hb3, ho3⟩
      case measure => simp [intOf]; omega
    · have hjn' : j = n := by omega
      subst hjn'
      have hv := HV.out
      rw [List.take_of_length_le (by rw [HL.out]; omega)] at hv
      have HV2 := Lib.hid hv
      clear hv
      go_wp2
      go_ret
      exact ⟨r', cy, by simp, hcy, HR.out, hrb', HV2.out, hB', hO⟩
end Go.Proofs.YtobfhidajcnfdaaDoor
