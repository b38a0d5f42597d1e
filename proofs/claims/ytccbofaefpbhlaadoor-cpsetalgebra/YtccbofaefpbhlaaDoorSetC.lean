/-
  cpset: the last span that is not beyond; Has, Index, At.
  cpset: spanAt, Has.
-/
import Derived.Test.YtccbofaefpbhlaaDoorSetA
namespace Go.Proofs.YtccbofaefpbhlaaDoor
set_option linter.unusedVariables false
set_option maxRecDepth 20000
open Go.RowKit

/-- A span as a value. -/
def spanV (S : List (Nat × Nat)) (i : Nat) : Value := .agg #[.int .i32 ((S.getD i (0, 0)).1 : Nat), .int .i32 ((S.getD i (0, 0)).2 : Nat), .int .i64 (cnt (S.take i) : Nat)]

theorem beyondC_any (a b k : Nat) (c : Int) (g : Nat) (w : World) (hc : w.cell? ⟨g, 0, none⟩ = some (.int .i32 c)) (hl : g < w.heap.size) :
    Calls Tryd.prog 104 (#[.agg #[.int .i32 a, .int .i32 b, .int .i64 k]] ++ #[.pointer (some ⟨g, 0, none⟩)]) w (RetV (.bool (decide (c < (a : Int)))) w) := by
  go_enter Tryd.func104, Tryd.ntmps104
  go_wp2
  go_ret
  exact ⟨rfl, below_new _ _⟩
theorem beyondI_any (a b k : Nat) (i : Int) (g : Nat) (w : World) (hc : w.cell? ⟨g, 0, none⟩ = some (.int .i64 i)) (hl : g < w.heap.size) :
    Calls Tryd.prog 76 (#[.agg #[.int .i32 a, .int .i32 b, .int .i64 k]] ++ #[.pointer (some ⟨g, 0, none⟩)]) w (RetV (.bool (decide (i < (k : Int)))) w) := by
  go_enter Tryd.func76, Tryd.ntmps76
  go_wp2
  go_ret
  exact ⟨rfl, below_new _ _⟩

set_option maxHeartbeats 2000000 in
theorem last1_any (S : List (Nat × Nat)) (A : Option Addr) (c gb g3 g2 i : Nat) (cb : Array Value) (b : Bool) (w : World) (h3 : Blk w g3 101 #[.func (.func gb) #[] cb]) (h2 : Blk w g2 29 #[.slice A S.length c]) (hs : SpansAt w A S) (hg : Good 0 S) (hi : i < S.length)
    (eg : ∀ args w, (callFunc gb args).run Tryd.prog w = .ok (.enter gb args) w) (hf : ∀ W, Below w.heap.size w W → Calls Tryd.prog gb (#[spanV S i] ++ cb) W (RetV (.bool b) W)) :
    Calls Tryd.prog 103 (#[.int .i64 (i : Int)] ++ #[.pointer (some ⟨g3, 0, none⟩), .pointer (some ⟨g2, 0, none⟩)]) w (RetV (.bool b) w) := by
  have hlen := hg.len (by decide)
  obtain ⟨g, rfl, hl, c1, c2, c3⟩ := hs.at_ hi
  have k3 := h3.cell0
  have k2 := h2.cell0
  have l3 := h3.lt
  have l2 := h2.lt
  have HF := Lib.hid hf
  unfold spanV at HF
  generalize (S.getD i (0, 0)).1 = a at *
  generalize (S.getD i (0, 0)).2 = b' at *
  generalize cnt (S.take i) = q at *
  generalize S.length = n at *
  clear hf hs hg h3 h2
  go_enter Tryd.func103, Tryd.ntmps103
  go_wp2_with fail
  go_region_held3 (fun w' => w'.cell? ⟨g3, 0, none⟩ = some (.func (.func gb) #[] cb) ∧ w'.cell? ⟨g2, 0, none⟩ = some (.slice (some ⟨g, 0, none⟩) n c) ∧ w'.cell? ⟨g, i * 3, none⟩ = some (.int .i32 (a : Nat)) ∧ w'.cell? ⟨g, i * 3 + 1, none⟩ = some (.int .i32 (b' : Nat)) ∧ w'.cell? ⟨g, i * 3 + 2, none⟩ = some (.int .i64 (q : Nat)))
    (first | exact ⟨k3, k2, c1, c2, c3⟩ | exact ⟨(hw1.cell (p := ⟨g3, 0, none⟩) l3).trans k3, (hw1.cell (p := ⟨g2, 0, none⟩) l2).trans k2, (hw1.cell (p := ⟨g, i * 3, none⟩) hl).trans c1, (hw1.cell (p := ⟨g, i * 3 + 1, none⟩) hl).trans c2, (hw1.cell (p := ⟨g, i * 3 + 2, none⟩) hl).trans c3⟩)
    (first
      | (refine (HF.out _ (below_drew _)).mono ?_; rintro e x1 ⟨rfl, y1⟩; have hw1 : Below w.heap.size w x1 := below_step (below_drew _) y1))
  go_wp2
  go_ret
  exact ⟨rfl, hw1⟩

theorem blk_three (w : World) (o1 o2 : Obj) (t : TypeId) (cs : Array Value) : Blk (((w.alloc o1).alloc o2).alloc (.cells cs t)) (w.heap.size + 1 + 1) t cs := by
  have := Blk.new ((w.alloc o1).alloc o2) t cs
  simpa using this
theorem blk_two (w : World) (o1 : Obj) (t : TypeId) (cs : Array Value) : Blk ((w.alloc o1).alloc (.cells cs t)) (w.heap.size + 1) t cs := by
  have := Blk.new (w.alloc o1) t cs
  simpa using this
theorem Blk.cells3 {w : World} {g : Nat} {t : TypeId} {x y z : Value} (h : Blk w g t #[x, y, z]) : w.cell? ⟨g, 0, none⟩ = some x ∧ w.cell? ⟨g, 1, none⟩ = some y ∧ w.cell? ⟨g, 2, none⟩ = some z := ⟨(h.cell 0).trans rfl, (h.cell 1).trans rfl, (h.cell 2).trans rfl⟩

/-- Three cells stored one after another. -/
theorem Blk.store3 {w : World} {g : Nat} {t : TypeId} {x y z : Value} (h : Blk w g t #[x, y, z]) (a b c : Value) :
    (w.cell? ⟨g, 0, none⟩ = some x ∧ w.frozen? ⟨g, 0, none⟩ = false) ∧ ((w.setCell ⟨g, 0, none⟩ a).cell? ⟨g, 1, none⟩ = some y ∧ (w.setCell ⟨g, 0, none⟩ a).frozen? ⟨g, 1, none⟩ = false) ∧
    (((w.setCell ⟨g, 0, none⟩ a).setCell ⟨g, 1, none⟩ b).cell? ⟨g, 2, none⟩ = some z ∧ ((w.setCell ⟨g, 0, none⟩ a).setCell ⟨g, 1, none⟩ b).frozen? ⟨g, 2, none⟩ = false) ∧
    Blk (((w.setCell ⟨g, 0, none⟩ a).setCell ⟨g, 1, none⟩ b).setCell ⟨g, 2, none⟩ c) g t #[a, b, c] := by
  have h5 : Blk (w.setCell ⟨g, 0, none⟩ a) g t #[a, y, z] := h.set_ 0 a
  have h6 : Blk ((w.setCell ⟨g, 0, none⟩ a).setCell ⟨g, 1, none⟩ b) g t #[a, b, z] := h5.set_ 1 b
  exact ⟨⟨h.cells3.1, h.free 0⟩, ⟨h5.cells3.2.1, h5.free 1⟩, ⟨h6.cells3.2.2, h6.free 2⟩, h6.set_ 2 c⟩
theorem below_set3 {B g : Nat} {V w : World} (h : Below B V w) (hg : B ≤ g) (a b c : Value) : Below B V (((w.setCell ⟨g, 0, none⟩ a).setCell ⟨g, 1, none⟩ b).setCell ⟨g, 2, none⟩ c) :=
  ((h.setCell (p := ⟨g, 0, none⟩) hg a).setCell (p := ⟨g, 1, none⟩) hg b).setCell (p := ⟨g, 2, none⟩) hg c

set_option maxHeartbeats 4000000 in
theorem lastSpan_none (S : List (Nat × Nat)) (A : Option Addr) (c gb : Nat) (cb : Array Value) (p : Nat → Bool) (w : World) (hs : SpansAt w A S) (hg : Good 0 S) (hp : ∀ i, i < S.length → (p i = true ↔ 0 ≤ i))
    (eg : ∀ args w, (callFunc gb args).run Tryd.prog w = .ok (.enter gb args) w) (hf : ∀ W, Below w.heap.size w W → ∀ i, i < S.length → Calls Tryd.prog gb (#[spanV S i] ++ cb) W (RetV (.bool (p i)) W)) :
    Calls Tryd.prog 75 #[.agg #[.slice A S.length c], .func (.func gb) #[] cb] w (RetV (.tuple #[.agg #[.int .i32 0, .int .i32 0, .int .i64 0], .bool false]) w) := by
  have hlen := hg.len (by decide)
  have hX2 := ((Blk.new w 29 #[.slice A S.length c]).alloc (.cells #[.func (.func gb) #[] cb] 101)).alloc (.cells #[.int .i32 0, .int .i32 0, .int .i64 0] 95)
  have hX3 := (blk_two w (.cells #[.slice A S.length c] 29) 101 #[.func (.func gb) #[] cb]).alloc (.cells #[.int .i32 0, .int .i32 0, .int .i64 0] 95)
  have hX4 := blk_three w (.cells #[.slice A S.length c] 29) (.cells #[.func (.func gb) #[] cb] 101) 95 #[.int .i32 0, .int .i32 0, .int .i64 0]
  have bW := below_step (below_step (below_new w (.cells #[.slice A S.length c] 29)) (below_new _ (.cells #[.func (.func gb) #[] cb] 101))) (below_new _ (.cells #[.int .i32 0, .int .i32 0, .int .i64 0] 95))
  have SE := Lib.hid (search_any 103 #[.pointer (some ⟨w.heap.size + 1, 0, none⟩), .pointer (some ⟨w.heap.size, 0, none⟩)] S.length 0 p _ (by omega) (by omega) hp (enters_of Tryd.func103 (by kernel_rfl) rfl)
    (fun W hW i hi => last1_any S A c gb _ _ i cb (p i) W (hX3.on hW) (hX2.on hW) (hs.below (below_step bW hW)) hg hi eg (fun W' hW' => hf W' (below_step (below_step bW hW) hW') i hi)))
  clear hf hp hs hg eg
  generalize S.length = n at *
  go_enter Tryd.func75, Tryd.ntmps75
  go_wp2_with fail
  generalize ((w.alloc (.cells #[.slice A n c] 29)).alloc (.cells #[.func (.func gb) #[] cb] 101)).alloc (.cells #[.int .i32 0, .int .i32 0, .int .i64 0] 95) = W at *
  refine SE.out.mono ?_
  rintro e w1 ⟨rfl, y1⟩
  have b1 := below_step bW y1
  obtain ⟨⟨z0, f0⟩, ⟨z1, f1⟩, ⟨z2, f2⟩, hX⟩ := (hX4.on y1).store3 (.int .i32 0) (.int .i32 0) (.int .i64 0)
  obtain ⟨q0, q1, q2⟩ := hX.cells3
  go_wp2
  exact bodyPost_ret (v := .tuple #[.agg #[.int .i32 0, .int .i32 0, .int .i64 0], .bool false]) (by simp [results, Tryd.results75, go_sem, q0, q1, q2]) rfl ⟨rfl, below_set3 b1 (by omega) _ _ _⟩

set_option maxHeartbeats 4000000 in
theorem lastSpan_some (S : List (Nat × Nat)) (A : Option Addr) (c gb k : Nat) (cb : Array Value) (p : Nat → Bool) (w : World) (hs : SpansAt w A S) (hg : Good 0 S) (hk : k < S.length) (hp : ∀ i, i < S.length → (p i = true ↔ (k + 1) ≤ i))
    (eg : ∀ args w, (callFunc gb args).run Tryd.prog w = .ok (.enter gb args) w) (hf : ∀ W, Below w.heap.size w W → ∀ i, i < S.length → Calls Tryd.prog gb (#[spanV S i] ++ cb) W (RetV (.bool (p i)) W)) :
    Calls Tryd.prog 75 #[.agg #[.slice A S.length c], .func (.func gb) #[] cb] w (RetV (.tuple #[spanV S k, .bool true]) w) := by
  have hlen := hg.len (by decide)
  have hX2 := ((Blk.new w 29 #[.slice A S.length c]).alloc (.cells #[.func (.func gb) #[] cb] 101)).alloc (.cells #[.int .i32 0, .int .i32 0, .int .i64 0] 95)
  have hX3 := (blk_two w (.cells #[.slice A S.length c] 29) 101 #[.func (.func gb) #[] cb]).alloc (.cells #[.int .i32 0, .int .i32 0, .int .i64 0] 95)
  have hX4 := blk_three w (.cells #[.slice A S.length c] 29) (.cells #[.func (.func gb) #[] cb] 101) 95 #[.int .i32 0, .int .i32 0, .int .i64 0]
  have bW := below_step (below_step (below_new w (.cells #[.slice A S.length c] 29)) (below_new _ (.cells #[.func (.func gb) #[] cb] 101))) (below_new _ (.cells #[.int .i32 0, .int .i32 0, .int .i64 0] 95))
  have SE := Lib.hid (search_any 103 #[.pointer (some ⟨w.heap.size + 1, 0, none⟩), .pointer (some ⟨w.heap.size, 0, none⟩)] S.length (k + 1) p _ (by omega) (by omega) hp (enters_of Tryd.func103 (by kernel_rfl) rfl)
    (fun W hW i hi => last1_any S A c gb _ _ i cb (p i) W (hX3.on hW) (hX2.on hW) (hs.below (below_step bW hW)) hg hi eg (fun W' hW' => hf W' (below_step (below_step bW hW) hW') i hi)))
  obtain ⟨g, rfl, hl, c1, c2, c3⟩ := hs.at_ hk
  clear hf hp hg eg
  obtain ⟨a, ha⟩ : ∃ a, (S.getD k (0, 0)).1 = a := ⟨_, rfl⟩
  obtain ⟨b, hb⟩ : ∃ b, (S.getD k (0, 0)).2 = b := ⟨_, rfl⟩
  obtain ⟨q, hq⟩ : ∃ q, cnt (S.take k) = q := ⟨_, rfl⟩
  have hsv : spanV S k = .agg #[.int .i32 (a : Nat), .int .i32 (b : Nat), .int .i64 (q : Nat)] := by rw [spanV, ha, hb, hq]
  rw [ha] at c1
  rw [hb] at c2
  rw [hq] at c3
  rw [hsv]
  clear ha hb hq hsv hs
  generalize S.length = n at *
  have hk1 : ((k + 1 : Nat) : Int) - 1 = (k : Int) := by omega
  have hkz : (((k + 1 : Nat) : Int) == 0) = false := by simp; omega
  have hkb : k ≤ 1000000 := by omega
  have hg1 : w.heap.size ≤ w.heap.size + 1 + 1 := by omega
  go_enter Tryd.func75, Tryd.ntmps75
  go_wp2_with fail
  generalize ((w.alloc (.cells #[.slice (some ⟨g, 0, none⟩) n c] 29)).alloc (.cells #[.func (.func gb) #[] cb] 101)).alloc (.cells #[.int .i32 0, .int .i32 0, .int .i64 0] 95) = W at *
  refine SE.out.mono ?_
  rintro e w1 ⟨rfl, y1⟩
  have b1 := below_step bW y1
  have k2 := (hX2.on y1).cell0
  have c1 := (b1.cell (p := ⟨g, k * 3, none⟩) hl).trans c1
  have c2 := (b1.cell (p := ⟨g, k * 3 + 1, none⟩) hl).trans c2
  have c3 := (b1.cell (p := ⟨g, k * 3 + 2, none⟩) hl).trans c3
  obtain ⟨⟨z0, f0⟩, ⟨z1, f1⟩, ⟨z2, f2⟩, hX⟩ := (hX4.on y1).store3 (.int .i32 (a : Nat)) (.int .i32 (b : Nat)) (.int .i64 (q : Nat))
  obtain ⟨q0, q1, q2⟩ := hX.cells3
  go_wp2
  exact bodyPost_ret (v := .tuple #[.agg #[.int .i32 (a : Nat), .int .i32 (b : Nat), .int .i64 (q : Nat)], .bool true]) (by simp [results, Tryd.results75, go_sem, q0, q1, q2]) rfl ⟨rfl, below_set3 b1 hg1 _ _ _⟩

/-- 'spanAt': the last span that begins with c, or ahead of it. -/
theorem beyond_upto {S : List (Nat × Nat)} (hg : Good 0 S) (c : Int) (i : Nat) (hi : i < S.length) : decide (c < ((S.getD i (0, 0)).1 : Int)) = true ↔ upto S c ≤ i := by
  rw [decide_eq_true_iff, upto_iff hg c hi]
end Go.Proofs.YtccbofaefpbhlaaDoor

namespace Go.Proofs.YtccbofaefpbhlaaDoor
set_option linter.unusedVariables false
set_option maxRecDepth 20000
open Go.RowKit

/-- Is a number, whatever it is, a character of the set? -/
def memI (S : List (Nat × Nat)) (c : Int) : Bool := decide (0 ≤ c) && memS S c.toNat
theorem memI_none {S : List (Nat × Nat)} (hg : Good 0 S) (c : Int) (h : upto S c = 0) : memI S c = false := by
  rw [memI, Bool.and_eq_false_iff]
  by_cases h0 : 0 ≤ c
  · right
    cases hm : memS S c.toNat with
    | false => rfl
    | true =>
      obtain ⟨i, hi, h1, h2⟩ := (memS_iff S c.toNat).1 hm
      have := (upto_iff hg c hi).1 (by omega)
      omega
  · exact .inl (by simpa using h0)
theorem memI_some {S : List (Nat × Nat)} (hg : Good 0 S) (c : Int) (k : Nat) (h : upto S c = k + 1) (hk : k < S.length) : memI S c = decide (c ≤ ((S.getD k (0, 0)).2 : Int)) ∧ ((S.getD k (0, 0)).1 : Int) ≤ c := by
  have h1 : ((S.getD k (0, 0)).1 : Int) ≤ c := by
    by_cases h2 : c < ((S.getD k (0, 0)).1 : Int)
    · have := (upto_iff hg c hk).2 h2; omega
    · omega
  refine ⟨?_, h1⟩
  rw [Bool.eq_iff_iff, memI, Bool.and_eq_true, decide_eq_true_iff, decide_eq_true_iff, memS_iff]
  constructor
  · rintro ⟨h0, i, hi, h2, h3⟩
    rcases Nat.lt_trichotomy i k with h4 | h4 | h4
    · have := hg.next h4 hk; omega
    · subst h4; omega
    · have := (upto_iff hg c hi).1 (by omega); omega
  · intro h2
    exact ⟨by omega, k, hk, by omega, by omega⟩
theorem upto_pos {S : List (Nat × Nat)} (c : Int) (h : upto S c ≠ 0) : ∃ k, upto S c = k + 1 ∧ k < S.length := ⟨upto S c - 1, by omega, by have := upto_le S c; omega⟩

set_option maxHeartbeats 2000000 in
theorem spanAt_none (S : List (Nat × Nat)) (v : Value) (c : Int) (w : World) (h : IsSet w v S) (hu : upto S c = 0) :
    Calls Tryd.prog 77 #[v, .int .i32 c] w (RetV (.tuple #[.agg #[.int .i32 0, .int .i32 0, .int .i64 0], .bool false]) w) := by
  obtain ⟨A, cp, rfl, hs, hg⟩ := h
  have hX2 := ((Blk.new w 29 #[.slice A S.length cp]).alloc (.cells #[.int .i32 c] 21)).alloc (.cells #[.int .i32 0, .int .i32 0, .int .i64 0] 95)
  have hX3 := (blk_two w (.cells #[.slice A S.length cp] 29) 21 #[.int .i32 c]).alloc (.cells #[.int .i32 0, .int .i32 0, .int .i64 0] 95)
  have hX4 := blk_three w (.cells #[.slice A S.length cp] 29) (.cells #[.int .i32 c] 21) 95 #[.int .i32 0, .int .i32 0, .int .i64 0]
  have bW := below_step (below_step (below_new w (.cells #[.slice A S.length cp] 29)) (below_new _ (.cells #[.int .i32 c] 21))) (below_new _ (.cells #[.int .i32 0, .int .i32 0, .int .i64 0] 95))
  have LS := Lib.hid (lastSpan_none S A cp 104 #[.pointer (some ⟨w.heap.size + 1, 0, none⟩)] (fun i => decide (c < ((S.getD i (0, 0)).1 : Int))) _ (hs.below bW) hg (fun i hi => (beyond_upto hg c i hi).trans (by rw [hu])) (enters_of Tryd.func104 (by kernel_rfl) rfl)
    (fun W hW i hi => beyondC_any _ _ _ c (w.heap.size + 1) W (hX3.on hW).cell0 (hX3.on hW).lt))
  have hle : w.heap.size ≤ w.heap.size + 1 + 1 := by omega
  clear hs hg hu
  generalize S.length = n at *
  go_enter Tryd.func77, Tryd.ntmps77
  go_wp2_with fail
  generalize ((w.alloc (.cells #[.slice A n cp] 29)).alloc (.cells #[.int .i32 c] 21)).alloc (.cells #[.int .i32 0, .int .i32 0, .int .i64 0] 95) = W at *
  refine LS.out.mono ?_
  rintro e w1 ⟨rfl, y1⟩
  have b1 := below_step bW y1
  obtain ⟨⟨z0, f0⟩, ⟨z1, f1⟩, ⟨z2, f2⟩, hX⟩ := (hX4.on y1).store3 (.int .i32 0) (.int .i32 0) (.int .i64 0)
  obtain ⟨q0, q1, q2⟩ := hX.cells3
  go_wp2
  exact bodyPost_ret (v := .tuple #[.agg #[.int .i32 0, .int .i32 0, .int .i64 0], .bool false]) (by simp [results, Tryd.results77, go_sem, q0, q1, q2]) rfl ⟨rfl, below_set3 b1 hle _ _ _⟩

set_option maxHeartbeats 2000000 in
theorem spanAt_some (S : List (Nat × Nat)) (v : Value) (c : Int) (k a b q : Nat) (w : World) (h : IsSet w v S) (hu : upto S c = k + 1) (hk : k < S.length) (hsv : spanV S k = .agg #[.int .i32 (a : Nat), .int .i32 (b : Nat), .int .i64 (q : Nat)]) :
    Calls Tryd.prog 77 #[v, .int .i32 c] w (RetV (.tuple #[.agg #[.int .i32 (a : Nat), .int .i32 (b : Nat), .int .i64 (q : Nat)], .bool true]) w) := by
  obtain ⟨A, cp, rfl, hs, hg⟩ := h
  have hX2 := ((Blk.new w 29 #[.slice A S.length cp]).alloc (.cells #[.int .i32 c] 21)).alloc (.cells #[.int .i32 0, .int .i32 0, .int .i64 0] 95)
  have hX3 := (blk_two w (.cells #[.slice A S.length cp] 29) 21 #[.int .i32 c]).alloc (.cells #[.int .i32 0, .int .i32 0, .int .i64 0] 95)
  have hX4 := blk_three w (.cells #[.slice A S.length cp] 29) (.cells #[.int .i32 c] 21) 95 #[.int .i32 0, .int .i32 0, .int .i64 0]
  have bW := below_step (below_step (below_new w (.cells #[.slice A S.length cp] 29)) (below_new _ (.cells #[.int .i32 c] 21))) (below_new _ (.cells #[.int .i32 0, .int .i32 0, .int .i64 0] 95))
  have LS := lastSpan_some S A cp 104 k #[.pointer (some ⟨w.heap.size + 1, 0, none⟩)] (fun i => decide (c < ((S.getD i (0, 0)).1 : Int))) _ (hs.below bW) hg hk (fun i hi => (beyond_upto hg c i hi).trans (by rw [hu])) (enters_of Tryd.func104 (by kernel_rfl) rfl)
    (fun W hW i hi => beyondC_any _ _ _ c (w.heap.size + 1) W (hX3.on hW).cell0 (hX3.on hW).lt)
  rw [hsv] at LS
  have HLS := Lib.hid LS
  have hle : w.heap.size ≤ w.heap.size + 1 + 1 := by omega
  clear hs hg hu LS hsv hk
  generalize S.length = n at *
  go_enter Tryd.func77, Tryd.ntmps77
  go_wp2_with fail
  generalize ((w.alloc (.cells #[.slice A n cp] 29)).alloc (.cells #[.int .i32 c] 21)).alloc (.cells #[.int .i32 0, .int .i32 0, .int .i64 0] 95) = W at *
  refine HLS.out.mono ?_
  rintro e w1 ⟨rfl, y1⟩
  have b1 := below_step bW y1
  obtain ⟨⟨z0, f0⟩, ⟨z1, f1⟩, ⟨z2, f2⟩, hX⟩ := (hX4.on y1).store3 (.int .i32 (a : Nat)) (.int .i32 (b : Nat)) (.int .i64 (q : Nat))
  obtain ⟨q0, q1, q2⟩ := hX.cells3
  go_wp2
  exact bodyPost_ret (v := .tuple #[.agg #[.int .i32 (a : Nat), .int .i32 (b : Nat), .int .i64 (q : Nat)], .bool true]) (by simp [results, Tryd.results77, go_sem, q0, q1, q2]) rfl ⟨rfl, below_set3 b1 hle _ _ _⟩

theorem spanV_parts (S : List (Nat × Nat)) (k : Nat) : spanV S k = .agg #[.int .i32 ((S.getD k (0, 0)).1 : Nat), .int .i32 ((S.getD k (0, 0)).2 : Nat), .int .i64 (cnt (S.take k) : Nat)] := rfl

set_option maxHeartbeats 2000000 in
theorem has_any (S : List (Nat × Nat)) (v : Value) (c : Int) (b : Bool) (w : World) (h : IsSet w v S) (hb : memI S c = b) : Calls Tryd.prog 41 #[v, .int .i32 c] w (RetV (.bool b) w) := by
  have hg : Good 0 S := by obtain ⟨_, _, _, _, hg⟩ := h; exact hg
  obtain ⟨A, cp, rfl⟩ := h.shape
  have bW := below_new w (.cells #[.slice A S.length cp] 29)
  have h' := h.alloc (.cells #[.slice A S.length cp] 29)
  by_cases hu : upto S c = 0
  · rw [memI_none hg c hu] at hb
    subst hb
    have SP := Lib.hid (spanAt_none S _ c _ h' hu)
    clear hu hg h h'
    generalize S.length = n at *
    go_enter Tryd.func41, Tryd.ntmps41
    go_wp2_with fail
    refine SP.out.mono ?_
    rintro e w1 ⟨rfl, y1⟩
    go_wp2
    go_ret
    exact ⟨rfl, (below_step bW y1).alloc (below_step bW y1).size _⟩
  · obtain ⟨k, hk, hkl⟩ := upto_pos c hu
    obtain ⟨hm, ha⟩ := memI_some hg c k hk hkl
    rw [hm] at hb
    obtain ⟨_, _, hb3, _⟩ := hg.at_ hkl
    have SP := Lib.hid (spanAt_some S _ c k _ _ _ _ h' hk hkl (spanV_parts S k))
    generalize (S.getD k (0, 0)).1 = a at *
    generalize (S.getD k (0, 0)).2 = b' at *
    generalize cnt (S.take k) = q at *
    clear hu hg h h' hk hkl hm
    generalize S.length = n at *
    subst hb
    go_enter Tryd.func41, Tryd.ntmps41
    go_wp2_with fail
    refine SP.out.mono ?_
    rintro e w1 ⟨rfl, y1⟩
    go_wp2
    all_goals
      go_ret
      exact ⟨rfl, (below_step bW y1).alloc (below_step bW y1).size _⟩
end Go.Proofs.YtccbofaefpbhlaaDoor
