/-
  cpset: spanAt, Has.
-/
import Derived.Test.YtccbofaefpbhlaaDoorSetB
namespace Go.Proofs.YtccbofaefpbhlaaDoor
set_option linter.unusedVariables false
set_option maxRecDepth 20000
open Go.RowKit

/-- Is a number, whatever it is, a character of the set? -/
def memI (S : List (Nat × Nat)) (c : Int) : Bool := decide (0 ≤ c) && memS S c.toNat
theorem memI_none {S : List (Nat × Nat)} (hg : Good 0 S) (c : Int) (h : upto S c = 0) : memI S c = false := by
  rw [memI, Bool.and_eq_false_iff]
  by_cases h0 : 0 ≤ c
  · right
    cases hm : memS S c.toNat with
    | false => rfl
    | true =>
      obtain ⟨i, hi, h1, h2⟩ := (memS_iff S c.toNat).1 hm
      have := (upto_iff hg c hi).1 (by omega)
      omega
  · exact .inl (by simpa using h0)
theorem memI_some {S : List (Nat × Nat)} (hg : Good 0 S) (c : Int) (k : Nat) (h : upto S c = k + 1) (hk : k < S.length) : memI S c = decide (c ≤ ((S.getD k (0, 0)).2 : Int)) ∧ ((S.getD k (0, 0)).1 : Int) ≤ c := by
  have h1 : ((S.getD k (0, 0)).1 : Int) ≤ c := by
    by_cases h2 : c < ((S.getD k (0, 0)).1 : Int)
    · have := (upto_iff hg c hk).2 h2; omega
    · omega
  refine ⟨?_, h1⟩
  rw [Bool.eq_iff_iff, memI, Bool.and_eq_true, decide_eq_true_iff, decide_eq_true_iff, memS_iff]
  constructor
  · rintro ⟨h0, i, hi, h2, h3⟩
    rcases Nat.lt_trichotomy i k with h4 | h4 | h4
    · have := hg.next h4 hk; omega
    · subst h4; omega
    · have := (upto_iff hg c hi).1 (by omega); omega
  · intro h2
    exact ⟨by omega, k, hk, by omega, by omega⟩
theorem upto_pos {S : List (Nat × Nat)} (c : Int) (h : upto S c ≠ 0) : ∃ k, upto S c = k + 1 ∧ k < S.length := ⟨upto S c - 1, by omega, by have := upto_le S c; omega⟩

set_option maxHeartbeats 2000000 in
theorem spanAt_none (S : List (Nat × Nat)) (v : Value) (c : Int) (w : World) (h : IsSet w v S) (hu : upto S c = 0) :
    Calls Tryd.prog 77 #[v, .int .i32 c] w (RetV (.tuple #[.agg #[.int .i32 0, .int .i32 0, .int .i64 0], .bool false]) w) := by
  obtain ⟨A, cp, rfl, hs, hg⟩ := h
  have hX2 := ((Blk.new w 29 #[.slice A S.length cp]).alloc (.cells #[.int .i32 c] 21)).alloc (.cells #[.int .i32 0, .int .i32 0, .int .i64 0] 95)
  have hX3 := (blk_two w (.cells #[.slice A S.length cp] 29) 21 #[.int .i32 c]).alloc (.cells #[.int .i32 0, .int .i32 0, .int .i64 0] 95)
  have hX4 := blk_three w (.cells #[.slice A S.length cp] 29) (.cells #[.int .i32 c] 21) 95 #[.int .i32 0, .int .i32 0, .int .i64 0]
  have bW := below_step (below_step (below_new w (.cells #[.slice A S.length cp] 29)) (below_new _ (.cells #[.int .i32 c] 21))) (below_new _ (.cells #[.int .i32 0, .int .i32 0, .int .i64 0] 95))
  have LS := Lib.hid (lastSpan_none S A cp 104 #[.pointer (some ⟨w.heap.size + 1, 0, none⟩)] (fun i => decide (c < ((S.getD i (0, 0)).1 : Int))) _ (hs.below bW) hg (fun i hi => (beyond_upto hg c i hi).trans (by rw [hu])) (enters_of Tryd.func104 (by kernel_rfl) rfl)
    (fun W hW i hi => beyondC_any _ _ _ c (w.heap.size + 1) W (hX3.on hW).cell0 (hX3.on hW).lt))
  have hle : w.heap.size ≤ w.heap.size + 1 + 1 := by omega
  clear hs hg hu
  generalize S.length = n at *
  go_enter Tryd.func77, Tryd.ntmps77
  go_wp2_with fail
  generalize ((w.alloc (.cells #[.slice A n cp] 29)).alloc (.cells #[.int .i32 c] 21)).alloc (.cells #[.int .i32 0, .int .i32 0, .int .i64 0] 95) = W at *
  refine LS.out.mono ?_
  rintro e w1 ⟨rfl, y1⟩
  have b1 := below_step bW y1
  obtain ⟨⟨z0, f0⟩, ⟨z1, f1⟩, ⟨z2, f2⟩, hX⟩ := (hX4.on y1).store3 (.int .i32 0) (.int .i32 0) (.int .i64 0)
  obtain ⟨q0, q1, q2⟩ := hX.cells3
  go_wp2
  exact bodyPost_ret (v := .tuple #[.agg #[.int .i32 0, .int .i32 0, .int .i64 0], .bool false]) (by simp [results, Tryd.results77, go_sem, q0, q1, q2]) rfl ⟨rfl, below_set3 b1 hle _ _ _⟩

set_option maxHeartbeats 2000000 in
theorem spanAt_some (S : List (Nat × Nat)) (v : Value) (c : Int) (k a b q : Nat) (w : World) (h : IsSet w v S) (hu : upto S c = k + 1) (hk : k < S.length) (hsv : spanV S k = .agg #[.int .i32 (a : Nat), .int .i32 (b : Nat), .int .i64 (q : Nat)]) :
    Calls Tryd.prog 77 #[v, .int .i32 c] w (RetV (.tuple #[.agg #[.int .i32 (a : Nat), .int .i32 (b : Nat), .int .i64 (q : Nat)], .bool true]) w) := by
  obtain ⟨A, cp, rfl, hs, hg⟩ := h
  have hX2 := ((Blk.new w 29 #[.slice A S.length cp]).alloc (.cells #[.int .i32 c] 21)).alloc (.cells #[.int .i32 0, .int .i32 0, .int .i64 0] 95)
  have hX3 := (blk_two w (.cells #[.slice A S.length cp] 29) 21 #[.int .i32 c]).alloc (.cells #[.int .i32 0, .int .i32 0, .int .i64 0] 95)
  have hX4 := blk_three w (.cells #[.slice A S.length cp] 29) (.cells #[.int .i32 c] 21) 95 #[.int .i32 0, .int .i32 0, .int .i64 0]
  have bW := below_step (below_step (below_new w (.cells #[.slice A S.length cp] 29)) (below_new _ (.cells #[.int .i32 c] 21))) (below_new _ (.cells #[.int .i32 0, .int .i32 0, .int .i64 0] 95))
  have LS := lastSpan_some S A cp 104 k #[.pointer (some ⟨w.heap.size + 1, 0, none⟩)] (fun i => decide (c < ((S.getD i (0, 0)).1 : Int))) _ (hs.below bW) hg hk (fun i hi => (beyond_upto hg c i hi).trans (by rw [hu])) (enters_of Tryd.func104 (by kernel_rfl) rfl)
    (fun W hW i hi => beyondC_any _ _ _ c (w.heap.size + 1) W (hX3.on hW).cell0 (hX3.on hW).lt)
  rw [hsv] at LS
  have HLS := Lib.hid LS
  have hle : w.heap.size ≤ w.heap.size + 1 + 1 := by omega
  clear hs hg hu LS hsv hk
  generalize S.length = n at *
  go_enter Tryd.func77, Tryd.ntmps77
  go_wp2_with fail
  generalize ((w.alloc (.cells #[.slice A n cp] 29)).alloc (.cells #[.int .i32 c] 21)).alloc (.cells #[.int .i32 0, .int .i32 0, .int .i64 0] 95) = W at *
  refine HLS.out.mono ?_
  rintro e w1 ⟨rfl, y1⟩
  have b1 := below_step bW y1
  obtain ⟨⟨z0, f0⟩, ⟨z1, f1⟩, ⟨z2, f2⟩, hX⟩ := (hX4.on y1).store3 (.int .i32 (a : Nat)) (.int .i32 (b : Nat)) (.int .i64 (q : Nat))
  obtain ⟨q0, q1, q2⟩ := hX.cells3
  go_wp2
  exact bodyPost_ret (v := .tuple #[.agg #[.int .i32 (a : Nat), .int .i32 (b : Nat), .int .i64 (q : Nat)], .bool true]) (by simp [results, Tryd.results77, go_sem, q0, q1, q2]) rfl ⟨rfl, below_set3 b1 hle _ _ _⟩

theorem spanV_parts (S : List (Nat × Nat)) (k : Nat) : spanV S k = .agg #[.int .i32 ((S.getD k (0, 0)).1 : Nat), .int .i32 ((S.getD k (0, 0)).2 : Nat), .int .i64 (cnt (S.take k) : Nat)] := rfl

set_option maxHeartbeats 2000000 in
theorem has_any (S : List (Nat × Nat)) (v : Value) (c : Int) (b : Bool) (w : World) (h : IsSet w v S) (hb : memI S c = b) : Calls Tryd.prog 41 #[v, .int .i32 c] w (RetV (.bool b) w) := by
  have hg : Good 0 S := by obtain ⟨_, _, _, _, hg⟩ := h; exact hg
  obtain ⟨A, cp, rfl⟩ := h.shape
  have bW := below_new w (.cells #[.slice A S.length cp] 29)
  have h' := h.alloc (.cells #[.slice A S.length cp] 29)
  by_cases hu : upto S c = 0
  · rw [memI_none hg c hu] at hb
    subst hb
    have SP := Lib.hid (spanAt_none S _ c _ h' hu)
    clear hu hg h h'
    generalize S.length = n at *
    go_enter Tryd.func41, Tryd.ntmps41
    go_wp2_with fail
    refine SP.out.mono ?_
    rintro e w1 ⟨rfl, y1⟩
    go_wp2
    go_ret
    exact ⟨rfl, (below_step bW y1).alloc (below_step bW y1).size _⟩
  · obtain ⟨k, hk, hkl⟩ := upto_pos c hu
    obtain ⟨hm, ha⟩ := memI_some hg c k hk hkl
    rw [hm] at hb
    obtain ⟨_, _, hb3, _⟩ := hg.at_ hkl
    have SP := Lib.hid (spanAt_some S _ c k _ _ _ _ h' hk hkl (spanV_parts S k))
    generalize (S.getD k (0, 0)).1 = a at *
    generalize (S.getD k (0, 0)).2 = b' at *
    generalize cnt (S.take k) = q at *
    clear hu hg h h' hk hkl hm
    generalize S.length = n at *
    subst hb
    go_enter Tryd.func41, Tryd.ntmps41
    go_wp2_with fail
    refine SP.out.mono ?_
    rintro e w1 ⟨rfl, y1⟩
    go_wp2
    all_goals
      go_ret
      exact ⟨rfl, (below_step bW y1).alloc (below_step bW y1).size _⟩
end Go.Proofs.YtccbofaefpbhlaaDoor
