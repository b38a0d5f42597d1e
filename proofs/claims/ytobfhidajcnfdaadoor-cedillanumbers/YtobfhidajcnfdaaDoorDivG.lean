/-
  The contract of DivMod by two limbs or more.
-/
import Derived.Test.YtobfhidajcnfdaaDoorDivF
namespace Go.Proofs.YtobfhidajcnfdaaDoor
set_option linter.unusedVariables false
set_option maxRecDepth 20000
open Go.RowKit

set_option maxHeartbeats 2000000 in
/-- 'divideLong', where the divisor is longer. -/
theorem divLong_less (A A' : Option Addr) (c c' n' : Nat) (l : List Nat) (w : World) (hr : Arr 43 .u32 w A l) (hb : ∀ x ∈ l, x < 4294967296) (hl : l.length ≤ 100000) (hn : n' ≤ 100000) (hlt : l.length < n') :
    Calls Tryd.prog 52 #[.slice A l.length c, .slice A' n' c'] w (RetQR 0 0 l.length (val 4294967296 l) w) := by
  have h4 : Blk ((w.alloc (.cells #[.slice none 0 0] 26)).alloc (.cells #[.slice none 0 0] 26)) w.heap.size 26 #[.slice none 0 0] := (Blk.new w 26 _).alloc _
  have h5 : Blk ((w.alloc (.cells #[.slice none 0 0] 26)).alloc (.cells #[.slice none 0 0] 26)) (w.heap.size + 1) 26 #[.slice none 0 0] := by
    have := Blk.new (w.alloc (.cells #[.slice none 0 0] 26)) 26 #[.slice none 0 0]
    simpa using this
  have bW : Below w.heap.size w ((w.alloc (.cells #[.slice none 0 0] 26)).alloc (.cells #[.slice none 0 0] 26)) := below_step (below_new _ _) (below_new _ _)
  have hrW := (hr.alloc (.cells #[.slice none 0 0] 26)).alloc (.cells #[.slice none 0 0] 26)
  have hi : (l.length : Int) < (n' : Int) := by omega
  go_enter Tryd.func52, Tryd.ntmps52
  go_wp2_with fail
  generalize hW : (w.alloc (.cells #[.slice none 0 0] 26)).alloc (.cells #[.slice none 0 0] 26) = W at *
  clear hW
  refine (limbs_any A c l _ hrW.row hb (by omega)).mono ?_
  rintro e w6 ⟨v6, rfl, hN6, b6⟩
  obtain ⟨A6, n6, c6, rfl⟩ := hN6.shape
  have h44 := h4.on b6
  have h54 := h5.on b6
  have hb6 := below_step bW b6
  have hc4 := h44.cell0
  have hf4 := h44.free 0
  have h45 := h54.far (p := ⟨w.heap.size, 0, none⟩) (by show w.heap.size + 1 ≠ w.heap.size; omega) (.slice none 0 0)
  have hc5 := h45.cell0
  have hf5 := h45.free 0
  have h46 := (h44.set0 (.slice none 0 0)).far (p := ⟨w.heap.size + 1, 0, none⟩) (by show w.heap.size ≠ w.heap.size + 1; omega) (.slice A6 n6 c6)
  have h47 := h45.set0 (.slice A6 n6 c6)
  have hq6 := h46.cell0
  have hq7 := h47.cell0
  have hZ : ∀ w' : World, IsN w' (.agg #[.slice none 0 0]) 0 0 := fun w' => ⟨none, 0, [], rfl, Arr.empty, Norm.nil _, rfl, by simp, by simp⟩
  go_wp2
  exact bodyPost_ret (v := .tuple #[.agg #[.slice none 0 0], .agg #[.slice A6 n6 c6]]) (by simp [results, Tryd.results52, go_sem, hq6, hq7]) rfl ⟨_, _, rfl, hZ _, ((hN6.far h44 0 _).far h45 0 _), (hb6.setCell (p := ⟨w.heap.size, 0, none⟩) (Nat.le_refl _) _).setCell (p := ⟨w.heap.size + 1, 0, none⟩) (by show w.heap.size ≤ w.heap.size + 1; omega) _⟩

/-- 'divideLong'. -/
theorem divLong_all (A A' : Option Addr) (c c' : Nat) (l l' : List Nat) (w : World) (hr : Arr 43 .u32 w A l) (hr' : Arr 43 .u32 w A' l') (hn : Norm 4294967296 l) (hn' : Norm 4294967296 l') (h2 : 2 ≤ l'.length) (hl : l.length ≤ 90000) (hl' : l'.length ≤ 90000) :
    Calls Tryd.prog 52 #[.slice A l.length c, .slice A' l'.length c'] w (RetQR l.length (val 4294967296 l / val 4294967296 l') l'.length (val 4294967296 l % val 4294967296 l') w) := by
  rcases Nat.lt_or_ge l.length l'.length with hlt | hge
  · refine (divLong_less A A' c c' l'.length l w hr hn.1 (by omega) (by omega) hlt).mono ?_
    rintro e w1 ⟨v1, u1, rfl, h3, h4, b⟩
    have hvl : val 4294967296 l < val 4294967296 l' := by
      obtain ⟨k, hk⟩ : ∃ k, l'.length = k + 1 := ⟨l'.length - 1, by omega⟩
      have hne : l' ≠ [] := by intro e; simp [e] at h2
      have ht : l'.getD k 0 = l'.getLast hne := by rw [List.getLast_eq_getElem]; simp [List.getD, hk]
      have ht0 : 1 ≤ l'.getD k 0 := by rw [ht]; exact Nat.pos_of_ne_zero (hn'.2 hne)
      have h5 := val_take_succ 4294967296 l' k (by omega)
      rw [List.take_of_length_le (by omega)] at h5
      have h6 := val_lt (b := 4294967296) (by decide) hn.1
      have h7 : 4294967296 ^ l.length ≤ 4294967296 ^ k := Nat.pow_le_pow_right (by decide) (by omega)
      have h8 : 4294967296 ^ k * 1 ≤ 4294967296 ^ k * l'.getD k 0 := Nat.mul_le_mul_left _ ht0
      rw [Nat.mul_one] at h8
      rw [h5]
      exact Nat.lt_of_lt_of_le h6 (Nat.le_trans h7 (Nat.le_trans h8 (Nat.le_add_left _ _)))
    rw [Nat.div_eq_of_lt hvl, Nat.mod_eq_of_lt hvl]
    exact ⟨v1, u1, rfl, h3.more (by omega), h4.more (by omega), b⟩
  · obtain ⟨m, hm⟩ : ∃ m, l'.length = m + 2 := ⟨l'.length - 2, by omega⟩
    obtain ⟨nq, hq⟩ : ∃ nq, l.length = nq + m + 1 := ⟨l.length - m - 1, by omega⟩
    have := divLong_any A A' c c' nq m l l' w hq hm (by omega) hr hr' hn.1 hn' (by omega)
    rw [← hq, ← hm] at this
    exact this

set_option maxHeartbeats 2000000 in
/-- 'DivMod', by two limbs or more. -/
theorem divMod_long (v u : Value) (k N M m : Nat) (w : World) (h : IsN w v k N) (h' : IsN w u m M) (hm2 : m ≤ 90000) (hk : k ≤ 90000) (hy : 4294967296 ≤ M) :
    Calls Tryd.prog 30 #[v, u] w (RetQRE k (N / M) m (N % M) w) := by
  have hI := h
  have hI' := h'
  obtain ⟨A, c, l, rfl, hr, hn, hv, hlk, _⟩ := h
  obtain ⟨A', c', l', rfl, hr', hn', hv', hlk', _⟩ := h'
  have h2 : 2 ≤ l'.length := by
    match l', hn', hv' with
    | [], _, h => simp [val] at h; omega
    | [x], h1, h => exfalso; have := h1.1 x (by simp); simp [val] at h; omega
    | x :: y :: t, _, _ => simp
  have L1 := Lib.hid (fun w' (hN : IsN w' (.agg #[.slice A l.length c]) k N) => limbsN_any _ k N w' hN (by omega) l hn hv)
  have L2 := Lib.hid (fun w' (hN : IsN w' (.agg #[.slice A' l'.length c']) m M) => limbsN_any _ m M w' hN (by omega) l' hn' hv')
  have DL := Lib.hid (fun w' A1 c1 A2 c2 (hr1 : Arr 43 .u32 w' A1 l) (hr2 : Arr 43 .u32 w' A2 l') => divLong_all A1 A2 c1 c2 l l' w' hr1 hr2 hn hn' h2 (by omega) (by omega))
  rw [hv, hv'] at DL
  clear hv hv' hr hr'
  go_enter Tryd.func30, Tryd.ntmps30
  go_wp2_with fail
  have hX : Blk ((((w.alloc (Obj.cells #[Value.slice A l.length c] 26)).alloc (Obj.cells #[Value.slice A' l'.length c'] 26)).alloc (Obj.cells #[Value.slice none 0 0] 26)).alloc (Obj.cells #[Value.slice none 0 0] 26)) w.heap.size 26 #[.slice A l.length c] := (((Blk.new w 26 _).alloc _).alloc _).alloc _
  have hR4 : Blk ((((w.alloc (Obj.cells #[Value.slice A l.length c] 26)).alloc (Obj.cells #[Value.slice A' l'.length c'] 26)).alloc (Obj.cells #[Value.slice none 0 0] 26)).alloc (Obj.cells #[Value.slice none 0 0] 26)) (w.heap.size + 1 + 1) 26 #[.slice none 0 0] := by
    have := (Blk.new ((w.alloc (Obj.cells #[Value.slice A l.length c] 26)).alloc (Obj.cells #[Value.slice A' l'.length c'] 26)) 26 #[.slice none 0 0]).alloc (Obj.cells #[Value.slice none 0 0] 26)
    simpa using this
  have hR5 : Blk ((((w.alloc (Obj.cells #[Value.slice A l.length c] 26)).alloc (Obj.cells #[Value.slice A' l'.length c'] 26)).alloc (Obj.cells #[Value.slice none 0 0] 26)).alloc (Obj.cells #[Value.slice none 0 0] 26)) (w.heap.size + 1 + 1 + 1) 26 #[.slice none 0 0] := by
    have := Blk.new (((w.alloc (Obj.cells #[Value.slice A l.length c] 26)).alloc (Obj.cells #[Value.slice A' l'.length c'] 26)).alloc (Obj.cells #[Value.slice none 0 0] 26)) 26 #[.slice none 0 0]
    simpa using this
  have hN := (((hI.alloc (Obj.cells #[Value.slice A l.length c] 26)).alloc (Obj.cells #[Value.slice A' l'.length c'] 26)).alloc (Obj.cells #[Value.slice none 0 0] 26)).alloc (Obj.cells #[Value.slice none 0 0] 26)
  have hM := (((hI'.alloc (Obj.cells #[Value.slice A l.length c] 26)).alloc (Obj.cells #[Value.slice A' l'.length c'] 26)).alloc (Obj.cells #[Value.slice none 0 0] 26)).alloc (Obj.cells #[Value.slice none 0 0] 26)
  have bW : Below w.heap.size w ((((w.alloc (Obj.cells #[Value.slice A l.length c] 26)).alloc (Obj.cells #[Value.slice A' l'.length c'] 26)).alloc (Obj.cells #[Value.slice none 0 0] 26)).alloc (Obj.cells #[Value.slice none 0 0] 26)) := below_step (below_step (below_step (below_new _ _) (below_new _ _)) (below_new _ _)) (below_new _ _)
  generalize hW : (((w.alloc (Obj.cells #[Value.slice A l.length c] 26)).alloc (Obj.cells #[Value.slice A' l'.length c'] 26)).alloc (Obj.cells #[Value.slice none 0 0] 26)).alloc (Obj.cells #[Value.slice none 0 0] 26) = W at *
  clear hW hI hI'
  refine (L2.out _ hM).mono ?_
  rintro e x1 ⟨s1, rfl, ⟨A1, c1, rfl, hr1, hc1⟩, y1⟩
  have hX1 := hX.on y1
  have hN1 := hN.below y1
  have hR41 := hR4.on y1
  have hR51 := hR5.on y1
  have bx1 := below_step bW y1
  clear hX hN hM hR4 hR5 bW y1
  have hcx := hX1.cell0
  have hl0 : (((l'.length : Nat) : Int) == 0) = false := by rw [beq_eq_false_iff_ne]; omega
  have hl1 : (((l'.length : Nat) : Int) == 1) = false := by rw [beq_eq_false_iff_ne]; omega
  have hl2 : ¬ (l'.length = 0) := by omega
  have hl3 : ¬ (l'.length = 1) := by omega
  go_wp2_with fail
  refine (L1.out _ hN1).mono ?_
  rintro e x2 ⟨s2, rfl, ⟨A2, c2, rfl, hr2, hc2⟩, y2⟩
  have hw2 : Below x1.heap.size x1 x2 := y2
  go_wp2_with fail
  refine (DL.out _ _ _ _ _ hr2 (hr1.below y2)).mono ?_
  rintro e x3 ⟨v3, u3, rfl, hQ3, hR3, y3⟩
  obtain ⟨A3, n3, c3, rfl⟩ := hQ3.shape
  obtain ⟨A4, n4, c4, rfl⟩ := hR3.shape
  have hw3 : Below x1.heap.size x1 x3 := below_step hw2 y3
  have h4 := hR41.on hw3
  have h5 := hR51.on hw3
  have hc4 := h4.cell0
  have hf4 := h4.free 0
  have h45 := h5.far (p := ⟨w.heap.size + 1 + 1, 0, none⟩) (by show w.heap.size + 1 + 1 + 1 ≠ w.heap.size + 1 + 1; omega) (.slice A3 n3 c3)
  have g4 := (h4.set0 (.slice A3 n3 c3)).far (p := ⟨w.heap.size + 1 + 1 + 1, 0, none⟩) (by show w.heap.size + 1 + 1 ≠ w.heap.size + 1 + 1 + 1; omega) (.slice A4 n4 c4)
  have g5 := h45.set0 (.slice A4 n4 c4)
  have gQ := (hQ3.far h4 0 (.slice A3 n3 c3)).far h45 0 (.slice A4 n4 c4)
  have gR := (hR3.far h4 0 (.slice A3 n3 c3)).far h45 0 (.slice A4 n4 c4)
  have hc5 := h45.cell0
  have hf5 := h45.free 0
  go_wp2
  have gB := ((below_step bx1 hw3).setCell (p := ⟨w.heap.size + 1 + 1, 0, none⟩) (by show w.heap.size ≤ w.heap.size + 1 + 1; omega) (.slice A3 n3 c3)).setCell (p := ⟨w.heap.size + 1 + 1 + 1, 0, none⟩) (by show w.heap.size ≤ w.heap.size + 1 + 1 + 1; omega) (.slice A4 n4 c4)
  generalize (x3.setCell ⟨w.heap.size + 1 + 1, 0, none⟩ (.slice A3 n3 c3)).setCell ⟨w.heap.size + 1 + 1 + 1, 0, none⟩ (.slice A4 n4 c4) = X at *
  clear hc4 hf4 hc5 hf5 h4 h5 h45 hQ3 hR3 hw3 y3 y2 hw2 hr2 hX1 hN1 hR41 hR51 bx1 L1 L2 DL hr1
  have hc4 := g4.cell0
  have hf4 := g4.free 0
  have hc5 := g5.cell0
  have hf5 := g5.free 0
  have i4 := g4.set0 (.slice A3 n3 c3)
  have i5 := g5.far (p := ⟨w.heap.size + 1 + 1, 0, none⟩) (by show w.heap.size + 1 + 1 + 1 ≠ w.heap.size + 1 + 1; omega) (.slice A3 n3 c3)
  have hc45 := i5.cell0
  have hf45 := i5.free 0
  go_region
  all_goals go_wp2
  all_goals
    have j4 := i4.far (p := ⟨w.heap.size + 1 + 1 + 1, 0, none⟩) (by show w.heap.size + 1 + 1 ≠ w.heap.size + 1 + 1 + 1; omega) (.slice A4 n4 c4)
    have j5 := i5.set0 (.slice A4 n4 c4)
    have hq4 := j4.cell0
    have hq5 := j5.cell0
    have hb := below_drewN ((gB.setCell (p := ⟨w.heap.size + 1 + 1, 0, none⟩) (by show w.heap.size ≤ w.heap.size + 1 + 1; omega) (.slice A3 n3 c3)).setCell (p := ⟨w.heap.size + 1 + 1 + 1, 0, none⟩) (by show w.heap.size ≤ w.heap.size + 1 + 1 + 1; omega) (.slice A4 n4 c4)) 1
    exact bodyPost_ret (v := .tuple #[.agg #[.slice A3 n3 c3], .agg #[.slice A4 n4 c4], .int .i64 0]) (by simp [results, Tryd.results30, go_sem, hq4, hq5]) rfl ⟨_, _, rfl, (((gQ.more hlk).far g4 0 _).far i5 0 _).below (below_drew _), (((gR.more hlk').far g4 0 _).far i5 0 _).below (below_drew _), hb⟩


/-- 'DivMod', but by nought. -/
theorem divMod_all (v u : Value) (k N M m : Nat) (w : World) (h : IsN w v k N) (h' : IsN w u m M) (hm : 1 ≤ m) (hm2 : m ≤ 90000) (hk : k ≤ 90000) (hM : 0 < M) :
    Calls Tryd.prog 30 #[v, u] w (RetQRE k (N / M) m (N % M) w) := by
  rcases Nat.lt_or_ge M 4294967296 with hlt | hge
  · exact divMod_short v u k N M m w h h' hm (by omega) (by omega) hM hlt
  · exact divMod_long v u k N M m w h h' hm2 hk hge
end Go.Proofs.YtobfhidajcnfdaaDoor
