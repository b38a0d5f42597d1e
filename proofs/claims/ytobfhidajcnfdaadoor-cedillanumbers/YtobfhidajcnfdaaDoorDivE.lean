/-
  The contract of DivMod by nought, and by one limb.
-/
import Derived.Test.YtobfhidajcnfdaaDoorDivA
import Derived.Test.YtobfhidajcnfdaaDoorProdB
namespace Go.Proofs.YtobfhidajcnfdaaDoor
set_option linter.unusedVariables false
set_option maxRecDepth 20000
open Go.RowKit

/-- It answers a quotient, what is left, and no error. -/
def RetQRE (k Q m R : Nat) (w : World) (e : Ending) (w' : World) : Prop := ∃ v u, e = .returned (.tuple #[v, u, .int .i64 0]) ∧ IsN w' v k Q ∧ IsN w' u m R ∧ Below w.heap.size w w'

theorem norm_one {y : Nat} (hy0 : 0 < y) (hy : y < 4294967296) : Norm 4294967296 [y] := ⟨by intro x hx; simp at hx; omega, fun _ => by simp; omega⟩
theorem norm_nil : Norm 4294967296 [] := ⟨by simp, fun h => absurd rfl h⟩
theorem val_one (y : Nat) : val 4294967296 [y] = y := by simp [val]
theorem keep_1_1 {W w' : World} {gx : Nat} {a b : Value} {p : Addr} (hX : Blk W gx 26 #[a]) (hp : p.block < W.heap.size) (hc : W.cell? p = some b) (hb : Below W.heap.size W w') : w'.cell? ⟨gx, 0, none⟩ = some a ∧ w'.cell? p = some b :=
  ⟨(hX.on hb).cell0, (World.cell?_of_block (hb.block _ hp)).trans hc⟩

set_option maxHeartbeats 2000000 in
/-- 'DivMod', by one limb. -/
theorem divMod_short (v u : Value) (k N y m : Nat) (w : World) (h : IsN w v k N) (h' : IsN w u m y) (hm : 1 ≤ m) (hm2 : m ≤ 1000000) (hk : k ≤ 400000) (hy0 : 0 < y) (hy : y < 4294967296) :
    Calls Tryd.prog 30 #[v, u] w (RetQRE k (N / y) m (N % y) w) := by
  have hI := h
  have hI' := h'
  obtain ⟨A, c, l, rfl, hr, hn, hv, hlk, _⟩ := h
  obtain ⟨A', n', c', rfl⟩ := h'.shape
  have L1 := Lib.hid (fun w' (hN : IsN w' (.agg #[.slice A l.length c]) k N) => limbsN_any _ k N w' hN (by omega) l hn hv)
  have L2 := Lib.hid (fun w' (hN : IsN w' (.agg #[.slice A' n' c']) m y) => limbsN_any _ m y w' hN hm2 [y] (norm_one hy0 hy) (val_one y))
  have DS := Lib.hid (fun w' A1 c1 (hr1 : Arr 43 .u32 w' A1 l) => divShort_any A1 c1 y l w' hr1 hn.1 (by omega) hy0 hy)
  rw [hv] at DS
  clear hv hr h'
  go_enter Tryd.func30, Tryd.ntmps30
  go_wp2_with fail
  have hX : Blk ((((w.alloc (Obj.cells #[Value.slice A l.length c] 26)).alloc (Obj.cells #[Value.slice A' n' c'] 26)).alloc (Obj.cells #[Value.slice none 0 0] 26)).alloc (Obj.cells #[Value.slice none 0 0] 26)) w.heap.size 26 #[.slice A l.length c] := (((Blk.new w 26 _).alloc _).alloc _).alloc _
  have hR4 : Blk ((((w.alloc (Obj.cells #[Value.slice A l.length c] 26)).alloc (Obj.cells #[Value.slice A' n' c'] 26)).alloc (Obj.cells #[Value.slice none 0 0] 26)).alloc (Obj.cells #[Value.slice none 0 0] 26)) (w.heap.size + 1 + 1) 26 #[.slice none 0 0] := by
    have := (Blk.new ((w.alloc (Obj.cells #[Value.slice A l.length c] 26)).alloc (Obj.cells #[Value.slice A' n' c'] 26)) 26 #[.slice none 0 0]).alloc (Obj.cells #[Value.slice none 0 0] 26)
    simpa using this
  have hR5 : Blk ((((w.alloc (Obj.cells #[Value.slice A l.length c] 26)).alloc (Obj.cells #[Value.slice A' n' c'] 26)).alloc (Obj.cells #[Value.slice none 0 0] 26)).alloc (Obj.cells #[Value.slice none 0 0] 26)) (w.heap.size + 1 + 1 + 1) 26 #[.slice none 0 0] := by
    have := Blk.new (((w.alloc (Obj.cells #[Value.slice A l.length c] 26)).alloc (Obj.cells #[Value.slice A' n' c'] 26)).alloc (Obj.cells #[Value.slice none 0 0] 26)) 26 #[.slice none 0 0]
    simpa using this
  have hN := (((hI.alloc (Obj.cells #[Value.slice A l.length c] 26)).alloc (Obj.cells #[Value.slice A' n' c'] 26)).alloc (Obj.cells #[Value.slice none 0 0] 26)).alloc (Obj.cells #[Value.slice none 0 0] 26)
  have hM := (((hI'.alloc (Obj.cells #[Value.slice A l.length c] 26)).alloc (Obj.cells #[Value.slice A' n' c'] 26)).alloc (Obj.cells #[Value.slice none 0 0] 26)).alloc (Obj.cells #[Value.slice none 0 0] 26)
  have bW : Below w.heap.size w ((((w.alloc (Obj.cells #[Value.slice A l.length c] 26)).alloc (Obj.cells #[Value.slice A' n' c'] 26)).alloc (Obj.cells #[Value.slice none 0 0] 26)).alloc (Obj.cells #[Value.slice none 0 0] 26)) := below_step (below_step (below_step (below_new _ _) (below_new _ _)) (below_new _ _)) (below_new _ _)
  generalize hW : (((w.alloc (Obj.cells #[Value.slice A l.length c] 26)).alloc (Obj.cells #[Value.slice A' n' c'] 26)).alloc (Obj.cells #[Value.slice none 0 0] 26)).alloc (Obj.cells #[Value.slice none 0 0] 26) = W at *
  clear hW hI hI'
  refine (L2.out _ hM).mono ?_
  rintro e x1 ⟨s1, rfl, ⟨A1, c1, rfl, hr1, hc1⟩, y1⟩
  obtain ⟨ga, oa, csa, rfl, hga, hca⟩ := hr1 (by simp)
  have hxc0 : x1.cell? ⟨ga, oa, none⟩ = some (.int .u32 (y : Nat)) := by rw [hga.cell]; simpa using hca 0 (by simp)
  have hab : (⟨ga, oa, none⟩ : Addr).block < x1.heap.size := hga.lt
  have hX1 := hX.on y1
  have hN1 := hN.below y1
  have hR41 := hR4.on y1
  have hR51 := hR5.on y1
  have bx1 := below_step bW y1
  have hne4 : ga ≠ w.heap.size + 1 + 1 := hga.ne_ hR41 (by decide)
  have hne5 : ga ≠ w.heap.size + 1 + 1 + 1 := hga.ne_ hR51 (by decide)
  clear hX hN hM hR4 hR5 bW y1 hr1 hga hca
  rw [show [y].length = 1 from rfl] at *
  go_wp2
  have tok1 : True := trivial
  have tok2 : True := trivial
  go_region_held3 (fun w' => w'.cell? ⟨w.heap.size, 0, none⟩ = some (.slice A l.length c) ∧ w'.cell? ⟨ga, oa, none⟩ = some (.int .u32 (y : Nat)))
    (first | exact keep_1_1 hX1 hab hxc0 (below_drew _) | exact keep_1_1 hX1 hab hxc0 hw2 | exact keep_1_1 hX1 hab hxc0 hw3 | exact hs4 | exact hs5)
    (first
      | (go_at_call 42; have _t := tok1; clear tok1; refine (L1.out _ (hN1.below (below_drew _))).mono ?_; rintro e x2 ⟨s2, rfl, ⟨A2, c2, rfl, hr2, hc2⟩, y2⟩; have hw2 : Below x1.heap.size x1 x2 := below_step (below_drew _) y2)
      | (go_at_call 51; have _t := tok2; clear tok2; refine (DS.out _ _ _ hr2).mono ?_; rintro e x3 ⟨v3, u3, rfl, hQ3, hR3, y3⟩; obtain ⟨A3, n3, c3, rfl⟩ := hQ3.shape; obtain ⟨A4, n4, c4, rfl⟩ := hR3.shape; have hw3 : Below x1.heap.size x1 x3 := below_step hw2 y3; have h4 := hR41.on hw3; have h5 := hR51.on hw3; have hc4 := h4.cell0; have hf4 := h4.free 0; have hc5 := h5.cell0; have hf5 := h5.free 0; have hs3 := keep_1_1 hX1 hab hxc0 hw3; have hs4 := And.intro (cell_off (g := w.heap.size + 1 + 1) (o := 0) (u := .slice A3 n3 c3) hs3.1 (by show w.heap.size ≠ w.heap.size + 1 + 1; omega)) (cell_off (g := w.heap.size + 1 + 1) (o := 0) (u := .slice A3 n3 c3) hs3.2 hne4); have hs5 := And.intro (cell_off (g := w.heap.size + 1 + 1 + 1) (o := 0) (u := .slice A4 n4 c4) hs4.1 (by show w.heap.size ≠ w.heap.size + 1 + 1 + 1; omega)) (cell_off (g := w.heap.size + 1 + 1 + 1) (o := 0) (u := .slice A4 n4 c4) hs4.2 hne5)))
  have h45 := h5.far (p := ⟨w.heap.size + 1 + 1, 0, none⟩) (by show w.heap.size + 1 + 1 + 1 ≠ w.heap.size + 1 + 1; omega) (.slice A3 n3 c3)
  have g4 := (h4.set0 (.slice A3 n3 c3)).far (p := ⟨w.heap.size + 1 + 1 + 1, 0, none⟩) (by show w.heap.size + 1 + 1 ≠ w.heap.size + 1 + 1 + 1; omega) (.slice A4 n4 c4)
  have g5 := h45.set0 (.slice A4 n4 c4)
  have gQ := (hQ3.far h4 0 (.slice A3 n3 c3)).far h45 0 (.slice A4 n4 c4)
  have gR := (hR3.far h4 0 (.slice A3 n3 c3)).far h45 0 (.slice A4 n4 c4)
  have gB := ((below_step bx1 hw3).setCell (p := ⟨w.heap.size + 1 + 1, 0, none⟩) (by show w.heap.size ≤ w.heap.size + 1 + 1; omega) (.slice A3 n3 c3)).setCell (p := ⟨w.heap.size + 1 + 1 + 1, 0, none⟩) (by show w.heap.size ≤ w.heap.size + 1 + 1 + 1; omega) (.slice A4 n4 c4)
  generalize (x3.setCell ⟨w.heap.size + 1 + 1, 0, none⟩ (.slice A3 n3 c3)).setCell ⟨w.heap.size + 1 + 1 + 1, 0, none⟩ (.slice A4 n4 c4) = X at *
  clear hs3 hs4 hs5 hc4 hf4 hc5 hf5 h4 h5 h45 hQ3 hR3 hw3 y3 y2 hw2 hr2 hX1 hN1 hR41 hR51 bx1 hxc0 hab hne4 hne5 L1 L2 DS
  have hc4 := g4.cell0
  have hf4 := g4.free 0
  have hc5 := g5.cell0
  have hf5 := g5.free 0
  have i4 := g4.set0 (.slice A3 n3 c3)
  have i5 := g5.far (p := ⟨w.heap.size + 1 + 1, 0, none⟩) (by show w.heap.size + 1 + 1 + 1 ≠ w.heap.size + 1 + 1; omega) (.slice A3 n3 c3)
  have hc45 := i5.cell0
  have hf45 := i5.free 0
  go_wp2
  go_region
  all_goals go_wp2
  all_goals
    have j4 := i4.far (p := ⟨w.heap.size + 1 + 1 + 1, 0, none⟩) (by show w.heap.size + 1 + 1 ≠ w.heap.size + 1 + 1 + 1; omega) (.slice A4 n4 c4)
    have j5 := i5.set0 (.slice A4 n4 c4)
    have hq4 := j4.cell0
    have hq5 := j5.cell0
    have hb := below_drewN ((gB.setCell (p := ⟨w.heap.size + 1 + 1, 0, none⟩) (by show w.heap.size ≤ w.heap.size + 1 + 1; omega) (.slice A3 n3 c3)).setCell (p := ⟨w.heap.size + 1 + 1 + 1, 0, none⟩) (by show w.heap.size ≤ w.heap.size + 1 + 1 + 1; omega) (.slice A4 n4 c4)) 1
    exact bodyPost_ret (v := .tuple #[.agg #[.slice A3 n3 c3], .agg #[.slice A4 n4 c4], .int .i64 0]) (by simp [results, Tryd.results30, go_sem, hq4, hq5]) rfl ⟨_, _, rfl, (((gQ.more hlk).far g4 0 _).far i5 0 _).below (below_drew _), (((gR.more hm).far g4 0 _).far i5 0 _).below (below_drew _), hb⟩

set_option maxHeartbeats 2000000 in
/-- 'DivMod', by nought. -/
theorem divMod_zero (v u : Value) (k N m : Nat) (w : World) (h : IsN w v k N) (h' : IsN w u m 0) (hm2 : m ≤ 1000000) :
    Calls Tryd.prog 30 #[v, u] w (RetV (.tuple #[.agg #[.slice none 0 0], .agg #[.slice none 0 0], .int .i64 5]) w) := by
  obtain ⟨A, n, c, rfl⟩ := h.shape
  have hI' := h'
  obtain ⟨A', n', c', rfl⟩ := h'.shape
  have L2 := Lib.hid (fun w' (hN : IsN w' (.agg #[.slice A' n' c']) m 0) => limbsN_any _ m 0 w' hN hm2 [] norm_nil rfl)
  clear h h'
  go_enter Tryd.func30, Tryd.ntmps30
  go_wp2_with fail
  have hR4 : Blk ((((w.alloc (Obj.cells #[Value.slice A n c] 26)).alloc (Obj.cells #[Value.slice A' n' c'] 26)).alloc (Obj.cells #[Value.slice none 0 0] 26)).alloc (Obj.cells #[Value.slice none 0 0] 26)) (w.heap.size + 1 + 1) 26 #[.slice none 0 0] := by
    have := (Blk.new ((w.alloc (Obj.cells #[Value.slice A n c] 26)).alloc (Obj.cells #[Value.slice A' n' c'] 26)) 26 #[.slice none 0 0]).alloc (Obj.cells #[Value.slice none 0 0] 26)
    simpa using this
  have hR5 : Blk ((((w.alloc (Obj.cells #[Value.slice A n c] 26)).alloc (Obj.cells #[Value.slice A' n' c'] 26)).alloc (Obj.cells #[Value.slice none 0 0] 26)).alloc (Obj.cells #[Value.slice none 0 0] 26)) (w.heap.size + 1 + 1 + 1) 26 #[.slice none 0 0] := by
    have := Blk.new (((w.alloc (Obj.cells #[Value.slice A n c] 26)).alloc (Obj.cells #[Value.slice A' n' c'] 26)).alloc (Obj.cells #[Value.slice none 0 0] 26)) 26 #[.slice none 0 0]
    simpa using this
  have hM := (((hI'.alloc (Obj.cells #[Value.slice A n c] 26)).alloc (Obj.cells #[Value.slice A' n' c'] 26)).alloc (Obj.cells #[Value.slice none 0 0] 26)).alloc (Obj.cells #[Value.slice none 0 0] 26)
  have bW : Below w.heap.size w ((((w.alloc (Obj.cells #[Value.slice A n c] 26)).alloc (Obj.cells #[Value.slice A' n' c'] 26)).alloc (Obj.cells #[Value.slice none 0 0] 26)).alloc (Obj.cells #[Value.slice none 0 0] 26)) := below_step (below_step (below_step (below_new _ _) (below_new _ _)) (below_new _ _)) (below_new _ _)
  generalize hW : (((w.alloc (Obj.cells #[Value.slice A n c] 26)).alloc (Obj.cells #[Value.slice A' n' c'] 26)).alloc (Obj.cells #[Value.slice none 0 0] 26)).alloc (Obj.cells #[Value.slice none 0 0] 26) = W at *
  clear hW hI'
  refine (L2.out _ hM).mono ?_
  rintro e X ⟨s1, rfl, ⟨A1, c1, rfl, hr1, hc1⟩, y1⟩
  have g4 := hR4.on y1
  have g5 := hR5.on y1
  have gB := below_step bW y1
  clear hM hR4 hR5 bW y1 hr1
  rw [show ([] : List Nat).length = 0 from rfl] at *
  have hc4 := g4.cell0
  have hf4 := g4.free 0
  have hc5 := g5.cell0
  have hf5 := g5.free 0
  have i4 := g4.set0 (.slice none 0 0)
  have i5 := g5.far (p := ⟨w.heap.size + 1 + 1, 0, none⟩) (by show w.heap.size + 1 + 1 + 1 ≠ w.heap.size + 1 + 1; omega) (.slice none 0 0)
  have hc45 := i5.cell0
  have hf45 := i5.free 0
  have j4 := i4.far (p := ⟨w.heap.size + 1 + 1 + 1, 0, none⟩) (by show w.heap.size + 1 + 1 ≠ w.heap.size + 1 + 1 + 1; omega) (.slice none 0 0)
  have j5 := i5.set0 (.slice none 0 0)
  have hq4 := j4.cell0
  have hq5 := j5.cell0
  have hb := (gB.setCell (p := ⟨w.heap.size + 1 + 1, 0, none⟩) (by show w.heap.size ≤ w.heap.size + 1 + 1; omega) (.slice none 0 0)).setCell (p := ⟨w.heap.size + 1 + 1 + 1, 0, none⟩) (by show w.heap.size ≤ w.heap.size + 1 + 1 + 1; omega) (.slice none 0 0)
  go_wp2
  exact bodyPost_ret (v := .tuple #[.agg #[.slice none 0 0], .agg #[.slice none 0 0], .int .i64 5]) (by simp [results, Tryd.results30, go_sem, hq4, hq5]) rfl ⟨rfl, hb⟩

end Go.Proofs.YtobfhidajcnfdaaDoor
