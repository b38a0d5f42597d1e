/-
  Contracts of the number package's sums and differences: Add, Sub.
-/
import Derived.Test.YtobfhidajcnfdaaDoorNatB
import Derived.Laws.MakeOwn
namespace Go.Proofs.YtobfhidajcnfdaaDoor
set_option linter.unusedVariables false
set_option maxRecDepth 20000
open Go.RowKit

/-- The cells of a block of the numbers l. -/
def blkOf (k : IntKind) (l : List Nat) : Array Value := (cellsOf k l).toArray
theorem blkOf_get (k : IntKind) (l : List Nat) {i : Nat} (h : i < l.length) : (blkOf k l)[i]? = some (.int k (l.getD i 0 : Nat)) := by
  simp only [blkOf, List.getElem?_toArray]; exact cellsOf_get k l h
theorem blkOf_set (k : IntKind) (l : List Nat) (i x : Nat) : (blkOf k l).setIfInBounds i (.int k (x : Nat)) = blkOf k (l.set i x) := by
  simp [blkOf, cellsOf]
theorem blkOf_arr {t : TypeId} {k : IntKind} {w : World} {g : Nat} {l : List Nat} (h : Blk w g t (blkOf k l)) : Arr t k w (some ⟨g, 0, none⟩) l :=
  fun _ => ⟨g, 0, _, rfl, h, fun i hi => by rw [Nat.zero_add]; exact blkOf_get k l hi⟩

theorem made_zeros (z : Value) (n : Nat) (hz : z.cells = #[z]) : madeCells z.cells n = (List.replicate n z).toArray := by
  rw [hz]
  apply Array.ext
  · simp [size_madeCells]
  · intro i h1 h2
    simp [madeCells, Nat.mod_one]

/-- 'make([]uint32, n)'. -/
theorem make_u32 (w : World) (n : Nat) (hn : n ≤ 100000000) : (Instr.makeSlice 22 (.int .i64 n) (.int .i64 n)).run Tryd.prog w = .ok (.slice (some ⟨w.heap.size, 0, none⟩) n n) (w.alloc (.cells (blkOf .u32 (List.replicate n 0)) 43)) := by
  obtain ⟨i0, hi0, hz0, hz1, hz2⟩ := info_parts u32_info
  have h := run_make (P := Tryd.prog) w 22 43 i0 (.int .u32 0) Tryd.underlying22 hi0 hz0 .i64 .i64 n n (by omega) (by omega) (by rw [hz2]; omega) (by omega)
  rw [h, hz1, made_zeros _ _ rfl]
  simp [blkOf, cellsOf]

set_option maxHeartbeats 1000000 in
/-- 'nat.Add'. -/
theorem add_any (v u : Value) (k m N M : Nat) (w : World) (h : IsN w v k N) (h' : IsN w u m M) (hk : k ≤ 900000) (hm : m ≤ 900000) :
    Calls Tryd.prog 28 #[v, u] w (RetN (max k m + 1) (N + M) w) := by
  obtain ⟨A, c, l, rfl, hr, hn, hv, hlk, _⟩ := h
  obtain ⟨A', c', l', rfl, hr', hn', hv', hlk', _⟩ := h'
  have HV := Lib.hid hv
  have HV' := Lib.hid hv'
  clear hv hv'
  obtain ⟨n, hne⟩ : ∃ n, n = max l.length l'.length + 1 := ⟨_, rfl⟩
  have hn1 : l.length < n := by omega
  have hn2 : l'.length < n := by omega
  have hn3 : n ≤ max k m + 1 := by omega
  have hn4 : n ≤ 1000000 := by omega
  have hmk : ∀ w, (Instr.makeSlice 22 (.int .i64 (max (l.length : Int) (l'.length : Int) + 1)) (.int .i64 (max (l.length : Int) (l'.length : Int) + 1))).run Tryd.prog w = .ok (.slice (some ⟨w.heap.size, 0, none⟩) n n) (w.alloc (.cells (blkOf .u32 (List.replicate n 0)) 43)) := fun w => by
    rw [← make_u32 w n (by omega), show max (l.length : Int) (l'.length : Int) + 1 = (n : Int) by omega]
  clear hne
  go_enter Tryd.func28, Tryd.ntmps28
  go_wp2
  clear hmk
  go_loopw [6, 19] (fun cr t wr => ∃ (j : Nat) (s : List Nat) (cy : Nat), j ≤ n ∧ t = .int .i64 j ∧ cr = .int .u32 cy ∧ cy ≤ 1 ∧ s.length = n ∧ (∀ x ∈ s, x < 4294967296) ∧
      val 4294967296 (s.take j) + 4294967296 ^ j * cy = val 4294967296 (l.take j) + val 4294967296 (l'.take j) ∧ Blk wr (w.heap.size + 1 + 1 + 1) 43 (blkOf .u32 s) ∧
      Below (w.heap.size + 3) (((w.alloc (Obj.cells #[Value.slice A l.length c] 26)).alloc (Obj.cells #[Value.slice A' l'.length c'] 26)).alloc (Obj.cells #[Value.slice none 0 0] 26)) wr) (fun _ t _ => n - (intOf t).toNat)
  case atStart => exact ⟨0, List.replicate n 0, 0, Nat.zero_le _, rfl, rfl, by omega, by simp, by simp, by simp [val], by simpa using Blk.new (((w.alloc (Obj.cells #[Value.slice A l.length c] 26)).alloc (Obj.cells #[Value.slice A' l'.length c'] 26)).alloc (Obj.cells #[Value.slice none 0 0] 26)) 43 (blkOf .u32 (List.replicate n 0)), (Below.refl _ _).alloc (by simp) _⟩
  case round =>
    obtain ⟨j, s, cy, hj, rfl, rfl, hcy, hsl, hsb, hsum, hB, hbw⟩ := hrel
    have HS := Lib.hid hsum
    have HSL := Lib.hid hsl
    clear hsum hsl
    have hcA : wr.cell? ⟨w.heap.size, 0, none⟩ = some (.slice A l.length c) := (hbw.cell (p := ⟨w.heap.size, 0, none⟩) (by show w.heap.size < _; omega)).trans (((Blk.new w 26 #[.slice A l.length c]).alloc _).alloc _).cell0
    have hcB : wr.cell? ⟨w.heap.size + 1, 0, none⟩ = some (.slice A' l'.length c') := (hbw.cell (p := ⟨w.heap.size + 1, 0, none⟩) (by show w.heap.size + 1 < _; omega)).trans (by simpa using ((Blk.new (w.alloc (Obj.cells #[Value.slice A l.length c] 26)) 26 #[.slice A' l'.length c']).alloc (Obj.cells #[Value.slice none 0 0] 26)).cell0)
    have hw : Below w.heap.size w wr := (below_step (below_step (below_new _ _) (below_new _ _)) (below_new _ _)).trans (hbw.mono (Nat.le_add_right _ _))
    have hrA : Arr 43 .u32 wr A l := hr.below hw
    have hrB : Arr 43 .u32 wr A' l' := hr'.below hw
    by_cases hjn : j < n
    · have hx1 := getD_lt (by decide) hn.1 j
      have hy1 := getD_lt (by decide) hn'.1 j
      have D0 := Lib.hid (fun w' (hr' : Arr 43 .u32 w' A l) => digit_any A c j l w' hr' (by omega) (by omega))
      have D1 := Lib.hid (fun w' (hr'' : Arr 43 .u32 w' A' l') => digit_any A' c' j l' w' hr'' (by omega) (by omega))
      obtain ⟨x, hxe⟩ : ∃ x, x = l.getD j 0 := ⟨_, rfl⟩
      obtain ⟨y, hye⟩ : ∃ y, y = l'.getD j 0 := ⟨_, rfl⟩
      rw [← hxe] at D0 hx1
      rw [← hye] at D1 hy1
      have HX := Lib.hid hxe
      have HY := Lib.hid hye
      clear hxe hye
      have hj0 : (0 : Int) ≤ (j : Int) := by omega
      have hj1 : (j : Int) < (n : Int) := by omega
      have tok : True := trivial
      have hlA : w.heap.size < wr.heap.size := by have := hB.lt; omega
      have hlB : w.heap.size + 1 < wr.heap.size := by have := hB.lt; omega
      have hneA : w.heap.size ≠ w.heap.size + 1 + 1 + 1 := by omega
      have hneB : w.heap.size + 1 ≠ w.heap.size + 1 + 1 + 1 := by omega
      have hjs : j < s.length := by rw [HSL.out]; exact hjn
      go_wp2
      go_region_held3 (fun w' => w'.cell? ⟨w.heap.size, 0, none⟩ = some (.slice A l.length c) ∧ w'.cell? ⟨w.heap.size + 1, 0, none⟩ = some (.slice A' l'.length c'))
        (first | exact ⟨hcA, hcB⟩ | exact ⟨hcA1, hcB1⟩ | exact ⟨hcA2, hcB2⟩ | exact ⟨hcA3 _, hcB3 _⟩)
        (first
          | (go_at_call 49; have _t := tok; clear tok; refine (D0.out _ ?_).mono ?_; (exact hrA.below (below_drew _)); rintro e w1 ⟨rfl, hb1⟩; have hw1 : Below wr.heap.size wr w1 := below_step (below_drew _) hb1; have hcA1 := cell_on hw1 hcA hlA; have hcB1 := cell_on hw1 hcB hlB)
          | (go_at_call 49; refine (D1.out _ ?_).mono ?_; (exact hrB.below hw1); rintro e w2 ⟨rfl, hb2⟩; have hw2 : Below wr.heap.size wr w2 := below_step hw1 hb2; have hcA2 := cell_on hw2 hcA hlA; have hcB2 := cell_on hw2 hcB hlB)
          | (go_at_call 48; refine (add32_any x y cy _ hx1 hy1 hcy).mono ?_; rintro e w3 ⟨rfl, rfl⟩; have hB2 := hB.on hw2; have hgc := (hB2.cell j).trans (blkOf_get .u32 s hjs); have hgf := hB2.free j; have hcA3 := fun u => cell_far (u := u) (o := j) hcA2 hneA; have hcB3 := fun u => cell_far (u := u) (o := j) hcB2 hneB))
      have hgt : (x + y + cy) / 4294967296 ≤ 1 := by omega
      have hsum2 := add_step 4294967296 j x y cy _ _ _ HS.out
      have hB3 : Blk (w2.setCell ⟨w.heap.size + 1 + 1 + 1, j, none⟩ (.int .u32 (((x : Int) + (y : Int) + (cy : Int)) % 4294967296))) (w.heap.size + 1 + 1 + 1) 43 (blkOf .u32 (s.set j ((x + y + cy) % 4294967296))) := by
        rw [← blkOf_set, show ((x : Int) + (y : Int) + (cy : Int)) % 4294967296 = (((x + y + cy) % 4294967296 : Nat) : Int) by omega]
        exact hB2.set_ j _
      have hbw3 := (hbw.trans (hw2.mono (by have := hB.lt; omega))).setCell (p := ⟨w.heap.size + 1 + 1 + 1, j, none⟩) (by show w.heap.size + 3 ≤ w.heap.size + 1 + 1 + 1; omega) (.int .u32 (((x : Int) + (y : Int) + (cy : Int)) % 4294967296))
      have HS2 := Lib.hid hsum2
      clear hsum2 hcA3 hcB3 hgc hgf hcA2 hcB2 hcA1 hcB1
      go_wp2
      go_roundw
      case rel =>
        refine ⟨j + 1, s.set j ((x + y + cy) % 4294967296), (x + y + cy) / 4294967296, by omega, by go_num, by simp, hgt, by rw [List.length_set]; exact HSL.out, set_lt hsb j (Nat.mod_lt _ (by decide)), ?_, hB3, hbw3⟩
        rw [val_take_set _ _ _ _ hjs, val_take_next, val_take_next, ← HX.out, ← HY.out]
        exact HS2.out
      case measure => simp [intOf]; omega
    · have hjn' : j = n := by omega
      subst hjn'
      have hfin : val 4294967296 s = N + M := by
        have h1 := HS.out
        rw [List.take_of_length_le (by rw [HSL.out]; omega), List.take_of_length_le (by omega), List.take_of_length_le (by omega), HV.out, HV'.out] at h1
        have h2 := val_lt (b := 4294967296) (by decide) hn.1
        have h3 := val_lt (b := 4294967296) (by decide) hn'.1
        have h4 : 4294967296 ^ l.length ≤ 4294967296 ^ (j - 1) := Nat.pow_le_pow_right (by decide) (by omega)
        have h5 : 4294967296 ^ l'.length ≤ 4294967296 ^ (j - 1) := Nat.pow_le_pow_right (by decide) (by omega)
        have h6 : 4294967296 ^ j = 4294967296 * 4294967296 ^ (j - 1) := by rw [Nat.mul_comm, ← Nat.pow_succ]; congr 1; omega
        rw [HV.out] at h2
        rw [HV'.out] at h3
        have h7 : cy = 0 := by
          rcases Nat.eq_zero_or_pos cy with h8 | h8
          · exact h8
          · have : 4294967296 ^ j * 1 ≤ 4294967296 ^ j * cy := Nat.mul_le_mul_left _ h8
            omega
        rw [h7] at h1
        omega
      have T := trim_any (some ⟨w.heap.size + 1 + 1 + 1, 0, none⟩) j s wr (blkOf_arr hB) hsb (by rw [HSL.out]; omega) (by rw [HSL.out]; exact Nat.le_refl _)
      rw [HSL.out, hfin] at T
      have hR : Blk wr (w.heap.size + 1 + 1) 26 #[.slice none 0 0] := (hbw.block _ (by omega)).trans (by simpa [Blk] using Blk.new ((w.alloc (Obj.cells #[Value.slice A l.length c] 26)).alloc (Obj.cells #[Value.slice A' l'.length c'] 26)) 26 #[.slice none 0 0])
      have HT := Lib.hid T
      clear hfin T hcA hcB
      go_wp2_with fail
      refine HT.out.mono ?_
      rintro e w1 ⟨v, rfl, hN, hb1⟩
      obtain ⟨A2, n2, c2, rfl⟩ := hN.shape
      have hR1 := hR.on hb1
      have hc0 := hR1.cell0
      have hf0 := hR1.free 0
      have hq := (hR1.set0 (.slice A2 n2 c2)).cell0
      go_wp2
      exact bodyPost_ret (v := .agg #[.slice A2 n2 c2]) (by simp [results, Tryd.results28, go_sem, hq]) rfl ⟨_, rfl, (hN.more hn3).far hR1 0 _, (below_step hw hb1).setCell (by show w.heap.size ≤ w.heap.size + 1 + 1; omega) _⟩

/-- It answers a number N and a bool. -/
def RetNB (k N : Nat) (b : Bool) (w : World) (e : Ending) (w' : World) : Prop := ∃ v, e = .returned (.tuple #[v, .bool b]) ∧ IsN w' v k N ∧ Below w.heap.size w w'

end Go.Proofs.YtobfhidajcnfdaaDoor
