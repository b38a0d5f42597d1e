/-
  cpset: Index, At.
  cpset: Ranges; rows of ranges.
-/
import Derived.Test.YtccbofaefpbhlaaDoorSetC
import Derived.Laws.OwnMore
import Derived.OwnWalk
namespace Go.Proofs.YtccbofaefpbhlaaDoor
set_option linter.unusedVariables false
set_option maxRecDepth 20000
open Go.RowKit

/-- How many characters of the set are less than c. -/
def cntB : List (Nat × Nat) → Int → Nat
  | [], _ => 0
  | (a, b) :: r, c => min (c - (a : Int)).toNat (b - a + 1) + cntB r c
theorem cntB_low : ∀ {S : List (Nat × Nat)} {lo : Nat}, Good lo S → ∀ (c : Int), c ≤ lo → cntB S c = 0
  | [], _, _, c, _ => rfl
  | (a, b) :: r, lo, ⟨h1, h2, h3, h4, h5⟩, c, hc => by
    rw [cntB, cntB_low h5 c (by omega)]
    omega
theorem upto_cons (a b : Nat) (r : List (Nat × Nat)) (c : Int) : upto ((a, b) :: r) c = upto r c + if (a : Int) ≤ c then 1 else 0 := by
  unfold upto
  rw [List.countP_cons]
  simp only [decide_eq_true_eq]
theorem upto_low {S : List (Nat × Nat)} {lo : Nat} (hg : Good lo S) (c : Int) (hc : c < lo) : upto S c = 0 := by
  cases hS : S with
  | nil => rfl
  | cons x r =>
    rw [hS] at hg
    have := (upto_iff hg c (i := 0) (by simp)).2 (by have := (hg.at_ (i := 0) (by simp)).1; omega)
    omega
theorem cntB_none : ∀ {S : List (Nat × Nat)} {lo : Nat}, Good lo S → ∀ (c : Int), upto S c = 0 → cntB S c = 0
  | [], _, _, c, _ => rfl
  | (a, b) :: r, lo, ⟨h1, h2, h3, h4, h5⟩, c, hu => by
    rw [upto_cons] at hu
    have hac : ¬ (a : Int) ≤ c := fun h => by rw [if_pos h] at hu; omega
    rw [cntB, cntB_none h5 c (by omega)]
    omega
theorem memI_some_le {S : List (Nat × Nat)} {lo : Nat} (hg : Good lo S) (c : Int) (k : Nat) (h : upto S c = k + 1) (hk : k < S.length) : ((S.getD k (0, 0)).1 : Int) ≤ c := by
  by_cases h2 : c < ((S.getD k (0, 0)).1 : Int)
  · have := (upto_iff hg c hk).2 h2; omega
  · omega
theorem cntB_some : ∀ {S : List (Nat × Nat)} {lo : Nat}, Good lo S → ∀ (c : Int) (k : Nat), upto S c = k + 1 → k < S.length → cntB S c = cnt (S.take k) + min (c - ((S.getD k (0, 0)).1 : Int)).toNat ((S.getD k (0, 0)).2 - (S.getD k (0, 0)).1 + 1)
  | [], _, _, c, k, _, hk => by simp at hk
  | (a, b) :: r, lo, ⟨h1, h2, h3, h4, h5⟩, c, k, hu, hk => by
    rw [upto_cons] at hu
    by_cases hac : (a : Int) ≤ c
    · rw [if_pos hac] at hu
      rcases k with _ | k
      · rw [cntB, cntB_none h5 c (by omega)]
        simp [cnt]
      · have ih := cntB_some h5 c k (by omega) (by simpa using hk)
        have hge := (h5.at_ (i := k) (by simpa using hk)).1
        have hle := (memI_some_le h5 c k (by omega) (by simpa using hk))
        rw [cntB, ih]
        simp only [List.take_succ_cons, cnt, List.getD_cons_succ]
        omega
    · rw [if_neg hac] at hu
      have := upto_low h5 c (by omega)
      omega

set_option maxHeartbeats 4000000 in
theorem index_any (S : List (Nat × Nat)) (v : Value) (c : Int) (w : World) (h : IsSet w v S) (hc1 : -2147483648 ≤ c) (hc2 : c ≤ 2147483647) : Calls Tryd.prog 42 #[v, .int .i32 c] w (RetV (.int .i64 (cntB S c : Nat)) w) := by
  have hg : Good 0 S := by obtain ⟨_, _, _, _, hg⟩ := h; exact hg
  obtain ⟨A, cp, rfl⟩ := h.shape
  have bW := below_new w (.cells #[.slice A S.length cp] 29)
  have h' := h.alloc (.cells #[.slice A S.length cp] 29)
  by_cases hu : upto S c = 0
  · rw [cntB_none hg c hu]
    have SP := Lib.hid (spanAt_none S _ c _ h' hu)
    clear hu hg h h'
    generalize S.length = n at *
    go_enter Tryd.func42, Tryd.ntmps42
    go_wp2_with fail
    refine SP.out.mono ?_
    rintro e w1 ⟨rfl, y1⟩
    go_wp2
    go_ret
    exact ⟨rfl, (below_step bW y1).alloc (below_step bW y1).size _⟩
  · obtain ⟨k, hk, hkl⟩ := upto_pos c hu
    rw [cntB_some hg c k hk hkl]
    have ha := memI_some_le hg c k hk hkl
    obtain ⟨_, hb2, hb3, _⟩ := hg.at_ hkl
    have hct := cnt_take_succ S k hkl
    have hcl := hg.cnt_le (by decide)
    have hcq : cnt (S.take k) ≤ 1114113 := by
      have h1 := cnt_append (S.take k) (S.drop k)
      rw [List.take_append_drop] at h1
      omega
    have SP := Lib.hid (spanAt_some S _ c k _ _ _ _ h' hk hkl (spanV_parts S k))
    generalize (S.getD k (0, 0)).1 = a at *
    generalize (S.getD k (0, 0)).2 = b at *
    generalize cnt (S.take k) = q at *
    clear hu hg h h' hk hkl hct hcl
    generalize S.length = n at *
    obtain ⟨d, hd⟩ : ∃ d : Nat, c - (a : Int) = (d : Int) := ⟨(c - (a : Int)).toNat, by omega⟩
    have hdb : d ≤ 2147483647 := by omega
    rw [hd, Int.toNat_natCast]
    go_enter Tryd.func42, Tryd.ntmps42
    go_wp2_with fail
    refine SP.out.mono ?_
    rintro e w1 ⟨rfl, y1⟩
    have hX := Blk.new w1 95 #[.int .i32 (a : Nat), .int .i32 (b : Nat), .int .i64 (q : Nat)]
    have b1 := (below_step bW y1).alloc (below_step bW y1).size (.cells #[.int .i32 (a : Nat), .int .i32 (b : Nat), .int .i64 (q : Nat)] 95)
    clear bW y1 SP
    go_wp2_with fail
    have hm1 : IntKind.i32.wrap (d : Int) = (d : Int) := by rw [IntKind.wrap_i32]; omega
    have hfin : IntKind.i64.wrap ((q : Int) + min (IntKind.i64.wrap (d : Int)) (((b - a : Nat) : Int) + 1)) = ((q + min d (b - a + 1) : Nat) : Int) := by
      rw [IntWalk.i64_in (d : Int) (by omega), IntWalk.i64_in _ (by omega)]; omega
    have HFIN := Lib.hid hfin
    clear hfin
    generalize w1.alloc (.cells #[.int .i32 (a : Nat), .int .i32 (b : Nat), .int .i64 (q : Nat)] 95) = W at *
    go_region_held3 (fun w' => w'.cell? ⟨w1.heap.size, 0, none⟩ = some (.int .i32 (a : Nat)) ∧ w'.cell? ⟨w1.heap.size, 1, none⟩ = some (.int .i32 (b : Nat)) ∧ w'.cell? ⟨w1.heap.size, 2, none⟩ = some (.int .i64 (q : Nat)))
      (first | exact keep3c hX (below_drew _) | exact keep3c hX hw1)
      (first
        | (go_at_call 67; refine (size_any a b q _ hb2 hb3).mono ?_; rintro e x1 ⟨rfl, z1⟩; have hw1 : Below W.heap.size W x1 := below_step (below_drew _) z1))
    go_wp2
    go_ret
    exact ⟨ret_int HFIN.out, below_step b1 hw1⟩

theorem below_drewN {B : Nat} {V W : World} (h : Below B V W) : ∀ n, Below B V (W.drewN n) := fun n => ⟨h.os, h.tape, h.output, h.size, h.block⟩

/-- How many spans have at most i characters ahead of them. -/
def uptoI (S : List (Nat × Nat)) (i : Int) : Nat := (List.range S.length).countP fun j => decide ((cnt (S.take j) : Int) ≤ i)
theorem cnt_take_mono (S : List (Nat × Nat)) {i j : Nat} (h : i ≤ j) : cnt (S.take i) ≤ cnt (S.take j) := by
  rw [show S.take j = S.take i ++ (S.take j).drop i by
    rw [← List.take_append_drop i (S.take j)]
    congr 1
    · rw [List.take_take, Nat.min_eq_left h]
    · rw [List.take_append_drop]]
  rw [cnt_append]; omega
/-- Which span the i-th character is in. -/
theorem span_of : ∀ (S : List (Nat × Nat)) (i : Nat), i < cnt S → ∃ k, k < S.length ∧ cnt (S.take k) ≤ i ∧ i < cnt (S.take (k + 1))
  | [], i, h => by simp [cnt] at h
  | (a, b) :: r, i, h => by
    by_cases h0 : i < b - a + 1
    · exact ⟨0, by simp, by simp [cnt], by simpa [cnt] using h0⟩
    · obtain ⟨k, hk, h1, h2⟩ := span_of r (i - (b - a + 1)) (by simp only [cnt] at h; omega)
      refine ⟨k + 1, by simpa using hk, ?_, ?_⟩
      · simp only [List.take_succ_cons, cnt]; omega
      · simp only [List.take_succ_cons, cnt]; omega
/-- The i-th character. -/
def charAt (S : List (Nat × Nat)) (i k : Nat) : Nat := (S.getD k (0, 0)).1 + (i - cnt (S.take k))

set_option maxHeartbeats 4000000 in
theorem at_none (S : List (Nat × Nat)) (v : Value) (i : Int) (w : World) (h : IsSet w v S) (hi : i < 0 ∨ (cnt S : Int) ≤ i) : Calls Tryd.prog 40 #[v, .int .i64 i] w (RetV (.tuple #[.int .i32 0, .bool false]) w) := by
  obtain ⟨A, cp, rfl⟩ := h.shape
  have hX2 := (Blk.new w 29 #[.slice A S.length cp]).alloc (.cells #[.int .i64 i] 3)
  have hX3 := blk_two w (.cells #[.slice A S.length cp] 29) 3 #[.int .i64 i]
  have bW := below_step (below_new w (.cells #[.slice A S.length cp] 29)) (below_new _ (.cells #[.int .i64 i] 3))
  have h' := (h.alloc (.cells #[.slice A S.length cp] 29)).alloc (.cells #[.int .i64 i] 3)
  have CO := Lib.hid (fun W (hW : Below _ _ W) => count_any _ S W (h'.below hW))
  clear h h'
  generalize S.length = n at *
  generalize cnt S = q at *
  by_cases h0 : i < 0
  · have hd : decide (i < 0) = true := by simpa using h0
    have k3 := hX3.cell0
    clear hi
    go_enter Tryd.func40, Tryd.ntmps40
    go_wp2_with fail
    go_quiet (fail)
    go_wp2
    go_ret2
    exact ⟨rfl, below_drewN bW _⟩
  · have hd : decide (i < 0) = false := by simpa using h0
    have hq : (q : Int) ≤ i := by omega
    clear hi
    go_enter Tryd.func40, Tryd.ntmps40
    go_wp2_with fail
    generalize (w.alloc (.cells #[.slice A n cp] 29)).alloc (.cells #[.int .i64 i] 3) = W at *
    go_region_held3 (fun w' => w'.cell? ⟨w.heap.size, 0, none⟩ = some (.slice A n cp) ∧ w'.cell? ⟨w.heap.size + 1, 0, none⟩ = some (.int .i64 i))
      (first | exact ⟨(hX2.on (below_drew _)).cell0, (hX3.on (below_drew _)).cell0⟩ | exact ⟨(hX2.on hw1).cell0, (hX3.on hw1).cell0⟩)
      (first
        | (go_at_call 18; refine (CO.out _ (below_drew _)).mono ?_; rintro e x1 ⟨rfl, z1⟩; have hw1 : Below W.heap.size W x1 := below_step (below_drew _) z1))
    go_wp2
    go_ret2
    exact ⟨rfl, below_step bW hw1⟩

set_option maxHeartbeats 4000000 in
theorem at_some (S : List (Nat × Nat)) (v : Value) (i k : Nat) (w : World) (h : IsSet w v S) (hk : k < S.length) (h1 : cnt (S.take k) ≤ i) (h2 : i < cnt (S.take (k + 1))) : Calls Tryd.prog 40 #[v, .int .i64 (i : Int)] w (RetV (.tuple #[.int .i32 (charAt S i k : Nat), .bool true]) w) := by
  have hg : Good 0 S := by obtain ⟨_, _, _, _, hg⟩ := h; exact hg
  have hcl := hg.cnt_le (by decide)
  obtain ⟨_, hb2, hb3, _⟩ := hg.at_ hk
  have hct := cnt_take_succ S k hk
  have hic : i < cnt S := by
    have := cnt_take_mono S (show k + 1 ≤ S.length by omega)
    rw [List.take_length] at this
    omega
  obtain ⟨A, cp, hv, hs, _⟩ := h
  have h : IsSet w v S := ⟨A, cp, hv, hs, hg⟩
  subst hv
  have hX2 := (Blk.new w 29 #[.slice A S.length cp]).alloc (.cells #[.int .i64 (i : Int)] 3)
  have hX3 := blk_two w (.cells #[.slice A S.length cp] 29) 3 #[.int .i64 (i : Int)]
  have bW := below_step (below_new w (.cells #[.slice A S.length cp] 29)) (below_new _ (.cells #[.int .i64 (i : Int)] 3))
  have h' := (h.alloc (.cells #[.slice A S.length cp] 29)).alloc (.cells #[.int .i64 (i : Int)] 3)
  have CO := Lib.hid (fun W (hW : Below _ _ W) => count_any _ S W (h'.below hW))
  have LS := fun W (hW : Below _ _ W) => lastSpan_some S A cp 76 k #[.pointer (some ⟨w.heap.size + 1, 0, none⟩)] (fun j => decide ((i : Int) < (cnt (S.take j) : Int))) W (hs.below (below_step bW hW)) hg hk (fun j hj => by
      rw [decide_eq_true_iff]
      constructor
      · intro h3
        rcases Nat.lt_or_ge j (k + 1) with h4 | h4
        · have := cnt_take_mono S (show j ≤ k by omega); omega
        · exact h4
      · intro h3
        have := cnt_take_mono S h3; omega) (enters_of Tryd.func76 (by kernel_rfl) rfl)
    (fun W' hW' j hj => beyondI_any _ _ _ (i : Int) (w.heap.size + 1) W' ((hX3.on hW).on hW').cell0 ((hX3.on hW).on hW').lt)
  rw [spanV_parts] at LS
  have HLS := Lib.hid LS
  rw [charAt]
  clear LS h h' hg hs hk
  generalize (S.getD k (0, 0)).1 = a at *
  generalize (S.getD k (0, 0)).2 = b at *
  generalize cnt (S.take k) = q at *
  generalize cnt (S.take (k + 1)) = q' at *
  generalize S.length = n at *
  generalize cnt S = m at *
  have hd : decide ((i : Int) < 0) = false := by simp
  have hge : ¬ (m : Int) ≤ (i : Int) := by omega
  have hsub : (i : Int) - (q : Int) = ((i - q : Nat) : Int) := by omega
  have hiq : i - q ≤ 1114111 := by omega
  have hsum : a + (i - q) ≤ 1114111 := by omega
  have hi6 : i ≤ 2000000 := by omega
  clear hct
  go_enter Tryd.func40, Tryd.ntmps40
  go_wp2_with fail
  generalize (w.alloc (.cells #[.slice A n cp] 29)).alloc (.cells #[.int .i64 (i : Int)] 3) = W at *
  go_region_held3 (fun w' => w'.cell? ⟨w.heap.size, 0, none⟩ = some (.slice A n cp) ∧ w'.cell? ⟨w.heap.size + 1, 0, none⟩ = some (.int .i64 (i : Int)))
    (first | exact ⟨(hX2.on (below_drew _)).cell0, (hX3.on (below_drew _)).cell0⟩ | exact ⟨(hX2.on hw1).cell0, (hX3.on hw1).cell0⟩)
    (first
      | (go_at_call 18; refine (CO.out _ (below_drew _)).mono ?_; rintro e x1 ⟨rfl, z1⟩; have hw1 : Below W.heap.size W x1 := below_step (below_drew _) z1))
  have k2 := (hX2.on hw1).cell0
  have k3 := (hX3.on hw1).cell0
  go_wp2_with fail
  refine (HLS.out _ hw1).mono ?_
  rintro e x2 ⟨rfl, y2⟩
  have k3 := ((hX3.on hw1).on y2).cell0
  have l3 := ((hX3.on hw1).on y2).lt
  have bX := below_step (below_step bW hw1) y2
  go_wp2
  go_ret2
  exact ⟨rfl, bX.alloc bX.size _⟩
end Go.Proofs.YtccbofaefpbhlaaDoor

namespace Go.Proofs.YtccbofaefpbhlaaDoor
set_option linter.unusedVariables false
set_option maxRecDepth 20000
open Go.RowKit

/-- The cells of ranges. -/
def rgCells (L : List (Int × Int)) : List Value := L.flatMap fun r => [.int .i32 r.1, .int .i32 r.2]
theorem rgCells_snoc (L : List (Int × Int)) (r : Int × Int) : rgCells (L ++ [r]) = rgCells L ++ [.int .i32 r.1, .int .i32 r.2] := by simp [rgCells]
theorem rgCells_length (L : List (Int × Int)) : (rgCells L).length = 2 * L.length := by
  induction L with
  | nil => rfl
  | cons x r ih => simp only [rgCells, List.flatMap_cons, List.length_append, List.length_cons, List.length_nil] at ih ⊢; omega
/-- The program's ranges, as integers. -/
def intR (S : List (Nat × Nat)) : List (Int × Int) := S.map fun r => ((r.1 : Int), (r.2 : Int))
theorem intR_take (S : List (Nat × Nat)) (i : Nat) (h : i < S.length) : intR (S.take (i + 1)) = intR (S.take i) ++ [(((S.getD i (0, 0)).1 : Int), ((S.getD i (0, 0)).2 : Int))] := by
  rw [List.take_succ_eq_append_getElem h, intR, List.map_append]
  simp [intR, List.getD, h]
theorem intR_length (S : List (Nat × Nat)) : (intR S).length = S.length := by simp [intR]
/-- It answers ranges in a row of its own. -/
def RetRg (L : List (Int × Int)) (w : World) (e : Ending) (w' : World) : Prop := ∃ u, e = .returned u ∧ w'.ownsRow w.heap.size 59 2 u L.length (rgCells L) ∧ Below w.heap.size w w'

theorem rg_info : (Tryd.prog.info? 59).map (fun i => (i.zero, i.size, i.bytes)) = some (some (.agg #[.int .i32 0, .int .i32 0]), 2, 8) := by kernel_rfl
theorem cell_two_at (w : World) (t : TypeId) (x y : Value) : ∀ (j : Nat) (u : Value), [x, y][j]? = some u → (w.alloc (.cells #[x, y] t)).cell? ((⟨w.heap.size, 0, none⟩ : Addr).add j) = some u := by
  intro j u hu
  rw [add_off, (Blk.new w t _).cell, Nat.zero_add]
  rcases j with _ | _ | j
  · simpa using hu
  · simpa using hu
  · simp at hu
theorem own_form2 {w : World} {B n s : Nat} {e : TypeId} {u : Value} {xs : List Value} (h : w.ownsRow B e s u n xs) : ∃ ao cap, u = .slice ao n cap := by
  rcases h.2 with ⟨hv, h0⟩ | ⟨g, cap, cur, hv, _⟩
  · exact ⟨none, 0, by rw [hv, h0]⟩
  · exact ⟨_, _, hv⟩
theorem own_kept {w w' : World} {B n size : Nat} {e : TypeId} {u : Value} {xs : List Value} (h : w.ownsRow B e size u n xs) (hb : Below w.heap.size w w') : w'.ownsRow B e size u n xs := by
  refine ⟨h.1, ?_⟩
  rcases h.2 with h0 | ⟨g, cap, cur, hv, hB, hg, r⟩
  · exact .inl h0
  · refine .inr ⟨g, cap, cur, hv, hB, ?_, r⟩
    have hlt : g < w.heap.size := by
      rcases Nat.lt_or_ge g w.heap.size with h' | h'
      · exact h'
      · simp [Array.getElem?_eq_none h'] at hg
    exact (hb.block g hlt).trans hg
theorem own_base {w : World} {B B' n size : Nat} {e : TypeId} {u : Value} {xs : List Value} (h : w.ownsRow B e size u n xs) (hb : B' ≤ B) : w.ownsRow B' e size u n xs := by
  refine ⟨h.1, ?_⟩
  rcases h.2 with h0 | ⟨g, cap, cur, hv, hB, r⟩
  · exact .inl h0
  · exact .inr ⟨g, cap, cur, hv, by omega, r⟩

set_option maxHeartbeats 4000000 in
theorem ranges_any (S : List (Nat × Nat)) (v : Value) (w : World) (h : IsSet w v S) : Calls Tryd.prog 46 #[v] w (RetRg (intR S) w) := by
  obtain ⟨i0, hi0, hz0, hz1, hz2⟩ := info_parts rg_info
  obtain ⟨A, cp, rfl, hs, hg⟩ := h
  have hlen := hg.len (by decide)
  have hX := Blk.new w 29 #[.slice A S.length cp]
  have bW := below_new w (.cells #[.slice A S.length cp] 29)
  obtain ⟨n, hn⟩ : ∃ n, S.length = n := ⟨_, rfl⟩
  have HN := Lib.hid hn
  rw [hn] at hX bW hlen ⊢
  clear hn
  go_enter Tryd.func46, Tryd.ntmps46
  go_wp2
  go_loopw [3, 9] (fun u t wr => ∃ i : Nat, i ≤ n ∧ t = .int .i64 (i : Int) ∧ wr.ownsRow (w.heap.size + 1) 59 2 u i (rgCells (intR (S.take i))) ∧ Below w.heap.size w wr ∧ w.heap.size + 1 ≤ wr.heap.size) (fun _ t _ => n - (intOf t).toNat)
  case atStart => exact ⟨0, by omega, rfl, World.ownsRow_nil _ _ _ _, bW, by simp⟩
  case round =>
    obtain ⟨i, hi, rfl, hown, hbw, hsz⟩ := hrel
    by_cases hil : i < n
    · obtain ⟨g, rfl, hl, c1, c2, c3⟩ := (hs.below hbw).at_ (i := i) (by rw [HN.out]; exact hil)
      have HT := Lib.hid (intR_take S i (by rw [HN.out]; exact hil))
      generalize (S.getD i (0, 0)).1 = a at *
      generalize (S.getD i (0, 0)).2 = b at *
      generalize cnt (S.take i) = q at *
      have ho2 := (hown.alloc (.cells #[.int .i32 (a : Nat), .int .i32 (b : Nat), .int .i64 (q : Nat)] 95)).alloc (.cells #[.int .i32 (a : Nat), .int .i32 (b : Nat)] 59)
      have hb2 := below_step (below_step hbw (below_new wr (.cells #[.int .i32 (a : Nat), .int .i32 (b : Nat), .int .i64 (q : Nat)] 95))) (below_new _ (.cells #[.int .i32 (a : Nat), .int .i32 (b : Nat)] 59))
      have hc2 : ∀ (j : Nat) (u : Value), [Value.int .i32 (a : Nat), Value.int .i32 (b : Nat)][j]? = some u → ((wr.alloc (.cells #[.int .i32 (a : Nat), .int .i32 (b : Nat), .int .i64 (q : Nat)] 95)).alloc (.cells #[.int .i32 (a : Nat), .int .i32 (b : Nat)] 59)).cell? ((⟨wr.heap.size + 1, 0, none⟩ : Addr).add j) = some u := by
        have := cell_two_at (wr.alloc (.cells #[.int .i32 (a : Nat), .int .i32 (b : Nat), .int .i64 (q : Nat)] 95)) 59 (.int .i32 (a : Nat)) (.int .i32 (b : Nat))
        simpa using this
      have HC2 := Lib.hid hc2
      clear hc2
      go_wp2_with (at_builtin; refine wpList_append_own _ rfl (.tmp 13) (.tmp 16) 33 rfl (w.heap.size + 1) 59 i0 (.agg #[.int .i32 0, .int .i32 0]) 2 8 Tryd.underlying33 hi0 hz0 hz1 hz2 rfl (by decide) _ i _ rfl ho2 ⟨wr.heap.size + 1, 0, none⟩ 1 1 [.int .i32 (a : Nat), .int .i32 (b : Nat)] rfl rfl HC2.out (by simp [Value.oneCell']) (by unfold maxLen; omega) (by omega) (by simp; omega) ?_; intro v' w4 hown4 hgrow _; have hb4 : Below w.heap.size w w4 := hb2.grown hgrow (by simp; omega) (fun k hk => by have := (ho2.lt k hk).1; omega); have hs4 := hgrow.size; clear hgrow)
      simp only [World.size_alloc] at hs4
      go_roundw
      case rel => exact ⟨i + 1, by omega, by go_num, by rw [HT.out, rgCells_snoc]; exact hown4, hb4, by omega⟩
      case measure => simp [intOf]; omega
    · obtain rfl : i = n := by omega
      rw [← HN.out, List.take_length] at hown
      rw [HN.out] at hown
      go_wp2
      go_ret
      exact ⟨_, rfl, by rw [intR_length, HN.out]; exact own_base hown (by omega), hbw⟩
end Go.Proofs.YtccbofaefpbhlaaDoor
