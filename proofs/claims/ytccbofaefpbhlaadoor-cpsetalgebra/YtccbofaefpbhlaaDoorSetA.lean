/-
  Sets of characters in memory; size, Count.
-/
import Derived.Test.YtccbofaefpbhlaaDoorSortB
import Derived.Test.YtccbofaefpbhlaaDoorSetM
import Derived.Deep.RegionHeld3
import Derived.IntWalk
namespace Go.Proofs.YtccbofaefpbhlaaDoor
set_option linter.unusedVariables false
set_option maxRecDepth 20000
open Go.RowKit

/-- The spans of a set lie at A: their ends, and how many are ahead. -/
def SpansAt (w : World) (A : Option Addr) (S : List (Nat × Nat)) : Prop :=
  S ≠ [] → ∃ g, A = some ⟨g, 0, none⟩ ∧ g < w.heap.size ∧ ∀ i, i < S.length → w.cell? ⟨g, i * 3, none⟩ = some (.int .i32 ((S.getD i (0, 0)).1 : Nat)) ∧ w.cell? ⟨g, i * 3 + 1, none⟩ = some (.int .i32 ((S.getD i (0, 0)).2 : Nat)) ∧ w.cell? ⟨g, i * 3 + 2, none⟩ = some (.int .i64 (cnt (S.take i) : Nat))
/-- A set of the program. -/
def IsSet (w : World) (v : Value) (S : List (Nat × Nat)) : Prop := ∃ A c, v = .agg #[.slice A S.length c] ∧ SpansAt w A S ∧ Good 0 S

theorem SpansAt.below {w w' : World} {A : Option Addr} {S : List (Nat × Nat)} (h : SpansAt w A S) (hb : Below w.heap.size w w') : SpansAt w' A S := fun hn => by
  obtain ⟨g, e, hl, hc⟩ := h hn
  refine ⟨g, e, Nat.lt_of_lt_of_le hl hb.size, fun i hi => ?_⟩
  obtain ⟨h1, h2, h3⟩ := hc i hi
  exact ⟨(hb.cell (p := ⟨g, _, none⟩) hl).trans h1, (hb.cell (p := ⟨g, _, none⟩) hl).trans h2, (hb.cell (p := ⟨g, _, none⟩) hl).trans h3⟩
theorem SpansAt.at_ {w : World} {A : Option Addr} {S : List (Nat × Nat)} (h : SpansAt w A S) {i : Nat} (hi : i < S.length) : ∃ g, A = some ⟨g, 0, none⟩ ∧ g < w.heap.size ∧ w.cell? ⟨g, i * 3, none⟩ = some (.int .i32 ((S.getD i (0, 0)).1 : Nat)) ∧ w.cell? ⟨g, i * 3 + 1, none⟩ = some (.int .i32 ((S.getD i (0, 0)).2 : Nat)) ∧ w.cell? ⟨g, i * 3 + 2, none⟩ = some (.int .i64 (cnt (S.take i) : Nat)) := by
  obtain ⟨g, e, hl, hc⟩ := h (by intro e; simp [e] at hi)
  exact ⟨g, e, hl, hc i hi⟩
theorem IsSet.below {w w' : World} {v : Value} {S : List (Nat × Nat)} (h : IsSet w v S) (hb : Below w.heap.size w w') : IsSet w' v S := by
  obtain ⟨A, c, e, h1, h2⟩ := h
  exact ⟨A, c, e, h1.below hb, h2⟩
theorem IsSet.alloc {w : World} {v : Value} {S : List (Nat × Nat)} (h : IsSet w v S) (o : Obj) : IsSet (w.alloc o) v S := h.below (below_new w o)
theorem IsSet.shape {w : World} {v : Value} {S : List (Nat × Nat)} (h : IsSet w v S) : ∃ A c, v = .agg #[.slice A S.length c] := by
  obtain ⟨A, c, e, _⟩ := h
  exact ⟨A, c, e⟩
theorem Good.len : ∀ {S : List (Nat × Nat)} {lo : Nat}, Good lo S → lo ≤ 1114113 → 2 * S.length + lo ≤ 1114113 + 1
  | [], lo, _, h => by simp; omega
  | (a, b) :: r, lo, ⟨h1, h2, h3, h4, h5⟩, h => by
    have := h5.len (by omega)
    simp only [List.length_cons]
    omega
/-- It answers a set, and nothing that was there has turned. -/
def RetS (S : List (Nat × Nat)) (w : World) (e : Ending) (w' : World) : Prop := ∃ v, e = .returned v ∧ IsSet w' v S ∧ Below w.heap.size w w'

theorem ret_int {k : IntKind} {a b : Int} (h : a = b) : Ending.returned (.int k a) = .returned (.int k b) := by rw [h]
theorem size_any (a b k : Nat) (w : World) (hab : a ≤ b) (hb : b ≤ 1114111) : Calls Tryd.prog 67 #[.agg #[.int .i32 a, .int .i32 b, .int .i64 k]] w (RetV (.int .i64 (b - a + 1 : Nat)) w) := by
  have e : (b : Int) - (a : Int) = ((b - a : Nat) : Int) := by omega
  go_enter Tryd.func67, Tryd.ntmps67
  go_wp2
  go_ret
  exact ⟨rfl, below_new _ _⟩

theorem keep3c {W w' : World} {g : Nat} {t : TypeId} {x y z : Value} (h : Blk W g t #[x, y, z]) (hb : Below W.heap.size W w') : w'.cell? ⟨g, 0, none⟩ = some x ∧ w'.cell? ⟨g, 1, none⟩ = some y ∧ w'.cell? ⟨g, 2, none⟩ = some z :=
  ⟨((h.on hb).cell 0).trans rfl, ((h.on hb).cell 1).trans rfl, ((h.on hb).cell 2).trans rfl⟩
theorem keepC {W w' : World} {g : Nat} {t : TypeId} {cs : Array Value} (h : Blk W g t cs) (hb : Below W.heap.size W w') (i : Nat) : w'.cell? ⟨g, i, none⟩ = cs[i]? := (h.on hb).cell i

set_option maxHeartbeats 2000000 in
theorem count_any (v : Value) (S : List (Nat × Nat)) (w : World) (h : IsSet w v S) : Calls Tryd.prog 18 #[v] w (RetV (.int .i64 (cnt S : Nat)) w) := by
  obtain ⟨A, c, rfl, hs, hg⟩ := h
  have hlen := hg.len (by decide)
  have hcn := hg.cnt_le (by decide)
  by_cases h0 : S = []
  · subst h0
    go_enter Tryd.func18, Tryd.ntmps18
    go_wp2
    go_ret
    exact ⟨rfl, below_new _ _⟩
  · have hp : 0 < S.length := List.length_pos_iff.2 h0
    obtain ⟨g, rfl, hl, c1, c2, c3⟩ := hs.at_ (i := S.length - 1) (by omega)
    obtain ⟨_, g2, g3, _⟩ := hg.at_ (i := S.length - 1) (by omega)
    have hct := cnt_take_succ S (S.length - 1) (by omega)
    rw [show S.length - 1 + 1 = S.length by omega, List.take_length] at hct
    obtain ⟨k, hk⟩ : ∃ k, S.length = k + 1 := ⟨S.length - 1, by omega⟩
    rw [hk, Nat.add_sub_cancel] at c1 c2 c3 g2 g3 hct
    rw [hct]
    have hk1 : ((k + 1 : Nat) : Int) - 1 = (k : Int) := by omega
    have hkz : (((k + 1 : Nat) : Int) == 0) = false := by simp; omega
    have hbk : cnt (S.take k) ≤ 1114113 := by omega
    have hkb : k ≤ 1000000 := by omega
    generalize (S.getD k (0, 0)).1 = a at *
    generalize (S.getD k (0, 0)).2 = b at *
    generalize cnt (S.take k) = q at *
    rw [hk]
    clear hct hk h0 hp hs hg
    go_enter Tryd.func18, Tryd.ntmps18
    go_wp2_with fail
    have hX : Blk ((w.alloc (.cells #[.slice (some ⟨g, 0, none⟩) (k + 1) c] 29)).alloc (.cells #[.int .i32 (a : Nat), .int .i32 (b : Nat), .int .i64 (q : Nat)] 95)) (w.heap.size + 1) 95 #[.int .i32 (a : Nat), .int .i32 (b : Nat), .int .i64 (q : Nat)] := by
      have := Blk.new (w.alloc (.cells #[.slice (some ⟨g, 0, none⟩) (k + 1) c] 29)) 95 #[.int .i32 (a : Nat), .int .i32 (b : Nat), .int .i64 (q : Nat)]
      simpa using this
    have bW := below_step (below_new w (.cells #[.slice (some ⟨g, 0, none⟩) (k + 1) c] 29)) (below_new _ (.cells #[.int .i32 (a : Nat), .int .i32 (b : Nat), .int .i64 (q : Nat)] 95))
    clear c1 c2 c3 hl
    generalize (w.alloc (.cells #[.slice (some ⟨g, 0, none⟩) (k + 1) c] 29)).alloc (.cells #[.int .i32 (a : Nat), .int .i32 (b : Nat), .int .i64 (q : Nat)] 95) = W at *
    go_region_held3 (fun w' => w'.cell? ⟨w.heap.size + 1, 0, none⟩ = some (.int .i32 (a : Nat)) ∧ w'.cell? ⟨w.heap.size + 1, 1, none⟩ = some (.int .i32 (b : Nat)) ∧ w'.cell? ⟨w.heap.size + 1, 2, none⟩ = some (.int .i64 (q : Nat)))
      (first | exact keep3c hX (below_drew _) | exact keep3c hX hw1)
      (first
        | (go_at_call 67; refine (size_any a b q _ g2 g3).mono ?_; rintro e x1 ⟨rfl, y1⟩; have hw1 : Below W.heap.size W x1 := below_step (below_drew _) y1))
    have hwr : IntKind.i64.wrap ((q : Int) + (((b - a : Nat) : Int) + 1)) = ((q + (b - a + 1) : Nat) : Int) := by rw [IntWalk.i64_in _ (by omega)]; omega
    go_wp2
    go_ret
    exact ⟨ret_int hwr, below_step bW hw1⟩

/-- sort.Search, of a function that only makes memory: how many places say no, where those that say yes are the last ones. -/
theorem search_any (g : Nat) (cb : Array Value) (n m : Nat) (p : Nat → Bool) (w : World) (hn : n ≤ 2000000) (hm : m ≤ n) (hp : ∀ i, i < n → (p i = true ↔ m ≤ i)) (eg : ∀ args w, (callFunc g args).run Tryd.prog w = .ok (.enter g args) w)
    (hf : ∀ W, Below w.heap.size w W → ∀ i : Nat, i < n → Calls Tryd.prog g (#[.int .i64 (i : Int)] ++ cb) W (RetV (.bool (p i)) W)) :
    Calls Tryd.prog 102 #[.int .i64 (n : Int), .func (.func g) #[] cb] w (RetV (.int .i64 (m : Nat)) w) := by
  have HF := Lib.hid hf
  have HP := Lib.hid hp
  clear hf hp
  go_enter Tryd.func102, Tryd.ntmps102
  go_wp2
  go_loopw [5, 6] (fun s t wr => ∃ lo hi : Nat, s = .int .i64 (lo : Int) ∧ t = .int .i64 (hi : Int) ∧ lo ≤ m ∧ m ≤ hi ∧ hi ≤ n ∧ Below w.heap.size w wr) (fun s t _ => (intOf t).toNat - (intOf s).toNat)
  case atStart => exact ⟨0, n, rfl, rfl, by omega, hm, by omega, Below.refl _ _⟩
  case round =>
    obtain ⟨lo, hi, rfl, rfl, h1, h2, h3, hb⟩ := hrel
    by_cases hlt : lo < hi
    · obtain ⟨k, hk⟩ : ∃ k, (lo + hi) / 2 = k := ⟨_, rfl⟩
      have hc := HF.out _ hb k (by omega)
      have hpk := HP.out k (by omega)
      have hk' : ((lo : Int) + (hi : Int)) / 2 = (k : Int) := by omega
      have hk1 : lo ≤ k := by omega
      have hk2 : k < hi := by omega
      have HC := Lib.hid hc
      clear hc hk
      cases hpb : p k with
      | true =>
        have hmk : m ≤ k := hpk.1 hpb
        rw [hpb] at HC
        clear hpk hpb
        go_wp2_with fail
        refine HC.out.mono ?_
        rintro e w1 ⟨rfl, y1⟩
        go_wp2
        go_roundw
        case rel => exact ⟨lo, k, rfl, rfl, h1, hmk, by omega, below_step hb y1⟩
        case measure => simp [intOf]; omega
      | false =>
        have hmk : ¬ m ≤ k := fun h => by have := hpk.2 h; rw [hpb] at this; cases this
        rw [hpb] at HC
        clear hpk hpb
        go_wp2_with fail
        refine HC.out.mono ?_
        rintro e w1 ⟨rfl, y1⟩
        go_wp2
        go_roundw
        case rel => exact ⟨k + 1, hi, by go_num, rfl, by omega, h2, h3, below_step hb y1⟩
        case measure => simp [intOf]; omega
    · obtain rfl : lo = hi := by omega
      obtain rfl : lo = m := by omega
      go_wp2
      go_ret
      exact ⟨rfl, hb⟩

/-- How many spans begin with c, or ahead of it. -/
def upto (S : List (Nat × Nat)) (c : Int) : Nat := S.countP fun r => decide ((r.1 : Int) ≤ c)
theorem upto_le (S : List (Nat × Nat)) (c : Int) : upto S c ≤ S.length := List.countP_le_length
theorem upto_iff : ∀ {S : List (Nat × Nat)} {lo : Nat}, Good lo S → ∀ (c : Int) {i : Nat}, i < S.length → (upto S c ≤ i ↔ c < ((S.getD i (0, 0)).1 : Int))
  | [], _, _, c, i, hi => by simp at hi
  | (a, b) :: r, lo, ⟨h1, h2, h3, h4, h5⟩, c, i, hi => by
    unfold upto
    rw [List.countP_cons]
    by_cases hac : (a : Int) ≤ c
    · rw [if_pos (by simpa using hac)]
      rcases i with _ | i
      · simp; omega
      · have := upto_iff h5 c (i := i) (by simpa using hi)
        unfold upto at this
        simp only [List.getD_cons_succ]
        omega
    · rw [if_neg (by simpa using hac)]
      have hz : r.countP (fun x => decide ((x.1 : Int) ≤ c)) = 0 := by
        rw [List.countP_eq_zero]
        intro x hx
        obtain ⟨j, hj, rfl⟩ := List.getElem_of_mem hx
        have := (h5.at_ hj).1
        simp only [List.getD_eq_getElem?_getD, List.getElem?_eq_getElem hj, Option.getD_some] at this
        simp; omega
      rw [hz]
      have := (Good.at_ (show Good lo ((a, b) :: r) from ⟨h1, h2, h3, h4, h5⟩) hi).1
      rcases i with _ | i
      · simp; omega
      · have h6 := (h5.at_ (i := i) (by simpa using hi)).1
        simp only [List.getD_cons_succ]
        omega
end Go.Proofs.YtccbofaefpbhlaaDoor
