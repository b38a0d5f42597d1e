/-
  pages: few: at most 30 cells, of numbers that characters may be asked by: the document's, and the program's own.
-/
import Derived.Test.YtblakfpacommfaaPP
import Derived.Test.YtblakfpacommfaaPBits
import Derived.Test.YtblakfpacommfaaPG
import Derived.BigRegion
import Derived.RegionTactic
import Derived.ChangeAlike
namespace Go.Proofs.Ytblakfpacommfaa
set_option linter.unusedVariables false
set_option maxRecDepth 20000
open Go.RowKit

/-- Cells of the laws. -/
def PairIn (w : World) (A : Option Addr) (L : List (Int × Int)) : Prop :=
  L ≠ [] → ∃ ad, A = some ad ∧ ad.block < w.heap.size ∧ ∀ i, i < L.length → w.cell? (ad.add (i * 2)) = some (.int .i64 (L.getD i (0, 0)).1) ∧ w.cell? (ad.add (i * 2 + 1)) = some (.int .i64 (L.getD i (0, 0)).2)
theorem PairIn.below {w w' : World} {A : Option Addr} {L : List (Int × Int)} (h : PairIn w A L) (hb : Below w.heap.size w w') : PairIn w' A L := fun hn => by
  obtain ⟨ad, e, hl, hc⟩ := h hn
  exact ⟨ad, e, Nat.lt_of_lt_of_le hl hb.size, fun i hi => ⟨(hb.cell (by rw [add_block]; exact hl)).trans (hc i hi).1, (hb.cell (by rw [add_block]; exact hl)).trans (hc i hi).2⟩⟩
theorem PairIn.at_ {w : World} {A : Option Addr} {L : List (Int × Int)} (h : PairIn w A L) {i : Nat} (hi : i < L.length) : ∃ ad, A = some ad ∧ ad.block < w.heap.size ∧ w.cell? (ad.add (i * 2)) = some (.int .i64 (L.getD i (0, 0)).1) ∧ w.cell? (ad.add (i * 2 + 1)) = some (.int .i64 (L.getD i (0, 0)).2) := by
  obtain ⟨ad, e, hl, hc⟩ := h (by intro e; simp [e] at hi)
  exact ⟨ad, e, hl, hc i hi⟩

/-- A number of sixteen bits of any. -/
def word16 (v : Int) : Nat := (bits BinOp.and IntKind.i64 v 65535).toNat
theorem word16_eq (v : Int) : bits BinOp.and IntKind.i64 v 65535 = (word16 v : Int) := by
  obtain ⟨n, _, h⟩ := low_word v
  unfold word16
  rw [h]
  simp
theorem word16_lt (v : Int) : word16 v < 65536 := by
  obtain ⟨n, h1, h⟩ := low_word v
  unfold word16
  rw [h]
  simpa using h1
def fewP (p : Int × Int) : Int × Nat := (IntKind.i32.wrap p.1, word16 p.2)
def fewL (l : List (Int × Int)) : List (Int × Nat) := (l.take 30).map fewP
theorem fewL_length (l : List (Int × Int)) : (fewL l).length ≤ 30 := by simp [fewL]; omega
theorem fewL_ok (l : List (Int × Int)) : ∀ x ∈ fewL l, -2147483648 ≤ x.1 ∧ x.1 ≤ 2147483647 ∧ x.2 < 65536 := by
  intro x hx
  obtain ⟨p, _, rfl⟩ := List.mem_map.1 hx
  exact ⟨(wrap32_in _).1, (wrap32_in _).2, word16_lt _⟩

/-- The document's cells, and the program's, one behind the other. -/
def rfC (L : List (Int × Nat)) : List Value := L.flatMap fun p => [.int .i64 p.1, .int .i64 (p.2 : Int)]
def owC (L : List (Int × Nat)) : List Value := L.flatMap fun p => [.int .i32 p.1, .int .u16 (p.2 : Int)]
theorem rfC_append (L M : List (Int × Nat)) : rfC (L ++ M) = rfC L ++ rfC M := by simp [rfC]
theorem owC_append (L M : List (Int × Nat)) : owC (L ++ M) = owC L ++ owC M := by simp [owC]
theorem rfC_get : ∀ (L : List (Int × Nat)) (i : Nat), i < L.length → (rfC L)[i * 2]? = some (.int .i64 (L.getD i (0, 0)).1) ∧ (rfC L)[i * 2 + 1]? = some (.int .i64 ((L.getD i (0, 0)).2 : Nat))
  | [], i, h => by simp at h
  | (a, b) :: r, 0, _ => by simp [rfC]
  | (a, b) :: r, i + 1, h => by
    obtain ⟨h1, h2⟩ := rfC_get r i (by simpa using h)
    have e : rfC ((a, b) :: r) = [.int .i64 a, .int .i64 (b : Int)] ++ rfC r := by simp [rfC]
    rw [e, List.getElem?_append_right (by simp; omega), List.getElem?_append_right (by simp; omega)]
    simp only [List.length_cons, List.length_nil, Nat.zero_add, Nat.reduceAdd, show (i + 1) * 2 - 2 = i * 2 by omega, show (i + 1) * 2 + 1 - 2 = i * 2 + 1 by omega, List.getD_cons_succ]
    exact ⟨h1, h2⟩
theorem owC_get : ∀ (L : List (Int × Nat)) (i : Nat), i < L.length → (owC L)[i * 2]? = some (.int .i32 (L.getD i (0, 0)).1) ∧ (owC L)[i * 2 + 1]? = some (.int .u16 ((L.getD i (0, 0)).2 : Nat))
  | [], i, h => by simp at h
  | (a, b) :: r, 0, _ => by simp [owC]
  | (a, b) :: r, i + 1, h => by
    obtain ⟨h1, h2⟩ := owC_get r i (by simpa using h)
    have e : owC ((a, b) :: r) = [.int .i32 a, .int .u16 (b : Int)] ++ owC r := by simp [owC]
    rw [e, List.getElem?_append_right (by simp; omega), List.getElem?_append_right (by simp; omega)]
    simp only [List.length_cons, List.length_nil, Nat.zero_add, Nat.reduceAdd, show (i + 1) * 2 - 2 = i * 2 by omega, show (i + 1) * 2 + 1 - 2 = i * 2 + 1 by omega, List.getD_cons_succ]
    exact ⟨h1, h2⟩
theorem own_refs {w : World} {B : Nat} {v : Value} {L : List (Int × Nat)} (h : w.ownsRow B 31 2 v L.length (rfC L)) : ∃ A c, v = .slice A L.length c ∧ RefsAt w A L := by
  rcases h.2 with ⟨rfl, h0⟩ | ⟨g, cap, cur, rfl, _, hh, hnc, _⟩
  · have : L = [] := List.length_eq_zero_iff.1 h0
    subst this
    exact ⟨none, 0, rfl, fun hn => absurd rfl hn⟩
  · refine ⟨_, cap, rfl, fun _ => ⟨g, 0, rfl, (Array.getElem?_eq_some_iff.1 hh).1, fun i hi => ?_⟩⟩
    obtain ⟨h1, h2⟩ := rfC_get L i hi
    have c1 := h.cells (g := g) rfl _ _ h1
    have c2 := h.cells (g := g) rfl _ _ h2
    rw [add_zero_block] at c1 c2
    rw [Nat.zero_add]
    exact ⟨c1, c2⟩
theorem own_cells {w : World} {B : Nat} {v : Value} {L : List (Int × Nat)} (h : w.ownsRow B 38 2 v L.length (owC L)) : ∃ A c, v = .slice A L.length c ∧ CellsAt w A L := by
  rcases h.2 with ⟨rfl, h0⟩ | ⟨g, cap, cur, rfl, _, hh, hnc, _⟩
  · have : L = [] := List.length_eq_zero_iff.1 h0
    subst this
    exact ⟨none, 0, rfl, fun hn => absurd rfl hn⟩
  · refine ⟨_, cap, rfl, fun _ => ⟨g, 0, rfl, (Array.getElem?_eq_some_iff.1 hh).1, fun i hi => ?_⟩⟩
    obtain ⟨h1, h2⟩ := owC_get L i hi
    have c1 := h.cells (g := g) rfl _ _ h1
    have c2 := h.cells (g := g) rfl _ _ h2
    rw [add_zero_block] at c1 c2
    rw [Nat.zero_add]
    exact ⟨c1, c2⟩
theorem own_two {w : World} {B B' : Nat} {e e' : TypeId} {s s' : Nat} {v v' : Value} {n n' : Nat} {xs xs' : List Value} (h : w.ownsRow B e s v n xs) (h' : w.ownsRow B' e' s' v' n' xs') (ht : e ≠ e') : ∀ k, v.ownBlock = some k → v'.ownBlock ≠ some k := by
  intro k h1 h2
  rcases h.2 with ⟨rfl, _⟩ | ⟨g, cap, cur, rfl, _, hh, _⟩
  · simp [Value.ownBlock] at h1
  · simp [Value.ownBlock] at h1
    subst h1
    exact own_ne h' (show Blk w g e cur from hh) (Ne.symm ht) h2
theorem own_grown {w w' : World} {B : Nat} {e : TypeId} {s : Nat} {v : Value} {n : Nat} {xs : List Value} {row : Option Nat} (h : w.ownsRow B e s v n xs) (hg : w.grownBy w' row) (hn : ∀ k, v.ownBlock = some k → row ≠ some k) : w'.ownsRow B e s v n xs := by
  refine h.kept hg ?_
  cases hv : v.ownBlock with
  | none => exact .inl rfl
  | some k => exact .inr fun e => hn k hv e.symm

theorem add_field (ad : Addr) (i : Nat) : ad.add (i * 2 + 1) = ⟨(ad.add (i * 2)).block, (ad.add (i * 2)).off + 1, none⟩ := by
  unfold Addr.add
  by_cases h : i * 2 = 0
  · simp [h]
  · simp [h]; omega
theorem info31 : (Try.prog.info? 31).map (fun i => (i.zero, i.size, i.bytes)) = some (some (.agg #[.int .i64 0, .int .i64 0]), 2, 16) := by kernel_rfl
theorem info38 : (Try.prog.info? 38).map (fun i => (i.zero, i.size, i.bytes)) = some (some (.agg #[.int .i32 0, .int .u16 0]), 2, 8) := by kernel_rfl
/-- It answers the cells, twice, in rows of its own. -/
def RetFew (L : List (Int × Nat)) (w : World) (e : Ending) (w' : World) : Prop := ∃ u v, e = .returned (.tuple #[u, v]) ∧ w'.ownsRow w.heap.size 31 2 u L.length (rfC L) ∧ w'.ownsRow w.heap.size 38 2 v L.length (owC L) ∧ Below w.heap.size w w'

set_option maxHeartbeats 2000000 in
theorem few_any (A : Option Addr) (n c : Nat) (l : List (Int × Int)) (w : World) (hL : l.length = n) (hr : PairIn w A l) (hn : n ≤ 9223372036854775807) : Calls Try.prog 7 #[.slice A n c] w (RetFew (fewL l) w) := by
  obtain ⟨i1, hi1, ha0, ha1, ha2⟩ := info_parts info31
  obtain ⟨i2, hi2, hb0, hb1, hb2⟩ := info_parts info38
  have HR := Lib.hid fun W (hb : Below w.heap.size w W) => hr.below hb
  have HLEN := Lib.hid hL
  clear hr hL
  go_enter Try.func7, Try.ntmps7
  go_wp2
  go_loopw [6, 4, 5] (fun s t u wr => ∃ i : Nat, s = .int .i64 (i : Int) ∧ i ≤ n ∧ i ≤ 30 ∧ wr.ownsRow w.heap.size 31 2 t i (rfC ((l.take i).map fewP)) ∧ wr.ownsRow w.heap.size 38 2 u i (owC ((l.take i).map fewP)) ∧ Below w.heap.size w wr) (fun s _ _ _ => 30 - (intOf s).toNat)
  case atStart => exact ⟨0, rfl, by omega, by omega, World.ownsRow_nil _ _ _ _, World.ownsRow_nil _ _ _ _, Below.refl _ _⟩
  case round =>
    obtain ⟨i, rfl, h1, h2, hu, hv, hb⟩ := hrel
    by_cases hi : i < n
    · by_cases h30 : i < 30
      · obtain ⟨ad, rfl, hg, c0, c1⟩ := (HR.out _ hb).at_ (i := i) (by rw [HLEN.out]; exact hi)
        have hne := Lib.hid (show l.take (i + 1) = l.take i ++ [l.getD i (0, 0)] by
          rw [List.take_succ_eq_append_getElem (by rw [HLEN.out]; exact hi)]; simp [List.getD, show i < l.length by rw [HLEN.out]; exact hi])
        generalize l.getD i (0, 0) = p at *
        obtain ⟨x, y⟩ := p
        dsimp only at c0 c1
        have hw := wrap32_in x
        have hy := word16_eq y
        have hyl := word16_lt y
        have hnp : Hid ((l.take (i + 1)).map fewP = (l.take i).map fewP ++ [(IntKind.i32.wrap x, word16 y)]) := Lib.hid (by rw [hne.out, List.map_append]; rfl)
        clear hne
        have hwx : wrap32 x = IntKind.i32.wrap x := by rw [IntKind.wrap_i32]; unfold wrap32; rfl
        generalize IntKind.i32.wrap x = X at *
        generalize word16 y = N at *
        obtain ⟨hw1, hw2⟩ := hw
        generalize (l.take i).map fewP = M at *
        have ead : ad.add (i * 2 + 1) = ⟨(ad.add (i * 2)).block, (ad.add (i * 2)).off + 1, none⟩ := add_field ad i
        rw [ead] at c1
        clear ead
        have hi' : decide (i < n) = true := by simpa using hi
        go_wp2_with fail
        have hL0 := hb.size
        have bA := below_new wr (.cells #[.int .i64 0, .int .i64 0] 31)
        have d0 := (bA.cell (p := ad.add (i * 2)) (by rw [add_block]; exact hg)).trans c0
        have d1 := (bA.cell (p := ⟨(ad.add (i * 2)).block, (ad.add (i * 2)).off + 1, none⟩) (by simp only; rw [add_block]; exact hg)).trans c1
        go_region
        have b2 := below_step hb (below_step (below_new wr (.cells #[.int .i64 X, .int .i64 (N : Int)] 31)) (below_new _ (.cells #[.int .i64 X, .int .i64 (N : Int)] 31)))
        have hX := ((Blk.new wr 31 #[.int .i64 X, .int .i64 (N : Int)]).alloc (.cells #[.int .i64 X, .int .i64 (N : Int)] 31))
        have hu2 : (((wr.alloc (.cells #[.int .i64 X, .int .i64 (N : Int)] 31)).alloc (.cells #[.int .i64 X, .int .i64 (N : Int)] 31)).drew).ownsRow w.heap.size 31 2 u4 i (rfC M) := (hu.alloc _).alloc _
        have hv2 : (((wr.alloc (.cells #[.int .i64 X, .int .i64 (N : Int)] 31)).alloc (.cells #[.int .i64 X, .int .i64 (N : Int)] 31)).drew).ownsRow w.heap.size 38 2 u5 i (owC M) := (hv.alloc _).alloc _
        have hnw : ∀ (j : Nat) (u : Value), [Value.int .i64 X, Value.int .i64 (N : Int)][j]? = some u → (((wr.alloc (.cells #[.int .i64 X, .int .i64 (N : Int)] 31)).alloc (.cells #[.int .i64 X, .int .i64 (N : Int)] 31)).drew).cell? ((⟨wr.heap.size + 1, 0, none⟩ : Addr).add j) = some u := by
          have := World.news_of_block (cs := #[.int .i64 X, .int .i64 (N : Int)]) (t := 31) (fr := (0, 0)) (heap_alloc_new (wr.alloc (.cells #[.int .i64 X, .int .i64 (N : Int)] 31)) (.cells #[.int .i64 X, .int .i64 (N : Int)] 31))
          simpa using this
        have hbs : w.heap.size ≤ (((wr.alloc (.cells #[.int .i64 X, .int .i64 (N : Int)] 31)).alloc (.cells #[.int .i64 X, .int .i64 (N : Int)] 31)).drew).heap.size := by simp; omega
        have hnu : u4.ownBlock ≠ some wr.heap.size := fun e => by have := (hu.lt _ e).2; omega
        have hXd : Blk (((wr.alloc (.cells #[.int .i64 X, .int .i64 (N : Int)] 31)).alloc (.cells #[.int .i64 X, .int .i64 (N : Int)] 31)).drew) wr.heap.size 31 #[.int .i64 X, .int .i64 (N : Int)] := hX
        have b2d : Below w.heap.size w (((wr.alloc (.cells #[.int .i64 X, .int .i64 (N : Int)] 31)).alloc (.cells #[.int .i64 X, .int .i64 (N : Int)] 31)).drew) := below_step b2 (below_drew _)
        have hi63 : i + 1 ≤ maxLen := by unfold maxLen; omega
        have hi16 : (i + 1) * 16 ≤ 140737488355328 := by omega
        have hi8 : (i + 1) * 8 ≤ 140737488355328 := by omega
        go_wp2_with (first
          | (at_builtin; refine wpList_append_own _ rfl (.tmp 32) (.tmp 34) 22 rfl w.heap.size 31 i1 _ 2 16 Try.underlying22 hi1 ha0 ha1 ha2 rfl (by decide) u4 i (rfC M) rfl hu2 ⟨wr.heap.size + 1, 0, none⟩ 1 1 [.int .i64 X, .int .i64 (N : Int)] rfl rfl hnw (by simp [Value.oneCell']) hi63 hi16 hbs ?_; intro v3 w3 hown3 hgrow3 _; have hX3 := hXd.grown hgrow3 hnu; have k0 := (hX3.cell 0).trans rfl; have k1 := (hX3.cell 1).trans rfl; have b3 := b2d.grown hgrow3 hbs (fun kk h => (hu2.lt kk h).1); have hv3 := (own_grown hv2 hgrow3 (fun k h e => own_two hv2 hu2 (by decide) k h e)).alloc (.cells #[.int .i32 X, .int .u16 (N : Int)] 38); have b4 := below_step b3 (below_new w3 (.cells #[.int .i32 X, .int .u16 (N : Int)] 38)); have hbs4 := b4.size; have hu4 := hown3.alloc (.cells #[.int .i32 X, .int .u16 (N : Int)] 38))
          | (at_builtin; refine wpList_append_own _ rfl (.tmp 36) (.tmp 44) 24 rfl w.heap.size 38 i2 _ 2 8 Try.underlying24 hi2 hb0 hb1 hb2 rfl (by decide) u5 i (owC M) rfl hv3 ⟨w3.heap.size, 0, none⟩ 1 1 [.int .i32 X, .int .u16 (N : Int)] rfl rfl (World.news_of_block (cs := #[.int .i32 X, .int .u16 (N : Int)]) (t := 38) (fr := (0, 0)) (heap_alloc_new w3 _)) (by simp [Value.oneCell']) hi63 hi8 hbs4 ?_; intro v5 w5 hown5 hgrow5 _))
        go_roundw
        case rel =>
          refine ⟨i + 1, by go_num, by omega, by omega, ?_, ?_, b4.grown hgrow5 hbs4 (fun kk h => (hv3.lt kk h).1)⟩
          · rw [hnp.out, rfC_append]
            exact own_grown hu4 hgrow5 (fun k h e => own_two hu4 hv3 (by decide) k h e)
          · rw [hnp.out, owC_append]
            exact hown5
        case measure => simp [intOf]; omega
      · obtain rfl : i = 30 := by omega
        have hlt : decide ((30 : Nat) < n) = true := by simpa using hi
        go_wp2
        go_ret2
        have e : (fewL l).length = 30 := by simp [fewL, HLEN.out]; omega
        refine ⟨u4, u5, rfl, ?_, ?_, hb⟩
        · rw [e]; exact hu
        · rw [e]; exact hv
    · obtain rfl : i = n := by omega
      have hlt : decide (i < i) = false := by simp
      go_wp2
      go_ret2
      have e1 : l.take i = l.take 30 := by rw [List.take_of_length_le (by rw [HLEN.out]; omega), List.take_of_length_le (by rw [HLEN.out]; omega)]
      rw [e1] at hu hv
      have e : (fewL l).length = i := by simp [fewL, HLEN.out]; omega
      refine ⟨u4, u5, rfl, ?_, ?_, hb⟩
      · rw [e]; exact hu
      · rw [e]; exact hv
end Go.Proofs.Ytblakfpacommfaa
