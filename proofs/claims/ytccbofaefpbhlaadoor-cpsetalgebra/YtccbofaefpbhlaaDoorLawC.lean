/-
  Slices of ranges, and of runes, that came in, in the walks' words.
  The laws of cpset: Own, Set.
-/
import Derived.Test.YtccbofaefpbhlaaDoorLawB
import Derived.Deep.SlicePairs
import Derived.ChangeSame
import Derived.OpenShut
namespace Go.Proofs.YtccbofaefpbhlaaDoor
set_option linter.unusedVariables false
set_option maxRecDepth 20000
open Go.ChangeShapes Go.WideShapes Go.RowKit

theorem cells26 : Tryd.prog.cellsOf 26 = 2 := by kernel_rfl
theorem cells3 : Tryd.prog.cellsOf 3 = 1 := by kernel_rfl
theorem int_of {H : Type} {enc : TypeId × Value → H} {W : World} {base : Nat} {spare : Nat → Bool} {held : Bool} {fuel : Nat} {v : Value} {x : DataW H × List MemPlace}
    (h : DataW.trod enc Tryd.prog W base spare held fuel 3 [v] = some x) : ∃ z : Int, v = .int .i64 z := by
  obtain ⟨z, hz, _⟩ := DataW.trod_int Tryd.underlying3 h
  exact ⟨z, by simpa using hz⟩

def CamePairs (W : World) (a : Option Addr) (n c : Nat) : Prop := ∃ L : List (Int × Int), L.length = n ∧ PairIn W a L ∧ n ≤ c ∧ (a = none → c = 0) ∧ n ≤ 9223372036854775807
theorem came_pairs {H : Type} {enc : TypeId × Value → H} {W : World} {base : Nat} {spare : Nat → Bool} {held : Bool} {fuel : Nat} {a : Option Addr} {n c : Nat} {x : DataW H × List MemPlace}
    (h : DataW.trod enc Tryd.prog W base spare held fuel 22 [.slice a n c] = some x) : CamePairs W a n c := by
  rcases Go.Deep.open_slice_pairs Tryd.underlying22 Tryd.underlying26 cells26 rfl rfl cells3 cells3 h with ⟨hcs, _⟩ | ⟨ad, len, cap, m, k, V0, V1, D0, D1, P0, P1, hcs, hb, hl, hm, hmm, hx, hi⟩
  · simp at hcs
    obtain ⟨rfl, rfl, rfl⟩ := hcs
    exact ⟨[], rfl, fun hn => absurd rfl hn, Nat.le_refl _, fun _ => rfl, by omega⟩
  · simp at hcs
    obtain ⟨rfl, rfl, rfl⟩ := hcs
    have hlm : n ≤ m := by rw [hmm]; split <;> omega
    unfold maxLen at hm
    have hv : ∀ i, ∃ r : Int × Int, i < n → V0 i = .int .i64 r.1 ∧ V1 i = .int .i64 r.2 := fun i => by
      by_cases hin : i < n
      · obtain ⟨h0, h1, t0, t1⟩ := hi i (by omega)
        obtain ⟨x0, e0⟩ := int_of t0
        obtain ⟨x1, e1⟩ := int_of t1
        exact ⟨(x0, x1), fun _ => ⟨e0, e1⟩⟩
      · exact ⟨(0, 0), fun h => absurd h hin⟩
    obtain ⟨R, hR⟩ := Classical.axiomOfChoice hv
    refine ⟨(List.range n).map R, by simp, fun hne => ⟨ad, rfl, ?_, fun i hin => ?_⟩, hl, (fun e => by cases e), by omega⟩
    · have hn0 : 0 < n := by
        rcases Nat.eq_zero_or_pos n with h0 | h0
        · subst h0; simp at hne
        · exact h0
      obtain ⟨h0, _⟩ := hi 0 (by omega)
      have hbl := World.block_lt_of_cell? W _ h0
      rw [add_block] at hbl
      exact hbl
    · have hin' : i < n := by simpa using hin
      obtain ⟨h0, h1, _⟩ := hi i (by omega)
      obtain ⟨e0, e1⟩ := hR i hin'
      rw [h0, h1, e0, e1]
      simp [List.getD, hin']
end Go.Proofs.YtccbofaefpbhlaaDoor

namespace Go.Proofs.YtccbofaefpbhlaaDoor
set_option linter.unusedVariables false
set_option maxRecDepth 20000
open Go.RowKit

/-- Ranges of the laws, from the beginning of a block on. -/
def PairAt (w : World) (A : Option Addr) (L : List (Int × Int)) : Prop :=
  L ≠ [] → ∃ g, A = some ⟨g, 0, none⟩ ∧ g < w.heap.size ∧ ∀ i, i < L.length → w.cell? ⟨g, i * 2, none⟩ = some (.int .i64 (L.getD i (0, 0)).1) ∧ w.cell? ⟨g, i * 2 + 1, none⟩ = some (.int .i64 (L.getD i (0, 0)).2)
theorem PairAt.below {w w' : World} {A : Option Addr} {L : List (Int × Int)} (h : PairAt w A L) (hb : Below w.heap.size w w') : PairAt w' A L := fun hn => by
  obtain ⟨g, e, hl, hc⟩ := h hn
  exact ⟨g, e, Nat.lt_of_lt_of_le hl hb.size, fun i hi => ⟨(hb.cell (p := ⟨g, _, none⟩) hl).trans (hc i hi).1, (hb.cell (p := ⟨g, _, none⟩) hl).trans (hc i hi).2⟩⟩
theorem PairAt.at_ {w : World} {A : Option Addr} {L : List (Int × Int)} (h : PairAt w A L) {i : Nat} (hi : i < L.length) : ∃ g, A = some ⟨g, 0, none⟩ ∧ g < w.heap.size ∧ w.cell? ⟨g, i * 2, none⟩ = some (.int .i64 (L.getD i (0, 0)).1) ∧ w.cell? ⟨g, i * 2 + 1, none⟩ = some (.int .i64 (L.getD i (0, 0)).2) := by
  obtain ⟨g, e, hl, hc⟩ := h (by intro e; simp [e] at hi)
  exact ⟨g, e, hl, hc i hi⟩
theorem own_pairAt {w : World} {B : Nat} {u : Value} {L : List (Int × Int)} (h : w.ownsRow B 26 2 u L.length (prC L)) : ∃ A c, u = .slice A L.length c ∧ PairAt w A L ∧ L.length ≤ c := by
  rcases h.2 with ⟨rfl, h0⟩ | ⟨g, cap, cur, rfl, _, hh, hnc, _⟩
  · have : L = [] := List.length_eq_zero_iff.1 h0
    subst this
    exact ⟨none, 0, rfl, fun hn => absurd rfl hn, Nat.le_refl _⟩
  · refine ⟨_, cap, rfl, fun _ => ⟨g, rfl, (Array.getElem?_eq_some_iff.1 hh).1, fun i hi => ?_⟩, hnc⟩
    obtain ⟨h1, h2⟩ := prC_get L i hi
    have c1 := h.cells (g := g) rfl _ _ h1
    have c2 := h.cells (g := g) rfl _ _ h2
    rw [add_zero_block] at c1 c2
    exact ⟨c1, c2⟩

/-- Numbers that a rune may be. -/
def Fits (L : List (Int × Int)) : Prop := ∀ i, i < L.length → -2147483648 ≤ (L.getD i (0, 0)).1 ∧ (L.getD i (0, 0)).1 ≤ 2147483647 ∧ -2147483648 ≤ (L.getD i (0, 0)).2 ∧ (L.getD i (0, 0)).2 ≤ 2147483647
theorem take_snoc_pr (L : List (Int × Int)) (i : Nat) (h : i < L.length) : L.take (i + 1) = L.take i ++ [L.getD i (0, 0)] := by
  rw [List.take_succ_eq_append_getElem h]
  simp [List.getD, h]

set_option maxHeartbeats 4000000 in
theorem own_any (A : Option Addr) (n c : Nat) (L : List (Int × Int)) (w : World) (hL : L.length = n) (hr : PairAt w A L) (hf : Fits L) (hn : n ≤ 100000000) : Calls Tryd.prog 16 #[.slice A n c] w (RetRg L w) := by
  obtain ⟨i0, hi0, hz0, hz1, hz2⟩ := info_parts rg_info
  have HL := Lib.hid hL
  have HFT := Lib.hid hf
  clear hL hf
  go_enter Tryd.func16, Tryd.ntmps16
  go_wp2
  go_loopw [3, 8] (fun u t wr => ∃ i : Nat, i ≤ n ∧ t = .int .i64 (i : Int) ∧ wr.ownsRow w.heap.size 59 2 u i (rgCells (L.take i)) ∧ Below w.heap.size w wr) (fun _ t _ => n - (intOf t).toNat)
  case atStart => exact ⟨0, by omega, rfl, World.ownsRow_nil _ _ _ _, Below.refl _ _⟩
  case round =>
    obtain ⟨i, hi, rfl, hown, hbw⟩ := hrel
    by_cases hil : i < n
    · obtain ⟨g, rfl, hl, c0, c1⟩ := (hr.below hbw).at_ (i := i) (by rw [HL.out]; exact hil)
      obtain ⟨f0, f1, f2, f3⟩ := HFT.out i (by rw [HL.out]; exact hil)
      have HT := Lib.hid (take_snoc_pr L i (by rw [HL.out]; exact hil))
      generalize L.getD i (0, 0) = r at *
      obtain ⟨x, y⟩ := r
      simp only at c0 c1 f0 f1 f2 f3
      have w0 : IntKind.i32.wrap x = x := by rw [IntKind.wrap_i32]; omega
      have w1 : IntKind.i32.wrap y = y := by rw [IntKind.wrap_i32]; omega
      have ho2 := (hown.alloc (.cells #[.int .i64 x, .int .i64 y] 26)).alloc (.cells #[.int .i32 x, .int .i32 y] 59)
      have hb2 := below_step (below_step hbw (below_new wr (.cells #[.int .i64 x, .int .i64 y] 26))) (below_new _ (.cells #[.int .i32 x, .int .i32 y] 59))
      have hbs := hbw.size
      have hc2 : ∀ (j : Nat) (u : Value), [Value.int .i32 x, Value.int .i32 y][j]? = some u → ((wr.alloc (.cells #[.int .i64 x, .int .i64 y] 26)).alloc (.cells #[.int .i32 x, .int .i32 y] 59)).cell? ((⟨wr.heap.size + 1, 0, none⟩ : Addr).add j) = some u := by
        have := cell_two_at (wr.alloc (.cells #[.int .i64 x, .int .i64 y] 26)) 59 (.int .i32 x) (.int .i32 y)
        simpa using this
      have HC2 := Lib.hid hc2
      clear hc2
      go_wp2_with (at_builtin; refine wpList_append_own _ rfl (.tmp 12) (.tmp 20) 33 rfl w.heap.size 59 i0 (.agg #[.int .i32 0, .int .i32 0]) 2 8 Tryd.underlying33 hi0 hz0 hz1 hz2 rfl (by decide) _ i _ rfl ho2 ⟨wr.heap.size + 1, 0, none⟩ 1 1 [.int .i32 x, .int .i32 y] rfl rfl HC2.out (by simp [Value.oneCell']) (by unfold maxLen; omega) (by omega) (by simp; omega) ?_; intro v' w4 hown4 hgrow _; have hb4 : Below w.heap.size w w4 := hb2.grown hgrow (by simp; omega) (fun k hk => by have := (ho2.lt k hk).1; omega); clear hgrow)
      go_roundw
      case rel => exact ⟨i + 1, by omega, by go_num, by rw [HT.out, rgCells_snoc]; exact hown4, hb4⟩
      case measure => simp [intOf]; omega
    · obtain rfl : i = n := by omega
      rw [List.take_of_length_le (by rw [HL.out]; exact Nat.le_refl _)] at hown
      go_wp2
      go_ret
      exact ⟨_, rfl, by rw [HL.out]; exact hown, hbw⟩

set_option maxHeartbeats 4000000 in
theorem set_any (A : Option Addr) (n c : Nat) (L : List (Int × Int)) (w : World) (he : EnvR w) (hL : L.length = n) (hr : PairAt w A L) (hok : ∀ r ∈ L, OkR r) (hn : n ≤ 1000) : Calls Tryd.prog 24 #[.slice A n c] w (RetSet (inR L) w.heap.size w) := by
  have hokg : ∀ i, i < L.length → OkR (L.getD i (0, 0)) := fun i hi => hok _ (by simp [List.getD, hi])
  have hX := Blk.new w 29 #[.slice none 0 0]
  have bW := below_new w (.cells #[.slice none 0 0] 29)
  have HO := Lib.hid (own_any A n c L _ hL (hr.below bW) (fun i hi => by obtain ⟨h1, h2, h3⟩ := hokg i hi; omega) (by omega))
  have HOF : Hid (∀ W u, Below w.heap.size w W → (∃ A c, u = Value.slice A L.length c ∧ RgIn W A L) → Calls Tryd.prog 15 #[u] W (RetOf L L.length L.length W)) := Lib.hid (fun W u hW hA => by
    obtain ⟨A, c, rfl, hin⟩ := hA
    exact of_any L A c L.length W (he.kept hW) hin (by omega) (Nat.le_refl _) (fun j hj => hokg j hj) (fun h => absurd h (by omega)))
  clear hok hokg hr he
  go_enter Tryd.func24, Tryd.ntmps24
  go_wp2_with fail
  refine HO.out.mono ?_
  rintro e w1 ⟨u, rfl, hown, y1⟩
  have b1 := below_step bW y1
  have hA := own_rgIn hown
  have HOF2 := Lib.hid (HOF.out w1 u b1 hA)
  have HL := Lib.hid hL
  obtain ⟨A1, c1, rfl, _⟩ := hA
  clear hown hL
  generalize L.length = m at *
  go_wp2_with fail
  refine HOF2.out.mono ?_
  rintro e w2 (⟨_, v, S, rfl, hset, hmem, y2⟩ | ⟨h, _⟩)
  · have b2 := below_step b1 y2
    obtain ⟨ao, cp, rfl⟩ := hset.shape
    have hb3 := b2.alloc b2.size (.cells #[.slice ao S.length cp] 29)
    have hX3 := ((hX.on y1).on y2).alloc (.cells #[.slice ao S.length cp] 29)
    have cX := hX3.cell0
    have fX := hX3.free 0
    have hq := (hX3.set0 (.slice ao S.length cp)).cell0
    have hset' : IsSet ((w2.alloc (.cells #[.slice ao S.length cp] 29)).setCell ⟨w.heap.size, 0, none⟩ (.slice ao S.length cp)) (.agg #[.slice ao S.length cp]) S := (hset.alloc _).far cX _
    have hbE := hb3.setCell (p := ⟨w.heap.size, 0, none⟩) (Nat.le_refl _) (.slice ao S.length cp)
    have HM2 := Lib.hid hmem
    clear hmem hset
    generalize S.length = sl at *
    go_wp2
    exact bodyPost_ret (v := .agg #[.slice ao sl cp]) (by simp [results, Tryd.results24, go_sem, hq]) rfl ⟨_, S, rfl, hset', HM2.out, hbE⟩
  · omega
end Go.Proofs.YtccbofaefpbhlaaDoor
