/-
  cpset: Ranges; rows of ranges.
-/
import Derived.Test.YtccbofaefpbhlaaDoorSetD
import Derived.Laws.OwnMore
import Derived.OwnWalk
namespace Go.Proofs.YtccbofaefpbhlaaDoor
set_option linter.unusedVariables false
set_option maxRecDepth 20000
open Go.RowKit

/-- The cells of ranges. -/
def rgCells (L : List (Int × Int)) : List Value := L.flatMap fun r => [.int .i32 r.1, .int .i32 r.2]
theorem rgCells_snoc (L : List (Int × Int)) (r : Int × Int) : rgCells (L ++ [r]) = rgCells L ++ [.int .i32 r.1, .int .i32 r.2] := by simp [rgCells]
theorem rgCells_length (L : List (Int × Int)) : (rgCells L).length = 2 * L.length := by
  induction L with
  | nil => rfl
  | cons x r ih => simp only [rgCells, List.flatMap_cons, List.length_append, List.length_cons, List.length_nil] at ih ⊢; omega
/-- The program's ranges, as integers. -/
def intR (S : List (Nat × Nat)) : List (Int × Int) := S.map fun r => ((r.1 : Int), (r.2 : Int))
theorem intR_take (S : List (Nat × Nat)) (i : Nat) (h : i < S.length) : intR (S.take (i + 1)) = intR (S.take i) ++ [(((S.getD i (0, 0)).1 : Int), ((S.getD i (0, 0)).2 : Int))] := by
  rw [List.take_succ_eq_append_getElem h, intR, List.map_append]
  simp [intR, List.getD, h]
theorem intR_length (S : List (Nat × Nat)) : (intR S).length = S.length := by simp [intR]
/-- It answers ranges in a row of its own. -/
def RetRg (L : List (Int × Int)) (w : World) (e : Ending) (w' : World) : Prop := ∃ u, e = .returned u ∧ w'.ownsRow w.heap.size 59 2 u L.length (rgCells L) ∧ Below w.heap.size w w'

theorem rg_info : (Tryd.prog.info? 59).map (fun i => (i.zero, i.size, i.bytes)) = some (some (.agg #[.int .i32 0, .int .i32 0]), 2, 8) := by kernel_rfl
theorem cell_two_at (w : World) (t : TypeId) (x y : Value) : ∀ (j : Nat) (u : Value), [x, y][j]? = some u → (w.alloc (.cells #[x, y] t)).cell? ((⟨w.heap.size, 0, none⟩ : Addr).add j) = some u := by
  intro j u hu
  rw [add_off, (Blk.new w t _).cell, Nat.zero_add]
  rcases j with _ | _ | j
  · simpa using hu
  · simpa using hu
  · simp at hu
theorem own_form2 {w : World} {B n s : Nat} {e : TypeId} {u : Value} {xs : List Value} (h : w.ownsRow B e s u n xs) : ∃ ao cap, u = .slice ao n cap := by
  rcases h.2 with ⟨hv, h0⟩ | ⟨g, cap, cur, hv, _⟩
  · exact ⟨none, 0, by rw [hv, h0]⟩
  · exact ⟨_, _, hv⟩
theorem own_kept {w w' : World} {B n size : Nat} {e : TypeId} {u : Value} {xs : List Value} (h : w.ownsRow B e size u n xs) (hb : Below w.heap.size w w') : w'.ownsRow B e size u n xs := by
  refine ⟨h.1, ?_⟩
  rcases h.2 with h0 | ⟨g, cap, cur, hv, hB, hg, r⟩
  · exact .inl h0
  · refine .inr ⟨g, cap, cur, hv, hB, ?_, r⟩
    have hlt : g < w.heap.size := by
      rcases Nat.lt_or_ge g w.heap.size with h' | h'
      · exact h'
      · simp [Array.getElem?_eq_none h'] at hg
    exact (hb.block g hlt).trans hg
theorem own_base {w : World} {B B' n size : Nat} {e : TypeId} {u : Value} {xs : List Value} (h : w.ownsRow B e size u n xs) (hb : B' ≤ B) : w.ownsRow B' e size u n xs := by
  refine ⟨h.1, ?_⟩
  rcases h.2 with h0 | ⟨g, cap, cur, hv, hB, r⟩
  · exact .inl h0
  · exact .inr ⟨g, cap, cur, hv, by omega, r⟩

set_option maxHeartbeats 4000000 in
theorem ranges_any (S : List (Nat × Nat)) (v : Value) (w : World) (h : IsSet w v S) : Calls Tryd.prog 46 #[v] w (RetRg (intR S) w) := by
  obtain ⟨i0, hi0, hz0, hz1, hz2⟩ := info_parts rg_info
  obtain ⟨A, cp, rfl, hs, hg⟩ := h
  have hlen := hg.len (by decide)
  have hX := Blk.new w 29 #[.slice A S.length cp]
  have bW := below_new w (.cells #[.slice A S.length cp] 29)
  obtain ⟨n, hn⟩ : ∃ n, S.length = n := ⟨_, rfl⟩
  have HN := Lib.hid hn
  rw [hn] at hX bW hlen ⊢
  clear hn
  go_enter Tryd.func46, Tryd.ntmps46
  go_wp2
  go_loopw [3, 9] (fun u t wr => ∃ i : Nat, i ≤ n ∧ t = .int .i64 (i : Int) ∧ wr.ownsRow (w.heap.size + 1) 59 2 u i (rgCells (intR (S.take i))) ∧ Below w.heap.size w wr ∧ w.heap.size + 1 ≤ wr.heap.size) (fun _ t _ => n - (intOf t).toNat)
  case atStart => exact ⟨0, by omega, rfl, World.ownsRow_nil _ _ _ _, bW, by simp⟩
  case round =>
    obtain ⟨i, hi, rfl, hown, hbw, hsz⟩ := hrel
    by_cases hil : i < n
    · obtain ⟨g, rfl, hl, c1, c2, c3⟩ := (hs.below hbw).at_ (i := i) (by rw [HN.out]; exact hil)
      have HT := Lib.hid (intR_take S i (by rw [HN.out]; exact hil))
      generalize (S.getD i (0, 0)).1 = a at *
      generalize (S.getD i (0, 0)).2 = b at *
      generalize cnt (S.take i) = q at *
      have ho2 := (hown.alloc (.cells #[.int .i32 (a : Nat), .int .i32 (b : Nat), .int .i64 (q : Nat)] 95)).alloc (.cells #[.int .i32 (a : Nat), .int .i32 (b : Nat)] 59)
      have hb2 := below_step (below_step hbw (below_new wr (.cells #[.int .i32 (a : Nat), .int .i32 (b : Nat), .int .i64 (q : Nat)] 95))) (below_new _ (.cells #[.int .i32 (a : Nat), .int .i32 (b : Nat)] 59))
      have hc2 : ∀ (j : Nat) (u : Value), [Value.int .i32 (a : Nat), Value.int .i32 (b : Nat)][j]? = some u → ((wr.alloc (.cells #[.int .i32 (a : Nat), .int .i32 (b : Nat), .int .i64 (q : Nat)] 95)).alloc (.cells #[.int .i32 (a : Nat), .int .i32 (b : Nat)] 59)).cell? ((⟨wr.heap.size + 1, 0, none⟩ : Addr).add j) = some u := by
        have := cell_two_at (wr.alloc (.cells #[.int .i32 (a : Nat), .int .i32 (b : Nat), .int .i64 (q : Nat)] 95)) 59 (.int .i32 (a : Nat)) (.int .i32 (b : Nat))
        simpa using this
      have HC2 := Lib.hid hc2
      clear hc2
      go_wp2_with (at_builtin; refine wpList_append_own _ rfl (.tmp 13) (.tmp 16) 33 rfl (w.heap.size + 1) 59 i0 (.agg #[.int .i32 0, .int .i32 0]) 2 8 Tryd.underlying33 hi0 hz0 hz1 hz2 rfl (by decide) _ i _ rfl ho2 ⟨wr.heap.size + 1, 0, none⟩ 1 1 [.int .i32 (a : Nat), .int .i32 (b : Nat)] rfl rfl HC2.out (by simp [Value.oneCell']) (by unfold maxLen; omega) (by omega) (by simp; omega) ?_; intro v' w4 hown4 hgrow _; have hb4 : Below w.heap.size w w4 := hb2.grown hgrow (by simp; omega) (fun k hk => by have := (ho2.lt k hk).1; omega); have hs4 := hgrow.size; clear hgrow)
      simp only [World.size_alloc] at hs4
      go_roundw
      case rel => exact ⟨i + 1, by omega, by go_num, by rw [HT.out, rgCells_snoc]; exact hown4, hb4, by omega⟩
      case measure => simp [intOf]; omega
    · obtain rfl : i = n := by omega
      rw [← HN.out, List.take_length] at hown
      rw [HN.out] at hown
      go_wp2
      go_ret
      exact ⟨_, rfl, by rw [intR_length, HN.out]; exact own_base hown (by omega), hbw⟩
end Go.Proofs.YtccbofaefpbhlaaDoor
