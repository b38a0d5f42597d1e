/-
  Tables: the mapping of any character (Map); a row of at most two, turned round (slices.Reverse); how many looks.
-/
import Derived.Test.YthmdapcieghbbabDoorMH
namespace Go.Proofs.YthmdapcieghbbabDoor
set_option linter.unusedVariables false
set_option maxRecDepth 20000
open Go.RowKit

theorem pairC_two {c : Int} {k j : Nat} (h : Syl c k j 0) : pairC c = [4352 + (k : Int), 4449 + (j : Int)] := by
  obtain ⟨h, h1, h2, h3⟩ := h
  unfold pairC
  rw [if_neg (by omega), if_pos (by omega)]
  congr 1
  · omega
  · congr 1; omega
theorem pairC_three {c : Int} {k j t : Nat} (h : Syl c k j t) (ht : 0 < t) : pairC c = [c - (t : Int), 4519 + (t : Int)] := by
  obtain ⟨h, h1, h2, h3⟩ := h
  unfold pairC
  rw [if_neg (by omega), if_neg (by omega)]
  congr 1
  · omega
  · congr 1; omega

set_option maxHeartbeats 1000000 in
theorem map_syl (A B : Option Addr) (n q b r : Nat) (c : Int) (w : World) (h1 : 44032 ≤ c) (h2 : c ≤ 55203) :
    Calls Tryd.prog 18 #[.agg #[.slice A n q, .slice B b r], .int .i32 c] w (RetOw (pairC c) w) := by
  obtain ⟨k, j, t, hs⟩ := syl_of c h1 h2
  have bW := below_new w (.cells #[.slice A n q, .slice B b r] 34)
  by_cases ht : t = 0
  · subst ht
    rw [pairC_two hs]
    have HP := Lib.hid fun W => pair_two c k j W hs
    have hown := own_fresh (w.alloc (.cells #[.slice A n q, .slice B b r] 34)) w.heap.size 21 (cellsI [4352 + (k : Int), 4449 + (j : Int)]) bW.size 2 rfl (by decide)
    rw [show (w.alloc (.cells #[.slice A n q, .slice B b r] 34)).heap.size = w.heap.size + 1 by simp] at hown
    clear hs
    go_enter Tryd.func18, Tryd.ntmps18
    go_wp2_with fail
    refine (HP.out _).mono ?_
    rintro e w0 ⟨rfl, rfl⟩
    go_wp2
    go_ret
    exact ⟨_, rfl, hown, below_step bW (below_new _ _), fun h => by simp at h⟩
  · rw [pairC_three hs (by omega)]
    have HP := Lib.hid fun W => pair_three c k j t W hs (by omega)
    have hown := own_fresh (w.alloc (.cells #[.slice A n q, .slice B b r] 34)) w.heap.size 21 (cellsI [c - (t : Int), 4519 + (t : Int)]) bW.size 2 rfl (by decide)
    rw [show (w.alloc (.cells #[.slice A n q, .slice B b r] 34)).heap.size = w.heap.size + 1 by simp] at hown
    clear hs
    go_enter Tryd.func18, Tryd.ntmps18
    go_wp2_with fail
    refine (HP.out _).mono ?_
    rintro e w0 ⟨rfl, rfl⟩
    go_wp2
    go_ret
    exact ⟨_, rfl, hown, below_step bW (below_new _ _), fun h => by simp at h⟩

theorem rowC_maps {w : World} {T : List Rw} (h : ∀ r ∈ T, MapAt w r) (x : Int) : MapAt w (rowC T x) := by
  unfold rowC
  cases hh : hasC T x with
  | true =>
    have hlt : lessC T x < T.length := by
      unfold hasC at hh
      exact (of_decide_eq_true hh).1
    exact h _ (getD_mem hlt)
  | false => exact ⟨fun hn => absurd rfl hn, fun _ => rfl, by simp⟩
theorem rowC_ok {T : List Rw} (h : ∀ r ∈ T, RowOk r) {x : Int} (hx : In32 x) : RowOk (rowC T x) := by
  unfold rowC
  cases hh : hasC T x with
  | true =>
    have hlt : lessC T x < T.length := by
      unfold hasC at hh
      exact (of_decide_eq_true hh).1
    exact h _ (getD_mem hlt)
  | false => exact ⟨hx, by simp⟩

theorem map_any (A B : Option Addr) (q b r : Nat) (T : List Rw) (x : Int) (w : World) (ht : TabOk w A T) (hr : Rises T) (hx : In32 x) :
    Calls Tryd.prog 18 #[.agg #[.slice A T.length q, .slice B b r], .int .i32 x] w (RetOw (mapC T x) w) := by
  unfold mapC
  have hf := ht.few
  split
  · exact map_plain A B q b r T x w ht.at_ hr (by omega) (rowC_maps ht.maps x) hx.1 hx.2 (by assumption)
  · exact map_syl A B T.length q b r x w (by omega) (by omega)

theorem mapC_two {T : List Rw} (h2 : ∀ r ∈ T, r.map.length ≤ 2) (x : Int) : (mapC T x).length ≤ 2 := by
  unfold mapC
  split
  · unfold rowC
    split
    · rename_i hh
      have hlt : lessC T x < T.length := by
        unfold hasC at hh
        exact (of_decide_eq_true hh).1
      exact h2 _ (getD_mem hlt)
    · simp
  · unfold pairC
    split
    · simp
    · split <;> simp
theorem mapC_in {T : List Rw} (ho : ∀ r ∈ T, RowOk r) {x : Int} (hx : In32 x) : ∀ y ∈ mapC T x, In32 y := by
  unfold mapC
  split
  · exact (rowC_ok ho hx).map
  · rename_i hn
    intro y hy
    unfold pairC at hy
    unfold In32
    rw [if_neg hn] at hy
    split at hy
    · simp at hy
      omega
    · simp at hy
      omega

theorem looks_any (A B : Option Addr) (n q b r : Nat) (w : World) (hn : n ≤ 1000000) :
    Calls Tryd.prog 17 #[.agg #[.slice A n q, .slice B b r]] w (RetV (.int .i64 (32 * (n + 3) + 1 : Nat)) w) := by
  have bW := below_new w (.cells #[.slice A n q, .slice B b r] 34)
  go_enter Tryd.func17, Tryd.ntmps17
  go_wp2
  go_ret
  refine ⟨?_, bW⟩
  congr 2

/-- What was there, but for one block, and what is new. -/
theorem rev_none (w : World) : Calls Tryd.prog 19 #[.slice none 0 0] w fun e w' => e = .returned (.tuple #[]) ∧ w = w' := by
  go_enter Tryd.func19, Tryd.ntmps19
  go_wp2
  go_loopw [2, 3] (fun s t wr => s = .int .i64 0 ∧ t = .int .i64 (-1) ∧ wr = w) (fun _ _ _ => 0)
  case atStart => exact ⟨rfl, rfl, rfl⟩
  case round =>
    obtain ⟨rfl, rfl, rfl⟩ := hrel
    go_wp2
    go_end0
    exact ⟨rfl, rfl⟩
theorem rev_few (a : Addr) (n c : Nat) (w : World) (hn : n ≤ 1) : Calls Tryd.prog 19 #[.slice (some a) n c] w fun e w' => e = .returned (.tuple #[]) ∧ w = w' := by
  go_enter Tryd.func19, Tryd.ntmps19
  go_wp2
  go_loopw [2, 3] (fun s t wr => s = .int .i64 0 ∧ t = .int .i64 ((n : Int) - 1) ∧ wr = w) (fun _ _ _ => 0)
  case atStart => exact ⟨rfl, rfl, rfl⟩
  case round =>
    obtain ⟨rfl, rfl, rfl⟩ := hrel
    go_wp2
    go_end0
    exact ⟨rfl, rfl⟩
theorem rev_two (g c : Nat) (x y : Int) (w : World) (h0 : w.cell? ⟨g, 0, none⟩ = some (.int .i32 x)) (h1 : w.cell? ⟨g, 1, none⟩ = some (.int .i32 y)) (f0 : w.frozen? ⟨g, 0, none⟩ = false) (f1 : w.frozen? ⟨g, 1, none⟩ = false) :
    Calls Tryd.prog 19 #[.slice (some ⟨g, 0, none⟩) 2 c] w fun e w' => e = .returned (.tuple #[]) ∧ w' = ((w.setCell ⟨g, 0, none⟩ (.int .i32 y)).setCell ⟨g, 1, none⟩ (.int .i32 x)).drew := by
  go_enter Tryd.func19, Tryd.ntmps19
  go_wp2
  go_loopw [2, 3] (fun s t wr => (s = .int .i64 0 ∧ t = .int .i64 1 ∧ wr = w) ∨ (s = .int .i64 1 ∧ t = .int .i64 0 ∧ wr = ((w.setCell ⟨g, 0, none⟩ (.int .i32 y)).setCell ⟨g, 1, none⟩ (.int .i32 x)).drew)) (fun s _ _ => (1 - intOf s).toNat)
  case atStart => exact .inl ⟨rfl, rfl, rfl⟩
  case round =>
    rcases hrel with ⟨rfl, rfl, rfl⟩ | ⟨rfl, rfl, rfl⟩
    · go_wp2_with fail
      go_region
      all_goals go_wp2
      all_goals go_roundw
      all_goals first | exact .inr ⟨rfl, rfl, rfl⟩ | simp [intOf]
    · go_wp2
      go_end0
      exact ⟨rfl, rfl⟩
end Go.Proofs.YthmdapcieghbbabDoor
