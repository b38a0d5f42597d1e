/-
  Arguments that came in: a slice of links, a slice of texts, in the walks' words.
-/
import Derived.Test.YtpokpkocinhbfabDoorLawWraps
import Derived.Deep.Slices
import Derived.Deep.Strs
import Derived.ChangeSame
namespace Go.Proofs.YtpokpkocinhbfabDoor
set_option linter.unusedVariables false
set_option maxRecDepth 20000
open Go.ChangeShapes Go.WideShapes Go.RowKit

theorem list_of_each {α : Type} {Q : Nat → α → Prop} : ∀ (n : Nat), (∀ i, i < n → ∃ x, Q i x) → ∃ l : List α, l.length = n ∧ ∀ i x, l[i]? = some x → Q i x
  | 0, _ => ⟨[], rfl, fun i x h => by simp at h⟩
  | n + 1, h => by
    obtain ⟨l, hl, hq⟩ := list_of_each n (fun i hi => h i (by omega))
    obtain ⟨x, hx⟩ := h n (by omega)
    refine ⟨l ++ [x], by simp [hl], fun i y hy => ?_⟩
    rcases Nat.lt_or_ge i n with hi | hi
    · rw [List.getElem?_append_left (by omega)] at hy
      exact hq i y hy
    · rw [List.getElem?_append_right (by omega)] at hy
      have hi0 : i - l.length = 0 := by
        rcases Nat.eq_zero_or_pos (i - l.length) with h0 | h0
        · exact h0
        · rw [List.getElem?_eq_none (by simp; omega)] at hy; cases hy
      rw [hi0] at hy
      simp at hy
      subst hy
      obtain rfl : i = n := by omega
      exact hx

theorem cells40 : Tryd.prog.cellsOf 40 = 3 := by kernel_rfl
theorem cells3 : Tryd.prog.cellsOf 3 = 1 := by kernel_rfl
theorem cells9 : Tryd.prog.cellsOf 9 = 1 := by kernel_rfl

theorem came_links {H : Type} {enc : TypeId × Value → H} {W : World} {base : Nat} {spare : Nat → Bool} {held : Bool} {fuel : Nat} {a : Option Addr} {n c : Nat} {x : DataW H × List MemPlace}
    (h : DataW.trod enc Tryd.prog W base spare held fuel 22 [.slice a n c] = some x) : ∃ l, CameL W a n c l := by
  rcases Go.Deep.open_slice Tryd.underlying22 h with ⟨hcs, _⟩ | ⟨ad, len, cap, m, f, D, Pl, hcs, hb, hl, hm, hmm, hx, hi⟩
  · simp at hcs
    obtain ⟨rfl, rfl, rfl⟩ := hcs
    exact ⟨[], rfl, fun hn => absurd rfl hn, by simp⟩
  · simp at hcs
    obtain ⟨rfl, rfl, rfl⟩ := hcs
    have hlm : n ≤ m := by rw [hmm]; split <;> omega
    obtain ⟨l, hll, hq⟩ := list_of_each (Q := fun i (y : Lk) => (W.cell? (ad.add (i * 3)) = some (.int .i64 y.code) ∧ W.cell? (ad.add (i * 3 + 1)) = some (.int .i64 y.line) ∧ W.cell? (ad.add (i * 3 + 2)) = some (.string y.note)) ∧ -9223372036854775808 ≤ y.line ∧ y.line ≤ 9223372036854775807) n (fun i hin => by
      obtain ⟨cs', hc, ht⟩ := hi i (by omega)
      rw [cells40] at hc
      obtain ⟨ys, k, _, hy, hlen, hyl, hf⟩ := DataW.trod_struct Tryd.underlying40 ht
      obtain ⟨_, hcl, hat⟩ := World.cells?_some hc
      match cs', hcl with
      | [v0, v1, v2], _ =>
        match ys, hyl, hf with
        | [y0, y1, y2], _, hf =>
          have f0 : DataW.trod enc Tryd.prog W base spare held k 3 (([v0, v1, v2].drop 0).take (Tryd.prog.cellsOf 3)) = some y0 := hf 0 _ rfl
          have f1 : DataW.trod enc Tryd.prog W base spare held k 3 (([v0, v1, v2].drop 1).take (Tryd.prog.cellsOf 3)) = some y1 := hf 1 _ rfl
          have f2 : DataW.trod enc Tryd.prog W base spare held k 9 (([v0, v1, v2].drop 2).take (Tryd.prog.cellsOf 9)) = some y2 := hf 2 _ rfl
          rw [cells3] at f0 f1
          rw [cells9] at f2
          obtain ⟨z0, e0, _, _⟩ := DataW.trod_int Tryd.underlying3 (show DataW.trod enc Tryd.prog W base spare held k 3 [v0] = some y0 from f0)
          obtain ⟨z1, e1, _, w1⟩ := DataW.trod_int Tryd.underlying3 (show DataW.trod enc Tryd.prog W base spare held k 3 [v1] = some y1 from f1)
          obtain ⟨s2, e2, _, _⟩ := DataW.trod_string Tryd.underlying9 (show DataW.trod enc Tryd.prog W base spare held k 9 [v2] = some y2 from f2)
          simp at e0 e1 e2
          subst e0; subst e1; subst e2
          refine ⟨⟨z0, z1, s2⟩, ⟨?_, ?_, ?_⟩, ?_⟩
          · have := hat 0 (by decide); simpa [Addr.add] using this
          · have := hat 1 (by decide); rw [add_add] at this; simpa using this
          · have := hat 2 (by decide); rw [add_add] at this; simpa using this
          · simp only [Lit.wf, IntKind.min, IntKind.max, IntKind.signed, IntKind.bits, Bool.and_eq_true, decide_eq_true_eq, if_true] at w1
            show _ ≤ z1 ∧ z1 ≤ _
            omega)
    refine ⟨l, hll, fun hn => ⟨ad, rfl, ?_, fun i y hy => (hq i y hy).1⟩, fun y hy => ?_⟩
    · have h0 : 0 < l.length := by cases l with | nil => exact absurd rfl hn | cons _ _ => simp
      have c0 := (hq 0 _ (List.getElem?_eq_getElem h0)).1.1
      rcases Nat.lt_or_ge ad.block W.heap.size with h1 | h1
      · exact h1
      · simp [World.cell?, Addr.add, Array.getElem?_eq_none h1] at c0
    · obtain ⟨i, hi, rfl⟩ := List.mem_iff_getElem.1 hy
      exact (hq i _ (List.getElem?_eq_getElem hi)).2

theorem came_strs {H : Type} {enc : TypeId × Value → H} {W : World} {base : Nat} {spare : Nat → Bool} {held : Bool} {fuel : Nat} {a : Option Addr} {n c : Nat} {x : DataW H × List MemPlace}
    (h : DataW.trod enc Tryd.prog W base spare held fuel 33 [.slice a n c] = some x) : ∃ ss : List ByteArray, ss.length = n ∧ Strs W a ss := by
  rcases Go.Deep.open_strs Tryd.underlying33 Tryd.underlying9 cells9 h with ⟨hcs, _⟩ | ⟨ad, len, cap, m, Sx, hcs, hb, hl, hm, hmm, hx, hi⟩
  · simp at hcs
    obtain ⟨rfl, rfl, rfl⟩ := hcs
    exact ⟨[], rfl, fun hn => absurd rfl hn⟩
  · simp at hcs
    obtain ⟨rfl, rfl, rfl⟩ := hcs
    have hlm : n ≤ m := by rw [hmm]; split <;> omega
    obtain ⟨l, hll, hq⟩ := list_of_each (Q := fun i (s : ByteArray) => W.cell? (ad.add i) = some (.string s)) n (fun i hin => ⟨Sx i, (hi i (by omega)).1⟩)
    refine ⟨l, hll, fun hn => ⟨ad, rfl, ?_, hq⟩⟩
    have h0 : 0 < l.length := by cases l with | nil => exact absurd rfl hn | cons _ _ => simp
    have c0 := hq 0 _ (List.getElem?_eq_getElem h0)
    rcases Nat.lt_or_ge ad.block W.heap.size with h1 | h1
    · exact h1
    · simp [World.cell?, Addr.add, Array.getElem?_eq_none h1] at c0
end Go.Proofs.YtpokpkocinhbfabDoor
