/-
  pages: the document's Get.
-/
import Derived.Test.YtblakfpacommfaaPBm
namespace Go.Proofs.Ytblakfpacommfaa
set_option linter.unusedVariables false
set_option maxRecDepth 20000
open Go.RowKit

/-- The document's cells lie at A. -/
def RefsAt (w : World) (A : Option Addr) (l : List (Int × Nat)) : Prop :=
  l ≠ [] → ∃ g o, A = some ⟨g, o, none⟩ ∧ g < w.heap.size ∧ ∀ i, i < l.length → w.cell? ⟨g, o + i * 2, none⟩ = some (.int .i64 (l.getD i (0, 0)).1) ∧ w.cell? ⟨g, o + i * 2 + 1, none⟩ = some (.int .i64 ((l.getD i (0, 0)).2 : Nat))
theorem RefsAt.below {w w' : World} {A : Option Addr} {l : List (Int × Nat)} (h : RefsAt w A l) (hb : Below w.heap.size w w') : RefsAt w' A l := fun hn => by
  obtain ⟨g, o, e, hl, hc⟩ := h hn
  refine ⟨g, o, e, Nat.lt_of_lt_of_le hl hb.size, fun i hi => ?_⟩
  obtain ⟨h1, h2⟩ := hc i hi
  exact ⟨(hb.cell (p := ⟨g, _, none⟩) hl).trans h1, (hb.cell (p := ⟨g, _, none⟩) hl).trans h2⟩
theorem RefsAt.at_ {w : World} {A : Option Addr} {l : List (Int × Nat)} (h : RefsAt w A l) {i : Nat} (hi : i < l.length) : ∃ g o, A = some ⟨g, o, none⟩ ∧ g < w.heap.size ∧ w.cell? ⟨g, o + i * 2, none⟩ = some (.int .i64 (l.getD i (0, 0)).1) ∧ w.cell? ⟨g, o + i * 2 + 1, none⟩ = some (.int .i64 ((l.getD i (0, 0)).2 : Nat)) := by
  obtain ⟨g, o, e, hl, hc⟩ := h (by intro e; simp [e] at hi)
  exact ⟨g, o, e, hl, hc i hi⟩
theorem getD_of' {l : List (Int × Nat)} {i : Nat} (h : i < l.length) : l.getD i (0, 0) = l[i] := by simp [List.getD, h]

/-- What the document's Get answers. -/
def refGet (l : List (Int × Nat)) (c : Int) : Nat := if c < 0 ∨ 1114111 < c then 0 else valAt l c.toNat

set_option maxHeartbeats 1000000 in
theorem refGet_any (A : Option Addr) (q : Nat) (l : List (Int × Nat)) (c : Int) (w : World) (ht : RefsAt w A l) (hn : l.length ≤ 2000000) (h1 : -9223372036854775808 ≤ c) (h2 : c ≤ 9223372036854775807) :
    Calls Try.prog 10 #[.slice A l.length q, .int .i64 c] w fun e w' => e = .returned (.int .i64 (refGet l c : Nat)) ∧ Below w.heap.size w w' := by
  unfold refGet
  by_cases hlo : c < 0
  · rw [if_pos (.inl hlo)]
    go_enter Try.func10, Try.ntmps10
    go_wp2
    go_ret
    exact ⟨rfl, Below.refl _ _⟩
  by_cases hhi : 1114111 < c
  · rw [if_pos (.inr hhi)]
    go_enter Try.func10, Try.ntmps10
    go_wp2
    go_ret
    exact ⟨rfl, Below.refl _ _⟩
  rw [if_neg (by omega)]
  obtain ⟨c, rfl⟩ := Int.eq_ofNat_of_zero_le (by omega : 0 ≤ c)
  rw [Int.toNat_natCast]
  have HT := Lib.hid fun W (hb : Below w.heap.size w W) => ht.below hb
  clear ht
  obtain ⟨n, hn'⟩ : ∃ n, l.length = n := ⟨_, rfl⟩
  rw [hn'] at hn ⊢
  go_enter Try.func10, Try.ntmps10
  go_wp2
  go_loopw [5, 7, 16] (fun s _ t wr => ∃ i : Nat, s = .int .i64 (valAt (l.take i) c : Nat) ∧ t = .int .i64 (i : Int) ∧ i ≤ n ∧ Below w.heap.size w wr) (fun _ _ t _ => n - (intOf t).toNat)
  case atStart => exact ⟨0, rfl, rfl, by omega, Below.refl _ _⟩
  case round =>
    obtain ⟨i, rfl, rfl, hin, hb⟩ := hrel
    by_cases hlt : i < n
    · have hil : i < l.length := by omega
      obtain ⟨g, o, rfl, hg, c1, c2⟩ := (HT.out _ hb).at_ hil
      have hv := valAt_more (l.take i) (l.getD i (0, 0)) c
      have htk : l.take (i + 1) = l.take i ++ [l.getD i (0, 0)] := by rw [List.take_add_one, List.getElem?_eq_getElem hil, getD_of' hil]; rfl
      rw [← htk] at hv
      have hv' := Lib.hid hv
      clear hv htk
      generalize l.getD i (0, 0) = cv at *
      obtain ⟨x, v⟩ := cv
      dsimp only at c1 c2
      by_cases hxc : x = (c : Int)
      · subst hxc
        go_wp2
        go_roundw
        case rel => exact ⟨i + 1, by rw [hv'.out, if_pos rfl], rfl, by omega, below_step hb (below_new _ _)⟩
        case measure => simp [intOf]; omega
      · go_wp2
        go_roundw
        case rel => exact ⟨i + 1, by rw [hv'.out, if_neg hxc], rfl, by omega, below_step hb (below_new _ _)⟩
        case measure => simp [intOf]; omega
    · obtain rfl : i = n := by omega
      rw [← hn', List.take_length]
      go_wp2
      go_ret
      exact ⟨rfl, hb⟩
end Go.Proofs.Ytblakfpacommfaa
