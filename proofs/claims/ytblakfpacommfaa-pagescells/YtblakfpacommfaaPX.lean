/-
  pages: the document's alike, and Blocks.
-/
import Derived.Test.YtblakfpacommfaaPW
namespace Go.Proofs.Ytblakfpacommfaa
set_option linter.unusedVariables false
set_option maxRecDepth 20000
open Go.RowKit

theorem eq_of_getD {L M : List (Int × Nat)} (hl : L.length = M.length) (h : ∀ i, i < L.length → L.getD i (0, 0) = M.getD i (0, 0)) : L = M := by
  refine List.ext_getElem hl fun i h1 h2 => ?_
  have := h i h1
  simpa [List.getD, h1, h2] using this
set_option maxHeartbeats 2000000 in
theorem alike_any (A B : Option Addr) (q r : Nat) (L M : List (Int × Nat)) (w : World) (hL : RefsAt w A L) (hM : RefsAt w B M) (hn : L.length ≤ 2000000) (hm : M.length ≤ 2000000) :
    Calls Try.prog 18 #[.slice A L.length q, .slice B M.length r] w (RetV (.bool (decide (L = M))) w) := by
  have HL := Lib.hid fun W (hb : Below w.heap.size w W) => hL.below hb
  have HM := Lib.hid fun W (hb : Below w.heap.size w W) => hM.below hb
  have HE := Lib.hid (eq_of_getD (L := L) (M := M))
  obtain ⟨a, ha⟩ : ∃ a, L.length = a := ⟨_, rfl⟩
  obtain ⟨b, hb⟩ : ∃ b, M.length = b := ⟨_, rfl⟩
  rw [ha] at hn ⊢
  rw [hb] at hm ⊢
  have HA := Lib.hid ha
  have HB := Lib.hid hb
  by_cases hab : a = b
  · subst hab
    clear ha hb hL hM
    have hres : Hid ((∀ i, i < a → L.getD i (0, 0) = M.getD i (0, 0)) → decide (L = M) = true) := Lib.hid fun h => decide_eq_true (HE.out (HA.out.trans HB.out.symm) fun i hi => h i (by rw [← HA.out]; exact hi))
    have hno : Hid (∀ i, i < a → L.getD i (0, 0) ≠ M.getD i (0, 0) → decide (L = M) = false) := Lib.hid fun i _ h => decide_eq_false fun e => h (by rw [e])
    generalize decide (L = M) = z at *
    go_enter Try.func18, Try.ntmps18
    go_wp2
    go_loopw [5] (fun s wr => ∃ i : Nat, s = .int .i64 (i : Int) ∧ i ≤ a ∧ (∀ j, j < i → L.getD j (0, 0) = M.getD j (0, 0)) ∧ Below w.heap.size w wr) (fun s _ => a - (intOf s).toNat)
    case atStart => exact ⟨0, rfl, by omega, fun j hj => absurd hj (Nat.not_lt_zero _), Below.refl _ _⟩
    case round =>
      obtain ⟨i, rfl, hi0, hall, hbw⟩ := hrel
      have HALL := Lib.hid hall
      clear hall
      by_cases hi : i < a
      · obtain ⟨g, o, rfl, hg, c0, c1⟩ := (HL.out _ hbw).at_ (i := i) (by rw [HA.out]; exact hi)
        obtain ⟨g', o', rfl, hg', d0, d1⟩ := (HM.out _ hbw).at_ (i := i) (by rw [HB.out]; exact hi)
        have hnoi := Lib.hid (hno.out i hi)
        have hnext : Hid (L.getD i (0, 0) = M.getD i (0, 0) → ∀ j, j < i + 1 → L.getD j (0, 0) = M.getD j (0, 0)) := Lib.hid fun h j hj => by
          by_cases e : j = i
          · subst e; exact h
          · exact HALL.out j (by omega)
        generalize L.getD i (0, 0) = p at *
        generalize M.getD i (0, 0) = p' at *
        obtain ⟨x, y⟩ := p
        obtain ⟨x', y'⟩ := p'
        dsimp only at c0 c1 d0 d1
        have hia : (i : Int) < (a : Int) := by omega
        by_cases hx : x = x'
        · subst hx
          by_cases hy : y = y'
          · subst hy
            go_wp2_with fail
            go_quiet (fail)
            go_wp2
            go_roundw
            case rel => exact ⟨i + 1, by go_num, by omega, hnext.out (by simp), below_step hbw (below_dn _ _)⟩
            case measure => simp [intOf]; omega
          · have hyy : ((y : Int) == (y' : Int)) = false := by simp; omega
            have hz := hnoi.out (by intro e; injection e with _ e; exact hy e)
            subst hz
            go_wp2_with fail
            go_quiet (fail)
            go_wp2
            go_ret
            exact ⟨rfl, below_step hbw (below_dn _ _)⟩
        · have hxx : (x == x') = false := by simpa using hx
          have hz := hnoi.out (by intro e; injection e with e _; exact hx e)
          subst hz
          go_wp2_with fail
          go_quiet (fail)
          go_wp2
          go_ret
          exact ⟨rfl, below_step hbw (below_dn _ _)⟩
      · obtain rfl : i = a := by omega
        have hz := hres.out HALL.out
        subst hz
        go_wp2
        go_ret
        exact ⟨rfl, hbw⟩
  · rw [decide_eq_false (fun e => hab (by rw [← ha, ← hb, e]))]
    clear ha hb hL hM
    have hab' : ((a : Int) == (b : Int)) = false := by simp; omega
    have hab2 : ((a : Int) != (b : Int)) = true := by simp; omega
    go_enter Try.func18, Try.ntmps18
    go_wp2
    go_ret
    exact ⟨rfl, Below.refl _ _⟩

/-- The slices of these rows, each a row of one's own. -/
def Rows (w : World) (B : Nat) (vs : List Value) (LL : List (List (Int × Nat))) : Prop := vs.length = LL.length ∧ ∀ j, j < LL.length → w.ownsRow B 31 2 (vs.getD j undef) (LL.getD j []).length (rfC (LL.getD j []))
theorem Rows.on {w w' : World} {B : Nat} {vs : List Value} {LL : List (List (Int × Nat))} (h : Rows w B vs LL) (hb : Below w.heap.size w w') : Rows w' B vs LL := ⟨h.1, fun j hj => own_on (h.2 j hj) hb⟩
theorem Rows.grown {w w' : World} {B B' : Nat} {vs : List Value} {LL : List (List (Int × Nat))} {e : TypeId} {s n : Nat} {v : Value} {xs : List Value} (h : Rows w B vs LL) (ho : w.ownsRow B' e s v n xs) (he : (31 : TypeId) ≠ e) (hg : w.grownBy w' v.ownBlock) : Rows w' B vs LL :=
  ⟨h.1, fun j hj => own_grown (h.2 j hj) hg fun k h1 e1 => own_two (h.2 j hj) ho he k h1 e1⟩
theorem Rows.more {w : World} {B : Nat} {vs : List Value} {LL : List (List (Int × Nat))} (h : Rows w B vs LL) {v : Value} {L : List (Int × Nat)} (hv : w.ownsRow B 31 2 v L.length (rfC L)) : Rows w B (vs ++ [v]) (LL ++ [L]) := by
  refine ⟨by simp [h.1], fun j hj => ?_⟩
  rw [List.length_append, List.length_singleton] at hj
  by_cases e : j = LL.length
  · subst e
    have e1 : (LL ++ [L]).getD LL.length [] = L := by simp [List.getD]
    have e2 : (vs ++ [v]).getD LL.length undef = v := by rw [← h.1]; simp [List.getD]
    rw [e1, e2]
    exact hv
  · have e1 : (LL ++ [L]).getD j [] = LL.getD j [] := by rw [List.getD_eq_getElem?_getD, List.getElem?_append_left (by omega), ← List.getD_eq_getElem?_getD]
    have e2 : (vs ++ [v]).getD j undef = vs.getD j undef := by rw [List.getD_eq_getElem?_getD, List.getElem?_append_left (by rw [h.1]; omega), ← List.getD_eq_getElem?_getD]
    rw [e1, e2]
    exact h.2 j (by omega)

/-- The blocks that some cells touch, each once, the first of noughts. -/
structure Bl (l : List (Int × Nat)) (i : Nat) (F : List (Nat → Nat)) : Prop where
  pos : 0 < F.length
  zero : ∀ k, k < 256 → nth F 0 k = 0
  one : ∀ j, j < F.length → j ≠ 0 → ∃ a, a < 4352 ∧ ∀ k, k < 256 → nth F j k = valAt l (a * 256 + k)
  apart : ∀ j j', j < F.length → j' < F.length → (∀ k, k < 256 → nth F j k = nth F j' k) → j = j'
  all : ∀ q, q < i → 0 ≤ (l.getD q (0, 0)).1 → (l.getD q (0, 0)).1 ≤ 1114111 → ∃ j, j < F.length ∧ ∀ k, k < 256 → nth F j k = valAt l ((l.getD q (0, 0)).1.toNat / 256 * 256 + k)
  few : F.length ≤ i + 1
theorem Bl.start (l : List (Int × Nat)) : Bl l 0 [fun _ => 0] where
  pos := by simp
  zero k _ := rfl
  one j hj h0 := absurd (by simpa using hj) h0
  apart j j' h h' _ := by
    have h1 : j = 0 := by simpa using h
    have h2 : j' = 0 := by simpa using h'
    rw [h1, h2]
  all q hq := absurd hq (Nat.not_lt_zero _)
  few := by simp
section
variable {l : List (Int × Nat)} {i : Nat} {F : List (Nat → Nat)}
theorem Bl.skip (h : Bl l i F) (hx : ¬ (0 ≤ (l.getD i (0, 0)).1 ∧ (l.getD i (0, 0)).1 ≤ 1114111)) : Bl l (i + 1) F :=
  ⟨h.pos, h.zero, h.one, h.apart, fun q hq h1 h2 => by
    by_cases e : q = i
    · subst e; exact absurd ⟨h1, h2⟩ hx
    · exact h.all q (by omega) h1 h2, by have := h.few; omega⟩
theorem Bl.old (h : Bl l i F) {j : Nat} (hj : j < F.length) (he : ∀ k, k < 256 → nth F j k = valAt l ((l.getD i (0, 0)).1.toNat / 256 * 256 + k)) : Bl l (i + 1) F :=
  ⟨h.pos, h.zero, h.one, h.apart, fun q hq h1 h2 => by
    by_cases e : q = i
    · subst e; exact ⟨j, hj, he⟩
    · exact h.all q (by omega) h1 h2, by have := h.few; omega⟩
theorem Bl.new_ (h : Bl l i F) {a : Nat} (ha : (l.getD i (0, 0)).1.toNat / 256 = a) (ha2 : a < 4352) (hn : ∀ j, j < F.length → ¬ ∀ k, k < 256 → nth F j k = valAt l (a * 256 + k)) : Bl l (i + 1) (F ++ [fun k => valAt l (a * 256 + k)]) where
  pos := by simp
  zero k hk := by rw [nth_old _ h.pos]; exact h.zero k hk
  one j hj h0 := by
    rw [List.length_append, List.length_singleton] at hj
    by_cases e : j = F.length
    · subst e
      exact ⟨a, ha2, fun k _ => by rw [nth_new]⟩
    · rw [nth_old _ (by omega)]
      exact h.one j (by omega) h0
  apart j j' hj hj' he := by
    rw [List.length_append, List.length_singleton] at hj hj'
    by_cases e : j = F.length <;> by_cases e' : j' = F.length
    · omega
    · subst e
      refine absurd (fun k hk => ?_) (hn j' (by omega))
      rw [← nth_old (fun k => valAt l (a * 256 + k)) (by omega), ← he k hk, nth_new]
    · subst e'
      refine absurd (fun k hk => ?_) (hn j (by omega))
      rw [← nth_old (fun k => valAt l (a * 256 + k)) (by omega), he k hk, nth_new]
    · refine h.apart j j' (by omega) (by omega) fun k hk => ?_
      have := he k hk
      rwa [nth_old _ (by omega), nth_old _ (by omega)] at this
  all q hq h1 h2 := by
    by_cases e : q = i
    · subst e
      exact ⟨F.length, by simp, fun k _ => by rw [nth_new, ha]⟩
    · obtain ⟨j, h3, h4⟩ := h.all q (by omega) h1 h2
      exact ⟨j, by simp; omega, fun k hk => by rw [nth_old _ h3]; exact h4 k hk⟩
  few := by have := h.few; simp; omega
/-- As many as a table of pages keeps. -/
theorem Bl.done (h : Bl l l.length F) : ∃ K W, PagesOf (valAt l) F.length K W := by
  have hw : ∀ a, ∃ j, a < 4352 → j < F.length ∧ ∀ k, k < 256 → nth F j k = valAt l (a * 256 + k) := by
    intro a
    by_cases ha : a < 4352
    · rcases Classical.em (Touched l a) with ⟨x, hx, h1, h2, h3⟩ | hn
      · obtain ⟨q, hq, e⟩ := List.mem_iff_getElem.1 hx
        have e' : l.getD q (0, 0) = x := by simp [List.getD, hq, e]
        obtain ⟨j, h4, h5⟩ := h.all q hq (by rw [e']; exact h1) (by rw [e']; exact h2)
        rw [e', h3] at h5
        exact ⟨j, fun _ => ⟨h4, h5⟩⟩
      · exact ⟨0, fun _ => ⟨h.pos, fun k hk => by rw [h.zero k hk, valAt_far hn ha hk]⟩⟩
    · exact ⟨0, fun h => absurd h ha⟩
  refine ⟨nth F, fun a => (hw a).choose, h.pos, fun a k ha hk => ((hw a).choose_spec ha).2 k hk, fun a ha => ((hw a).choose_spec ha).1, h.zero, fun j hj h0 => ?_, h.apart⟩
  obtain ⟨a, ha, h1⟩ := h.one j hj h0
  refine ⟨a, ha, h.apart _ _ ((hw a).choose_spec ha).1 hj fun k hk => ?_⟩
  rw [((hw a).choose_spec ha).2 k hk, h1 k hk]
end
end Go.Proofs.Ytblakfpacommfaa
