/-
  cpset: Of.
-/
import Derived.Test.YtccbofaefpbhlaaDoorSortT
namespace Go.Proofs.YtccbofaefpbhlaaDoor
set_option linter.unusedVariables false
set_option maxRecDepth 20000
open Go.RowKit

/-- Ranges that are handed in. -/
def RgIn (w : World) (A : Option Addr) (L : List (Int × Int)) : Prop :=
  L ≠ [] → ∃ g, A = some ⟨g, 0, none⟩ ∧ g < w.heap.size ∧ ∀ i, i < L.length → w.cell? ⟨g, i * 2, none⟩ = some (.int .i32 (L.getD i (0, 0)).1) ∧ w.cell? ⟨g, i * 2 + 1, none⟩ = some (.int .i32 (L.getD i (0, 0)).2)
theorem RgIn.below {w w' : World} {A : Option Addr} {L : List (Int × Int)} (h : RgIn w A L) (hb : Below w.heap.size w w') : RgIn w' A L := fun hn => by
  obtain ⟨g, e, hl, hc⟩ := h hn
  exact ⟨g, e, Nat.lt_of_lt_of_le hl hb.size, fun i hi => ⟨(hb.cell (p := ⟨g, _, none⟩) hl).trans (hc i hi).1, (hb.cell (p := ⟨g, _, none⟩) hl).trans (hc i hi).2⟩⟩
theorem RgIn.at_ {w : World} {A : Option Addr} {L : List (Int × Int)} (h : RgIn w A L) {i : Nat} (hi : i < L.length) : ∃ g, A = some ⟨g, 0, none⟩ ∧ g < w.heap.size ∧ w.cell? ⟨g, i * 2, none⟩ = some (.int .i32 (L.getD i (0, 0)).1) ∧ w.cell? ⟨g, i * 2 + 1, none⟩ = some (.int .i32 (L.getD i (0, 0)).2) := by
  obtain ⟨g, e, hl, hc⟩ := h (by intro e; simp [e] at hi)
  exact ⟨g, e, hl, (hc i hi).1, (hc i hi).2⟩

/-- A range that may be. -/
def OkR (r : Int × Int) : Prop := 0 ≤ r.1 ∧ r.2 ≤ 1114111 ∧ r.1 ≤ r.2
/-- Without their surrogates. -/
def cutAll (L : List (Int × Int)) : List (Int × Int) := L.flatMap fun r => cutR r.1 r.2
theorem cutAll_snoc (L : List (Int × Int)) (r : Int × Int) : cutAll (L ++ [r]) = cutAll L ++ cutR r.1 r.2 := by simp [cutAll]
theorem cutAll_len : ∀ (L : List (Int × Int)), (cutAll L).length ≤ 2 * L.length
  | [] => by simp [cutAll]
  | r :: L => by
    have := cutAll_len L
    have := cutR_len r.1 r.2
    simp only [cutAll, List.flatMap_cons, List.length_append, List.length_cons] at *
    omega
def natR (M : List (Int × Int)) : List (Nat × Nat) := M.map fun r => (r.1.toNat, r.2.toNat)
theorem cutR_mem {x y : Int} {s : Int × Int} (h : s ∈ cutR x y) : max x 0 ≤ s.1 ∧ s.1 ≤ s.2 ∧ s.2 ≤ y ∧ s.2 ≤ 1114111 ∧ (s.2 < 55296 ∨ 57344 ≤ s.1) := by
  unfold cutR part1 at h
  rw [List.mem_append] at h
  rcases h with h | h
  · split at h
    · rename_i h1
      simp at h
      subst h
      simp only
      omega
    · simp at h
  · split at h
    · rename_i h1
      simp at h
      subst h
      simp only
      omega
    · simp at h
theorem cutAll_part (L : List (Int × Int)) : ∀ s ∈ cutAll L, 0 ≤ s.1 ∧ s.1 ≤ s.2 ∧ s.2 ≤ 1114111 ∧ (s.2 < 55296 ∨ 57344 ≤ s.1) := by
  intro s hs
  simp only [cutAll, List.mem_flatMap] at hs
  obtain ⟨r, _, h⟩ := hs
  have := cutR_mem h
  omega
theorem intR_natR (M : List (Int × Int)) (h : ∀ s ∈ M, 0 ≤ s.1 ∧ s.1 ≤ s.2 ∧ s.2 ≤ 1114111 ∧ (s.2 < 55296 ∨ 57344 ≤ s.1)) : intR (natR M) = M := by
  unfold intR natR
  rw [List.map_map]
  conv => rhs; rw [← List.map_id M]
  apply List.map_congr_left
  intro s hs
  have := h s hs
  simp only [Function.comp, id]
  rw [Int.toNat_of_nonneg (by omega), Int.toNat_of_nonneg (by omega)]
theorem natR_part (M : List (Int × Int)) (h : ∀ s ∈ M, 0 ≤ s.1 ∧ s.1 ≤ s.2 ∧ s.2 ≤ 1114111 ∧ (s.2 < 55296 ∨ 57344 ≤ s.1)) : ∀ r ∈ natR M, Part r := by
  intro r hr
  simp only [natR, List.mem_map] at hr
  obtain ⟨s, hs, rfl⟩ := hr
  have := h s hs
  exact ⟨by simp only; omega, by simp only; omega, by simp only; omega⟩
/-- Is c a character of some range? -/
def inR (L : List (Int × Int)) (c : Nat) : Bool := L.any fun r => decide (r.1 ≤ (c : Int) ∧ (c : Int) ≤ r.2 ∧ (c < 55296 ∨ 57344 ≤ c) ∧ c ≤ 1114111)
theorem cut_mem (L : List (Int × Int)) (hok : ∀ r ∈ L, OkR r) (c : Nat) : memS (natR (cutAll L)) c = inR L c := by
  rw [Bool.eq_iff_iff]
  simp only [memS, inR, List.any_eq_true, natR, List.mem_map, Bool.and_eq_true, decide_eq_true_eq]
  constructor
  · rintro ⟨x, ⟨s, hs, rfl⟩, h1, h2⟩
    have hp := cutAll_part L s hs
    simp only [cutAll, List.mem_flatMap] at hs
    obtain ⟨r, hr, h⟩ := hs
    have := cutR_mem h
    exact ⟨r, hr, by simp only at h1 h2; omega⟩
  · rintro ⟨r, hr, h1, h2, h3, h4⟩
    obtain ⟨o1, o2, o3⟩ := hok r hr
    rcases h3 with h3 | h3
    · have hle : max r.1 0 ≤ min r.2 55295 := by omega
      refine ⟨_, ⟨(max r.1 0, min r.2 55295), ?_, rfl⟩, by simp only; omega, by simp only; omega⟩
      simp only [cutAll, List.mem_flatMap]
      exact ⟨r, hr, by simp [cutR, part1, hle]⟩
    · have hle : max r.1 57344 ≤ min r.2 1114111 := by omega
      refine ⟨_, ⟨(max r.1 57344, min r.2 1114111), ?_, rfl⟩, by simp only; omega, by simp only; omega⟩
      simp only [cutAll, List.mem_flatMap]
      exact ⟨r, hr, by simp [cutR, part1, hle]⟩
end Go.Proofs.YtccbofaefpbhlaaDoor
