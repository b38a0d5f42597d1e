/-
  StrsetAlgebra: what the document says of two lists, and what the sets have.
-/
import Derived.Test.YtanpncjnojjmkabSP
import Derived.Test.YtanpncjnojjmkabSI
namespace Go.Proofs.Ytanpncjnojjmkab
set_option linter.unusedVariables false
set_option maxRecDepth 100000
open Go.RowKit Go.Shelf

theorem kind_1 {a b : List Tx} {x : Tx} (h1 : x ∈ a) (h2 : x ∉ b) : kindOf a b x = 1 := by simp [kindOf, isIn, h1, h2]
theorem kind_2 {a b : List Tx} {x : Tx} (h1 : x ∉ a) (h2 : x ∈ b) : kindOf a b x = 2 := by simp [kindOf, isIn, h1, h2]
theorem kind_3 {a b : List Tx} {x : Tx} (h1 : x ∈ a) (h2 : x ∈ b) : kindOf a b x = 3 := by simp [kindOf, isIn, h1, h2]
/-- The side of a kind. -/
def sideK (k : Nat) : Int := if k = 1 then -1 else if k = 2 then 1 else 0
theorem right_keep {a b O : List Tx} {ks : List Nat} {js : List Int} (hk : (1 ∈ ks ↔ (-1 : Int) ∈ js) ∧ (2 ∈ ks ↔ (1 : Int) ∈ js) ∧ (3 ∈ ks ↔ (0 : Int) ∈ js)) (h : Right a b ks O) : O = keepOf js (sidesOf (setOf a) (setOf b)) := by
  obtain ⟨hk1, hk2, hk3⟩ := hk
  refine h.1.unique (keepOf_rise js (setOf_rise a) (setOf_rise b)) fun x => ?_
  rw [h.2 x, keepOf_mem js (setOf_rise a) (setOf_rise b) x]
  unfold sideOf wanted
  simp only [setOf_mem, decide_eq_true_eq]
  by_cases h1 : x ∈ a
  · by_cases h2 : x ∈ b
    · rw [kind_3 h1 h2, hk3]
      constructor
      · rintro ⟨_, h3⟩
        exact ⟨0, h3, .inr (.inl ⟨rfl, h1, h2⟩)⟩
      · rintro ⟨k, hkj, ⟨_, _, h⟩ | ⟨rfl, _⟩ | ⟨_, h, _⟩⟩
        · exact absurd h2 h
        · exact ⟨.inl h1, hkj⟩
        · exact absurd h1 h
    · rw [kind_1 h1 h2, hk1]
      constructor
      · rintro ⟨_, h3⟩
        exact ⟨-1, h3, .inl ⟨rfl, h1, h2⟩⟩
      · rintro ⟨k, hkj, ⟨rfl, _⟩ | ⟨_, _, h⟩ | ⟨_, h, _⟩⟩
        · exact ⟨.inl h1, hkj⟩
        · exact absurd h h2
        · exact absurd h1 h
  · by_cases h2 : x ∈ b
    · rw [kind_2 h1 h2, hk2]
      constructor
      · rintro ⟨_, h3⟩
        exact ⟨1, h3, .inr (.inr ⟨rfl, h1, h2⟩)⟩
      · rintro ⟨k, hkj, ⟨_, h, _⟩ | ⟨_, h, _⟩ | ⟨rfl, _⟩⟩
        · exact absurd h h1
        · exact absurd h h1
        · exact ⟨.inr h2, hkj⟩
    · constructor
      · rintro ⟨h3 | h3, _⟩
        · exact absurd h3 h1
        · exact absurd h3 h2
      · rintro ⟨k, hkj, ⟨_, h, _⟩ | ⟨_, h, _⟩ | ⟨_, _, h⟩⟩
        · exact absurd h h1
        · exact absurd h h1
        · exact absurd h h2
theorem within_keep (l : List (Tx × Int)) : withinOf l = ((keepOf [-1] l).length == 0) := by
  unfold withinOf keepOf
  rw [Bool.eq_iff_iff, decide_eq_true_eq, beq_iff_eq, List.length_map, List.length_eq_zero_iff, List.filter_eq_nil_iff]
  simp
theorem same_keep {S T : List Tx} (hS : Rise S) (hT : Rise T) : decide (S = T) = ((keepOf [-1, 1] (sidesOf S T)).length == 0) := by
  rw [Bool.eq_iff_iff, decide_eq_true_eq, beq_iff_eq, List.length_eq_zero_iff, List.eq_nil_iff_forall_not_mem]
  constructor
  · rintro rfl x hx
    rw [keepOf_mem _ hS hT] at hx
    obtain ⟨k, hk, ⟨_, h1, h2⟩ | ⟨rfl, _⟩ | ⟨_, h1, h2⟩⟩ := hx
    · exact h2 h1
    · simp at hk
    · exact h1 h2
  · intro h
    refine hS.unique hT fun x => ?_
    have hx := h x
    rw [keepOf_mem _ hS hT] at hx
    constructor
    · intro h1
      by_cases h2 : x ∈ T
      · exact h2
      · exact absurd ⟨-1, by simp, .inl ⟨rfl, h1, h2⟩⟩ hx
    · intro h2
      by_cases h1 : x ∈ S
      · exact h1
      · exact absurd ⟨1, by simp, .inr (.inr ⟨rfl, h1, h2⟩)⟩ hx

theorem isK_list (w : World) (ks : List Nat) : IsK (w.alloc (.cells (ks.map fun k => Value.int .i64 (k : Nat)).toArray 3)) (.slice (some ⟨w.heap.size, 0, none⟩) ks.length ks.length) ks :=
  ⟨_, _, rfl, by simp, fun i hi => by
    rw [(Blk.new w 3 _).cell]
    simp [List.getD, hi]⟩
theorem isK_3 (w : World) : IsK (w.alloc (.cells #[.int .i64 3] 3)) (.slice (some ⟨w.heap.size, 0, none⟩) 1 1) [3] := isK_list w [3]
theorem isK_12 (w : World) : IsK (w.alloc (.cells #[.int .i64 1, .int .i64 2] 3)) (.slice (some ⟨w.heap.size, 0, none⟩) 2 2) [1, 2] := isK_list w [1, 2]
theorem isK_123 (w : World) : IsK (w.alloc (.cells #[.int .i64 1, .int .i64 2, .int .i64 3] 3)) (.slice (some ⟨w.heap.size, 0, none⟩) 3 3) [1, 2, 3] := isK_list w [1, 2, 3]
/-- Sorted of both, in the sets' words. -/
theorem sorted_keep (va vb vk : Value) (a b : List Tx) (ks : List Nat) (js : List Int) (w : World) (ha : IsT w va a) (hb : IsT w vb b) (hk : IsK w vk ks) (hla : a.length ≤ 40) (hlb : b.length ≤ 40) (hlk : ks.length ≤ 3) (hk4 : ∀ k ∈ ks, k < 4)
    (hj : (1 ∈ ks ↔ (-1 : Int) ∈ js) ∧ (2 ∈ ks ↔ (1 : Int) ∈ js) ∧ (3 ∈ ks ↔ (0 : Int) ∈ js)) : Calls Try.prog 10 #[va, vb, vk] w (RetT (keepOf js (sidesOf (setOf a) (setOf b))) w) :=
  (sorted_any va vb vk a b ks w ha hb hk (by omega) (by omega) hlk hk4).mono fun _ _ ⟨v, O, e, h1, h2, _, h3⟩ => ⟨v, e, by rw [← right_keep hj h2]; exact h1, h3⟩
theorem sorted_own (va vk : Value) (a : List Tx) (w : World) (ha : IsT w va a) (hk : IsK w vk [1]) (hla : a.length ≤ 40) : Calls Try.prog 10 #[va, .slice none 0 0, vk] w (RetT (setOf a) w) :=
  (sorted_any va (.slice none 0 0) vk a [] [1] w ha (.inl ⟨rfl, rfl⟩) hk (by omega) (by simp) (by simp) (by simp)).mono fun _ _ ⟨v, O, e, h1, h2, _, h3⟩ => ⟨v, e, by rw [← right_one h2]; exact h1, h3⟩
end Go.Proofs.Ytanpncjnojjmkab
