/-
  Two rising lists gone through together; plain.
-/
import Derived.Test.YtanpncjnojjmkabSGM
namespace Go.Proofs.Ytanpncjnojjmkab
set_option linter.unusedVariables false

/-- The texts of both, rising, each once, with where it stands: -1 in the first alone, 0 in both, 1 in the second alone. -/
def sidesOf : List Tx → List Tx → List (Tx × Int)
  | [], [] => []
  | [], y :: b => (y, 1) :: sidesOf [] b
  | x :: a, [] => (x, -1) :: sidesOf a []
  | x :: a, y :: b => if lt x y then (x, -1) :: sidesOf a (y :: b) else if lt y x then (y, 1) :: sidesOf (x :: a) b else (y, 0) :: sidesOf a b
  termination_by a b => a.length + b.length
theorem sidesOf_nil : sidesOf [] [] = [] := by rw [sidesOf]
theorem sidesOf_l (x : Tx) (a : List Tx) : sidesOf (x :: a) [] = (x, -1) :: sidesOf a [] := by rw [sidesOf]
theorem sidesOf_r (y : Tx) (b : List Tx) : sidesOf [] (y :: b) = (y, 1) :: sidesOf [] b := by rw [sidesOf]
theorem sidesOf_lt {x y : Tx} (a b : List Tx) (h : lt x y = true) : sidesOf (x :: a) (y :: b) = (x, -1) :: sidesOf a (y :: b) := by rw [sidesOf, if_pos h]
theorem sidesOf_gt {x y : Tx} (a b : List Tx) (h : lt y x = true) : sidesOf (x :: a) (y :: b) = (y, 1) :: sidesOf (x :: a) b := by rw [sidesOf, if_neg (by rw [lt_asymm h]; simp), if_pos h]
theorem sidesOf_eq (x : Tx) (a b : List Tx) : sidesOf (x :: a) (x :: b) = (x, 0) :: sidesOf a b := by rw [sidesOf, if_neg (by rw [lt_self]; simp), if_neg (by rw [lt_self]; simp)]
theorem sidesOf_len : ∀ (a b : List Tx), (sidesOf a b).length ≤ a.length + b.length
  | [], [] => by rw [sidesOf_nil]; simp
  | [], y :: b => by rw [sidesOf_r]; have := sidesOf_len [] b; simp at this ⊢; omega
  | x :: a, [] => by rw [sidesOf_l]; have := sidesOf_len a []; simp at this ⊢; omega
  | x :: a, y :: b => by
    cases h1 : lt x y with
    | true => rw [sidesOf_lt a b h1]; have := sidesOf_len a (y :: b); simp at this ⊢; omega
    | false =>
      cases h2 : lt y x with
      | true => rw [sidesOf_gt a b h2]; have := sidesOf_len (x :: a) b; simp at this ⊢; omega
      | false =>
        obtain rfl := lt_total x y h1 h2
        rw [sidesOf_eq]; have := sidesOf_len a b; simp at this ⊢; omega
  termination_by a b => a.length + b.length
/-- Where it stands. -/
def sideOf (a b : List Tx) (x : Tx) (k : Int) : Prop := (k = -1 ∧ x ∈ a ∧ x ∉ b) ∨ (k = 0 ∧ x ∈ a ∧ x ∈ b) ∨ (k = 1 ∧ x ∉ a ∧ x ∈ b)
theorem rise_head {a : Tx} {l : List Tx} (h : Rise (a :: l)) : ∀ t ∈ l, lt a t = true := (List.pairwise_cons.1 h).1
theorem rise_tail {a : Tx} {l : List Tx} (h : Rise (a :: l)) : Rise l := (List.pairwise_cons.1 h).2
theorem lt_ne {a b : Tx} (h : lt a b = true) : a ≠ b := by rintro rfl; rw [lt_self] at h; cases h
/-- All of them rise, are where they stand, and are greater than what is less than both. -/
theorem sidesOf_spec : ∀ (a b : List Tx), Rise a → Rise b → Rise ((sidesOf a b).map (·.1)) ∧ (∀ x k, (x, k) ∈ sidesOf a b ↔ sideOf a b x k)
  | [], [], _, _ => by rw [sidesOf_nil]; exact ⟨List.Pairwise.nil, fun x k => by simp [sideOf]⟩
  | [], y :: b, ha, hb => by
    obtain ⟨h1, h2⟩ := sidesOf_spec [] b ha (rise_tail hb)
    have hh := rise_head hb
    rw [sidesOf_r]
    refine ⟨?_, fun x k => ?_⟩
    · rw [List.map_cons]
      refine List.pairwise_cons.2 ⟨fun t ht => ?_, h1⟩
      rw [List.mem_map] at ht
      obtain ⟨⟨z, k⟩, hz, rfl⟩ := ht
      rcases (h2 z k).1 hz with ⟨_, h, _⟩ | ⟨_, h, _⟩ | ⟨_, _, h⟩
      · cases h
      · cases h
      · exact hh z h
    · rw [List.mem_cons, h2 x k, Prod.mk.injEq]
      unfold sideOf
      simp only [List.not_mem_nil, false_and, and_false, false_or, not_false_eq_true, true_and, List.mem_cons]
      constructor
      · rintro (⟨rfl, rfl⟩ | ⟨rfl, h⟩)
        · exact ⟨rfl, .inl rfl⟩
        · exact ⟨rfl, .inr h⟩
      · rintro ⟨rfl, rfl | h⟩
        · exact .inl ⟨rfl, rfl⟩
        · exact .inr ⟨rfl, h⟩
  | x :: a, [], ha, hb => by
    obtain ⟨h1, h2⟩ := sidesOf_spec a [] (rise_tail ha) hb
    have hh := rise_head ha
    rw [sidesOf_l]
    refine ⟨?_, fun z k => ?_⟩
    · rw [List.map_cons]
      refine List.pairwise_cons.2 ⟨fun t ht => ?_, h1⟩
      rw [List.mem_map] at ht
      obtain ⟨⟨z, k⟩, hz, rfl⟩ := ht
      rcases (h2 z k).1 hz with ⟨_, h, _⟩ | ⟨_, _, h⟩ | ⟨_, _, h⟩
      · exact hh z h
      · cases h
      · cases h
    · rw [List.mem_cons, h2 z k, Prod.mk.injEq]
      unfold sideOf
      simp only [List.not_mem_nil, and_false, or_false, not_false_eq_true, and_true, List.mem_cons]
      constructor
      · rintro (⟨rfl, rfl⟩ | ⟨rfl, h⟩)
        · exact ⟨rfl, .inl rfl⟩
        · exact ⟨rfl, .inr h⟩
      · rintro ⟨rfl, rfl | h⟩
        · exact .inl ⟨rfl, rfl⟩
        · exact .inr ⟨rfl, h⟩
  | x :: a, y :: b, ha, hb => by
    have hha := rise_head ha
    have hhb := rise_head hb
    cases h1 : lt x y with
    | true =>
      obtain ⟨h3, h4⟩ := sidesOf_spec a (y :: b) (rise_tail ha) hb
      rw [sidesOf_lt a b h1]
      have hxb : x ∉ y :: b := by
        intro h
        rw [List.mem_cons] at h
        rcases h with h | h
        · exact lt_ne h1 h
        · exact lt_ne (lt_trans h1 (hhb x h)) rfl
      have hall : ∀ z k, sideOf a (y :: b) z k → lt x z = true := by
        intro z k h
        have hz : z ∈ a ∨ z ∈ y :: b := by rcases h with ⟨_, h, _⟩ | ⟨_, h, _⟩ | ⟨_, _, h⟩; exact .inl h; exact .inl h; exact .inr h
        rcases hz with h | h
        · exact hha z h
        · rw [List.mem_cons] at h
          rcases h with rfl | h
          · exact h1
          · exact lt_trans h1 (hhb z h)
      refine ⟨?_, fun z k => ?_⟩
      · rw [List.map_cons]
        refine List.pairwise_cons.2 ⟨fun t ht => ?_, h3⟩
        rw [List.mem_map] at ht
        obtain ⟨⟨z, k⟩, hz, rfl⟩ := ht
        exact hall z k ((h4 z k).1 hz)
      · rw [List.mem_cons, h4 z k, Prod.mk.injEq]
        constructor
        · rintro (⟨rfl, rfl⟩ | h)
          · exact .inl ⟨rfl, by simp, hxb⟩
          · rcases h with ⟨h5, h6, h7⟩ | ⟨h5, h6, h7⟩ | ⟨h5, h6, h7⟩
            · exact .inl ⟨h5, List.mem_cons_of_mem _ h6, h7⟩
            · exact .inr (.inl ⟨h5, List.mem_cons_of_mem _ h6, h7⟩)
            · refine .inr (.inr ⟨h5, fun h => ?_, h7⟩)
              rw [List.mem_cons] at h
              rcases h with rfl | h
              · exact hxb h7
              · exact h6 h
        · rintro (⟨h5, h6, h7⟩ | ⟨h5, h6, h7⟩ | ⟨h5, h6, h7⟩)
          · rw [List.mem_cons] at h6
            rcases h6 with rfl | h6
            · exact .inl ⟨rfl, h5⟩
            · exact .inr (.inl ⟨h5, h6, h7⟩)
          · rw [List.mem_cons] at h6
            rcases h6 with rfl | h6
            · exact absurd h7 hxb
            · exact .inr (.inr (.inl ⟨h5, h6, h7⟩))
          · exact .inr (.inr (.inr ⟨h5, fun h => h6 (List.mem_cons_of_mem _ h), h7⟩))
    | false =>
      cases h2 : lt y x with
      | true =>
        obtain ⟨h3, h4⟩ := sidesOf_spec (x :: a) b ha (rise_tail hb)
        rw [sidesOf_gt a b h2]
        have hya : y ∉ x :: a := by
          intro h
          rw [List.mem_cons] at h
          rcases h with h | h
          · exact lt_ne h2 h
          · exact lt_ne (lt_trans h2 (hha y h)) rfl
        have hall : ∀ z k, sideOf (x :: a) b z k → lt y z = true := by
          intro z k h
          have hz : z ∈ x :: a ∨ z ∈ b := by rcases h with ⟨_, h, _⟩ | ⟨_, h, _⟩ | ⟨_, _, h⟩; exact .inl h; exact .inl h; exact .inr h
          rcases hz with h | h
          · rw [List.mem_cons] at h
            rcases h with rfl | h
            · exact h2
            · exact lt_trans h2 (hha z h)
          · exact hhb z h
        refine ⟨?_, fun z k => ?_⟩
        · rw [List.map_cons]
          refine List.pairwise_cons.2 ⟨fun t ht => ?_, h3⟩
          rw [List.mem_map] at ht
          obtain ⟨⟨z, k⟩, hz, rfl⟩ := ht
          exact hall z k ((h4 z k).1 hz)
        · rw [List.mem_cons, h4 z k, Prod.mk.injEq]
          constructor
          · rintro (⟨rfl, rfl⟩ | h)
            · exact .inr (.inr ⟨rfl, hya, by simp⟩)
            · rcases h with ⟨h5, h6, h7⟩ | ⟨h5, h6, h7⟩ | ⟨h5, h6, h7⟩
              · refine .inl ⟨h5, h6, fun h => ?_⟩
                rw [List.mem_cons] at h
                rcases h with rfl | h
                · exact hya h6
                · exact h7 h
              · exact .inr (.inl ⟨h5, h6, List.mem_cons_of_mem _ h7⟩)
              · exact .inr (.inr ⟨h5, h6, List.mem_cons_of_mem _ h7⟩)
          · rintro (⟨h5, h6, h7⟩ | ⟨h5, h6, h7⟩ | ⟨h5, h6, h7⟩)
            · exact .inr (.inl ⟨h5, h6, fun h => h7 (List.mem_cons_of_mem _ h)⟩)
            · rw [List.mem_cons] at h7
              rcases h7 with rfl | h7
              · exact absurd h6 hya
              · exact .inr (.inr (.inl ⟨h5, h6, h7⟩))
            · rw [List.mem_cons] at h7
              rcases h7 with rfl | h7
              · exact .inl ⟨rfl, h5⟩
              · exact .inr (.inr (.inr ⟨h5, h6, h7⟩))
      | false =>
        obtain rfl := lt_total x y h1 h2
        obtain ⟨h3, h4⟩ := sidesOf_spec a b (rise_tail ha) (rise_tail hb)
        rw [sidesOf_eq]
        have hxa : x ∉ a := fun h => lt_ne (hha x h) rfl
        have hxb : x ∉ b := fun h => lt_ne (hhb x h) rfl
        have hall : ∀ z k, sideOf a b z k → lt x z = true := by
          intro z k h
          have hz : z ∈ a ∨ z ∈ b := by rcases h with ⟨_, h, _⟩ | ⟨_, h, _⟩ | ⟨_, _, h⟩; exact .inl h; exact .inl h; exact .inr h
          rcases hz with h | h
          · exact hha z h
          · exact hhb z h
        refine ⟨?_, fun z k => ?_⟩
        · rw [List.map_cons]
          refine List.pairwise_cons.2 ⟨fun t ht => ?_, h3⟩
          rw [List.mem_map] at ht
          obtain ⟨⟨z, k⟩, hz, rfl⟩ := ht
          exact hall z k ((h4 z k).1 hz)
        · rw [List.mem_cons, h4 z k, Prod.mk.injEq]
          have hne : sideOf a b z k → z ≠ x := fun h => (lt_ne (hall z k h)).symm
          constructor
          · rintro (⟨rfl, rfl⟩ | h)
            · exact .inr (.inl ⟨rfl, by simp, by simp⟩)
            · have hz := hne h
              rcases h with ⟨h5, h6, h7⟩ | ⟨h5, h6, h7⟩ | ⟨h5, h6, h7⟩
              · exact .inl ⟨h5, List.mem_cons_of_mem _ h6, fun h => by rw [List.mem_cons] at h; exact h.elim hz h7⟩
              · exact .inr (.inl ⟨h5, List.mem_cons_of_mem _ h6, List.mem_cons_of_mem _ h7⟩)
              · exact .inr (.inr ⟨h5, fun h => by rw [List.mem_cons] at h; exact h.elim hz h6, List.mem_cons_of_mem _ h7⟩)
          · rintro (⟨h5, h6, h7⟩ | ⟨h5, h6, h7⟩ | ⟨h5, h6, h7⟩)
            · rw [List.mem_cons] at h6 h7
              rcases h6 with rfl | h6
              · exact absurd (.inl rfl) h7
              · exact .inr (.inl ⟨h5, h6, fun h => h7 (.inr h)⟩)
            · rw [List.mem_cons] at h6 h7
              rcases h6 with rfl | h6
              · exact .inl ⟨rfl, h5⟩
              · rcases h7 with rfl | h7
                · exact .inl ⟨rfl, h5⟩
                · exact .inr (.inr (.inl ⟨h5, h6, h7⟩))
            · rw [List.mem_cons] at h6 h7
              rcases h7 with rfl | h7
              · exact absurd (.inl rfl) h6
              · exact .inr (.inr (.inr ⟨h5, fun h => h6 (.inr h), h7⟩))
  termination_by a b => a.length + b.length

/-- Those of the sides that are kept. -/
def keepOf (ks : List Int) (l : List (Tx × Int)) : List Tx := (l.filter fun p => decide (p.2 ∈ ks)).map (·.1)
theorem keepOf_snoc (ks : List Int) (l : List (Tx × Int)) (p : Tx × Int) : keepOf ks (l ++ [p]) = keepOf ks l ++ if p.2 ∈ ks then [p.1] else [] := by
  unfold keepOf
  rw [List.filter_append, List.map_append]
  by_cases h : p.2 ∈ ks <;> simp [h]
theorem keepOf_len (ks : List Int) (l : List (Tx × Int)) : (keepOf ks l).length ≤ l.length := by
  unfold keepOf; rw [List.length_map]; exact List.length_filter_le _ _
theorem keepOf_rise (ks : List Int) {a b : List Tx} (ha : Rise a) (hb : Rise b) : Rise (keepOf ks (sidesOf a b)) := by
  have h := (sidesOf_spec a b ha hb).1
  unfold keepOf Rise
  unfold Rise at h
  rw [List.pairwise_map] at h ⊢
  exact List.Pairwise.filter _ h
theorem keepOf_mem (ks : List Int) {a b : List Tx} (ha : Rise a) (hb : Rise b) (x : Tx) : x ∈ keepOf ks (sidesOf a b) ↔ ∃ k, k ∈ ks ∧ sideOf a b x k := by
  have h := (sidesOf_spec a b ha hb).2
  unfold keepOf
  rw [List.mem_map]
  constructor
  · rintro ⟨⟨z, k⟩, hz, rfl⟩
    rw [List.mem_filter] at hz
    exact ⟨k, by simpa using hz.2, (h z k).1 hz.1⟩
  · rintro ⟨k, hk, hs⟩
    exact ⟨(x, k), by rw [List.mem_filter]; exact ⟨(h x k).2 hs, by simpa using hk⟩, rfl⟩
/-- Whether all are of the second. -/
def withinOf (l : List (Tx × Int)) : Bool := decide (∀ p ∈ l, p.2 ≠ -1)
end Go.Proofs.Ytanpncjnojjmkab
