/-
  Marks: put in order, each once; it speaks of no program.
-/
import Derived.Test.YtccbofaefpbhlaaDoorIsM
namespace Go.Proofs.YtccbofaefpbhlaaDoor
set_option linter.unusedVariables false

/-- One number more, in order. -/
def ins : List Nat → Nat → List Nat
  | [], x => [x]
  | y :: r, x => if x < y then x :: y :: r else if x = y then y :: r else y :: ins r x
/-- As the document goes through it. -/
def insStep (x : Nat) (s : List Nat × Bool) (y : Nat) : List Nat × Bool := ((if !s.2 && decide (x < y) then s.1 ++ [x] else s.1) ++ [y], s.2 || decide (x ≤ y))
def insEnd (x : Nat) (s : List Nat × Bool) : List Nat := if s.2 then s.1 else s.1 ++ [x]
theorem ins_done (x : Nat) : ∀ (l nx : List Nat), l.foldl (insStep x) (nx, true) = (nx ++ l, true)
  | [], nx => by simp
  | y :: r, nx => by
    rw [List.foldl_cons, show insStep x (nx, true) y = (nx ++ [y], true) by simp [insStep], ins_done x r]
    simp
theorem ins_fold (x : Nat) : ∀ (l nx : List Nat), insEnd x (l.foldl (insStep x) (nx, false)) = nx ++ ins l x
  | [], nx => by simp [insEnd, ins]
  | y :: r, nx => by
    rw [List.foldl_cons, ins]
    by_cases h1 : x < y
    · rw [show insStep x (nx, false) y = (nx ++ [x] ++ [y], true) by simp [insStep, h1]; omega, ins_done, if_pos h1]
      simp [insEnd]
    · by_cases h2 : x = y
      · rw [show insStep x (nx, false) y = (nx ++ [y], true) by simp [insStep, h1]; omega, ins_done, if_neg h1, if_pos h2]
        simp [insEnd]
      · rw [show insStep x (nx, false) y = (nx ++ [y], false) by simp [insStep, h1]; omega, ins_fold x r, if_neg h1, if_neg h2]
        simp
theorem ins_mem (x z : Nat) : ∀ l : List Nat, z ∈ ins l x ↔ z = x ∨ z ∈ l
  | [] => by simp [ins]
  | y :: r => by
    rw [ins]
    split
    · simp
    · split
      · rename_i h; subst h; simp
      · rw [List.mem_cons, ins_mem x z r, List.mem_cons]
        constructor
        · rintro (h | h | h)
          · exact .inr (.inl h)
          · exact .inl h
          · exact .inr (.inr h)
        · rintro (h | h | h)
          · exact .inr (.inl h)
          · exact .inl h
          · exact .inr (.inr h)
theorem ins_rise (x : Nat) : ∀ l : List Nat, l.Pairwise (· < ·) → (ins l x).Pairwise (· < ·)
  | [], _ => List.pairwise_singleton _ _
  | y :: r, h => by
    rw [List.pairwise_cons] at h
    rw [ins]
    split
    · rename_i h1
      refine List.pairwise_cons.2 ⟨fun z hz => ?_, List.pairwise_cons.2 h⟩
      rcases List.mem_cons.1 hz with rfl | hz
      · exact h1
      · have := h.1 z hz; omega
    · split
      · exact List.pairwise_cons.2 h
      · refine List.pairwise_cons.2 ⟨fun z hz => ?_, ins_rise x r h.2⟩
        rcases (ins_mem x z r).1 hz with rfl | hz
        · omega
        · exact h.1 z hz
theorem ins_len (x : Nat) : ∀ l : List Nat, (ins l x).length ≤ l.length + 1
  | [] => Nat.le_refl _
  | y :: r => by
    have := ins_len x r
    rw [ins]
    split
    · simp
    · split
      · simp
      · simp; omega
theorem insStep_len (x : Nat) (s : List Nat × Bool) (y : Nat) : (insStep x s y).1.length ≤ s.1.length + 2 := by
  unfold insStep
  simp only [List.length_append, List.length_cons, List.length_nil]
  split <;> simp <;> omega

/-- All marks of ranges. -/
def allM (L : List (Int × Int)) : List Nat := [0, 55296, 57344, 1114112] ++ L.flatMap fun r => [r.1.toNat, r.2.toNat + 1]
def marksOf (L : List (Int × Int)) : List Nat := (allM L).foldl ins []
theorem allM_snoc (L : List (Int × Int)) (r : Int × Int) : allM (L ++ [r]) = allM L ++ [r.1.toNat, r.2.toNat + 1] := by simp [allM]
theorem allM_len (L : List (Int × Int)) : (allM L).length = 4 + 2 * L.length := by
  induction L with
  | nil => rfl
  | cons x r ih => simp only [allM, List.flatMap_cons, List.length_append, List.length_cons, List.length_nil] at ih ⊢; omega
theorem foldIns_mem (z : Nat) : ∀ (l out : List Nat), z ∈ l.foldl ins out ↔ z ∈ out ∨ z ∈ l
  | [], out => by simp
  | x :: l, out => by
    rw [List.foldl_cons, foldIns_mem z l, ins_mem, List.mem_cons]
    constructor
    · rintro ((h | h) | h)
      · exact .inr (.inl h)
      · exact .inl h
      · exact .inr (.inr h)
    · rintro (h | h | h)
      · exact .inl (.inr h)
      · exact .inl (.inl h)
      · exact .inr h
theorem foldIns_rise : ∀ (l out : List Nat), out.Pairwise (· < ·) → (l.foldl ins out).Pairwise (· < ·)
  | [], out, h => h
  | x :: l, out, h => by rw [List.foldl_cons]; exact foldIns_rise l _ (ins_rise x out h)
theorem foldIns_len : ∀ (l out : List Nat), (l.foldl ins out).length ≤ out.length + l.length
  | [], out => by simp
  | x :: l, out => by
    have := foldIns_len l (ins out x)
    have := ins_len x out
    rw [List.foldl_cons, List.length_cons]; omega
theorem hasR_const (L : List (Int × Int)) (hok : ∀ r ∈ L, OkR r) (a c : Nat) (hac : a ≤ c) (h : ∀ x ∈ allM L, ¬ (a < x ∧ x ≤ c)) : hasR L (c : Int) = hasR L (a : Int) := by
  have h1 := h 55296 (by simp [allM])
  have h2 := h 57344 (by simp [allM])
  have h3 := h 1114112 (by simp [allM])
  have hI : isI (c : Int) = isI (a : Int) := by
    rw [Bool.eq_iff_iff]
    simp only [isI, decide_eq_true_eq]
    omega
  unfold hasR
  rw [hI]
  have key : ∀ r ∈ L, (r.1 ≤ (c : Int) ↔ r.1 ≤ (a : Int)) ∧ ((c : Int) ≤ r.2 ↔ (a : Int) ≤ r.2) := fun r hr => by
    obtain ⟨o1, o2, o3⟩ := hok r hr
    have g1 := h r.1.toNat (by simp only [allM, List.mem_append, List.mem_flatMap]; exact .inr ⟨r, hr, by simp⟩)
    have g2 := h (r.2.toNat + 1) (by simp only [allM, List.mem_append, List.mem_flatMap]; exact .inr ⟨r, hr, by simp⟩)
    omega
  rw [Bool.eq_iff_iff]
  simp only [List.any_eq_true, Bool.and_eq_true, decide_eq_true_eq]
  constructor
  · rintro ⟨r, hr, ⟨p1, p2⟩, p3⟩
    exact ⟨r, hr, ⟨(key r hr).1.1 p1, (key r hr).2.1 p2⟩, p3⟩
  · rintro ⟨r, hr, ⟨p1, p2⟩, p3⟩
    exact ⟨r, hr, ⟨(key r hr).1.2 p1, (key r hr).2.2 p2⟩, p3⟩
theorem hasR_isI (L : List (Int × Int)) (x : Int) (h : hasR L x = true) : isI x = true := by
  simp only [hasR, List.any_eq_true, Bool.and_eq_true] at h
  obtain ⟨r, _, _, h⟩ := h
  exact h
theorem marks_ok (L : List (Int × Int)) (hok : ∀ r ∈ L, OkR r) : MarkOk (marksOf L) (hasR L) := by
  have hm : ∀ x, x ∈ marksOf L ↔ x ∈ allM L := fun x => by rw [marksOf, foldIns_mem]; simp
  have hr : RiseL (marksOf L) := rise_of_pairwise (foldIns_rise _ _ List.Pairwise.nil)
  refine ⟨hr, fun x hx => ?_, (hm _).2 (by simp [allM]), (hm _).2 (by simp [allM]), (hm _).2 (by simp [allM]), fun j hj c h1 h2 => ?_, hasR_isI L⟩
  · have hx := (hm x).1 hx
    simp only [allM, List.mem_append, List.mem_flatMap] at hx
    rcases hx with hx | ⟨r, hr, hx⟩
    · simp at hx; omega
    · obtain ⟨o1, o2, o3⟩ := hok r hr
      simp at hx; omega
  · exact hasR_const L hok _ c h1 (fun x hx => by have := hr.gap hj ((hm x).2 hx); omega)
end Go.Proofs.YtccbofaefpbhlaaDoor
