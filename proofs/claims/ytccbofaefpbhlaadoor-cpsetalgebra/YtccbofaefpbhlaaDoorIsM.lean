/-
  A set told mark by mark; it speaks of no program.
-/
import Derived.Test.YtccbofaefpbhlaaDoorLawE
namespace Go.Proofs.YtccbofaefpbhlaaDoor
set_option linter.unusedVariables false

/-- Marks at which alone hb changes. -/
structure MarkOk (Mk : List Nat) (hb : Int → Bool) : Prop where
  rise : RiseL Mk
  le : ∀ x ∈ Mk, x ≤ 1114112
  m0 : 0 ∈ Mk
  m55 : 55296 ∈ Mk
  m11 : 1114112 ∈ Mk
  const : ∀ j, j + 1 < Mk.length → ∀ c : Nat, Mk.getD j 0 ≤ c → c < Mk.getD (j + 1) 0 → hb (c : Int) = hb (Mk.getD j 0 : Nat)
  isI : ∀ x, hb x = true → isI x = true

section
variable {Mk : List Nat} {hb : Int → Bool}
theorem MarkOk.two (h : MarkOk Mk hb) : 2 ≤ Mk.length := by
  obtain ⟨i, hi, e1⟩ := mem_getD h.m0
  obtain ⟨k, hk, e2⟩ := mem_getD h.m11
  have : i ≠ k := by rintro rfl; omega
  omega
def hbN (hb : Int → Bool) (a : Nat) : Bool := hb (a : Int)
theorem MarkOk.kept (h : MarkOk Mk hb) (c : Nat) : memS (keptI (hbN hb) Mk (Mk.length - 1)) c = hb (c : Int) := by
  rw [Bool.eq_iff_iff, memS_ex]
  constructor
  · rintro ⟨r, hr, h1, h2⟩
    obtain ⟨j, h3, h4, rfl⟩ := (keptI_mem _ _ _ _).1 hr
    simp only at h1 h2
    have hr := h.rise j (j + 1) (by omega) (by omega)
    rw [h.const j (by omega) c h1 (by omega)]
    exact h4
  · intro hc
    have hi := h.isI _ hc
    simp only [Go.Proofs.YtccbofaefpbhlaaDoor.isI, decide_eq_true_eq] at hi
    obtain ⟨i, hi1, e1⟩ := mem_getD h.m0
    obtain ⟨k, hk, e2⟩ := mem_getD h.m11
    have h0 : Mk.getD 0 0 ≤ c := by
      rcases Nat.eq_zero_or_pos i with h4 | h4
      · subst h4; omega
      · have := h.rise 0 i h4 hi1; omega
    obtain ⟨j, h4, h5, h6⟩ := h.rise.find k hk h0 (by omega)
    refine ⟨(Mk.getD j 0, Mk.getD (j + 1) 0 - 1), (keptI_mem _ _ _ _).2 ⟨j, by omega, ?_, rfl⟩, h5, by simp only; omega⟩
    show hb (Mk.getD j 0 : Nat) = true
    rw [← h.const j (by omega) c h5 h6]
    exact hc
theorem MarkOk.part (h : MarkOk Mk hb) : ∀ r ∈ keptI (hbN hb) Mk (Mk.length - 1), Part r := by
  intro r hr
  obtain ⟨j, h3, h4, rfl⟩ := (keptI_mem _ _ _ _).1 hr
  have hr := h.rise j (j + 1) (by omega) (by omega)
  have hi := h.isI _ h4
  simp only [Go.Proofs.YtccbofaefpbhlaaDoor.isI, decide_eq_true_eq] at hi
  have g1 := h.rise.gap (j := j) (by omega) h.m55
  have g2 := h.rise.gap (j := j) (by omega) h.m11
  exact ⟨by simp only; omega, by simp only; omega, by simp only; omega⟩
theorem keptI_fst (f : Nat → Bool) (C : List Nat) (hC : RiseL C) : ∀ n, n + 1 ≤ C.length → ((keptI f C n).map (·.1)).Pairwise (· ≤ ·) ∧ ∀ r ∈ keptI f C n, r.1 < C.getD n 0
  | 0, _ => ⟨List.Pairwise.nil, fun r hr => by simp [keptI] at hr⟩
  | n + 1, h => by
    obtain ⟨h1, h2⟩ := keptI_fst f C hC n (by omega)
    have hlt := hC n (n + 1) (by omega) (by omega)
    rw [keptI_succ]
    split
    · refine ⟨?_, fun r hr => ?_⟩
      · rw [List.map_append]
        refine List.pairwise_append.2 ⟨h1, List.pairwise_singleton _ _, fun a ha b hb => ?_⟩
        obtain ⟨r, hr, rfl⟩ := List.mem_map.1 ha
        have := h2 r hr
        simp only [List.map_cons, List.map_nil, List.mem_singleton] at hb
        subst hb
        omega
      · rcases List.mem_append.1 hr with hr | hr
        · have := h2 r hr; omega
        · simp at hr; subst hr; exact hlt
    · rw [List.append_nil]
      exact ⟨h1, fun r hr => by have := h2 r hr; omega⟩
/-- The ranges so far. -/
def wantI (hb : Int → Bool) (Mk : List Nat) (j : Nat) : List (Nat × Nat) := (keptI (hbN hb) Mk j).foldl joinStep []
theorem wantI_succ (hb : Int → Bool) (Mk : List Nat) (j : Nat) : wantI hb Mk (j + 1) = if hb (Mk.getD j 0 : Nat) then joinStep (wantI hb Mk j) (Mk.getD j 0, Mk.getD (j + 1) 0 - 1) else wantI hb Mk j := by
  unfold wantI
  rw [keptI_succ, List.foldl_append]
  by_cases h : hb (Mk.getD j 0 : Nat) = true
  · rw [if_pos h, if_pos (show hbN hb (Mk.getD j 0) = true from h)]; rfl
  · rw [if_neg h, if_neg (show ¬ hbN hb (Mk.getD j 0) = true from h)]; rfl
theorem wantI_all (h : MarkOk Mk hb) {S : List (Nat × Nat)} (hg : Good 0 S) (hS : ∀ c : Int, memI S c = hb c) : wantI hb Mk (Mk.length - 1) = S := by
  have h2 := h.two
  obtain ⟨k1, k2⟩ := joinAll_spec (keptI (hbN hb) Mk (Mk.length - 1)) [] trivial h.part (keptI_fst _ _ h.rise _ (by omega)).1 (fun x hx => by simp at hx)
  refine k1.unique hg (fun c => ?_)
  rw [k2 c, h.kept c, ← hS, memI_nat]
  simp [memS]
theorem wantI_len (hb : Int → Bool) (Mk : List Nat) : ∀ j, (wantI hb Mk j).length ≤ j
  | 0 => Nat.le_refl _
  | j + 1 => by
    have := wantI_len hb Mk j
    rw [wantI_succ]
    split
    · unfold joinStep
      split
      · split
        · rename_i x hx _
          have : (wantI hb Mk j) ≠ [] := by intro e; rw [e] at hx; simp at hx
          have := List.length_pos_iff.2 this
          simp; omega
        · simp; omega
      · simp
    · omega
/-- The last one ends ahead of the mark. -/
theorem wantI_last (hb : Int → Bool) (Mk : List Nat) (hC : RiseL Mk) : ∀ j, j < Mk.length → ∀ x, (wantI hb Mk j).getLast? = some x → x.2 < Mk.getD j 0
  | 0, _, x, hx => by simp [wantI, keptI] at hx
  | j + 1, hj, x, hx => by
    have hlt := hC j (j + 1) (by omega) hj
    rw [wantI_succ] at hx
    split at hx
    · unfold joinStep at hx
      split at hx
      · rename_i y hy
        have ih := wantI_last hb Mk hC j (by omega) y hy
        split at hx
        · simp only [List.getLast?_concat, Option.some.injEq] at hx
          subst hx
          simp only
          omega
        · simp only [List.getLast?_concat, Option.some.injEq] at hx
          subst hx
          simp only
          omega
      · simp only [List.getLast?_singleton, Option.some.injEq] at hx
        subst hx
        simp only
        omega
    · have ih := wantI_last hb Mk hC j (by omega) x hx
      omega
theorem cnt_joinStep {W : List (Nat × Nat)} {a b : Nat} (hlast : ∀ x, W.getLast? = some x → x.2 < a ∧ x.1 ≤ x.2) (hab : a < b) : cnt (joinStep W (a, b - 1)) = cnt W + (b - a) := by
  unfold joinStep
  cases hW : W.getLast? with
  | none =>
    obtain rfl := List.getLast?_eq_none_iff.1 hW
    simp [cnt]; omega
  | some x =>
    obtain ⟨T, rfl⟩ := List.getLast?_eq_some_iff.1 hW
    obtain ⟨p, q⟩ := x
    obtain ⟨h1, h2⟩ := hlast _ hW
    simp only at h1 h2
    simp only [List.dropLast_concat]
    split
    · rename_i h3
      rw [cnt_append, cnt_append]
      simp only [cnt]
      omega
    · rw [cnt_append (T ++ [(p, q)])]
      simp only [cnt]
      omega
end
end Go.Proofs.YtccbofaefpbhlaaDoor
