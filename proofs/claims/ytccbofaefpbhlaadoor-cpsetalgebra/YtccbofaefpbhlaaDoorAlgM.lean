/-
  Two sets held against each other mark by mark; plain but for Same and Within.
-/
import Derived.Test.YtccbofaefpbhlaaDoorMarkA
import Derived.Test.YtccbofaefpbhlaaDoorIsA
import Derived.Test.YtccbofaefpbhlaaDoorSameA
namespace Go.Proofs.YtccbofaefpbhlaaDoor
set_option linter.unusedVariables false
set_option maxRecDepth 20000
open Go.RowKit Go.Shelf

theorem allM_sub (a b : List (Int × Int)) (x : Nat) (h : x ∈ allM a ∨ x ∈ allM b) : x ∈ allM (a ++ b) := by
  simp only [allM, List.mem_append, List.flatMap_append] at h ⊢
  rcases h with (h | h) | (h | h)
  · exact .inl h
  · exact .inr (.inl h)
  · exact .inl h
  · exact .inr (.inr h)
/-- Between two marks of both nothing changes for one that has its marks among them. -/
theorem marks_const {a b d : List (Int × Int)} (hok : ∀ r ∈ a ++ b, OkR r) (hd : ∀ r ∈ d, OkR r) (hs : ∀ x, x ∈ allM d → x ∈ allM (a ++ b)) (j : Nat) (hj : j + 1 < (marksOf (a ++ b)).length) (c : Nat) (h1 : (marksOf (a ++ b)).getD j 0 ≤ c) (h2 : c < (marksOf (a ++ b)).getD (j + 1) 0) :
    hasR d (c : Int) = hasR d ((marksOf (a ++ b)).getD j 0 : Nat) := by
  have hm : ∀ x, x ∈ marksOf (a ++ b) ↔ x ∈ allM (a ++ b) := fun x => by rw [marksOf, foldIns_mem]; simp
  have hr := (marks_ok (a ++ b) hok).rise
  exact hasR_const d hd _ c h1 (fun x hx => by have := hr.gap hj ((hm x).2 (hs x hx)); omega)
theorem marks_two {a b d e : List (Int × Int)} (hok : ∀ r ∈ a ++ b, OkR r) (hd : ∀ r ∈ d, OkR r) (he : ∀ r ∈ e, OkR r) (hs : ∀ x, x ∈ allM d → x ∈ allM (a ++ b)) (ht : ∀ x, x ∈ allM e → x ∈ allM (a ++ b)) (K : Bool → Bool → Bool) (hK : K false false = false) :
    MarkOk (marksOf (a ++ b)) (fun x => K (hasR d x) (hasR e x)) := by
  have h := marks_ok (a ++ b) hok
  refine ⟨h.rise, h.le, h.m0, h.m55, h.m11, fun j hj c h1 h2 => ?_, fun x hx => ?_⟩
  · show K _ _ = K _ _
    rw [marks_const hok hd hs j hj c h1 h2, marks_const hok he ht j hj c h1 h2]
  · cases h1 : hasR d x with
    | true => exact hasR_isI d x h1
    | false =>
      cases h2 : hasR e x with
      | true => exact hasR_isI e x h2
      | false =>
        have hx' : K (hasR d x) (hasR e x) = true := hx
        rw [h1, h2, hK] at hx'
        cases hx'
/-- The mark at which a character's stretch begins. -/
theorem mark_of {Mk : List Nat} {hb : Int → Bool} (h : MarkOk Mk hb) (c : Nat) (hc : c < 1114112) : ∃ j, j + 1 < Mk.length ∧ Mk.getD j 0 ≤ c ∧ c < Mk.getD (j + 1) 0 := by
  have key : ∀ k, k < Mk.length → c < Mk.getD k 0 → ∃ j, j + 1 < Mk.length ∧ Mk.getD j 0 ≤ c ∧ c < Mk.getD (j + 1) 0 := by
    intro k
    induction k with
    | zero =>
      intro hk hlt
      obtain ⟨i, hi, e⟩ := mem_getD h.m0
      rcases Nat.eq_zero_or_pos i with rfl | hi0
      · omega
      · have := h.rise 0 i hi0 hi
        omega
    | succ k ih =>
      intro hk hlt
      by_cases h1 : Mk.getD k 0 ≤ c
      · exact ⟨k, hk, h1, hlt⟩
      · exact ih (by omega) (by omega)
  obtain ⟨i, hi, e⟩ := mem_getD h.m11
  exact key i hi (by omega)
/-- At every mark, and so everywhere. -/
theorem marks_all {a b : List (Int × Int)} (hok : ∀ r ∈ a ++ b, OkR r) (P : Bool → Bool → Bool) (hP : P false false = true) :
    ((marksOf (a ++ b)).all fun m => P (hasR a (m : Nat)) (hasR b (m : Nat))) = true ↔ ∀ c : Nat, P (hasR a (c : Int)) (hasR b (c : Int)) = true := by
  have ha : ∀ r ∈ a, OkR r := fun r hr => hok r (by simp [hr])
  have hb : ∀ r ∈ b, OkR r := fun r hr => hok r (by simp [hr])
  rw [List.all_eq_true]
  constructor
  · intro h c
    by_cases hc : c < 1114112
    · obtain ⟨j, h1, h2, h3⟩ := mark_of (marks_ok (a ++ b) hok) c hc
      rw [marks_const hok ha (fun x hx => allM_sub a b x (.inl hx)) j h1 c h2 h3, marks_const hok hb (fun x hx => allM_sub a b x (.inr hx)) j h1 c h2 h3]
      exact h _ (getD_memL (by omega))
    · have hn : ∀ d : List (Int × Int), hasR d (c : Int) = false := fun d => by
        cases e : hasR d (c : Int) with
        | false => rfl
        | true =>
          have := (isI_iff _).1 (hasR_isI d _ e)
          have := this.2.le
          omega
      rw [hn a, hn b, hP]
  · intro h m hm
    exact h m
theorem memI_R {S : List (Nat × Nat)} {M : List (Int × Int)} (h : ∀ c, memS S c = inR M c) (x : Int) : memI S x = hasR M x := by
  by_cases h0 : 0 ≤ x
  · obtain ⟨d, rfl⟩ := Int.eq_ofNat_of_zero_le h0
    rw [memI_nat, h, hasR_inR]
  · have e : hasR M x = false := by
      cases e : hasR M x with
      | false => rfl
      | true => exact absurd ((isI_iff _).1 (hasR_isI M _ e)).1 h0
    rw [e, memI, decide_eq_false h0, Bool.false_and]
theorem memI_K {O S T : List (Nat × Nat)} {a b : List (Int × Int)} (K : Bool → Bool → Bool) (hK : K false false = false) (hS : ∀ c, memS S c = inR a c) (hT : ∀ c, memS T c = inR b c) (hO : ∀ c, memS O c = K (memS S c) (memS T c)) (x : Int) : memI O x = K (hasR a x) (hasR b x) := by
  rw [← memI_R hS, ← memI_R hT]
  by_cases h0 : 0 ≤ x
  · obtain ⟨d, rfl⟩ := Int.eq_ofNat_of_zero_le h0
    rw [memI_nat, memI_nat, memI_nat, hO]
  · rw [memI, memI, memI, decide_eq_false h0]
    simp [hK]

theorem allEq_eq {α : Type} [DecidableEq α] : ∀ (xs ys : List α), xs.length = ys.length → Lib.allEq (fun x y => decide (x = y)) xs ys = decide (xs = ys)
  | [], [], _ => rfl
  | [], _ :: _, h => by simp at h
  | _ :: _, [], h => by simp at h
  | x :: xs, y :: ys, h => by
    rw [Lib.allEq, allEq_eq xs ys (by simpa using h), Bool.eq_iff_iff]
    simp
theorem splS_inj {S T : List (Nat × Nat)} (hl : S.length = T.length) (h : splS S = splS T) : S = T := by
  apply List.ext_getElem hl
  intro i h1 h2
  have e : (splS S)[i]! = (splS T)[i]! := by rw [h]
  rw [splS_get S i h1, splS_get T i h2] at e
  injection e with e1 e2
  injection e2 with e2 e3
  have g1 : S.getD i (0, 0) = S[i] := by simp [List.getD, h1]
  have g2 : T.getD i (0, 0) = T[i] := by simp [List.getD, h2]
  rw [g1, g2] at e1 e2
  exact Prod.ext e1 e2
set_option maxRecDepth 100000 in
theorem equal_any (S T : List (Nat × Nat)) (A A' : Option Addr) (c c' : Nat) (b : Bool) (w : World) (h1 : SpansAt w A S) (h2 : SpansAt w A' T) (hn : S.length ≤ 1000000) (hm : T.length ≤ 1000000) (hb : b = true ↔ S = T) : Calls Tryd.prog 74 #[.slice A S.length c, .slice A' T.length c'] w (RetV (.bool b) w) := by
  by_cases hl : S.length = T.length
  · rcases Nat.eq_zero_or_pos S.length with h0 | h0
    · have e1 : S = [] := List.length_eq_zero_iff.1 h0
      have e2 : T = [] := List.length_eq_zero_iff.1 (by omega)
      subst e1 e2
      rw [hb.2 rfl]
      exact equal_yes [] A A' c c' w h1 h2 hn
    · have hne : S ≠ [] := by intro e; rw [e] at h0; simp at h0
      have hne' : T ≠ [] := by intro e; rw [e] at hl; have h00 : S.length = 0 := hl; omega
      obtain ⟨g, rfl, hlg, hc⟩ := h1 hne
      obtain ⟨g', rfl, hlg', hc'⟩ := h2 hne'
      have hcon := AnyQ.slices_Equal Tryd.equalSp 3 (fun w => by kernel_rfl) (fun w => by kernel_rfl) encSp (fun _ => rfl) (fun x y => decide (x = y)) neqSp g 0 S.length c g' 0 T.length c' (splS S) (splS T) w (by rw [splS_length]; exact Nat.le_refl _) (by rw [splS_length]; exact Nat.le_refl _) (by omega) (by omega) (spans_cells hc) (spans_cells hc')
      change Calls Tryd.prog 74 _ _ _ at hcon
      refine hcon.mono ?_
      rintro e w' ⟨rfl, q, rfl⟩
      rw [List.take_of_length_le (by rw [splS_length]; exact Nat.le_refl _), List.take_of_length_le (by rw [splS_length]; exact Nat.le_refl _), allEq_eq _ _ (by rw [splS_length, splS_length]; exact hl)]
      refine ⟨?_, below_drewN (Below.refl _ _) q⟩
      congr 2
      rw [Bool.eq_iff_iff, decide_eq_true_eq, hb]
      exact ⟨fun h => splS_inj hl h, fun h => by rw [h]⟩
  · have hbf : b = false := by
      cases b with
      | false => rfl
      | true => exact absurd (congrArg List.length (hb.1 rfl)) hl
    subst hbf
    have hd : ((S.length : Int) != (T.length : Int)) = true := by simp; omega
    generalize S.length = n at *
    generalize T.length = m at *
    go_enter Tryd.func74, Tryd.ntmps74
    go_wp2
    go_ret
    exact ⟨rfl, Below.refl _ _⟩
/-- 'Same', of any two sets. -/
theorem same_any (S T : List (Nat × Nat)) (v u : Value) (b : Bool) (w : World) (hv : IsSet w v S) (hu : IsSet w u T) (hb : b = true ↔ S = T) : Calls Tryd.prog 38 #[v, u] w (RetV (.bool b) w) := by
  obtain ⟨A, c, rfl, h1, hg⟩ := hv
  obtain ⟨A', c', rfl, h2, hg'⟩ := hu
  have hlen := hg.len (by decide)
  have hlen' := hg'.len (by decide)
  have b0 := below_step (below_new w (.cells #[.slice A S.length c] 29)) (below_new _ (.cells #[.slice A' T.length c'] 29))
  have H := Lib.hid (equal_any S T A A' c c' b _ (h1.below b0) (h2.below b0) (by omega) (by omega) hb)
  clear h1 h2 hg hg' hb
  generalize S.length = n at *
  generalize T.length = m at *
  go_enter Tryd.func38, Tryd.ntmps38
  go_wp2_with fail
  refine H.out.mono ?_
  rintro e w1 ⟨rfl, y1⟩
  go_wp2
  go_ret
  exact ⟨rfl, below_step b0 y1⟩
theorem cnt_zero {S : List (Nat × Nat)} (h : cnt S = 0) : S = [] := by
  cases S with
  | nil => rfl
  | cons r S => simp [cnt] at h
/-- 'Within', of any two sets. -/
theorem within_any (S T : List (Nat × Nat)) (v u : Value) (b : Bool) (w : World) (hv : IsSet w v S) (hu : IsSet w u T) (hb : b = true ↔ ∀ c, (memS S c && !memS T c) = false) : Calls Tryd.prog 37 #[v, u] w (RetV (.bool b) w) := by
  have hgS := hv.good
  have hgT := hu.good
  obtain ⟨A, c, rfl⟩ := hv.shape
  obtain ⟨A', c', rfl⟩ := hu.shape
  have b0 := below_step (below_new w (.cells #[.slice A S.length c] 29)) (below_new _ (.cells #[.slice A' T.length c'] 29))
  have H := Lib.hid (setLess_any S T _ _ _ (hv.below b0) (hu.below b0) (MayMerge.of hgS hgT))
  have HB := Lib.hid hb
  clear hv hu hb
  generalize S.length = n at *
  generalize T.length = m at *
  go_enter Tryd.func37, Tryd.ntmps37
  go_wp2_with fail
  refine H.out.mono ?_
  rintro e w1 ⟨x, O, rfl, hset, hmem, y1⟩
  have CO := Lib.hid (count_any x O w1 hset)
  have hz : ((cnt O : Int) == 0) = b := by
    rw [Bool.eq_iff_iff, HB.out, beq_iff_eq]
    constructor
    · intro h c
      have e := cnt_zero (S := O) (by omega)
      subst e
      exact (hmem c).symm
    · intro h
      have e : O = [] := hset.good.unique (T := []) (lo' := 0) trivial (fun c => by rw [hmem]; exact h c)
      rw [e]; rfl
  clear hmem hset H
  generalize cnt O = k at *
  obtain ⟨z, hzz⟩ : ∃ z : Bool, ((k : Int) == 0) = z := ⟨_, rfl⟩
  rw [hzz] at hz
  subst hz
  go_wp2_with fail
  refine CO.out.mono ?_
  rintro e w2 ⟨rfl, y2⟩
  go_wp2
  go_ret
  exact ⟨by first | rfl | (simp; done) | (rw [hzz]), below_step (below_step b0 y1) y2⟩
end Go.Proofs.YtccbofaefpbhlaaDoor
