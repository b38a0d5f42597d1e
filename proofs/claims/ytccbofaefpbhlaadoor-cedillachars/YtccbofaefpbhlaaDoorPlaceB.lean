/-
  Places of characters in a set; how many two sets have together; plain but for 'At'.
-/
import Derived.Test.YtccbofaefpbhlaaDoorLawC
import Derived.Test.YtccbofaefpbhlaaDoorPlaceM
namespace Go.Proofs.YtccbofaefpbhlaaDoor.Pl
set_option linter.unusedVariables false
set_option maxRecDepth 20000
open Go.RowKit

/-- 'At', where there is one. -/
theorem at_yes (S : List (Nat × Nat)) (v : Value) (i d : Nat) (w : World) (h : IsSet w v S) (hi : i < (charsS S).length) (hd : (charsS S).getD i 0 = d) : Calls Tryd.prog 40 #[v, .int .i64 (i : Int)] w (RetV (.tuple #[.int .i32 (d : Nat), .bool true]) w) := by
  obtain ⟨k, h1, h2, h3⟩ := span_of S i (by rw [← charsS_length]; exact hi)
  have h4 := charAt_get S h.good i k h1 h2 h3
  rw [← hd, ← h4]
  exact at_some S v i k w h h1 h2 h3
theorem at_no (S : List (Nat × Nat)) (v : Value) (i : Int) (w : World) (h : IsSet w v S) (hi : i < 0 ∨ ((charsS S).length : Int) ≤ i) : Calls Tryd.prog 40 #[v, .int .i64 i] w (RetV (.tuple #[.int .i32 0, .bool false]) w) :=
  at_none S v i w h (by rw [charsS_length] at hi; exact hi)
/-- How many are less than a character of the set. -/
theorem count_at {S : List (Nat × Nat)} (hg : Good 0 S) {i d : Nat} (hi : i < (charsS S).length) (hd : (charsS S).getD i 0 = d) : cntB S (d : Int) = i ∧ memI S (d : Int) = true ∧ d ≤ 1114111 := by
  have hr := charsS_rise S hg
  have hmem : memS S d = true := by rw [← charsS_mem S hg, ← hd]; exact getD_memL hi
  refine ⟨?_, by rw [memI_nat]; exact hmem, (hg.le hmem).1⟩
  · rw [cntB_count]
    have key := fun j hj => rise_count hr (d : Int) j hj
    rcases Nat.lt_trichotomy ((charsS S).countP fun x : Nat => decide ((x : Int) < (d : Int))) i with h | h | h
    · have h2 := rise_of_pairwise hr _ i h hi
      rw [hd] at h2
      exact absurd ((key _ (by omega)).1 (by omega)) (Nat.lt_irrefl _)
    · exact h
    · have h1 := (key i hi).2 h
      omega
/-- Where a number stands, or would stand. -/
theorem place_of {S : List (Nat × Nat)} (hg : Good 0 S) (x : Int) (k : Nat) (hk : cntB S x = k) :
    k ≤ (charsS S).length ∧ (k < (charsS S).length → x ≤ ((charsS S).getD k 0 : Nat)) ∧ (0 < k → ((charsS S).getD (k - 1) 0 : Int) < x) ∧ (memI S x = true → k < (charsS S).length ∧ ((charsS S).getD k 0 : Int) = x) := by
  have hr := charsS_rise S hg
  rw [cntB_count] at hk
  have key := fun j hj => rise_count hr x j hj
  have hle : k ≤ (charsS S).length := by rw [← hk]; exact List.countP_le_length
  refine ⟨hle, fun h => ?_, fun h => ?_, fun h => ?_⟩
  · have h1 : ¬ ((charsS S).getD k 0 : Int) < x := fun h0 => by
      have := (key k h).1 h0
      omega
    omega
  · exact (key (k - 1) (by omega)).2 (by omega)
  · rw [memI, Bool.and_eq_true, decide_eq_true_eq, ← charsS_mem S hg] at h
    obtain ⟨h0, hm⟩ := h
    obtain ⟨j, hj, e⟩ := mem_getD hm
    have hx : (x.toNat : Int) = x := by omega
    have := (count_at hg hj e).1
    rw [cntB_count, hx, hk] at this
    subst this
    exact ⟨hj, by rw [e]; exact hx⟩

/-- As many as two sets have together. -/
theorem cnt_or {S T O : List (Nat × Nat)} (hS : Good 0 S) (hT : Good 0 T) (hO : Good 0 O) (hm : ∀ x, memS O x = (memS S x || memS T x)) : cnt O = cnt S + (charsS T).countP (fun x => !memS S x) := by
  rw [List.countP_eq_length_filter, ← charsS_length, ← charsS_length S, ← List.length_append]
  apply List.Perm.length_eq
  have hn : (charsS S ++ (charsS T).filter (fun x => !memS S x)).Nodup := by
    rw [List.nodup_append]
    refine ⟨charsS_nodup hS, (charsS_nodup hT).filter _, fun a ha b hb e => ?_⟩
    subst e
    rw [List.mem_filter] at hb
    rw [charsS_mem S hS] at ha
    simp [ha] at hb
  rw [List.perm_ext_iff_of_nodup (charsS_nodup hO) hn]
  intro x
  rw [charsS_mem O hO, List.mem_append, List.mem_filter, charsS_mem S hS, charsS_mem T hT, hm]
  cases memS S x <;> cases memS T x <;> simp
theorem cnt_both {S T O A : List (Nat × Nat)} (hS : Good 0 S) (hT : Good 0 T) (hO : Good 0 O) (hA : Good 0 A) (hm : ∀ x, memS O x = (memS S x || memS T x)) (ha : ∀ x, memS A x = (memS S x && memS T x)) : cnt O + cnt A = cnt S + cnt T := by
  have h1 := cnt_or hS hT hO hm
  have h2 := cnt_filter hT hA (fun x => memS S x) (fun x => by rw [ha, Bool.and_comm])
  have h3 := count_not (charsS T) (fun x => memS S x)
  rw [charsS_length] at h3
  omega
end Go.Proofs.YtccbofaefpbhlaaDoor.Pl
