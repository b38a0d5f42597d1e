/-
  The chain of characters, plainly: which chains come to an end; how long a full decomposition is.
-/
import Derived.Test.YthmdapcieghbbabDoorTC
namespace Go.Proofs.YthmdapcieghbbabDoor
set_option linter.unusedVariables false
set_option maxRecDepth 100000
open Go.RowKit

theorem chain_ends : ∀ n, n < 61 → allEndC (chain n) = decide (n < 32) := by decide +kernel
theorem chain_maps : ∀ n, n < 32 → (∀ k, k < n → mapC (chain n) (16384 + (k : Int)) = [16384 + ((k + 1 : Nat) : Int), 12288]) ∧ mapC (chain n) (16384 + (n : Int)) = [] ∧ mapC (chain n) 12288 = [] := by decide +kernel
theorem chain_length (n : Nat) : (chain n).length = n := by simp [chain]

/-- What is left at the end is taken over as it is. -/
theorem full_flat (T : List Rw) (h : mapC T 12288 = []) : ∀ (j f : Nat) (full : List Int), j + 1 ≤ f → full.length + j ≤ 32 → fullLoop T f full (List.replicate j 12288) = some (full ++ List.replicate j 12288)
  | 0, f + 1, full, _, _ => by simp [fullLoop]
  | j + 1, f + 1, full, hf, hl => by
    have e : (List.replicate (j + 1) (12288 : Int)).getLastD 0 = 12288 := by rw [List.replicate_succ', List.getLastD_concat]
    have d : (List.replicate (j + 1) (12288 : Int)).dropLast = List.replicate j 12288 := by rw [List.replicate_succ', List.dropLast_concat]
    unfold fullLoop
    rw [if_neg (by simp), if_neg (by simp; omega), e, h, if_pos rfl, d, full_flat T h j f (full ++ [12288]) (by omega) (by simp; omega), List.replicate_succ]
    simp
theorem full_from (n : Nat) (hn : n < 32) : ∀ (d i j f : Nat), i + d = n → j + d ≤ n → 2 * d + j + 3 ≤ f → fullLoop (chain n) f [] (List.replicate j 12288 ++ [16384 + ((i : Nat) : Int)]) = some ((16384 + ((n : Nat) : Int)) :: List.replicate (j + d) 12288)
  | 0, i, j, f + 1, hi, hj, hf => by
    obtain rfl : i = n := by omega
    obtain ⟨h1, h2, h3⟩ := chain_maps i hn
    unfold fullLoop
    rw [if_neg (by simp), if_neg (by simp; omega), List.getLastD_concat, h2, if_pos rfl, List.dropLast_concat, full_flat _ h3 j f _ (by omega) (by simp; omega)]
    simp
  | d + 1, i, j, f + 1, hi, hj, hf => by
    obtain ⟨h1, h2, h3⟩ := chain_maps n hn
    unfold fullLoop
    rw [if_neg (by simp), if_neg (by simp; omega), List.getLastD_concat, h1 i (by omega), if_neg (by simp), List.dropLast_concat]
    have := full_from n hn d (i + 1) (j + 1) f (by omega) (by omega) (by omega)
    rw [List.replicate_succ'] at this
    rw [show j + (d + 1) = j + 1 + d by omega, ← this]
    simp
theorem chain_full (n k : Nat) (hn : n < 32) (hk : k < n) : ((fullC (chain n) (16384 + (k : Int))).getD []).length = n - k + 1 := by
  unfold fullC
  rw [chain_length]
  have := full_from n hn (n - k) k 0 (32 * (n + 3) + 1) (by omega) (by omega) (by omega)
  simp only [List.replicate_zero, List.nil_append] at this
  rw [this]
  simp
theorem chain_check (n : Nat) (hn : n < 61) : checkC (chain n) (fun _ => false) = if n < 32 then 0 else 4 := by
  unfold checkC
  rw [chain_rows n hn, chain_ends n hn]
  by_cases h : n < 32
  · rw [chain_pairs n h]; simp [h]
  · simp [h]
end Go.Proofs.YthmdapcieghbbabDoor
