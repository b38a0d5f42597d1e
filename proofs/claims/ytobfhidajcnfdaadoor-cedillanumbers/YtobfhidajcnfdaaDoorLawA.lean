/-
  What the laws' frames tell of their arguments; the law NatBits.
-/
import Derived.Test.YtobfhidajcnfdaaDoorAwake
import Derived.Test.YtobfhidajcnfdaaDoorSince
import Derived.OpenShut
namespace Go.Proofs.YtobfhidajcnfdaaDoor
set_option linter.unusedVariables false
set_option maxRecDepth 20000
open Go.RowKit

/-- A slice of 32 bit numbers that came in, as naturals. -/
theorem row_of_ints {w : World} {a : Option Addr} {len cap : Nat} {zs : List Int}
    (h : (a = none ∧ len = 0 ∧ cap = 0 ∧ zs = []) ∨
      ∃ x, a = some x ∧ len ≤ cap ∧ cap ≤ maxLen ∧ zs.length = cap ∧ (∀ i, i < zs.length → w.cell? (x.add i) = some (.int .u32 (zs.getD i 0))) ∧ ∀ n ∈ zs, (Lit.int .u32 n).wf = true) :
    ∃ l : List Nat, l.length = len ∧ Row .u32 w a l ∧ (∀ n ∈ l, n < 4294967296) ∧ len ≤ cap := by
  rcases h with ⟨rfl, rfl, rfl, rfl⟩ | ⟨x, rfl, hlc, _, hz, hc, hw⟩
  · exact ⟨[], rfl, Row.empty, by simp, Nat.le_refl _⟩
  · have hlen : ((zs.take len).map Int.toNat).length = len := by simp; omega
    refine ⟨(zs.take len).map Int.toNat, hlen, fun hne => ⟨x, rfl, ?_, fun i hi => ?_⟩, fun n hn => ?_, hlc⟩
    · have h0 : 0 < zs.length := by have := List.length_pos_iff.2 hne; omega
      have := World.block_lt_of_cell? w _ (hc 0 h0)
      rwa [add_block] at this
    · rw [hlen] at hi
      rw [hc i (by omega)]
      have hiz : i < zs.length := by omega
      have hb := bounds_u32 (hw zs[i] (List.getElem_mem hiz))
      have e1 : zs.getD i 0 = zs[i] := by simp [List.getD, hiz]
      have e2 : ((zs.take len).map Int.toNat).getD i 0 = zs[i].toNat := by simp [List.getD, hi, hiz]
      rw [e1, e2, Int.toNat_of_nonneg hb.1]
    · simp only [List.mem_map] at hn
      obtain ⟨z, hz1, rfl⟩ := hn
      have hb := bounds_u32 (hw z (List.mem_of_mem_take hz1))
      omega

/-- A slice that came in, cut to 40: what a law makes of it. -/
structure Came (w : World) (a : Option Addr) (len cap : Nat) (l : List Nat) : Prop where
  len_eq : l.length = len
  row : Row .u32 w a l
  lt : ∀ n ∈ l, n < 4294967296
  le : len ≤ cap

/-- What 'Few' makes of it, in whatever world that keeps it. -/
theorem Came.few {w : World} {a : Option Addr} {len cap : Nat} {l : List Nat} (h : Came w a len cap l) :
    ∃ t : List Nat, t.length ≤ 40 ∧ (∀ n ∈ t, n < 4294967296) ∧ Hid (∀ w', Below w.heap.size w w' → Calls Tryd.prog 10 #[.slice a len cap] w' (RetL 43 .u32 t w')) :=
  ⟨l.take 40, by rw [List.length_take]; omega, fun n hn => h.3 n (List.mem_of_mem_take hn), fun w' hb => few_any a len cap l w' h.1 (h.2.below hb) h.4⟩

end Go.Proofs.YtobfhidajcnfdaaDoor
