/-
  Contracts of the document's own arithmetic in decimal digits: Add, Times, Of, Num, Sub.
-/
import Derived.Test.YtpokpkocinhbfaaRefA
namespace Go.Proofs.Ytpokpkocinhbfaa
set_option linter.unusedVariables false
set_option maxRecDepth 20000
open Go.RowKit

/-- The one cell that an append of one number takes. -/
theorem one_src {w : World} {t : TypeId} {x : Int} : ∀ (j : Nat) (u : Value), [Value.int .i64 x][j]? = some u → (w.alloc (.cells #[.int .i64 x] t)).cell? ((⟨w.heap.size, 0, none⟩ : Addr).add j) = some u := by
  intro j u hu
  match j, hu with
  | 0, hu => simp at hu; subst hu; rw [add_zero_block]; exact (Blk.new w t _).cell0
theorem one_cell {k : IntKind} {x : Int} : ∀ u ∈ [Value.int k x], u.oneCell' = true := by
  intro u hu; simp at hu; subst hu; rfl

/-- Behind an append of one number to a row of one's own. -/
theorem own_snoc {w wr w1 : World} {B : Nat} {t : TypeId} {k : IntKind} {v v' : Value} {l : List Nat} {X : Int} {d : Nat} {o : Obj} (hown : wr.ownsRow B t 1 v l.length (cellsOf k l)) (hbw : Below B w wr) (hB : B ≤ w.heap.size)
    (hown1 : w1.ownsRow B t 1 v' (l.length + 1) (cellsOf k l ++ [.int k X])) (hX : X = (d : Nat)) (hgrow : (wr.alloc o).grownBy w1 v.ownBlock) :
    w1.ownsRow B t 1 v' (l ++ [d]).length (cellsOf k (l ++ [d])) ∧ Below B w w1 := by
  subst hX
  refine ⟨by simpa [cellsOf] using hown1, (hbw.alloc (Nat.le_trans hB hbw.size) o).grown hgrow ?_ fun g hg => (hown.lt g hg).1⟩
  have := hbw.size; simp; omega

theorem snoc_lt {b : Nat} {l : List Nat} (h : ∀ x ∈ l, x < b) {d : Nat} (hd : d < b) : ∀ x ∈ l ++ [d], x < b := by
  intro x hx
  rcases List.mem_append.1 hx with h1 | h1
  · exact h x h1
  · simp at h1; omega

end Go.Proofs.Ytpokpkocinhbfaa
