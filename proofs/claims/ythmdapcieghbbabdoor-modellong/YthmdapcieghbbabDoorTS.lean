/-
  What is reckoned of a table hangs on its rows' characters, classes and mappings alone.
-/
import Derived.Test.YthmdapcieghbbabDoorTM
namespace Go.Proofs.YthmdapcieghbbabDoor
set_option linter.unusedVariables false
set_option maxRecDepth 20000
open Go.RowKit

def st (r : Rw) : Rw := ⟨r.code, r.cls, none, 0, r.map⟩
def strip (T : List Rw) : List Rw := T.map st
theorem strip_length (T : List Rw) : (strip T).length = T.length := by simp [strip]
theorem strip_eq {T U : List Rw} (h : T.map (fun r => (r.code, r.cls, r.map)) = U.map (fun r => (r.code, r.cls, r.map))) : strip T = strip U := by
  have h2 := congrArg (List.map fun (p : Int × Int × List Int) => (⟨p.1, p.2.1, none, 0, p.2.2⟩ : Rw)) h
  rw [List.map_map, List.map_map] at h2
  exact h2
theorem lessC_strip (T : List Rw) (x : Int) : lessC (strip T) x = lessC T x := by
  unfold lessC strip
  rw [List.countP_map]
  rfl
theorem getD_strip (T : List Rw) (i : Nat) : (strip T).getD i Rw.nil = st (T.getD i Rw.nil) := by
  unfold strip
  rw [List.getD_eq_getElem?_getD, List.getD_eq_getElem?_getD, List.getElem?_map]
  cases T[i]? <;> rfl
theorem hasC_strip (T : List Rw) (x : Int) : hasC (strip T) x = hasC T x := by
  unfold hasC
  rw [lessC_strip, strip_length, getD_strip]
  rfl
theorem rowC_strip (T : List Rw) (x : Int) : rowC (strip T) x = st (rowC T x) := by
  unfold rowC
  rw [hasC_strip, lessC_strip, getD_strip]
  split <;> rfl
theorem idx_strip (T : List Rw) (x : Int) : idx (strip T) x = idx T x := by
  unfold idx
  rw [hasC_strip, lessC_strip]
theorem wrongRowC_strip : ∀ (T : List Rw) (a : Int), wrongRowC (strip T) a = wrongRowC T a
  | [], _ => rfl
  | r :: t, a => by
    have := wrongRowC_strip t r.code
    unfold strip at this ⊢
    rw [List.map_cons]
    unfold wrongRowC
    rw [show wrongC (st r) a = wrongC r a from rfl, show (st r).code = r.code from rfl, this]
theorem row_strip (T : List Rw) (m : Ms) (i : Nat) : Ms.row (strip T) m i = Ms.row T m i := by
  have h : Ms.target (strip T) i = Ms.target T i := by
    funext m c
    unfold Ms.target
    rw [idx_strip]
  unfold Ms.row
  rw [getD_strip, h]
  rfl
theorem measC_strip (T : List Rw) (k : Nat) : measC (strip T) k = measC T k := by
  unfold measC
  rw [show Ms.row (strip T) = Ms.row T from funext fun m => funext fun i => row_strip T m i]
theorem stAt_strip (T : List Rw) : ∀ f, stAt (strip T) f = stAt T f
  | 0 => by unfold stAt; rw [measC_strip, strip_length]
  | f + 1 => by unfold stAt; rw [stAt_strip T f]
theorem allEndC_strip (T : List Rw) : allEndC (strip T) = allEndC T := by
  unfold allEndC
  rw [stAt_strip, strip_length]
theorem composedC_strip (T : List Rw) (E : Int → Bool) (r : Rw) : composedC (strip T) E (st r) = composedC T E r := by
  unfold composedC
  rw [show (st r).map = r.map from rfl, rowC_strip]
  rfl
theorem pairTwiceC_strip (T : List Rw) (E : Int → Bool) : ∀ (U : List Rw) (S : List (List Int)), pairTwiceC (strip T) E S (strip U) = pairTwiceC T E S U
  | [], _ => rfl
  | r :: t, S => by
    have h1 := pairTwiceC_strip T E t
    unfold strip at h1 ⊢
    rw [List.map_cons]
    unfold pairTwiceC
    have h2 := composedC_strip T E r
    unfold strip at h2
    rw [h2, show (st r).map = r.map from rfl, h1, h1]
theorem checkC_strip (T : List Rw) (E : Int → Bool) : checkC (strip T) E = checkC T E := by
  unfold checkC
  rw [wrongRowC_strip, allEndC_strip, pairTwiceC_strip]
theorem mapC_strip (T : List Rw) (x : Int) : mapC (strip T) x = mapC T x := by
  unfold mapC
  rw [rowC_strip]
  rfl
theorem fullLoop_strip (T : List Rw) : ∀ (f : Nat) (full rest : List Int), fullLoop (strip T) f full rest = fullLoop T f full rest
  | 0, _, _ => rfl
  | f + 1, full, rest => by
    unfold fullLoop
    rw [mapC_strip, fullLoop_strip T f, fullLoop_strip T f]
theorem fullC_strip (T : List Rw) (x : Int) : fullC (strip T) x = fullC T x := by
  unfold fullC
  rw [fullLoop_strip, strip_length]
end Go.Proofs.YthmdapcieghbbabDoor
