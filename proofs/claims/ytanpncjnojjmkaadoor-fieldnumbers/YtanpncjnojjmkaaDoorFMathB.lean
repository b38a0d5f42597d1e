/-
  Words between bytes of a kind, and blanks at the ends: plain; it speaks of no program.
-/
import Derived.WalkKit
import Derived.Lib.IndexBytes
import Derived.Lib.SplitLaws
import Derived.Lib.TrimByte
namespace Go.Proofs.YtanpncjnojjmkaaDoor
set_option linter.unusedVariables false

/-- What stands between the bytes c, the first word begun with w. -/
def spl (c : UInt8) : List UInt8 → List UInt8 → List (List UInt8)
  | [], w => [w]
  | b :: r, w => if b = c then w :: spl c r [] else spl c r (w ++ [b])

theorem spl_find (c : UInt8) : ∀ (s w : List UInt8),
    (Lib.indexByte s c = -1 ∧ s.count c = 0 ∧ spl c s w = [w ++ s]) ∨
    (∃ i : Nat, Lib.indexByte s c = i ∧ s.count c = (s.drop (i + 1)).count c + 1 ∧ spl c s w = (w ++ s.take i) :: spl c (s.drop (i + 1)) [])
  | [], w => .inl ⟨rfl, rfl, by simp [spl]⟩
  | b :: r, w => by
    by_cases hb : b = c
    · right
      refine ⟨0, ?_, ?_, ?_⟩
      · simp [Lib.indexByte, hb]
      · simp [hb]
      · simp [spl, hb]
    · have hbe : (b == c) = false := by simpa using hb
      rcases spl_find c r (w ++ [b]) with ⟨h1, h2, h3⟩ | ⟨i, h1, h2, h3⟩
      · left
        refine ⟨?_, ?_, ?_⟩
        · simp [Lib.indexByte, hbe, h1]
        · rw [List.count_cons_of_ne (by simpa using hb), h2]
        · rw [spl, if_neg hb, h3]; simp
      · right
        refine ⟨i + 1, ?_, ?_, ?_⟩
        · have : ¬ ((i : Int) = -1) := by omega
          simp [Lib.indexByte, hbe, h1, this]
        · rw [List.count_cons_of_ne (by simpa using hb), h2]; rfl
        · rw [spl, if_neg hb, h3]; simp

theorem splitK_spl (c : UInt8) : ∀ (k : Nat) (s : List UInt8), s.count c ≤ k → Lib.splitK [c] 0 k s = spl c s []
  | 0, s, h => by
    rcases spl_find c s [] with ⟨_, _, h3⟩ | ⟨i, _, h2, _⟩
    · rw [h3]; rfl
    · omega
  | k + 1, s, h => by
    rw [Lib.splitK, Lib.index_one]
    rcases spl_find c s [] with ⟨h1, _, h3⟩ | ⟨i, h1, h2, h3⟩
    · rw [h1, h3]; rfl
    · have hi : ¬ ((i : Int) == -1) = true := by simp
      rw [h1, if_neg hi, h3, splitK_spl c k _ (by simp; omega)]
      simp

/-- The words with c between them, behind acc. -/
def jn (c : UInt8) : Bool → List UInt8 → List (List UInt8) → List UInt8
  | _, acc, [] => acc
  | b, acc, x :: r => jn c true ((if b then acc ++ [c] else acc) ++ x) r
theorem jn_spl (c : UInt8) : ∀ (s w acc : List UInt8) (b : Bool), jn c b acc (spl c s w) = (if b then acc ++ [c] else acc) ++ w ++ s
  | [], w, acc, b => by simp [spl, jn]
  | x :: r, w, acc, b => by
    rw [spl]
    by_cases h : x = c
    · rw [if_pos h, jn, jn_spl c r]
      simp [h]
    · rw [if_neg h, jn_spl c r]
      simp

/-- Without the bytes c at its end. -/
theorem rt_cons (c x : UInt8) (l : List UInt8) : Lib.trimRightB (x :: l) c = if Lib.trimRightB l c = [] ∧ x = c then [] else x :: Lib.trimRightB l c := by
  unfold Lib.trimRightB
  rw [List.reverse_cons, List.dropWhile_append]
  by_cases h : (l.reverse.dropWhile (· == c)) = []
  · rw [h]
    by_cases hx : x = c
    · simp [hx]
    · simp [hx]
  · have h' : (l.reverse.dropWhile (· == c)).isEmpty = false := by simpa using h
    rw [h']
    simp [h]
theorem trim_swap (c : UInt8) : ∀ l : List UInt8, Lib.trimRightB (Lib.trimLeftB l c) c = Lib.trimLeftB (Lib.trimRightB l c) c
  | [] => rfl
  | x :: l => by
    rw [rt_cons]
    by_cases hx : x = c
    · have e1 : Lib.trimLeftB (x :: l) c = Lib.trimLeftB l c := by simp [Lib.trimLeftB, hx]
      rw [e1, trim_swap c l]
      by_cases hr : Lib.trimRightB l c = []
      · rw [if_pos ⟨hr, hx⟩, hr]
      · rw [if_neg (fun h => hr h.1)]
        simp [Lib.trimLeftB, hx]
    · have e1 : Lib.trimLeftB (x :: l) c = x :: l := by simp [Lib.trimLeftB, hx]
      rw [e1, rt_cons, if_neg (fun h => hx h.2)]
      simp [Lib.trimLeftB, hx]
theorem cut_head (c : UInt8) (s : List UInt8) : (Lib.cut s [c]).1 = (spl c s []).headD [] := by
  unfold Lib.cut
  rw [Lib.index_one]
  rcases spl_find c s [] with ⟨h1, _, h3⟩ | ⟨i, h1, h2, h3⟩
  · rw [h1, h3]; simp
  · rw [h1, h3]; simp
end Go.Proofs.YtanpncjnojjmkaaDoor
