/-
  Tables, plainly: rows that rise, what is wrong with a row, how rows are measured, pairs, full decompositions: as the program reckons them.
-/
import Derived.Test.YthmdapcieghbbabDoorHA
import Derived.Test.YthmdapcieghbbabDoorUA
namespace Go.Proofs.YthmdapcieghbbabDoor
set_option linter.unusedVariables false
set_option maxRecDepth 20000
open Go.RowKit

/-- A row: its character, its class, and where its mapping lies. -/
structure Rw where
  code : Int
  cls : Int
  at_ : Option Addr
  cap : Nat
  map : List Int
def Rw.nil : Rw := ⟨0, 0, none, 0, []⟩
def Rw.slice (r : Rw) : Value := .slice r.at_ r.map.length r.cap
def Rw.val (r : Rw) : Value := .agg #[.int .i32 r.code, .int .i64 r.cls, r.slice]

/-- The rows rise. -/
def Rises : List Rw → Prop
  | [] => True
  | r :: t => (∀ s ∈ t, r.code < s.code) ∧ Rises t
/-- How many rows are of characters less than x. -/
def lessC (T : List Rw) (x : Int) : Nat := T.countP fun r => decide (r.code < x)
theorem lessC_le (T : List Rw) (x : Int) : lessC T x ≤ T.length := List.countP_le_length
theorem lessC_cons (r : Rw) (t : List Rw) (x : Int) : lessC (r :: t) x = lessC t x + if r.code < x then 1 else 0 := by
  unfold lessC
  rw [List.countP_cons]
  simp only [decide_eq_true_eq]
theorem lessC_none (T : List Rw) (x : Int) (h : ∀ s ∈ T, ¬ s.code < x) : lessC T x = 0 := by
  unfold lessC
  rw [List.countP_eq_zero]
  intro a ha
  simpa using h a ha
theorem getD_mem {T : List Rw} {i : Nat} (hi : i < T.length) : T.getD i Rw.nil ∈ T := by
  rw [List.getD_eq_getElem?_getD, List.getElem?_eq_getElem hi]
  exact List.getElem_mem hi
theorem less_iff : ∀ {T : List Rw}, Rises T → ∀ (x : Int) {i : Nat}, i < T.length → ((T.getD i Rw.nil).code < x ↔ i < lessC T x)
  | [], _, _, i, h => by simp at h
  | r :: t, ⟨h1, h2⟩, x, i, h => by
    rw [lessC_cons]
    by_cases hr : r.code < x
    · rw [if_pos hr]
      rcases i with _ | i
      · simp [hr]
      · have := less_iff h2 x (i := i) (by simpa using h)
        simp only [List.getD_cons_succ]
        omega
    · rw [if_neg hr, lessC_none t x (fun s hs => by have := h1 s hs; omega)]
      rcases i with _ | i
      · simp [hr]
      · have := h1 _ (getD_mem (T := t) (i := i) (by simpa using h))
        simp only [List.getD_cons_succ]
        omega
/-- Has the character a row? -/
def hasC (T : List Rw) (x : Int) : Bool := decide (lessC T x < T.length ∧ (T.getD (lessC T x) Rw.nil).code = x)
/-- The character's row; one that says nothing if it has none. -/
def rowC (T : List Rw) (x : Int) : Rw := if hasC T x then T.getD (lessC T x) Rw.nil else ⟨x, 0, none, 0, []⟩

/-- Is a number no character; is it a part of a syllable, or one? -/
def noneB (c : Int) : Bool := !isI c
def hangB (c : Int) : Bool := decide (kindI c ≠ 0)
/-- What is wrong with a row: 0 nothing, 1 row, 2 hangul, 3 target. -/
def wrongC (r : Rw) (above : Int) : Nat :=
  if noneB r.code = true ∨ r.code ≤ above ∨ r.cls < 0 ∨ r.cls > 254 ∨ r.map.length > 2 then 1
  else if hangB r.code = true ∨ r.map.any hangB = true then 2
  else if r.map.any noneB = true then 3 else 0
/-- .. of the first row that is wrong. -/
def wrongRowC : List Rw → Int → Nat
  | [], _ => 0
  | r :: t, above => if wrongC r above = 0 then wrongRowC t r.code else wrongC r above
theorem wrongRowC_take (T : List Rw) : ∀ (above : Int) (i : Nat), i < T.length → wrongRowC (T.take i) above = 0 →
    wrongRowC (T.take (i + 1)) above = wrongC (T.getD i Rw.nil) (if i = 0 then above else (T.getD (i - 1) Rw.nil).code) ∧
    (wrongRowC (T.take (i + 1)) above ≠ 0 → wrongRowC T above = wrongRowC (T.take (i + 1)) above) := by
  induction T with
  | nil => intro above i h; simp at h
  | cons r t ih =>
    intro above i hi h0
    rcases i with _ | i
    · simp only [List.take_succ_cons, List.take_zero, wrongRowC, List.getD_cons_zero, if_pos]
      by_cases h : wrongC r above = 0
      · simp [h]
      · simp [h]
    · simp only [List.take_succ_cons, wrongRowC] at h0 ⊢
      by_cases h : wrongC r above = 0
      · rw [if_pos h] at h0 ⊢
        obtain ⟨e1, e2⟩ := ih r.code i (by simpa using hi) h0
        refine ⟨?_, fun hn => ?_⟩
        · rw [e1, if_neg (by omega : ¬ i + 1 = 0)]
          rcases i with _ | i
          · simp
          · simp
        · rw [if_pos h]
          exact e2 hn
      · rw [if_neg h] at h0
        exact absurd h0 h

/-- Where a character's row stands. -/
def idx (T : List Rw) (x : Int) : Option Nat := if hasC T x then some (lessC T x) else none

/-- What is told of the rows: how long, how many are wanted yet, who wants, which are ready. -/
structure Ms where
  len : Nat → Nat
  wants : Nat → Int
  users : Nat → List Nat
  ready : List Nat
def upd {α : Type} (f : Nat → α) (i : Nat) (v : α) : Nat → α := fun j => if j = i then v else f j
theorem upd_same {α : Type} (f : Nat → α) (i : Nat) (v : α) : upd f i v i = v := if_pos rfl
theorem upd_other {α : Type} (f : Nat → α) {i j : Nat} (h : j ≠ i) (v : α) : upd f i v j = f j := if_neg h
def Ms.target (T : List Rw) (i : Nat) (m : Ms) (c : Int) : Ms :=
  match idx T c with
  | some t => ⟨m.len, upd m.wants i (m.wants i + 1), upd m.users t (m.users t ++ [i]), m.ready⟩
  | none => ⟨upd m.len i (m.len i + 1), m.wants, m.users, m.ready⟩
def Ms.base (m : Ms) (i : Nat) (r : Rw) : Ms := if r.map = [] then ⟨upd m.len i 1, m.wants, m.users, m.ready⟩ else m
def Ms.isReady (m : Ms) (i : Nat) : Ms := if m.wants i = 0 then ⟨m.len, m.wants, m.users, m.ready ++ [i]⟩ else m
def Ms.row (T : List Rw) (m : Ms) (i : Nat) : Ms :=
  ((((T.getD i Rw.nil).map.foldl (Ms.target T i) (m.base i (T.getD i Rw.nil)))).isReady i)
def Ms.none_ : Ms := ⟨fun _ => 0, fun _ => 0, fun _ => [], []⟩
def measC (T : List Rw) (k : Nat) : Ms := (List.range k).foldl (Ms.row T) Ms.none_
theorem measC_succ (T : List Rw) (k : Nat) : measC T (k + 1) = (measC T k).row T k := by
  unfold measC
  rw [List.range_succ, List.foldl_append]
  rfl
/-- A user is told a length. -/
def Ms.tell1 (k : Nat) (m : Ms) (i : Nat) : Ms := Ms.isReady ⟨upd m.len i (m.len i + m.len k), upd m.wants i (m.wants i - 1), m.users, m.ready⟩ i
def Ms.tell (m : Ms) (k : Nat) : Ms := (m.users k).foldl (Ms.tell1 k) m
/-- The rounds of allEnd: 'none': it has answered no. -/
def Ms.round (m : Ms) (known : Nat) : Option Ms :=
  if known = m.ready.length then none else if m.len (m.ready.getD known 0) > 32 then none else some (m.tell (m.ready.getD known 0))
def stAt (T : List Rw) : Nat → Option Ms
  | 0 => some (measC T T.length)
  | f + 1 => match stAt T f with
    | none => none
    | some m => m.round f
def allEndC (T : List Rw) : Bool := (stAt T T.length).isSome
theorem stAt_none {T : List Rw} {f : Nat} (h : stAt T f = none) : ∀ g, f ≤ g → stAt T g = none
  | 0, hg => by obtain rfl : f = 0 := by omega
                exact h
  | g + 1, hg => by
    rcases Nat.lt_or_ge g f with h1 | h1
    · obtain rfl : f = g + 1 := by omega
      exact h
    · simp only [stAt, stAt_none h g h1]

/-- Is it the row of a primary composite? -/
def composedC (T : List Rw) (E : Int → Bool) (r : Rw) : Bool := decide (r.cls = 0) && (decide (r.map.length = 2) && (decide ((rowC T (r.map.getD 0 0)).cls = 0) && !E r.code))
def pairTwiceC (T : List Rw) (E : Int → Bool) : List (List Int) → List Rw → Bool
  | _, [] => false
  | seen, r :: t => if composedC T E r = true then (if r.map ∈ seen then true else pairTwiceC T E (seen ++ [r.map]) t) else pairTwiceC T E seen t
/-- What is wrong with a table: 4 full, 5 pair. -/
def checkC (T : List Rw) (E : Int → Bool) : Nat :=
  if wrongRowC T (-1) ≠ 0 then wrongRowC T (-1) else if allEndC T = false then 4 else if pairTwiceC T E [] T = true then 5 else 0

/-- A character's mapping: a syllable's, or its row's. -/
def pairC (c : Int) : List Int := if c < 44032 ∨ 55203 < c then [] else if (c - 44032) % 28 = 0 then [4352 + (c - 44032) / 588, 4449 + (c - 44032) / 28 % 21] else [c - (c - 44032) % 28, 4519 + (c - 44032) % 28]
def mapC (T : List Rw) (c : Int) : List Int := if c < 44032 ∨ 55203 < c then (rowC T c).map else pairC c
/-- The rounds of Full. -/
def fullLoop (T : List Rw) : Nat → List Int → List Int → Option (List Int)
  | 0, _, _ => none
  | f + 1, full, rest =>
    if rest = [] then some full
    else if full.length + rest.length > 32 then none
    else if mapC T (rest.getLastD 0) = [] then fullLoop T f (full ++ [rest.getLastD 0]) rest.dropLast
    else fullLoop T f full (rest.dropLast ++ (mapC T (rest.getLastD 0)).reverse)
def fullC (T : List Rw) (c : Int) : Option (List Int) := fullLoop T (32 * (T.length + 3) + 1) [] [c]
end Go.Proofs.YthmdapcieghbbabDoor
