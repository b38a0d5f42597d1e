/-
  Maps whose keys are pairs of runes.
-/
import Derived.Test.YthmdapcieghbbabDoorMN
import Derived.MapKept
import Derived.WideMake
namespace Go.Proofs.YthmdapcieghbbabDoor
set_option linter.unusedVariables false
set_option maxRecDepth 20000
open Go.RowKit

def keyV (x y : Int) : Value := .agg #[.int .i32 x, .int .i32 y]
theorem key_check (b : Bool) (x y : Int) (w : World) : (Instr.checkKey b 10000 74 (keyV x y)).run Tryd.prog w = .ok () w := by kernel_rfl
theorem rune_size : (Tryd.prog.info? 21).map (fun i => i.size) = some 1 := by kernel_rfl
theorem key_equal (a b c d : Int) (w : World) : (Op.equal 74 (keyV a b) (keyV c d)).run Tryd.prog w = .ok (a == c && b == d) w := by
  obtain ⟨i, hi, hs⟩ := Option.map_eq_some_iff.1 rune_size
  have h1 := fun x y (w : World) => run_equalIn_int (P := Tryd.prog) w 9998 21 .i32 .i32 x y Tryd.underlying21
  unfold keyV Op.equal
  rw [show Op.maxDepth = 9998 + 1 + 1 from rfl]
  unfold Op.equalIn
  cases h2 : (a == c) <;> cases h3 : (b == d) <;> simp [go_sem, run_underlying Tryd.underlying74, sizeOf, typeInfo, hi, hs, List.range', part, h1, h2, h3]
/-- The key of a mapping of two. -/
def keyOf (l : List Int) : Value := keyV (l.getD 0 0) (l.getD 1 0)
theorem two_ext {l m : List Int} (hl : l.length = 2) (hm : m.length = 2) : (l.getD 0 0 == m.getD 0 0 && l.getD 1 0 == m.getD 1 0) = decide (l = m) := by
  match l, m, hl, hm with
  | [a, b], [c, d], _, _ =>
    simp only [List.getD_cons_zero, List.getD_cons_succ]
    by_cases h1 : a = c <;> by_cases h2 : b = d <;> simp [h1, h2]
/-- The entries of these mappings. -/
structure Ents (es : Array MapEntry) (S : List (List Int)) : Prop where
  keys : es.toList.map (·.key) = S.map keyOf
  vals : ∀ e ∈ es.toList, e.val = .agg #[]
  two : ∀ l ∈ S, l.length = 2
theorem find_asking {l : List Int} (hl : l.length = 2) (w : World) : ∀ (es : List MapEntry) (S : List (List Int)) (i : Nat), es.map (·.key) = S.map keyOf → (∀ e ∈ es, e.val = .agg #[]) → (∀ m ∈ S, m.length = 2) →
    ∃ r, (Instr.findAsking 74 (keyOf l) es i).run Tryd.prog w = .ok r w ∧ ((r = none ∧ l ∉ S) ∨ (∃ j, r = some (j, .agg #[]) ∧ l ∈ S))
  | [], S, i, hk, hv, ht => by
    have : S = [] := by cases S with
      | nil => rfl
      | cons a b => simp at hk
    subst this
    exact ⟨none, by simp [Instr.findAsking, go_sem], .inl ⟨rfl, by simp⟩⟩
  | e :: es, [], i, hk, hv, ht => by simp at hk
  | e :: es, m :: S, i, hk, hv, ht => by
    simp only [List.map_cons, List.cons.injEq] at hk
    obtain ⟨r, h1, h2⟩ := find_asking hl w es S (i + 1) hk.2 (fun x hx => hv x (by simp [hx])) (fun x hx => ht x (by simp [hx]))
    have he : (Op.equal 74 (keyOf l) e.key).run Tryd.prog w = .ok (decide (l = m)) w := by
      rw [hk.1, ← two_ext hl (ht m (by simp))]
      exact key_equal _ _ _ _ w
    by_cases hlm : l = m
    · refine ⟨some (i, .agg #[]), ?_, .inr ⟨i, rfl, by simp [hlm]⟩⟩
      subst hlm
      rw [decide_eq_true rfl] at he
      simp [Instr.findAsking, he, go_sem, hv e (by simp)]
    · refine ⟨r, ?_, ?_⟩
      · simp [Instr.findAsking, he, hlm, h1]
      · rcases h2 with ⟨a, b⟩ | ⟨j, a, b⟩
        · exact .inl ⟨a, by simp [hlm, b]⟩
        · exact .inr ⟨j, a, by simp [b]⟩
theorem find_pair {es : Array MapEntry} {S : List (List Int)} (h : Ents es S) {l : List Int} (hl : l.length = 2) (w : World) :
    ∃ r, (Instr.findKey 74 (keyOf l) es.toList).run Tryd.prog w = .ok r w ∧ ((r = none ∧ l ∉ S) ∨ (∃ j, r = some (j, .agg #[]) ∧ l ∈ S)) := by
  obtain ⟨r, h1, h2⟩ := find_asking hl w es.toList S 0 h.keys h.vals h.two
  cases he : es.toList with
  | nil =>
    have : S = [] := by
      have := h.keys
      rw [he] at this
      cases S with
      | nil => rfl
      | cons a b => simp at this
    subst this
    exact ⟨none, by simp [Instr.findKey, run_underlying Tryd.underlying74, Instr.findNow, go_sem], .inl ⟨rfl, by simp⟩⟩
  | cons e t =>
    rw [he] at h1
    refine ⟨r, ?_, h2⟩
    have hn : Instr.findNow (.array 2 21) (keyOf l) (e :: t) 0 = none := by unfold keyOf keyV; simp [Instr.findNow, Instr.sameNow]
    simp [Instr.findKey, run_underlying Tryd.underlying74, hn, h1]
theorem lookup_pair {w : World} {g : Nat} {es : Array MapEntry} {c : Nat} {S : List (List Int)} (hb : w.heap[g]? = some (.map es c)) (h : Ents es S) {l : List Int} (hl : l.length = 2) :
    (Instr.lookup 72 (.map (some g)) (keyOf l) true).run Tryd.prog w = .ok (.tuple #[.agg #[], .bool (decide (l ∈ S))]) w := by
  obtain ⟨r, h1, h2⟩ := find_pair h hl w
  have hc := key_check es.isEmpty (l.getD 0 0) (l.getD 1 0) w
  have hc' : (Instr.checkKey es.isEmpty 10000 74 (keyOf l)).run Tryd.prog w = .ok () w := hc
  rcases h2 with ⟨rfl, h3⟩ | ⟨j, rfl, h3⟩
  · simp [Instr.lookup, run_underlying Tryd.underlying72, MapKept.run_getObj_map hb, hc', h1, go_sem, h3]
  · simp [Instr.lookup, run_underlying Tryd.underlying72, MapKept.run_getObj_map hb, hc', h1, go_sem, h3]
/-- The world with another entry. -/
def pushed (w : World) (g : Nat) (es : Array MapEntry) (c : Nat) (l : List Int) : World := { w with heap := w.heap.setIfInBounds g (.map (es.push { key := keyOf l, val := .agg #[], born := c }) (c + 1)) }
theorem update_pair {w : World} {g : Nat} {es : Array MapEntry} {c : Nat} {S : List (List Int)} (hb : w.heap[g]? = some (.map es c)) (h : Ents es S) {l : List Int} (hl : l.length = 2) (hS : l ∉ S) :
    (Instr.mapUpdate 72 (.map (some g)) (keyOf l) (.agg #[])).run Tryd.prog w = .ok () (pushed w g es c l) := by
  obtain ⟨r, h1, h2⟩ := find_pair h hl w
  have hc' : (Instr.checkKey false 10000 74 (keyOf l)).run Tryd.prog w = .ok () w := key_check false (l.getD 0 0) (l.getD 1 0) w
  rcases h2 with ⟨rfl, h3⟩ | ⟨j, rfl, h3⟩
  · simp [Instr.mapUpdate, run_underlying Tryd.underlying72, MapKept.run_getObj_map hb, hc', h1, go_sem, MapKept.run_setObj_map _ hb, Result.andThen, pushed]
  · exact absurd h3 hS
theorem Ents.push {es : Array MapEntry} {S : List (List Int)} (h : Ents es S) {l : List Int} (hl : l.length = 2) (c : Nat) : Ents (es.push { key := keyOf l, val := .agg #[], born := c }) (S ++ [l]) := by
  refine ⟨by simp [h.keys], fun e he => ?_, fun m hm => ?_⟩
  · simp at he
    rcases he with he | rfl
    · exact h.vals e (by simpa using he)
    · rfl
  · simp at hm
    rcases hm with hm | rfl
    · exact h.two m hm
    · exact hl
theorem pushed_map {w : World} {g : Nat} {es : Array MapEntry} {c : Nat} {l : List Int} (hg : g < w.heap.size) : (pushed w g es c l).heap[g]? = some (.map (es.push { key := keyOf l, val := .agg #[], born := c }) (c + 1)) := by
  unfold pushed
  simp [hg]
theorem pushed_below {B : Nat} {V w : World} {g : Nat} {es : Array MapEntry} {c : Nat} {l : List Int} (h : Below B V w) (hg : B ≤ g) : Below B V (pushed w g es c l) := by
  refine h.trans ⟨rfl, rfl, rfl, by simp [pushed], fun k hk => ?_⟩
  unfold pushed
  simp only
  rw [Array.getElem?_setIfInBounds_ne (by omega)]
theorem pushed_blk {w : World} {g : Nat} {es : Array MapEntry} {c : Nat} {l : List Int} {k : Nat} {t : TypeId} {cs : Array Value} (h : Blk w k t cs) (hg : g ≠ k) : Blk (pushed w g es c l) k t cs := by
  unfold Blk pushed at *
  simp only
  rw [Array.getElem?_setIfInBounds_ne hg]
  exact h
end Go.Proofs.YthmdapcieghbbabDoor
