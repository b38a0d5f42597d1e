/-
  pages: the map whose keys are blocks of 256 numbers.
-/
import Derived.Test.YtblakfpacommfaaPB
import Derived.DeepKeys3
import Derived.MapKept
namespace Go.Proofs.Ytblakfpacommfaa
set_option linter.unusedVariables false
set_option maxRecDepth 20000
open Go.RowKit

/-- A block: 256 numbers of 16 bits. -/
def IsBlock (xs : Array Value) : Prop := xs.size = 256 ∧ ∀ i, i < 256 → ∃ v : Nat, v < 65536 ∧ xs[i]? = some (.int .u16 (v : Int))

theorem law48 : WideMaps.KeyLaw Try.prog 48 := deep_law (m := 2) (by omega) (by kernel_rfl) (by kernel_rfl) (by kernel_rfl)

theorem lits_word {d : Nat} {v : Nat} (hv : v < 65536) : Try.prog.keyLits (d + 1) 32 [.int .u16 (v : Int)] = some [.int .u16 (v : Int)] := by
  unfold Program.keyLits
  rw [Try.underlying32]
  simp only [true_and]
  rw [if_pos]
  have h1 : IntKind.u16.min = 0 := by decide
  have h2 : IntKind.u16.max = 65535 := by decide
  simp [Lit.wf, h1, h2]
  omega
theorem mapM_some {α β : Type} (f : α → Option β) : ∀ (l : List α), (∀ x ∈ l, ∃ y, f x = some y) → ∃ r, l.mapM f = some r
  | [], _ => ⟨[], by simp⟩
  | x :: t, h => by
    obtain ⟨y, hy⟩ := h x (by simp)
    obtain ⟨r, hr⟩ := mapM_some f t fun z hz => h z (by simp [hz])
    exact ⟨y :: r, by simp [List.mapM_cons, hy, hr]⟩
theorem keyOf_block {xs : Array Value} (h : IsBlock xs) : ∃ l, keyOf Try.prog 48 (.agg xs) = some l := by
  have hc : Try.prog.cellsOf 48 = 256 := by kernel_rfl
  have hc2 : Try.prog.cellsOf 32 = 1 := by kernel_rfl
  have hk : Try.prog.keyType 48 = true := by kernel_rfl
  have hf : (Value.agg xs).formed Try.prog 48 = true := by
    simp [Value.formed, Try.underlying48, hc, h.1]
  have hd0 : decide (2 ≤ Try.prog.types.size + 1) = true := by kernel_rfl
  have hd1 := of_decide_eq_true hd0
  clear hd0
  obtain ⟨d, hd⟩ : ∃ d, Try.prog.types.size + 1 = d + 2 := ⟨Try.prog.types.size + 1 - 2, (Nat.sub_add_cancel hd1).symm⟩
  have hm := mapM_some (fun i => Try.prog.keyLits (d + 1) 32 (((Value.agg xs).cells.toList.drop (i * 1)).take 1)) (List.range 256) fun i hi => by
    have hi' : i < 256 := by simpa using hi
    obtain ⟨v, hv, hx⟩ := h.2 i hi'
    refine ⟨[.int .u16 (v : Int)], ?_⟩
    have he : ((Value.agg xs).cells.toList.drop (i * 1)).take 1 = [.int .u16 (v : Int)] := by
      have hl : i < xs.toList.length := by rw [Array.length_toList, h.1]; exact hi'
      show (xs.toList.drop (i * 1)).take 1 = _
      rw [Nat.mul_one, List.drop_eq_getElem_cons hl]
      have : xs.toList[i]'hl = .int .u16 (v : Int) := by
        have := Array.getElem?_eq_some_iff.1 hx
        obtain ⟨q, hq⟩ := this
        simpa using hq
      rw [this]
      rfl
    simp only [he]
    exact lits_word hv
  obtain ⟨r, hr⟩ := hm
  have hl : (Value.agg xs).cells.toList.length = 256 := by
    show xs.toList.length = 256
    rw [Array.length_toList, h.1]
  refine ⟨.string (keyBytes r.flatten), ?_⟩
  unfold keyOf
  rw [Try.underlying48, hk, hf, hd]
  unfold Program.keyLits
  rw [Try.underlying48, hc]
  simp only [hc2, Bool.and_self, if_true]
  rw [if_pos hl, hr]
  rfl

/-- The entries of a map of blocks. -/
structure BEnts (es : Array MapEntry) (L : List (Array Value × Nat)) : Prop where
  ents : es.toList.map (fun e => (e.key, e.val)) = L.map fun p => (Value.agg p.1, Value.int .u16 (p.2 : Int))
  blk : ∀ p ∈ L, IsBlock p.1

theorem BEnts.find {es : Array MapEntry} {L : List (Array Value × Nat)} (h : BEnts es L) {xs : Array Value} (hx : IsBlock xs) (w : World) :
    ((Instr.findKey 48 (.agg xs) es.toList).run Try.prog w = .ok none w ∧ ∀ p ∈ L, p.1 ≠ xs) ∨ ∃ (j v : Nat), (Instr.findKey 48 (.agg xs) es.toList).run Try.prog w = .ok (some (j, .int .u16 (v : Int))) w ∧ L[j]? = some (xs, v) := by
  obtain ⟨lx, hlx⟩ := keyOf_block hx
  have hks : ∀ e ∈ es.toList, ∃ p ∈ L, e.key = .agg p.1 ∧ e.val = .int .u16 (p.2 : Int) := fun e he => by
    have hm : (e.key, e.val) ∈ es.toList.map (fun e => (e.key, e.val)) := List.mem_map.2 ⟨e, he, rfl⟩
    rw [h.ents] at hm
    obtain ⟨p, hp, hq⟩ := List.mem_map.1 hm
    injection hq with h1 h2
    exact ⟨p, hp, h1.symm, h2.symm⟩
  rcases law48.find w hlx es.toList (fun e he => by
    obtain ⟨p, hp, h1, _⟩ := hks e he
    rw [h1]
    exact keyOf_block (h.blk p hp)) with ⟨h1, h2⟩ | ⟨j, e, h1, h2, h3⟩
  · refine .inl ⟨h1, fun p hp hq => ?_⟩
    have hm : (Value.agg p.1, Value.int .u16 (p.2 : Int)) ∈ L.map fun p => (Value.agg p.1, Value.int .u16 (p.2 : Int)) := List.mem_map.2 ⟨p, hp, rfl⟩
    rw [← h.ents] at hm
    obtain ⟨e, he, hq'⟩ := List.mem_map.1 hm
    injection hq' with h3 _
    exact h2 e he (by rw [h3, hq])
  · have hj : (es.toList.map (fun e => (e.key, e.val)))[j]? = some (e.key, e.val) := by rw [List.getElem?_map, h2]; rfl
    rw [h.ents, List.getElem?_map] at hj
    obtain ⟨p, hp, hq⟩ := Option.map_eq_some_iff.1 hj
    injection hq with h4 h5
    rw [h3] at h4
    injection h4 with h4
    refine .inr ⟨j, p.2, by rw [h1, ← h5], ?_⟩
    rw [hp, ← h4]

theorem zero32 (w : World) : Sem.run Try.prog (zeroValue 32) w = Result.ok (Value.int .u16 0) w := by kernel_rfl
theorem block_look {w : World} {g : Nat} {es : Array MapEntry} {c : Nat} {L : List (Array Value × Nat)} (hb : w.heap[g]? = some (.map es c)) (h : BEnts es L) {xs : Array Value} (hx : IsBlock xs) :
    ((Instr.lookup 57 (.map (some g)) (.agg xs) true).run Try.prog w = .ok (.tuple #[.int .u16 0, .bool false]) w ∧ ∀ p ∈ L, p.1 ≠ xs)
    ∨ ∃ v j : Nat, (Instr.lookup 57 (.map (some g)) (.agg xs) true).run Try.prog w = .ok (.tuple #[.int .u16 (v : Int), .bool true]) w ∧ L[j]? = some (xs, v) := by
  obtain ⟨lx, hlx⟩ := keyOf_block hx
  have hc := law48.check w es.isEmpty hlx
  rcases h.find hx w with ⟨h1, h2⟩ | ⟨j, v, h1, h2⟩
  · exact .inl ⟨by simp [Instr.lookup, run_underlying Try.underlying57, MapKept.run_getObj_map hb, hc, h1, go_sem], h2⟩
  · exact .inr ⟨v, j, by simp [Instr.lookup, run_underlying Try.underlying57, MapKept.run_getObj_map hb, hc, h1, go_sem], h2⟩
/-- The world with another entry. -/
def pushedB (w : World) (g : Nat) (es : Array MapEntry) (c : Nat) (xs : Array Value) (v : Nat) : World := { w with heap := w.heap.setIfInBounds g (.map (es.push { key := .agg xs, val := .int .u16 (v : Int), born := c }) (c + 1)) }
theorem block_put {w : World} {g : Nat} {es : Array MapEntry} {c : Nat} {L : List (Array Value × Nat)} (hb : w.heap[g]? = some (.map es c)) (h : BEnts es L) {xs : Array Value} (hx : IsBlock xs) (hn : ∀ p ∈ L, p.1 ≠ xs) (v : Nat) :
    (Instr.mapUpdate 57 (.map (some g)) (.agg xs) (.int .u16 (v : Int))).run Try.prog w = .ok () (pushedB w g es c xs v) := by
  obtain ⟨lx, hlx⟩ := keyOf_block hx
  have hc := law48.check w false hlx
  rcases h.find hx w with ⟨h1, h2⟩ | ⟨j, u, h1, h2⟩
  · simp [Instr.mapUpdate, run_underlying Try.underlying57, MapKept.run_getObj_map hb, hc, h1, go_sem, MapKept.run_setObj_map _ hb, Result.andThen, pushedB]
  · exact absurd rfl (hn _ (List.mem_of_getElem? h2))
theorem BEnts.push {es : Array MapEntry} {L : List (Array Value × Nat)} (h : BEnts es L) {xs : Array Value} (hx : IsBlock xs) (v c : Nat) : BEnts (es.push { key := .agg xs, val := .int .u16 (v : Int), born := c }) (L ++ [(xs, v)]) := by
  refine ⟨by simp [h.ents], fun p hp => ?_⟩
  rcases List.mem_append.1 hp with h1 | h1
  · exact h.blk p h1
  · rw [List.mem_singleton] at h1
    subst h1
    exact hx
theorem pushedB_map {w : World} {g : Nat} {es : Array MapEntry} {c v : Nat} {xs : Array Value} (hg : g < w.heap.size) : (pushedB w g es c xs v).heap[g]? = some (.map (es.push { key := .agg xs, val := .int .u16 (v : Int), born := c }) (c + 1)) := by
  unfold pushedB
  simp [hg]
theorem pushedB_below {B : Nat} {V w : World} {g : Nat} {es : Array MapEntry} {c v : Nat} {xs : Array Value} (h : Below B V w) (hg : B ≤ g) : Below B V (pushedB w g es c xs v) := by
  refine h.trans ⟨rfl, rfl, rfl, by simp [pushedB], fun k hk => ?_⟩
  unfold pushedB
  simp only
  rw [Array.getElem?_setIfInBounds_ne (by omega)]
theorem pushedB_blk {w : World} {g : Nat} {es : Array MapEntry} {c v : Nat} {xs : Array Value} {k : Nat} {t : TypeId} {cs : Array Value} (h : Blk w k t cs) (hg : g ≠ k) : Blk (pushedB w g es c xs v) k t cs := by
  unfold Blk pushedB at *
  simp only
  rw [Array.getElem?_setIfInBounds_ne hg]
  exact h
end Go.Proofs.Ytblakfpacommfaa
