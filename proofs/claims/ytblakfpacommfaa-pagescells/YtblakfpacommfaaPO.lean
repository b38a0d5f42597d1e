/-
  pages: keep: what is laid at its start.
-/
import Derived.Test.YtblakfpacommfaaPN
namespace Go.Proofs.Ytblakfpacommfaa
set_option linter.unusedVariables false
set_option maxRecDepth 20000
open Go.RowKit
theorem own_ne {w : World} {B : Nat} {e : TypeId} {s : Nat} {v : Value} {n : Nat} {xs : List Value} (h : w.ownsRow B e s v n xs) {g : Nat} {t : TypeId} {cs : Array Value} (hg : Blk w g t cs) (ht : e ≠ t) : v.ownBlock ≠ some g := by
  intro hv
  rcases h.2 with ⟨rfl, _⟩ | ⟨g', cap, cur, rfl, _, hh, _⟩
  · simp [Value.ownBlock] at hv
  · simp [Value.ownBlock] at hv
    subst hv
    unfold Blk at hg
    rw [hg] at hh
    injection hh with hh
    injection hh with _ hh
    exact ht hh.symm
theorem own_nemap {w : World} {B : Nat} {e : TypeId} {s : Nat} {v : Value} {n : Nat} {xs : List Value} (h : w.ownsRow B e s v n xs) {g : Nat} {es : Array MapEntry} {c : Nat} (hg : w.heap[g]? = some (.map es c)) : v.ownBlock ≠ some g := by
  intro hv
  rcases h.2 with ⟨rfl, _⟩ | ⟨g', cap, cur, rfl, _, hh, _⟩
  · simp [Value.ownBlock] at hv
  · simp [Value.ownBlock] at hv
    subst hv
    rw [hg] at hh
    cases hh
theorem Blk.grown {w w' : World} {g : Nat} {t : TypeId} {cs : Array Value} {row : Option Nat} (h : Blk w g t cs) (hg : w.grownBy w' row) (hn : row ≠ some g) : Blk w' g t cs :=
  (hg.block g h.lt (Ne.symm hn)).trans h
theorem own_on {w w' : World} {B : Nat} {e : TypeId} {s : Nat} {v : Value} {n : Nat} {xs : List Value} (h : w.ownsRow B e s v n xs) (hb : Below w.heap.size w w') : w'.ownsRow B e s v n xs :=
  h.kept (row := none) ⟨hb.os, hb.tape, hb.output, hb.size, fun k hk _ => hb.block k hk⟩ (by cases hv : v.ownBlock <;> simp)
theorem own_len' {w : World} {B : Nat} {e : TypeId} {s : Nat} {v : Value} {n : Nat} {xs : List Value} (h : w.ownsRow B e s v n xs) : ∃ A c, v = .slice A n c := by
  rcases h.2 with ⟨rfl, rfl⟩ | ⟨g, cap, cur, rfl, _⟩
  · exact ⟨_, _, rfl⟩
  · exact ⟨_, _, rfl⟩
theorem pushedB_grown (w : World) (g : Nat) (es : Array MapEntry) (c : Nat) (xs : Array Value) (v : Nat) : w.grownBy (pushedB w g es c xs v) (some g) :=
  ⟨rfl, rfl, rfl, by simp [pushedB], fun k hk hn => by
    unfold pushedB
    simp only
    rw [Array.getElem?_setIfInBounds_ne (fun e => hn (by rw [e]))]⟩
theorem index43 {cs : Array Value} {a : Nat} {v : Value} (ha : a < 4352) (h : cs[a]? = some v) (w : World) : (Instr.index 43 (.agg cs) (.int .i64 (a : Int))).run Try.prog w = .ok v w := by
  have h1 : (0 : Int) ≤ (a : Int) ∧ (a : Int) < ((4352 : Nat) : Int) := by omega
  simp [Instr.index, asIntOf, run_underlying Try.underlying43, go_sem, h1, part, h, ha]

theorem KeptAt.start (w : World) (cs : Array Value) : KeptAt (pushedB ((((w.alloc (.cells cs 43)).alloc (.cells noughts 48)).alloc (.cells (tab0.setIfInBounds 0 (.slice (some ⟨w.heap.size + 1, 0, none⟩) 1 1)) 53)).alloc (.map #[] 0)) (w.heap.size + 1 + 1 + 1) #[] 0 noughts 0)
    w.heap.size (w.heap.size + 1 + 1) (w.heap.size + 1 + 1 + 1) (.slice (some ⟨w.heap.size + 1, 0, none⟩) 1 1) (#[].push { key := .agg noughts, val := .int .u16 ((0 : Nat) : Int), born := 0 }) 1 [fun _ => 0] (fun _ => 0) (tab0.setIfInBounds 0 (.slice (some ⟨w.heap.size + 1, 0, none⟩) 1 1)) := by
  have e1 : (w.alloc (.cells cs 43)).heap.size = w.heap.size + 1 := by simp
  have e2 : ((w.alloc (.cells cs 43)).alloc (.cells noughts 48)).heap.size = w.heap.size + 1 + 1 := by simp
  have e3 : (((w.alloc (.cells cs 43)).alloc (.cells noughts 48)).alloc (.cells (tab0.setIfInBounds 0 (.slice (some ⟨w.heap.size + 1, 0, none⟩) 1 1)) 53)).heap.size = w.heap.size + 1 + 1 + 1 := by simp
  refine ⟨?_, by simp [tab0_size], by simp [tab0_size], fun a ha => ?_, ?_, ?_, ?_⟩
  · have h := Blk.new ((w.alloc (.cells cs 43)).alloc (.cells noughts 48)) 53 (tab0.setIfInBounds 0 (.slice (some ⟨w.heap.size + 1, 0, none⟩) 1 1))
    rw [e2] at h
    exact pushedB_blk (h.alloc _) (by omega)
  · rw [Array.getElem?_setIfInBounds_ne (by omega)]
    exact tab0_at ha
  · have h := World.ownsRow_lit (base := w.heap.size) (e := 48) (size := 256) (w.alloc (.cells cs 43)) noughts 1 (by simp) (by decide) (by simp [noughts])
    rw [e1] at h
    have h2 := ((h.alloc (.cells (tab0.setIfInBounds 0 (.slice (some ⟨w.heap.size + 1, 0, none⟩) 1 1)) 53)).alloc (.map #[] 0)).kept (pushedB_grown _ (w.heap.size + 1 + 1 + 1) #[] 0 noughts 0) (.inr (by simp [Value.ownBlock]))
    have e : blocks [fun _ => 0] = noughts.toList := by rw [blkOf_zero]; simp [blocks]
    rw [e]
    exact h2
  · have := pushedB_map (w := ((((w.alloc (.cells cs 43)).alloc (.cells noughts 48)).alloc (.cells (tab0.setIfInBounds 0 (.slice (some ⟨w.heap.size + 1, 0, none⟩) 1 1)) 53)).alloc (.map #[] 0))) (g := w.heap.size + 1 + 1 + 1) (es := #[]) (c := 0) (v := 0) (xs := noughts) (by simp)
    exact this
  · have h : BEnts #[] [] := ⟨rfl, by simp⟩
    have h2 := h.push (xs := noughts) (by rw [blkOf_zero]; exact blkOf_is _ fun _ _ => Nat.zero_lt_succ _) 0 0
    rw [blkOf_zero] at h2 ⊢
    exact h2
end Go.Proofs.Ytblakfpacommfaa
