/-
  A region that draws its order, whose operations read what was there and whose callees only make memory: one walk, in the text's order. It speaks of no program.
-/
import Derived.Test.YtblakfpacommfaaWords
import Derived.BigQuiet
import Derived.Deep.QuietTactic
namespace Go.Proofs.Ytblakfpacommfaa
set_option linter.unusedVariables false
set_option maxRecDepth 20000
open Go.RowKit

/-- A world in which all that lay in W lies as it did. -/
structure Since (W : World) where
  now : World
  kept : Below W.heap.size W now

instance sinceNonempty (W : World) : Nonempty (Since W) := ⟨⟨W, Below.refl _ _⟩⟩

theorem wp_region_since {P : Program} {id : Nat} {Q : Exit → Act → World → Prop} {a : Act} {w : World} {l : List Oper} (hm : P.follows .mixedOrders = true) (hB : Region.lexB .any l.toArray = true)
    (h : wpQuiet P l.toArray (fun w' => ∃ x : Since w, w' = x.now) (fun a' => ∀ w', (∃ x : Since w, w' = x.now) → Q .normal a' w') l a) : (Code.region id l.toArray true).wp P Q a w :=
  wp_region_quiet (C := fun w' => ∃ x : Since w, w' = x.now) hm hB ⟨⟨w.drew, below_drew w⟩, rfl⟩ (by simpa using h)

/-- A call that answers v and only makes memory. -/
theorem since_call {P : Program} {f : FuncId} {args : Array Value} {w : World} {x : Since w} {v : Value} (h : Calls P f args x.now (RetV v x.now)) :
    Calls P f args x.now fun e w'' => e = .returned v ∧ ∃ y : Since w, w'' = y.now :=
  h.mono fun _ w'' ⟨he, hb⟩ => ⟨he, ⟨w'', below_step x.kept hb⟩, rfl⟩
/-- A call that answers v and leaves the world. -/
theorem since_same {P : Program} {f : FuncId} {args : Array Value} {w : World} {x : Since w} {v : Value} (h : Calls P f args x.now fun e w' => e = .returned v ∧ x.now = w') :
    Calls P f args x.now fun e w'' => e = .returned v ∧ ∃ y : Since w, w'' = y.now :=
  h.mono fun _ w'' ⟨he, hb⟩ => ⟨he, x, hb.symm⟩
theorem Blk.since {w : World} {g : Nat} {t : TypeId} {v : Value} (h : Blk w g t #[v]) (x : Since w) : x.now.cell? ⟨g, 0, none⟩ = some v := (h.on x.kept).cell0
end Go.Proofs.Ytblakfpacommfaa
