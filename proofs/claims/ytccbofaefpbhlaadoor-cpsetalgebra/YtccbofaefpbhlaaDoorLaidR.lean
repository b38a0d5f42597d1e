/-
  What the rows' list of variables gives: the table of runs; a world in which the variable holds what is listed.
-/
import Derived.Test.YtccbofaefpbhlaaDoorRows
import Derived.Test.YtccbofaefpbhlaaDoorSetF
import Derived.LaidLaws
import Derived.LaidHandle
import Derived.LaidSub
import Derived.Lib.LaidTab
namespace Go.Proofs.YtccbofaefpbhlaaDoor
set_option linter.unusedVariables false
set_option maxRecDepth 100000
open Go.ChangeShapes Go.WideShapes Go.RowKit

def laidListR : List (String × DataW Unit) := [("cedilla/cpset.runs", Rows.laid_cedilla_cpset_runs)]

theorem gRuns : Tryd.prog.globalNamed "cedilla/cpset.runs" = some 1 := by kernel_rfl
theorem tRuns : (Tryd.prog.globals[1]?).map (·.type) = some 131 := by kernel_rfl
theorem c131 : Tryd.prog.cellsOf 131 = 4 := by kernel_rfl
theorem c59 : Tryd.prog.cellsOf 59 = 2 := by kernel_rfl
theorem c21 : Tryd.prog.cellsOf 21 = 1 := by kernel_rfl

theorem cells_run {H : Type} {enc : TypeId × Value → H} {w : World} {base : Nat} {sp : Nat → Bool} {held : Bool} {fuel : Nat} {cs : List Value} {a b : Int} {p : List MemPlace}
    (h : DataW.trod enc Tryd.prog w base sp held fuel 59 cs = some (.agg [.lit (.int .i32 a), .lit (.int .i32 b)], p)) : cs = [.int .i32 a, .int .i32 b] := by
  obtain ⟨xs, n, rfl, hx, hl, hxl, hf⟩ := DataW.trod_struct Tryd.underlying59 h
  have hx1 : [.lit (.int .i32 a), .lit (.int .i32 b)] = xs.map (·.1) := by
    have := congrArg Prod.fst hx
    simpa using this
  rcases xs with _ | ⟨x0, _ | ⟨x1, _ | ⟨x2, xs⟩⟩⟩ <;> simp at hx1
  obtain ⟨e0, e1⟩ := hx1
  have f0 := hf 0 _ rfl
  have f1 := hf 1 _ rfl
  simp only [List.getElem?_cons_zero, List.getElem?_cons_succ] at f0 f1
  obtain ⟨n0, g0, rfl, _⟩ := DataW.trod_int Tryd.underlying21 f0
  obtain ⟨n1, g1, rfl, _⟩ := DataW.trod_int Tryd.underlying21 f1
  simp only [DataW.lit.injEq, Lit.int.injEq, true_and] at e0 e1
  subst e0 e1
  rw [c59] at hl
  rcases cs with _ | ⟨y0, _ | ⟨y1, _ | ⟨y2, cs⟩⟩⟩ <;> simp at hl
  simp [c21] at g0 g1
  rw [g0, g1]

def runsTab : Array Value := #[.int .i32 0, .int .i32 55295, .int .i32 57344, .int .i32 1114111]
theorem cells_runs {H : Type} {enc : TypeId × Value → H} {w : World} {base : Nat} {sp : Nat → Bool} {held : Bool} {fuel : Nat} {cs : List Value} {p : List MemPlace}
    (h : DataW.trod enc Tryd.prog w base sp held fuel 131 cs = some (Rows.laid_cedilla_cpset_runs, p)) : cs = runsTab.toList := by
  cases fuel with
  | zero => simp [DataW.trod] at h
  | succ fuel =>
    simp only [DataW.trod, Tryd.underlying131, c59, c131] at h
    split at h
    · rename_i hl
      obtain ⟨xs, hm, hx⟩ := Option.map_eq_some_iff.1 h
      have hx1 : xs.map (·.1) = [.agg [.lit (.int .i32 0), .lit (.int .i32 55295)], .agg [.lit (.int .i32 57344), .lit (.int .i32 1114111)]] := by
        have := congrArg Prod.fst hx
        simpa [Rows.laid_cedilla_cpset_runs] using this
      rcases xs with _ | ⟨⟨d0, p0⟩, _ | ⟨⟨d1, p1⟩, _ | ⟨x4, xs⟩⟩⟩ <;> simp at hx1
      obtain ⟨rfl, rfl⟩ := hx1
      obtain ⟨b0, h0, f0⟩ := Lib.mapM_at hm 0 0 rfl
      obtain ⟨b1, h1, f1⟩ := Lib.mapM_at hm 1 1 rfl
      simp only [List.getElem?_cons_zero, List.getElem?_cons_succ, Option.some.injEq] at h0 h1
      subst h0 h1
      have k0 := cells_run f0
      have k1 := cells_run f1
      rcases cs with _ | ⟨y0, _ | ⟨y1, _ | ⟨y2, _ | ⟨y3, _ | ⟨y4, cs⟩⟩⟩⟩⟩ <;> simp at hl
      simp at k0 k1
      obtain ⟨rfl, rfl⟩ := k0
      obtain ⟨rfl, rfl⟩ := k1
      rfl
    · cases h

theorem envR_of_laid {W : World} (h : laidMetH Tryd.prog laidListR W) : EnvR W := by
  obtain ⟨h1, h2⟩ := laidMetH_iff.1 h
  have e : (laidListR.filter fun x => x.2.handleName?.isNone) = laidListR := by kernel_rfl
  rw [e] at h1
  obtain ⟨ps, ⟨g', t', cs, fuel, p, q, hg', ht', hvar, hd, _, _⟩, _⟩ := h1
  obtain rfl := Option.some.inj (gRuns.symm.trans hg')
  obtain rfl := Option.some.inj (tRuns.symm.trans ht')
  have hc : cs = runsTab := by
    apply Array.toList_inj.1
    exact cells_runs hd
  subst hc
  have hcell : ∀ i v, runsTab[i]? = some v → W.cell? ⟨1, i, none⟩ = some v := fun i v hv => (World.var?_cell gRuns hvar i).trans hv
  refine ⟨?_, hcell 0 _ rfl, hcell 1 _ rfl, hcell 2 _ rfl, hcell 3 _ rfl⟩
  have h0 := hcell 0 _ rfl
  rcases Nat.lt_or_ge 1 W.heap.size with h3 | h3
  · exact h3
  · simp [World.cell?, Array.getElem?_eq_none h3] at h0

/-- A world that meets the condition: the settled one, the variable's cells laid. -/
noncomputable def laidWorldR (os : Os) : World :=
  let w0 := World.holding Tryd.prog os ⟨#[], #[], []⟩
  { w0 with heap := w0.heap.modify 1 fun
      | .cells _ t frozen => .cells #[.int .i32 0, .int .i32 55295, .int .i32 57344, .int .i32 1114111] t frozen
      | o => o }
theorem laidWorldR_met (os : Os) (args : Array Value) : laidMetH Tryd.prog laidListR ((laidWorldR os).forCall (fun _ _ => 0) ⟨#[], args, []⟩).memory :=
  laidMetH_of_parts (laidMet_of_run' 8 (by kernel_rfl) (by kernel_rfl)) (by kernel_rfl)
end Go.Proofs.YtccbofaefpbhlaaDoor
