/-
  What a row's list of both variables gives: the table of leads, the table of runs; a world in which they hold what is listed.
-/
import Derived.Test.YtccbofaefpbhlaaDoorLaidR
import Derived.Test.YtccbofaefpbhlaaDoorUA
namespace Go.Proofs.YtccbofaefpbhlaaDoor
set_option linter.unusedVariables false
set_option maxRecDepth 100000
open Go.ChangeShapes Go.WideShapes Go.RowKit

def laidListT : List (String × DataW Unit) := [("cedilla/utf.leads", Rows.laid_cedilla_utf_leads), ("cedilla/cpset.runs", Rows.laid_cedilla_cpset_runs)]

theorem gLeads : Tryd.prog.globalNamed "cedilla/utf.leads" = some 0 := by kernel_rfl
theorem tLeads : (Tryd.prog.globals[0]?).map (·.type) = some 110 := by kernel_rfl
theorem c110 : Tryd.prog.cellsOf 110 = 12 := by kernel_rfl
theorem c109 : Tryd.prog.cellsOf 109 = 3 := by kernel_rfl
theorem c5 : Tryd.prog.cellsOf 5 = 1 := by kernel_rfl

theorem cells_lead {H : Type} {enc : TypeId × Value → H} {w : World} {base : Nat} {sp : Nat → Bool} {held : Bool} {fuel : Nat} {cs : List Value} {a b c : Int} {p : List MemPlace}
    (h : DataW.trod enc Tryd.prog w base sp held fuel 109 cs = some (.agg [.lit (.int .u8 a), .lit (.int .u8 b), .lit (.int .i32 c)], p)) : cs = [.int .u8 a, .int .u8 b, .int .i32 c] := by
  obtain ⟨xs, n, rfl, hx, hl, hxl, hf⟩ := DataW.trod_struct Tryd.underlying109 h
  have hx1 : [.lit (.int .u8 a), .lit (.int .u8 b), .lit (.int .i32 c)] = xs.map (·.1) := by
    have := congrArg Prod.fst hx
    simpa using this
  rcases xs with _ | ⟨x0, _ | ⟨x1, _ | ⟨x2, _ | ⟨x3, xs⟩⟩⟩⟩ <;> simp at hx1
  obtain ⟨e0, e1, e2⟩ := hx1
  have f0 := hf 0 _ rfl
  have f1 := hf 1 _ rfl
  have f2 := hf 2 _ rfl
  simp only [List.getElem?_cons_zero, List.getElem?_cons_succ] at f0 f1 f2
  obtain ⟨n0, g0, rfl, _⟩ := DataW.trod_int Tryd.underlying5 f0
  obtain ⟨n1, g1, rfl, _⟩ := DataW.trod_int Tryd.underlying5 f1
  obtain ⟨n2, g2, rfl, _⟩ := DataW.trod_int Tryd.underlying21 f2
  simp only [DataW.lit.injEq, Lit.int.injEq, true_and] at e0 e1 e2
  subst e0 e1 e2
  rw [c109] at hl
  rcases cs with _ | ⟨y0, _ | ⟨y1, _ | ⟨y2, _ | ⟨y3, cs⟩⟩⟩⟩ <;> simp at hl
  simp [c5, c21] at g0 g1 g2
  rw [g0, g1, g2]

theorem cells_leads {H : Type} {enc : TypeId × Value → H} {w : World} {base : Nat} {sp : Nat → Bool} {held : Bool} {fuel : Nat} {cs : List Value} {p : List MemPlace}
    (h : DataW.trod enc Tryd.prog w base sp held fuel 110 cs = some (Rows.laid_cedilla_utf_leads, p)) : cs = leadsTab.toList := by
  cases fuel with
  | zero => simp [DataW.trod] at h
  | succ fuel =>
    simp only [DataW.trod, Tryd.underlying110, c109, c110] at h
    split at h
    · rename_i hl
      obtain ⟨xs, hm, hx⟩ := Option.map_eq_some_iff.1 h
      have hx1 : xs.map (·.1) = [.agg [.lit (.int .u8 0), .lit (.int .u8 128), .lit (.int .i32 0)], .agg [.lit (.int .u8 192), .lit (.int .u8 224), .lit (.int .i32 128)], .agg [.lit (.int .u8 224), .lit (.int .u8 240), .lit (.int .i32 2048)], .agg [.lit (.int .u8 240), .lit (.int .u8 248), .lit (.int .i32 65536)]] := by
        have := congrArg Prod.fst hx
        simpa [Rows.laid_cedilla_utf_leads] using this
      rcases xs with _ | ⟨⟨d0, p0⟩, _ | ⟨⟨d1, p1⟩, _ | ⟨⟨d2, p2⟩, _ | ⟨⟨d3, p3⟩, _ | ⟨x4, xs⟩⟩⟩⟩⟩ <;> simp at hx1
      obtain ⟨rfl, rfl, rfl, rfl⟩ := hx1
      obtain ⟨b0, h0, f0⟩ := Lib.mapM_at hm 0 0 rfl
      obtain ⟨b1, h1, f1⟩ := Lib.mapM_at hm 1 1 rfl
      obtain ⟨b2, h2, f2⟩ := Lib.mapM_at hm 2 2 rfl
      obtain ⟨b3, h3, f3⟩ := Lib.mapM_at hm 3 3 rfl
      simp only [List.getElem?_cons_zero, List.getElem?_cons_succ, Option.some.injEq] at h0 h1 h2 h3
      subst h0 h1 h2 h3
      have k0 := cells_lead f0
      have k1 := cells_lead f1
      have k2 := cells_lead f2
      have k3 := cells_lead f3
      rcases cs with _ | ⟨y0, _ | ⟨y1, _ | ⟨y2, _ | ⟨y3, _ | ⟨y4, _ | ⟨y5, _ | ⟨y6, _ | ⟨y7, _ | ⟨y8, _ | ⟨y9, _ | ⟨y10, _ | ⟨y11, _ | ⟨y12, cs⟩⟩⟩⟩⟩⟩⟩⟩⟩⟩⟩⟩⟩ <;> simp at hl
      simp at k0 k1 k2 k3
      obtain ⟨rfl, rfl, rfl⟩ := k0
      obtain ⟨rfl, rfl, rfl⟩ := k1
      obtain ⟨rfl, rfl, rfl⟩ := k2
      obtain ⟨rfl, rfl, rfl⟩ := k3
      rfl
    · cases h


theorem envT_of_laid {W : World} (h : laidMetH Tryd.prog laidListT W) : EnvR W ∧ Env W := by
  obtain ⟨h1, h2⟩ := laidMetH_iff.1 h
  have e : (laidListT.filter fun x => x.2.handleName?.isNone) = laidListT := by kernel_rfl
  rw [e] at h1
  obtain ⟨ps, ⟨g1, t1, cs1, fuel1, p1, q1, hg1, ht1, hvar1, hd1, hL2, _⟩, _⟩ := h1
  obtain ⟨g', t', cs, fuel, p, q, hg', ht', hvar, hd, _, _⟩ := hL2
  obtain rfl := Option.some.inj (gLeads.symm.trans hg1)
  obtain rfl := Option.some.inj (tLeads.symm.trans ht1)
  obtain rfl := Option.some.inj (gRuns.symm.trans hg')
  obtain rfl := Option.some.inj (tRuns.symm.trans ht')
  have hc1 : cs1 = leadsTab := by
    apply Array.toList_inj.1
    exact cells_leads hd1
  have hc : cs = runsTab := by
    apply Array.toList_inj.1
    exact cells_runs hd
  subst hc hc1
  have hcell : ∀ i v, runsTab[i]? = some v → W.cell? ⟨1, i, none⟩ = some v := fun i v hv => (World.var?_cell gRuns hvar i).trans hv
  have hcell1 : ∀ i v, leadsTab[i]? = some v → W.cell? ⟨0, i, none⟩ = some v := fun i v hv => (World.var?_cell gLeads hvar1 i).trans hv
  have h0 := hcell 0 _ rfl
  have hlt : 1 < W.heap.size := by
    rcases Nat.lt_or_ge 1 W.heap.size with h3 | h3
    · exact h3
    · simp [World.cell?, Array.getElem?_eq_none h3] at h0
  exact ⟨⟨hlt, hcell 0 _ rfl, hcell 1 _ rfl, hcell 2 _ rfl, hcell 3 _ rfl⟩, ⟨by omega, hcell1⟩⟩

/-- A world that meets the condition: the settled one, both variables' cells laid. -/
noncomputable def laidWorldT (os : Os) : World :=
  let w0 := World.holding Tryd.prog os ⟨#[], #[], []⟩
  { w0 with heap := (w0.heap.modify 0 fun
      | .cells _ t frozen => .cells #[.int .u8 0, .int .u8 128, .int .i32 0, .int .u8 192, .int .u8 224, .int .i32 128, .int .u8 224, .int .u8 240, .int .i32 2048, .int .u8 240, .int .u8 248, .int .i32 65536] t frozen
      | o => o).modify 1 fun
      | .cells _ t frozen => .cells #[.int .i32 0, .int .i32 55295, .int .i32 57344, .int .i32 1114111] t frozen
      | o => o }
theorem laidWorldT_met (os : Os) (args : Array Value) : laidMetH Tryd.prog laidListT ((laidWorldT os).forCall (fun _ _ => 0) ⟨#[], args, []⟩).memory :=
  laidMetH_of_parts (laidMet_of_run' 8 (by kernel_rfl) (by kernel_rfl)) (by kernel_rfl)
end Go.Proofs.YtccbofaefpbhlaaDoor
