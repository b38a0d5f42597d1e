/-
  No cell of these rows narrows 'for every input' (looked for: loops, veiled, ifaces, maps, wideKeys, modest, calm, conditions, laid).
  DERIVED. THE GIVEN ROWS OF THIS SEAT. 9 by the template 'for every input the law returns true; each argument reads behind the call as it read before'; 0 by the template 'total and deterministic' (their statements: YthionbkdlmiaoaaTotals.lean).
  GIVEN WITH THE SEED: the statements are not yours to turn. If you find one false, say at which input.
  Laid BY PROGRAM, IN A SANDBOX (cutbox-rows.mjs): the forced cells as the released guide's own fill.sh prints them over the translation f0ecddbfc7c68f2b… (all of the seat's roots in one cut). By AI agents, Wed Nov 11 2026. No macro, syntax, notation, axiom, sorry.
-/
import Derived.Test.YthionbkdlmiaoaaChecked
import GoSem.Claim
import GoSem.ClaimJoined
import GoSem.ClaimMapViews
import Derived.JoinedTies
import Derived.KernelRfl
namespace Go.Proofs.Ythionbkdlmiaoaa
/- THE CELL 'sum', in the pinned program and in every row, IS THE sha256 OF THE DUMP (.gsa) THAT YthionbkdlmiaoaaProg.lean LOADS. Nothing in Lean hashes anything: it is a label: what it is worth is what the hold of that sum in a sandbox is worth. -/
noncomputable def Try.pinned : Pinned := { name := "ythionbkdlmiaoaa", sum := "f0ecddbfc7c68f2b7a5f4d35048c2a89d23c636a2102d95839eb5bad21c87ba0", checked := Try.checked }
namespace Rows
def none {H : Type} : Left H := { results := [], args := [] }

/-- 'cedillalaw01.NatAdds': WHATEVER THE INPUT: true; the input reads as it did. -/
def natAddsSpec : ChangeSpec := { name := "natAdds", fn := fun _ => fun
  | [d1, d2] => { results := [.lit (.bool true)], args := [d1, d2] }
  | _ => none }
def natAddsRow : OpenClaim := { program := "ythionbkdlmiaoaa", sum := "f0ecddbfc7c68f2b7a5f4d35048c2a89d23c636a2102d95839eb5bad21c87ba0", func := "cedilla/cedillalaw01.NatAdds", spec := "natAdds", apart := false }
def NatAddsSaid : Prop := natAddsRow.holds Try.pinned (OpenSpec.ofChange natAddsSpec)

/-- ITS FALSE NEIGHBOUR: 'it returns false'. Refute it at one input. -/
def natAddsWrong : ChangeSpec := { name := "natAdds", fn := fun _ => fun
  | [d1, d2] => { results := [.lit (.bool false)], args := [d1, d2] }
  | _ => none }
def NatAddsWrongFalsely : Prop := natAddsRow.holds Try.pinned (OpenSpec.ofChange natAddsWrong)

/-- 'cedillalaw01.NatCompares': WHATEVER THE INPUT: true; the input reads as it did. -/
def natComparesSpec : ChangeSpec := { name := "natCompares", fn := fun _ => fun
  | [d1, d2, d3] => { results := [.lit (.bool true)], args := [d1, d2, d3] }
  | _ => none }
def natComparesRow : OpenClaim := { program := "ythionbkdlmiaoaa", sum := "f0ecddbfc7c68f2b7a5f4d35048c2a89d23c636a2102d95839eb5bad21c87ba0", func := "cedilla/cedillalaw01.NatCompares", spec := "natCompares", apart := false }
def NatComparesSaid : Prop := natComparesRow.holds Try.pinned (OpenSpec.ofChange natComparesSpec)

/-- ITS FALSE NEIGHBOUR: 'it returns false'. Refute it at one input. -/
def natComparesWrong : ChangeSpec := { name := "natCompares", fn := fun _ => fun
  | [d1, d2, d3] => { results := [.lit (.bool false)], args := [d1, d2, d3] }
  | _ => none }
def NatComparesWrongFalsely : Prop := natComparesRow.holds Try.pinned (OpenSpec.ofChange natComparesWrong)

/-- 'cedillalaw01.NatSmall': WHATEVER THE INPUT: true; the input reads as it did. -/
def natSmallSpec : ChangeSpec := { name := "natSmall", fn := fun _ => fun
  | [d1, d2] => { results := [.lit (.bool true)], args := [d1, d2] }
  | _ => none }
def natSmallRow : OpenClaim := { program := "ythionbkdlmiaoaa", sum := "f0ecddbfc7c68f2b7a5f4d35048c2a89d23c636a2102d95839eb5bad21c87ba0", func := "cedilla/cedillalaw01.NatSmall", spec := "natSmall", apart := false }
def NatSmallSaid : Prop := natSmallRow.holds Try.pinned (OpenSpec.ofChange natSmallSpec)

/-- ITS FALSE NEIGHBOUR: 'it returns false'. Refute it at one input. -/
def natSmallWrong : ChangeSpec := { name := "natSmall", fn := fun _ => fun
  | [d1, d2] => { results := [.lit (.bool false)], args := [d1, d2] }
  | _ => none }
def NatSmallWrongFalsely : Prop := natSmallRow.holds Try.pinned (OpenSpec.ofChange natSmallWrong)

/-- 'cedillalaw01.NatLimbs': WHATEVER THE INPUT: true; the input reads as it did. -/
def natLimbsSpec : ChangeSpec := { name := "natLimbs", fn := fun _ => fun
  | [d1, d2] => { results := [.lit (.bool true)], args := [d1, d2] }
  | _ => none }
def natLimbsRow : OpenClaim := { program := "ythionbkdlmiaoaa", sum := "f0ecddbfc7c68f2b7a5f4d35048c2a89d23c636a2102d95839eb5bad21c87ba0", func := "cedilla/cedillalaw01.NatLimbs", spec := "natLimbs", apart := false }
def NatLimbsSaid : Prop := natLimbsRow.holds Try.pinned (OpenSpec.ofChange natLimbsSpec)

/-- ITS FALSE NEIGHBOUR: 'it returns false'. Refute it at one input. -/
def natLimbsWrong : ChangeSpec := { name := "natLimbs", fn := fun _ => fun
  | [d1, d2] => { results := [.lit (.bool false)], args := [d1, d2] }
  | _ => none }
def NatLimbsWrongFalsely : Prop := natLimbsRow.holds Try.pinned (OpenSpec.ofChange natLimbsWrong)

/-- 'cedillalaw01.NatBits': WHATEVER THE INPUT: true; the input reads as it did. -/
def natBitsSpec : ChangeSpec := { name := "natBits", fn := fun _ => fun
  | [d1, d2] => { results := [.lit (.bool true)], args := [d1, d2] }
  | _ => none }
def natBitsRow : OpenClaim := { program := "ythionbkdlmiaoaa", sum := "f0ecddbfc7c68f2b7a5f4d35048c2a89d23c636a2102d95839eb5bad21c87ba0", func := "cedilla/cedillalaw01.NatBits", spec := "natBits", apart := false }
def NatBitsSaid : Prop := natBitsRow.holds Try.pinned (OpenSpec.ofChange natBitsSpec)

/-- ITS FALSE NEIGHBOUR: 'it returns false'. Refute it at one input. -/
def natBitsWrong : ChangeSpec := { name := "natBits", fn := fun _ => fun
  | [d1, d2] => { results := [.lit (.bool false)], args := [d1, d2] }
  | _ => none }
def NatBitsWrongFalsely : Prop := natBitsRow.holds Try.pinned (OpenSpec.ofChange natBitsWrong)

/-- 'cedillalaw02.ProdMuls': WHATEVER THE INPUT: true; the input reads as it did. -/
def prodMulsSpec : ChangeSpec := { name := "prodMuls", fn := fun _ => fun
  | [d1, d2, d3] => { results := [.lit (.bool true)], args := [d1, d2, d3] }
  | _ => none }
def prodMulsRow : OpenClaim := { program := "ythionbkdlmiaoaa", sum := "f0ecddbfc7c68f2b7a5f4d35048c2a89d23c636a2102d95839eb5bad21c87ba0", func := "cedilla/cedillalaw02.ProdMuls", spec := "prodMuls", named := ["math/bits.overflowError"], apart := false }
def ProdMulsSaid : Prop := prodMulsRow.holds Try.pinned (OpenSpec.ofChange prodMulsSpec)

/-- ITS FALSE NEIGHBOUR: 'it returns false'. Refute it at one input. -/
def prodMulsWrong : ChangeSpec := { name := "prodMuls", fn := fun _ => fun
  | [d1, d2, d3] => { results := [.lit (.bool false)], args := [d1, d2, d3] }
  | _ => none }
def ProdMulsWrongFalsely : Prop := prodMulsRow.holds Try.pinned (OpenSpec.ofChange prodMulsWrong)

/-- 'cedillalaw02.ProdDivides': WHATEVER THE INPUT: true; the input reads as it did. -/
def prodDividesSpec : ChangeSpec := { name := "prodDivides", fn := fun _ => fun
  | [d1, d2] => { results := [.lit (.bool true)], args := [d1, d2] }
  | _ => none }
def prodDividesRow : OpenClaim := { program := "ythionbkdlmiaoaa", sum := "f0ecddbfc7c68f2b7a5f4d35048c2a89d23c636a2102d95839eb5bad21c87ba0", func := "cedilla/cedillalaw02.ProdDivides", spec := "prodDivides", named := ["math/bits.overflowError"], apart := false }
def ProdDividesSaid : Prop := prodDividesRow.holds Try.pinned (OpenSpec.ofChange prodDividesSpec)

/-- ITS FALSE NEIGHBOUR: 'it returns false'. Refute it at one input. -/
def prodDividesWrong : ChangeSpec := { name := "prodDivides", fn := fun _ => fun
  | [d1, d2] => { results := [.lit (.bool false)], args := [d1, d2] }
  | _ => none }
def ProdDividesWrongFalsely : Prop := prodDividesRow.holds Try.pinned (OpenSpec.ofChange prodDividesWrong)

/-- 'cedillalaw02.ProdExact': WHATEVER THE INPUT: true; the input reads as it did. -/
def prodExactSpec : ChangeSpec := { name := "prodExact", fn := fun _ => fun
  | [d1, d2, d3] => { results := [.lit (.bool true)], args := [d1, d2, d3] }
  | _ => none }
def prodExactRow : OpenClaim := { program := "ythionbkdlmiaoaa", sum := "f0ecddbfc7c68f2b7a5f4d35048c2a89d23c636a2102d95839eb5bad21c87ba0", func := "cedilla/cedillalaw02.ProdExact", spec := "prodExact", named := ["math/bits.overflowError"], apart := false }
def ProdExactSaid : Prop := prodExactRow.holds Try.pinned (OpenSpec.ofChange prodExactSpec)

/-- ITS FALSE NEIGHBOUR: 'it returns false'. Refute it at one input. -/
def prodExactWrong : ChangeSpec := { name := "prodExact", fn := fun _ => fun
  | [d1, d2, d3] => { results := [.lit (.bool false)], args := [d1, d2, d3] }
  | _ => none }
def ProdExactWrongFalsely : Prop := prodExactRow.holds Try.pinned (OpenSpec.ofChange prodExactWrong)

/-- 'cedillalaw02.ProdPowers': WHATEVER THE INPUT: true; the input reads as it did. -/
def prodPowersSpec : ChangeSpec := { name := "prodPowers", fn := fun _ => fun
  | [d1, d2] => { results := [.lit (.bool true)], args := [d1, d2] }
  | _ => none }
def prodPowersRow : OpenClaim := { program := "ythionbkdlmiaoaa", sum := "f0ecddbfc7c68f2b7a5f4d35048c2a89d23c636a2102d95839eb5bad21c87ba0", func := "cedilla/cedillalaw02.ProdPowers", spec := "prodPowers", named := ["math/bits.overflowError"], apart := false }
def ProdPowersSaid : Prop := prodPowersRow.holds Try.pinned (OpenSpec.ofChange prodPowersSpec)

/-- ITS FALSE NEIGHBOUR: 'it returns false'. Refute it at one input. -/
def prodPowersWrong : ChangeSpec := { name := "prodPowers", fn := fun _ => fun
  | [d1, d2] => { results := [.lit (.bool false)], args := [d1, d2] }
  | _ => none }
def ProdPowersWrongFalsely : Prop := prodPowersRow.holds Try.pinned (OpenSpec.ofChange prodPowersWrong)

/- THE SECOND FORM. 'bulk': how many values and letters a reading holds, each counted each time it is reached (what is shared counts as often as it is met; a slice's spare places count too). A statement '..UptoSaid' is the law's where the arguments, and the package variables that the reading takes, are together of bulk at most 1048576: NARROWER than '..Said'. Prove '..Said' where nothing that the law and all that it calls make is longer than what came in: it says more and counts as full. Else prove '..UptoSaid'. A law counts once. -/
mutual
def uptoBulk {H : Type} : DataW H → Nat
  | .lit (.string bytes) => bytes.length + 1
  | .lit _ => 1
  | .nil => 1
  | .ptr d => uptoBulk d + 1
  | .slice elems spare => uptoBulkAll elems + uptoBulkAll spare + 1
  | .agg parts => uptoBulkAll parts + 1
  | .iface _ d => uptoBulk d + 1
  | .map entries => uptoBulkEntries entries + 1
  | .held _ => 1
def uptoBulkAll {H : Type} : List (DataW H) → Nat
  | [] => 0
  | d :: r => uptoBulk d + uptoBulkAll r
def uptoBulkEntries {H : Type} : List (Lit × DataW H) → Nat
  | [] => 0
  | x :: r => uptoBulkEntry x + uptoBulkEntries r
def uptoBulkEntry {H : Type} : Lit × DataW H → Nat
  | (.string bytes, d) => bytes.length + uptoBulk d + 1
  | (_, d) => uptoBulk d + 1
 end
def uptoSmall : (H : Type) → List (DataW H) → Bool := fun _ ds => decide (uptoBulkAll ds ≤ 1048576)
def OpenSpec.upto (s : _root_.Go.ChangeSpec) : _root_.Go.OpenSpec := { _root_.Go.OpenSpec.ofChange s with cond := some uptoSmall }

/-- 'cedillalaw01.NatAdds', WHERE WHAT IT READS IS OF BULK AT MOST 1048576: true; the input reads as it did. -/
def natAddsUptoRow : OpenClaim := { program := "ythionbkdlmiaoaa", sum := "f0ecddbfc7c68f2b7a5f4d35048c2a89d23c636a2102d95839eb5bad21c87ba0", func := "cedilla/cedillalaw01.NatAdds", spec := "natAdds", apart := false, narrowed := true }
def NatAddsUptoSaid : Prop := natAddsUptoRow.holds Try.pinned (OpenSpec.upto natAddsSpec)

/-- 'cedillalaw01.NatCompares', WHERE WHAT IT READS IS OF BULK AT MOST 1048576: true; the input reads as it did. -/
def natComparesUptoRow : OpenClaim := { program := "ythionbkdlmiaoaa", sum := "f0ecddbfc7c68f2b7a5f4d35048c2a89d23c636a2102d95839eb5bad21c87ba0", func := "cedilla/cedillalaw01.NatCompares", spec := "natCompares", apart := false, narrowed := true }
def NatComparesUptoSaid : Prop := natComparesUptoRow.holds Try.pinned (OpenSpec.upto natComparesSpec)

/-- 'cedillalaw01.NatSmall', WHERE WHAT IT READS IS OF BULK AT MOST 1048576: true; the input reads as it did. -/
def natSmallUptoRow : OpenClaim := { program := "ythionbkdlmiaoaa", sum := "f0ecddbfc7c68f2b7a5f4d35048c2a89d23c636a2102d95839eb5bad21c87ba0", func := "cedilla/cedillalaw01.NatSmall", spec := "natSmall", apart := false, narrowed := true }
def NatSmallUptoSaid : Prop := natSmallUptoRow.holds Try.pinned (OpenSpec.upto natSmallSpec)

/-- 'cedillalaw01.NatLimbs', WHERE WHAT IT READS IS OF BULK AT MOST 1048576: true; the input reads as it did. -/
def natLimbsUptoRow : OpenClaim := { program := "ythionbkdlmiaoaa", sum := "f0ecddbfc7c68f2b7a5f4d35048c2a89d23c636a2102d95839eb5bad21c87ba0", func := "cedilla/cedillalaw01.NatLimbs", spec := "natLimbs", apart := false, narrowed := true }
def NatLimbsUptoSaid : Prop := natLimbsUptoRow.holds Try.pinned (OpenSpec.upto natLimbsSpec)

/-- 'cedillalaw01.NatBits', WHERE WHAT IT READS IS OF BULK AT MOST 1048576: true; the input reads as it did. -/
def natBitsUptoRow : OpenClaim := { program := "ythionbkdlmiaoaa", sum := "f0ecddbfc7c68f2b7a5f4d35048c2a89d23c636a2102d95839eb5bad21c87ba0", func := "cedilla/cedillalaw01.NatBits", spec := "natBits", apart := false, narrowed := true }
def NatBitsUptoSaid : Prop := natBitsUptoRow.holds Try.pinned (OpenSpec.upto natBitsSpec)

/-- 'cedillalaw02.ProdMuls', WHERE WHAT IT READS IS OF BULK AT MOST 1048576: true; the input reads as it did. -/
def prodMulsUptoRow : OpenClaim := { program := "ythionbkdlmiaoaa", sum := "f0ecddbfc7c68f2b7a5f4d35048c2a89d23c636a2102d95839eb5bad21c87ba0", func := "cedilla/cedillalaw02.ProdMuls", spec := "prodMuls", named := ["math/bits.overflowError"], apart := false, narrowed := true }
def ProdMulsUptoSaid : Prop := prodMulsUptoRow.holds Try.pinned (OpenSpec.upto prodMulsSpec)

/-- 'cedillalaw02.ProdDivides', WHERE WHAT IT READS IS OF BULK AT MOST 1048576: true; the input reads as it did. -/
def prodDividesUptoRow : OpenClaim := { program := "ythionbkdlmiaoaa", sum := "f0ecddbfc7c68f2b7a5f4d35048c2a89d23c636a2102d95839eb5bad21c87ba0", func := "cedilla/cedillalaw02.ProdDivides", spec := "prodDivides", named := ["math/bits.overflowError"], apart := false, narrowed := true }
def ProdDividesUptoSaid : Prop := prodDividesUptoRow.holds Try.pinned (OpenSpec.upto prodDividesSpec)

/-- 'cedillalaw02.ProdExact', WHERE WHAT IT READS IS OF BULK AT MOST 1048576: true; the input reads as it did. -/
def prodExactUptoRow : OpenClaim := { program := "ythionbkdlmiaoaa", sum := "f0ecddbfc7c68f2b7a5f4d35048c2a89d23c636a2102d95839eb5bad21c87ba0", func := "cedilla/cedillalaw02.ProdExact", spec := "prodExact", named := ["math/bits.overflowError"], apart := false, narrowed := true }
def ProdExactUptoSaid : Prop := prodExactUptoRow.holds Try.pinned (OpenSpec.upto prodExactSpec)

/-- 'cedillalaw02.ProdPowers', WHERE WHAT IT READS IS OF BULK AT MOST 1048576: true; the input reads as it did. -/
def prodPowersUptoRow : OpenClaim := { program := "ythionbkdlmiaoaa", sum := "f0ecddbfc7c68f2b7a5f4d35048c2a89d23c636a2102d95839eb5bad21c87ba0", func := "cedilla/cedillalaw02.ProdPowers", spec := "prodPowers", named := ["math/bits.overflowError"], apart := false, narrowed := true }
def ProdPowersUptoSaid : Prop := prodPowersUptoRow.holds Try.pinned (OpenSpec.upto prodPowersSpec)

end Rows
end Go.Proofs.Ythionbkdlmiaoaa
