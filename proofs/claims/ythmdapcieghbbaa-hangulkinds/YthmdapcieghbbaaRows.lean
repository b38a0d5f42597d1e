/-
  No cell of these rows narrows 'for every input' (looked for: loops, veiled, ifaces, maps, wideKeys, modest, calm, conditions, laid).
  DERIVED. THE GIVEN ROWS OF THIS SEAT. 3 by the template 'for every input the law returns true; each argument reads behind the call as it read before'; 0 by the template 'total and deterministic' (their statements: YthmdapcieghbbaaTotals.lean).
  GIVEN WITH THE SEED: the statements are not yours to turn. If you find one false, say at which input.
  Laid BY PROGRAM, IN A SANDBOX (cutbox-rows.mjs): the forced cells as the released guide's own fill.sh prints them over the translation ca81eec0fa01c85a… (all of the seat's roots in one cut). By AI agents, Wed Nov 11 2026. No macro, syntax, notation, axiom, sorry.
-/
import Derived.Test.YthmdapcieghbbaaChecked
import GoSem.Claim
import GoSem.ClaimJoined
import GoSem.ClaimMapViews
import Derived.JoinedTies
import Derived.KernelRfl
namespace Go.Proofs.Ythmdapcieghbbaa
/- THE CELL 'sum', in the pinned program and in every row, IS THE sha256 OF THE DUMP (.gsa) THAT YthmdapcieghbbaaProg.lean LOADS. Nothing in Lean hashes anything: it is a label: what it is worth is what the hold of that sum in a sandbox is worth. -/
noncomputable def Try.pinned : Pinned := { name := "ythmdapcieghbbaa", sum := "ca81eec0fa01c85a5751d3bafa9d0712d1a6ad14db64d7275a7fc2cb6915dfa1", checked := Try.checked }
namespace Rows
def none {H : Type} : Left H := { results := [], args := [] }

/-- 'cedillalaw11.HangulKinds': WHATEVER THE INPUT: true; the input reads as it did. -/
def hangulKindsSpec : ChangeSpec := { name := "hangulKinds", fn := fun _ => fun
  | [d] => { results := [.lit (.bool true)], args := [d] }
  | _ => none }
def hangulKindsRow : OpenClaim := { program := "ythmdapcieghbbaa", sum := "ca81eec0fa01c85a5751d3bafa9d0712d1a6ad14db64d7275a7fc2cb6915dfa1", func := "cedilla/cedillalaw11.HangulKinds", spec := "hangulKinds", recurses := true, apart := false }
def HangulKindsSaid : Prop := hangulKindsRow.holds Try.pinned (OpenSpec.ofChange hangulKindsSpec)

/-- ITS FALSE NEIGHBOUR: 'it returns false'. Refute it at one input. -/
def hangulKindsWrong : ChangeSpec := { name := "hangulKinds", fn := fun _ => fun
  | [d] => { results := [.lit (.bool false)], args := [d] }
  | _ => none }
def HangulKindsWrongFalsely : Prop := hangulKindsRow.holds Try.pinned (OpenSpec.ofChange hangulKindsWrong)

/-- 'cedillalaw11.HangulJoins': WHATEVER THE INPUT: true; the input reads as it did. -/
def hangulJoinsSpec : ChangeSpec := { name := "hangulJoins", fn := fun _ => fun
  | [d1, d2] => { results := [.lit (.bool true)], args := [d1, d2] }
  | _ => none }
def hangulJoinsRow : OpenClaim := { program := "ythmdapcieghbbaa", sum := "ca81eec0fa01c85a5751d3bafa9d0712d1a6ad14db64d7275a7fc2cb6915dfa1", func := "cedilla/cedillalaw11.HangulJoins", spec := "hangulJoins", recurses := true, apart := false }
def HangulJoinsSaid : Prop := hangulJoinsRow.holds Try.pinned (OpenSpec.ofChange hangulJoinsSpec)

/-- ITS FALSE NEIGHBOUR: 'it returns false'. Refute it at one input. -/
def hangulJoinsWrong : ChangeSpec := { name := "hangulJoins", fn := fun _ => fun
  | [d1, d2] => { results := [.lit (.bool false)], args := [d1, d2] }
  | _ => none }
def HangulJoinsWrongFalsely : Prop := hangulJoinsRow.holds Try.pinned (OpenSpec.ofChange hangulJoinsWrong)

/-- 'cedillalaw11.HangulBegins': WHATEVER THE INPUT: true; the input reads as it did. -/
def hangulBeginsSpec : ChangeSpec := { name := "hangulBegins", fn := fun _ => fun
  | [d] => { results := [.lit (.bool true)], args := [d] }
  | _ => none }
def hangulBeginsRow : OpenClaim := { program := "ythmdapcieghbbaa", sum := "ca81eec0fa01c85a5751d3bafa9d0712d1a6ad14db64d7275a7fc2cb6915dfa1", func := "cedilla/cedillalaw11.HangulBegins", spec := "hangulBegins", recurses := true, apart := false }
def HangulBeginsSaid : Prop := hangulBeginsRow.holds Try.pinned (OpenSpec.ofChange hangulBeginsSpec)

/-- ITS FALSE NEIGHBOUR: 'it returns false'. Refute it at one input. -/
def hangulBeginsWrong : ChangeSpec := { name := "hangulBegins", fn := fun _ => fun
  | [d] => { results := [.lit (.bool false)], args := [d] }
  | _ => none }
def HangulBeginsWrongFalsely : Prop := hangulBeginsRow.holds Try.pinned (OpenSpec.ofChange hangulBeginsWrong)

/- THE SECOND FORM. 'bulk': how many values and letters a reading holds, each counted each time it is reached (what is shared counts as often as it is met; a slice's spare places count too). A statement '..UptoSaid' is the law's where the arguments, and the package variables that the reading takes, are together of bulk at most 1048576: NARROWER than '..Said'. Prove '..Said' where nothing that the law and all that it calls make is longer than what came in: it says more and counts as full. Else prove '..UptoSaid'. A law counts once. -/
mutual
def uptoBulk {H : Type} : DataW H → Nat
  | .lit (.string bytes) => bytes.length + 1
  | .lit _ => 1
  | .nil => 1
  | .ptr d => uptoBulk d + 1
  | .slice elems spare => uptoBulkAll elems + uptoBulkAll spare + 1
  | .agg parts => uptoBulkAll parts + 1
  | .iface _ d => uptoBulk d + 1
  | .map entries => uptoBulkEntries entries + 1
  | .held _ => 1
def uptoBulkAll {H : Type} : List (DataW H) → Nat
  | [] => 0
  | d :: r => uptoBulk d + uptoBulkAll r
def uptoBulkEntries {H : Type} : List (Lit × DataW H) → Nat
  | [] => 0
  | x :: r => uptoBulkEntry x + uptoBulkEntries r
def uptoBulkEntry {H : Type} : Lit × DataW H → Nat
  | (.string bytes, d) => bytes.length + uptoBulk d + 1
  | (_, d) => uptoBulk d + 1
 end
def uptoSmall : (H : Type) → List (DataW H) → Bool := fun _ ds => decide (uptoBulkAll ds ≤ 1048576)
def OpenSpec.upto (s : _root_.Go.ChangeSpec) : _root_.Go.OpenSpec := { _root_.Go.OpenSpec.ofChange s with cond := some uptoSmall }

/-- 'cedillalaw11.HangulKinds', WHERE WHAT IT READS IS OF BULK AT MOST 1048576: true; the input reads as it did. -/
def hangulKindsUptoRow : OpenClaim := { program := "ythmdapcieghbbaa", sum := "ca81eec0fa01c85a5751d3bafa9d0712d1a6ad14db64d7275a7fc2cb6915dfa1", func := "cedilla/cedillalaw11.HangulKinds", spec := "hangulKinds", recurses := true, apart := false, narrowed := true }
def HangulKindsUptoSaid : Prop := hangulKindsUptoRow.holds Try.pinned (OpenSpec.upto hangulKindsSpec)

/-- 'cedillalaw11.HangulJoins', WHERE WHAT IT READS IS OF BULK AT MOST 1048576: true; the input reads as it did. -/
def hangulJoinsUptoRow : OpenClaim := { program := "ythmdapcieghbbaa", sum := "ca81eec0fa01c85a5751d3bafa9d0712d1a6ad14db64d7275a7fc2cb6915dfa1", func := "cedilla/cedillalaw11.HangulJoins", spec := "hangulJoins", recurses := true, apart := false, narrowed := true }
def HangulJoinsUptoSaid : Prop := hangulJoinsUptoRow.holds Try.pinned (OpenSpec.upto hangulJoinsSpec)

/-- 'cedillalaw11.HangulBegins', WHERE WHAT IT READS IS OF BULK AT MOST 1048576: true; the input reads as it did. -/
def hangulBeginsUptoRow : OpenClaim := { program := "ythmdapcieghbbaa", sum := "ca81eec0fa01c85a5751d3bafa9d0712d1a6ad14db64d7275a7fc2cb6915dfa1", func := "cedilla/cedillalaw11.HangulBegins", spec := "hangulBegins", recurses := true, apart := false, narrowed := true }
def HangulBeginsUptoSaid : Prop := hangulBeginsUptoRow.holds Try.pinned (OpenSpec.upto hangulBeginsSpec)

end Rows
end Go.Proofs.Ythmdapcieghbbaa
