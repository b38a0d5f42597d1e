/-
  DERIVED. GIVEN WITH THE SEED: THE CARDS: each row of YtanpncjnojjmkaaDoorRows.lean that lists a variable, with what it lists TIED to the program's text (the seventh form; the later family's looks); each row that meets fmt, with fmt's text TOLD by the authors' own Lean function (tested against real Go, not proved from fmt's source: count such statements apart). THE CARD IS WHAT COUNTS. Prove the row's statement (the work); the ties are given (YtanpncjnojjmkaaDoorTie.lean); close each card by the builder's one call (the guide's Derived/Test/ToyasCard.lean, 'card_holds'). Laid BY PROGRAM, IN A SANDBOX (cutbox-door.mjs). By AI agents, Wed Nov 11 2026. No macro, syntax, notation, axiom, sorry.
-/
import Derived.Test.YtanpncjnojjmkaaDoorRows
import GoSem.ClaimSeven
namespace Go.Proofs.YtanpncjnojjmkaaDoor
namespace Rows

/-- THE TIED CARD OF 'cedillalaw08.FieldParts'. -/
def fieldPartsCard : Claim7 := { stood := { row := fieldPartsRow, standIns := [], harness := (true, "d82496a155593c3fc9591084d8afb0c0e609b123d86a87039c188120dd9fba89"), looks := false }, kinds := [], alts := [], laidByText := true, laidKinds := [.data, .pinned], laidTests := true, laidLooks := .later }
def FieldPartsCardSaid : Prop := Claim7.holds Tryd.pinned (.plain (OpenSpec.ofChange fieldPartsSpec)) fieldPartsCard

/-- THE TIED CARD OF 'cedillalaw08.FieldNumbers'. -/
def fieldNumbersCard : Claim7 := { stood := { row := fieldNumbersRow, standIns := [], harness := (true, "d82496a155593c3fc9591084d8afb0c0e609b123d86a87039c188120dd9fba89"), looks := false }, kinds := [], alts := [], laidByText := true, laidKinds := [.data, .pinned], laidTests := true, laidLooks := .later }
def FieldNumbersCardSaid : Prop := Claim7.holds Tryd.pinned (.plain (OpenSpec.ofChange fieldNumbersSpec)) fieldNumbersCard

/-- THE TIED CARD OF 'cedillalaw08.FieldHex'. -/
def fieldHexCard : Claim7 := { stood := { row := fieldHexRow, standIns := [], harness := (true, "d82496a155593c3fc9591084d8afb0c0e609b123d86a87039c188120dd9fba89"), looks := false }, kinds := [], alts := [], laidByText := true, laidKinds := [.data, .pinned], laidTests := true, laidLooks := .later }
def FieldHexCardSaid : Prop := Claim7.holds Tryd.pinned (.plain (OpenSpec.ofChange fieldHexSpec)) fieldHexCard

/-- THE SECOND FORM's CARD OF 'cedillalaw08.FieldParts'. -/
def fieldPartsUptoCard : Claim7 := { stood := { row := fieldPartsUptoRow, standIns := [], harness := (true, "d82496a155593c3fc9591084d8afb0c0e609b123d86a87039c188120dd9fba89"), looks := false }, kinds := [], alts := [], laidByText := true, laidKinds := [.data, .pinned], laidTests := true, laidLooks := .later }
def FieldPartsUptoCardSaid : Prop := Claim7.holds Tryd.pinned (.plain (OpenSpec.upto fieldPartsSpec)) fieldPartsUptoCard

/-- THE SECOND FORM's CARD OF 'cedillalaw08.FieldNumbers'. -/
def fieldNumbersUptoCard : Claim7 := { stood := { row := fieldNumbersUptoRow, standIns := [], harness := (true, "d82496a155593c3fc9591084d8afb0c0e609b123d86a87039c188120dd9fba89"), looks := false }, kinds := [], alts := [], laidByText := true, laidKinds := [.data, .pinned], laidTests := true, laidLooks := .later }
def FieldNumbersUptoCardSaid : Prop := Claim7.holds Tryd.pinned (.plain (OpenSpec.upto fieldNumbersSpec)) fieldNumbersUptoCard

/-- THE SECOND FORM's CARD OF 'cedillalaw08.FieldHex'. -/
def fieldHexUptoCard : Claim7 := { stood := { row := fieldHexUptoRow, standIns := [], harness := (true, "d82496a155593c3fc9591084d8afb0c0e609b123d86a87039c188120dd9fba89"), looks := false }, kinds := [], alts := [], laidByText := true, laidKinds := [.data, .pinned], laidTests := true, laidLooks := .later }
def FieldHexUptoCardSaid : Prop := Claim7.holds Tryd.pinned (.plain (OpenSpec.upto fieldHexSpec)) fieldHexUptoCard
end Rows
end Go.Proofs.YtanpncjnojjmkaaDoor
