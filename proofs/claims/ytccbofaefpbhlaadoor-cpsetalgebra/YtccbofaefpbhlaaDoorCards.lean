/-
  DERIVED. GIVEN WITH THE SEED: THE CARDS: each row of YtccbofaefpbhlaaDoorRows.lean that lists a variable, with what it lists TIED to the program's text (the seventh form; the later family's looks); each row that meets fmt, with fmt's text TOLD by the authors' own Lean function (tested against real Go, not proved from fmt's source: count such statements apart). THE CARD IS WHAT COUNTS. Prove the row's statement (the work); the ties are given (YtccbofaefpbhlaaDoorTie.lean); close each card by the builder's one call (the guide's Derived/Test/ToyasCard.lean, 'card_holds'). Laid BY PROGRAM, IN A SANDBOX (cutbox-door.mjs). By AI agents, Wed Nov 11 2026. No macro, syntax, notation, axiom, sorry.
-/
import Derived.Test.YtccbofaefpbhlaaDoorRows
import GoSem.ClaimSeven
namespace Go.Proofs.YtccbofaefpbhlaaDoor
namespace Rows

/-- THE TIED CARD OF 'cedillalaw06.CpsetMakes'. -/
def cpsetMakesCard : Claim7 := { stood := { row := cpsetMakesRow, standIns := [], harness := (true, "92eba514f94de1e41c1a9b75a20e1d4336c94b8bcee991234ea9f6ca921db3cd"), looks := false }, kinds := [], alts := [], laidByText := true, laidKinds := [.data], laidTests := true, laidLooks := .later }
def CpsetMakesCardSaid : Prop := Claim7.holds Tryd.pinned (.plain (OpenSpec.ofChange cpsetMakesSpec)) cpsetMakesCard

/-- THE TIED CARD OF 'cedillalaw06.CpsetAlgebra'. -/
def cpsetAlgebraCard : Claim7 := { stood := { row := cpsetAlgebraRow, standIns := [], harness := (true, "92eba514f94de1e41c1a9b75a20e1d4336c94b8bcee991234ea9f6ca921db3cd"), looks := false }, kinds := [], alts := [], laidByText := true, laidKinds := [.data], laidTests := true, laidLooks := .later }
def CpsetAlgebraCardSaid : Prop := Claim7.holds Tryd.pinned (.plain (OpenSpec.ofChange cpsetAlgebraSpec)) cpsetAlgebraCard

/-- THE TIED CARD OF 'cedillalaw06.CpsetPlaces'. -/
def cpsetPlacesCard : Claim7 := { stood := { row := cpsetPlacesRow, standIns := [], harness := (true, "92eba514f94de1e41c1a9b75a20e1d4336c94b8bcee991234ea9f6ca921db3cd"), looks := false }, kinds := [], alts := [], laidByText := true, laidKinds := [.data], laidTests := true, laidLooks := .later }
def CpsetPlacesCardSaid : Prop := Claim7.holds Tryd.pinned (.plain (OpenSpec.ofChange cpsetPlacesSpec)) cpsetPlacesCard

/-- THE TIED CARD OF 'cedillalaw06.CpsetChars'. -/
def cpsetCharsCard : Claim7 := { stood := { row := cpsetCharsRow, standIns := [], harness := (true, "92eba514f94de1e41c1a9b75a20e1d4336c94b8bcee991234ea9f6ca921db3cd"), looks := false }, kinds := [], alts := [], laidByText := true, laidKinds := [.data], laidTests := true, laidLooks := .later }
def CpsetCharsCardSaid : Prop := Claim7.holds Tryd.pinned (.plain (OpenSpec.ofChange cpsetCharsSpec)) cpsetCharsCard

/-- THE TIED CARD OF 'cedillalaw06.CpsetRanges'. -/
def cpsetRangesCard : Claim7 := { stood := { row := cpsetRangesRow, standIns := [], harness := (true, "92eba514f94de1e41c1a9b75a20e1d4336c94b8bcee991234ea9f6ca921db3cd"), looks := false }, kinds := [], alts := [], laidByText := true, laidKinds := [.data], laidTests := true, laidLooks := .later }
def CpsetRangesCardSaid : Prop := Claim7.holds Tryd.pinned (.plain (OpenSpec.ofChange cpsetRangesSpec)) cpsetRangesCard

/-- THE TIED CARD OF 'cedillatop.CedillaChars'. -/
def cedillaCharsCard : Claim7 := { stood := { row := cedillaCharsRow, standIns := [], harness := (true, "92eba514f94de1e41c1a9b75a20e1d4336c94b8bcee991234ea9f6ca921db3cd"), looks := false }, kinds := [], alts := [], laidByText := true, laidKinds := [.data, .data], laidTests := true, laidLooks := .later }
def CedillaCharsCardSaid : Prop := Claim7.holds Tryd.pinned (.plain (OpenSpec.ofChange cedillaCharsSpec)) cedillaCharsCard

/-- THE TIED CARD OF 'cedillalaw09.RowsBack'. -/
def rowsBackCard : Claim7 := { stood := { row := rowsBackRow, standIns := [], harness := (true, "92eba514f94de1e41c1a9b75a20e1d4336c94b8bcee991234ea9f6ca921db3cd"), looks := false }, kinds := [], alts := [], laidByText := true, laidKinds := [.data, .data, .data, .data, .pinned], laidTests := true, laidLooks := .later }
def RowsBackCardSaid : Prop := Claim7.holds Tryd.pinned (.plain (OpenSpec.ofChange rowsBackSpec)) rowsBackCard

/-- THE TIED CARD OF 'cedillalaw09.RowsPlain'. -/
def rowsPlainCard : Claim7 := { stood := { row := rowsPlainRow, standIns := [], harness := (true, "92eba514f94de1e41c1a9b75a20e1d4336c94b8bcee991234ea9f6ca921db3cd"), looks := false }, kinds := [], alts := [], laidByText := true, laidKinds := [.data, .pinned], laidTests := true, laidLooks := .later }
def RowsPlainCardSaid : Prop := Claim7.holds Tryd.pinned (.plain (OpenSpec.ofChange rowsPlainSpec)) rowsPlainCard

/-- THE TIED CARD OF 'cedillalaw10.ExclBack'. -/
def exclBackCard : Claim7 := { stood := { row := exclBackRow, standIns := [], harness := (true, "92eba514f94de1e41c1a9b75a20e1d4336c94b8bcee991234ea9f6ca921db3cd"), looks := false }, kinds := [], alts := [], laidByText := true, laidKinds := [.data, .pinned], laidTests := true, laidLooks := .later }
def ExclBackCardSaid : Prop := Claim7.holds Tryd.pinned (.plain (OpenSpec.ofChange exclBackSpec)) exclBackCard

/-- THE TIED CARD OF 'cedillalaw10.ExclNotes'. -/
def exclNotesCard : Claim7 := { stood := { row := exclNotesRow, standIns := [], harness := (true, "92eba514f94de1e41c1a9b75a20e1d4336c94b8bcee991234ea9f6ca921db3cd"), looks := false }, kinds := [], alts := [], laidByText := true, laidKinds := [.data, .pinned], laidTests := true, laidLooks := .later }
def ExclNotesCardSaid : Prop := Claim7.holds Tryd.pinned (.plain (OpenSpec.ofChange exclNotesSpec)) exclNotesCard

/-- THE SECOND FORM's CARD OF 'cedillalaw06.CpsetMakes'. -/
def cpsetMakesUptoCard : Claim7 := { stood := { row := cpsetMakesUptoRow, standIns := [], harness := (true, "92eba514f94de1e41c1a9b75a20e1d4336c94b8bcee991234ea9f6ca921db3cd"), looks := false }, kinds := [], alts := [], laidByText := true, laidKinds := [.data], laidTests := true, laidLooks := .later }
def CpsetMakesUptoCardSaid : Prop := Claim7.holds Tryd.pinned (.plain (OpenSpec.upto cpsetMakesSpec)) cpsetMakesUptoCard

/-- THE SECOND FORM's CARD OF 'cedillalaw06.CpsetAlgebra'. -/
def cpsetAlgebraUptoCard : Claim7 := { stood := { row := cpsetAlgebraUptoRow, standIns := [], harness := (true, "92eba514f94de1e41c1a9b75a20e1d4336c94b8bcee991234ea9f6ca921db3cd"), looks := false }, kinds := [], alts := [], laidByText := true, laidKinds := [.data], laidTests := true, laidLooks := .later }
def CpsetAlgebraUptoCardSaid : Prop := Claim7.holds Tryd.pinned (.plain (OpenSpec.upto cpsetAlgebraSpec)) cpsetAlgebraUptoCard

/-- THE SECOND FORM's CARD OF 'cedillalaw06.CpsetPlaces'. -/
def cpsetPlacesUptoCard : Claim7 := { stood := { row := cpsetPlacesUptoRow, standIns := [], harness := (true, "92eba514f94de1e41c1a9b75a20e1d4336c94b8bcee991234ea9f6ca921db3cd"), looks := false }, kinds := [], alts := [], laidByText := true, laidKinds := [.data], laidTests := true, laidLooks := .later }
def CpsetPlacesUptoCardSaid : Prop := Claim7.holds Tryd.pinned (.plain (OpenSpec.upto cpsetPlacesSpec)) cpsetPlacesUptoCard

/-- THE SECOND FORM's CARD OF 'cedillalaw06.CpsetChars'. -/
def cpsetCharsUptoCard : Claim7 := { stood := { row := cpsetCharsUptoRow, standIns := [], harness := (true, "92eba514f94de1e41c1a9b75a20e1d4336c94b8bcee991234ea9f6ca921db3cd"), looks := false }, kinds := [], alts := [], laidByText := true, laidKinds := [.data], laidTests := true, laidLooks := .later }
def CpsetCharsUptoCardSaid : Prop := Claim7.holds Tryd.pinned (.plain (OpenSpec.upto cpsetCharsSpec)) cpsetCharsUptoCard

/-- THE SECOND FORM's CARD OF 'cedillalaw06.CpsetRanges'. -/
def cpsetRangesUptoCard : Claim7 := { stood := { row := cpsetRangesUptoRow, standIns := [], harness := (true, "92eba514f94de1e41c1a9b75a20e1d4336c94b8bcee991234ea9f6ca921db3cd"), looks := false }, kinds := [], alts := [], laidByText := true, laidKinds := [.data], laidTests := true, laidLooks := .later }
def CpsetRangesUptoCardSaid : Prop := Claim7.holds Tryd.pinned (.plain (OpenSpec.upto cpsetRangesSpec)) cpsetRangesUptoCard

/-- THE SECOND FORM's CARD OF 'cedillatop.CedillaChars'. -/
def cedillaCharsUptoCard : Claim7 := { stood := { row := cedillaCharsUptoRow, standIns := [], harness := (true, "92eba514f94de1e41c1a9b75a20e1d4336c94b8bcee991234ea9f6ca921db3cd"), looks := false }, kinds := [], alts := [], laidByText := true, laidKinds := [.data, .data], laidTests := true, laidLooks := .later }
def CedillaCharsUptoCardSaid : Prop := Claim7.holds Tryd.pinned (.plain (OpenSpec.upto cedillaCharsSpec)) cedillaCharsUptoCard

/-- THE SECOND FORM's CARD OF 'cedillalaw09.RowsBack'. -/
def rowsBackUptoCard : Claim7 := { stood := { row := rowsBackUptoRow, standIns := [], harness := (true, "92eba514f94de1e41c1a9b75a20e1d4336c94b8bcee991234ea9f6ca921db3cd"), looks := false }, kinds := [], alts := [], laidByText := true, laidKinds := [.data, .data, .data, .data, .pinned], laidTests := true, laidLooks := .later }
def RowsBackUptoCardSaid : Prop := Claim7.holds Tryd.pinned (.plain (OpenSpec.upto rowsBackSpec)) rowsBackUptoCard

/-- THE SECOND FORM's CARD OF 'cedillalaw09.RowsPlain'. -/
def rowsPlainUptoCard : Claim7 := { stood := { row := rowsPlainUptoRow, standIns := [], harness := (true, "92eba514f94de1e41c1a9b75a20e1d4336c94b8bcee991234ea9f6ca921db3cd"), looks := false }, kinds := [], alts := [], laidByText := true, laidKinds := [.data, .pinned], laidTests := true, laidLooks := .later }
def RowsPlainUptoCardSaid : Prop := Claim7.holds Tryd.pinned (.plain (OpenSpec.upto rowsPlainSpec)) rowsPlainUptoCard

/-- THE SECOND FORM's CARD OF 'cedillalaw10.ExclBack'. -/
def exclBackUptoCard : Claim7 := { stood := { row := exclBackUptoRow, standIns := [], harness := (true, "92eba514f94de1e41c1a9b75a20e1d4336c94b8bcee991234ea9f6ca921db3cd"), looks := false }, kinds := [], alts := [], laidByText := true, laidKinds := [.data, .pinned], laidTests := true, laidLooks := .later }
def ExclBackUptoCardSaid : Prop := Claim7.holds Tryd.pinned (.plain (OpenSpec.upto exclBackSpec)) exclBackUptoCard

/-- THE SECOND FORM's CARD OF 'cedillalaw10.ExclNotes'. -/
def exclNotesUptoCard : Claim7 := { stood := { row := exclNotesUptoRow, standIns := [], harness := (true, "92eba514f94de1e41c1a9b75a20e1d4336c94b8bcee991234ea9f6ca921db3cd"), looks := false }, kinds := [], alts := [], laidByText := true, laidKinds := [.data, .pinned], laidTests := true, laidLooks := .later }
def ExclNotesUptoCardSaid : Prop := Claim7.holds Tryd.pinned (.plain (OpenSpec.upto exclNotesSpec)) exclNotesUptoCard
end Rows
end Go.Proofs.YtccbofaefpbhlaaDoor
