/-
  NARROWER THAN 'FOR EVERY INPUT', by the rows' own cells (each row's printed sentence says how): CpsetMakes: laid · CpsetAlgebra: laid · CpsetPlaces: laid · CpsetChars: laid · CpsetRanges: laid · CedillaChars: laid · RowsBack: laid · RowsPlain: laid · ExclBack: laid · ExclNotes: laid.
  DERIVED. THE GIVEN ROWS OF THIS SEAT. 10 by the template 'for every input the law returns true; each argument reads behind the call as it read before'; 0 by the template 'total and deterministic' (their statements: YtccbofaefpbhlaaDoorTotals.lean).
  GIVEN WITH THE SEED: the statements are not yours to turn. If you find one false, say at which input.
  Laid BY PROGRAM, IN A SANDBOX (cutbox-rows.mjs): the forced cells as the released guide's own fill.sh prints them over the translation ace2ebbcdb603952… (all of the seat's roots in one cut). By AI agents, Wed Nov 11 2026. No macro, syntax, notation, axiom, sorry.
-/
import Derived.Test.YtccbofaefpbhlaaDoorChecked
import GoSem.PinnedTables
import GoSem.Claim
import GoSem.ClaimJoined
import GoSem.ClaimMapViews
import Derived.JoinedTies
import Derived.KernelRfl
namespace Go.Proofs.YtccbofaefpbhlaaDoor
/- THE CELL 'sum', in the pinned program and in every row, IS THE sha256 OF THE DUMP (.gsa) THAT YtccbofaefpbhlaaDoorProg.lean LOADS. Nothing in Lean hashes anything: it is a label: what it is worth is what the hold of that sum in a sandbox is worth. -/
noncomputable def Tryd.pinned : Pinned := { name := "ytccbofaefpbhlaadoor", sum := "ace2ebbcdb60395243fc9f42ada5a9cbeef6bacdbc52f60e276ffdfa50e78fd7", checked := Tryd.checked }
namespace Rows
def none {H : Type} : Left H := { results := [], args := [] }

/- WHAT THE LISTED PACKAGE-LEVEL VARIABLES READ AS WHEN THE CALL BEGINS. Each datum BY PROGRAM (the guide's laid-datum.mjs) off the statement by which the dump's own 'gosem.cut.vars' lays the variable. In a bare row this is a premise. The card (YtccbofaefpbhlaaDoorCards.lean) ties it to the program's text. -/
def laid_cedilla_cpset_runs {H : Type} : DataW H := .agg [.agg [.lit (.int .i32 0), .lit (.int .i32 55295)], .agg [.lit (.int .i32 57344), .lit (.int .i32 1114111)]]
def laid_cedilla_utf_leads {H : Type} : DataW H := .agg [.agg [.lit (.int .u8 0), .lit (.int .u8 128), .lit (.int .i32 0)], .agg [.lit (.int .u8 192), .lit (.int .u8 224), .lit (.int .i32 128)], .agg [.lit (.int .u8 224), .lit (.int .u8 240), .lit (.int .i32 2048)], .agg [.lit (.int .u8 240), .lit (.int .u8 248), .lit (.int .i32 65536)]]
def laid_math_bits_deBruijn32tab {H : Type} : DataW H := .agg [.lit (.int .u8 0), .lit (.int .u8 1), .lit (.int .u8 28), .lit (.int .u8 2), .lit (.int .u8 29), .lit (.int .u8 14), .lit (.int .u8 24), .lit (.int .u8 3), .lit (.int .u8 30), .lit (.int .u8 22), .lit (.int .u8 20), .lit (.int .u8 15), .lit (.int .u8 25), .lit (.int .u8 17), .lit (.int .u8 4), .lit (.int .u8 8), .lit (.int .u8 31), .lit (.int .u8 27), .lit (.int .u8 13), .lit (.int .u8 23), .lit (.int .u8 21), .lit (.int .u8 19), .lit (.int .u8 16), .lit (.int .u8 7), .lit (.int .u8 26), .lit (.int .u8 12), .lit (.int .u8 18), .lit (.int .u8 6), .lit (.int .u8 11), .lit (.int .u8 5), .lit (.int .u8 10), .lit (.int .u8 9)]
def laid_math_bits_deBruijn64tab {H : Type} : DataW H := .agg [.lit (.int .u8 0), .lit (.int .u8 1), .lit (.int .u8 56), .lit (.int .u8 2), .lit (.int .u8 57), .lit (.int .u8 49), .lit (.int .u8 28), .lit (.int .u8 3), .lit (.int .u8 61), .lit (.int .u8 58), .lit (.int .u8 42), .lit (.int .u8 50), .lit (.int .u8 38), .lit (.int .u8 29), .lit (.int .u8 17), .lit (.int .u8 4), .lit (.int .u8 62), .lit (.int .u8 47), .lit (.int .u8 59), .lit (.int .u8 36), .lit (.int .u8 45), .lit (.int .u8 43), .lit (.int .u8 51), .lit (.int .u8 22), .lit (.int .u8 53), .lit (.int .u8 39), .lit (.int .u8 33), .lit (.int .u8 30), .lit (.int .u8 24), .lit (.int .u8 18), .lit (.int .u8 12), .lit (.int .u8 5), .lit (.int .u8 63), .lit (.int .u8 55), .lit (.int .u8 48), .lit (.int .u8 27), .lit (.int .u8 60), .lit (.int .u8 41), .lit (.int .u8 37), .lit (.int .u8 16), .lit (.int .u8 46), .lit (.int .u8 35), .lit (.int .u8 44), .lit (.int .u8 21), .lit (.int .u8 52), .lit (.int .u8 32), .lit (.int .u8 23), .lit (.int .u8 11), .lit (.int .u8 54), .lit (.int .u8 26), .lit (.int .u8 40), .lit (.int .u8 15), .lit (.int .u8 34), .lit (.int .u8 20), .lit (.int .u8 31), .lit (.int .u8 10), .lit (.int .u8 25), .lit (.int .u8 14), .lit (.int .u8 19), .lit (.int .u8 9), .lit (.int .u8 13), .lit (.int .u8 8), .lit (.int .u8 7), .lit (.int .u8 6)]
def laid_internal_strconv_uint64pow10 {H : Type} : DataW H := .agg [.lit (.int .u64 1), .lit (.int .u64 10), .lit (.int .u64 100), .lit (.int .u64 1000), .lit (.int .u64 10000), .lit (.int .u64 100000), .lit (.int .u64 1000000), .lit (.int .u64 10000000), .lit (.int .u64 100000000), .lit (.int .u64 1000000000), .lit (.int .u64 10000000000), .lit (.int .u64 100000000000), .lit (.int .u64 1000000000000), .lit (.int .u64 10000000000000), .lit (.int .u64 100000000000000), .lit (.int .u64 1000000000000000), .lit (.int .u64 10000000000000000), .lit (.int .u64 100000000000000000), .lit (.int .u64 1000000000000000000), .lit (.int .u64 10000000000000000000)]
def laid_unicode_utf8_acceptRanges {H : Type} : DataW H := .agg [.agg [.lit (.int .u8 128), .lit (.int .u8 191)], .agg [.lit (.int .u8 160), .lit (.int .u8 191)], .agg [.lit (.int .u8 128), .lit (.int .u8 159)], .agg [.lit (.int .u8 144), .lit (.int .u8 191)], .agg [.lit (.int .u8 128), .lit (.int .u8 143)], .agg [.lit (.int .u8 0), .lit (.int .u8 0)], .agg [.lit (.int .u8 0), .lit (.int .u8 0)], .agg [.lit (.int .u8 0), .lit (.int .u8 0)], .agg [.lit (.int .u8 0), .lit (.int .u8 0)], .agg [.lit (.int .u8 0), .lit (.int .u8 0)], .agg [.lit (.int .u8 0), .lit (.int .u8 0)], .agg [.lit (.int .u8 0), .lit (.int .u8 0)], .agg [.lit (.int .u8 0), .lit (.int .u8 0)], .agg [.lit (.int .u8 0), .lit (.int .u8 0)], .agg [.lit (.int .u8 0), .lit (.int .u8 0)], .agg [.lit (.int .u8 0), .lit (.int .u8 0)]]
/-- One of Go's own tables, pinned by name: the form's constant. -/
def laid_unicode_utf8_first : DataW Unit := Go.Pinned.utf8First

/-- 'cedillalaw06.CpsetMakes': WHATEVER THE INPUT: true; the input reads as it did. -/
def cpsetMakesSpec : ChangeSpec := { name := "cpsetMakes", fn := fun _ => fun
  | [d] => { results := [.lit (.bool true)], args := [d] }
  | _ => none }
def cpsetMakesRow : OpenClaim := { program := "ytccbofaefpbhlaadoor", sum := "ace2ebbcdb60395243fc9f42ada5a9cbeef6bacdbc52f60e276ffdfa50e78fd7", func := "cedilla/cedillalaw06.CpsetMakes", spec := "cpsetMakes", unfollowed := true, recurses := true, named := ["cedilla/cpset.runs"], apart := false, laid := [("cedilla/cpset.runs", laid_cedilla_cpset_runs)] }
def CpsetMakesSaid : Prop := cpsetMakesRow.holds Tryd.pinned (OpenSpec.ofChange cpsetMakesSpec)

/-- ITS FALSE NEIGHBOUR: 'it returns false'. Refute it at one input. -/
def cpsetMakesWrong : ChangeSpec := { name := "cpsetMakes", fn := fun _ => fun
  | [d] => { results := [.lit (.bool false)], args := [d] }
  | _ => none }
def CpsetMakesWrongFalsely : Prop := cpsetMakesRow.holds Tryd.pinned (OpenSpec.ofChange cpsetMakesWrong)

/-- 'cedillalaw06.CpsetAlgebra': WHATEVER THE INPUT: true; the input reads as it did. -/
def cpsetAlgebraSpec : ChangeSpec := { name := "cpsetAlgebra", fn := fun _ => fun
  | [d1, d2] => { results := [.lit (.bool true)], args := [d1, d2] }
  | _ => none }
def cpsetAlgebraRow : OpenClaim := { program := "ytccbofaefpbhlaadoor", sum := "ace2ebbcdb60395243fc9f42ada5a9cbeef6bacdbc52f60e276ffdfa50e78fd7", func := "cedilla/cedillalaw06.CpsetAlgebra", spec := "cpsetAlgebra", unfollowed := true, recurses := true, named := ["cedilla/cpset.runs"], apart := false, laid := [("cedilla/cpset.runs", laid_cedilla_cpset_runs)] }
def CpsetAlgebraSaid : Prop := cpsetAlgebraRow.holds Tryd.pinned (OpenSpec.ofChange cpsetAlgebraSpec)

/-- ITS FALSE NEIGHBOUR: 'it returns false'. Refute it at one input. -/
def cpsetAlgebraWrong : ChangeSpec := { name := "cpsetAlgebra", fn := fun _ => fun
  | [d1, d2] => { results := [.lit (.bool false)], args := [d1, d2] }
  | _ => none }
def CpsetAlgebraWrongFalsely : Prop := cpsetAlgebraRow.holds Tryd.pinned (OpenSpec.ofChange cpsetAlgebraWrong)

/-- 'cedillalaw06.CpsetPlaces': WHATEVER THE INPUT: true; the input reads as it did. -/
def cpsetPlacesSpec : ChangeSpec := { name := "cpsetPlaces", fn := fun _ => fun
  | [d1, d2, d3] => { results := [.lit (.bool true)], args := [d1, d2, d3] }
  | _ => none }
def cpsetPlacesRow : OpenClaim := { program := "ytccbofaefpbhlaadoor", sum := "ace2ebbcdb60395243fc9f42ada5a9cbeef6bacdbc52f60e276ffdfa50e78fd7", func := "cedilla/cedillalaw06.CpsetPlaces", spec := "cpsetPlaces", unfollowed := true, recurses := true, named := ["cedilla/cpset.runs"], apart := false, laid := [("cedilla/cpset.runs", laid_cedilla_cpset_runs)] }
def CpsetPlacesSaid : Prop := cpsetPlacesRow.holds Tryd.pinned (OpenSpec.ofChange cpsetPlacesSpec)

/-- ITS FALSE NEIGHBOUR: 'it returns false'. Refute it at one input. -/
def cpsetPlacesWrong : ChangeSpec := { name := "cpsetPlaces", fn := fun _ => fun
  | [d1, d2, d3] => { results := [.lit (.bool false)], args := [d1, d2, d3] }
  | _ => none }
def CpsetPlacesWrongFalsely : Prop := cpsetPlacesRow.holds Tryd.pinned (OpenSpec.ofChange cpsetPlacesWrong)

/-- 'cedillalaw06.CpsetChars': WHATEVER THE INPUT: true; the input reads as it did. -/
def cpsetCharsSpec : ChangeSpec := { name := "cpsetChars", fn := fun _ => fun
  | [d] => { results := [.lit (.bool true)], args := [d] }
  | _ => none }
def cpsetCharsRow : OpenClaim := { program := "ytccbofaefpbhlaadoor", sum := "ace2ebbcdb60395243fc9f42ada5a9cbeef6bacdbc52f60e276ffdfa50e78fd7", func := "cedilla/cedillalaw06.CpsetChars", spec := "cpsetChars", unfollowed := true, recurses := true, named := ["cedilla/cpset.runs"], apart := false, laid := [("cedilla/cpset.runs", laid_cedilla_cpset_runs)] }
def CpsetCharsSaid : Prop := cpsetCharsRow.holds Tryd.pinned (OpenSpec.ofChange cpsetCharsSpec)

/-- ITS FALSE NEIGHBOUR: 'it returns false'. Refute it at one input. -/
def cpsetCharsWrong : ChangeSpec := { name := "cpsetChars", fn := fun _ => fun
  | [d] => { results := [.lit (.bool false)], args := [d] }
  | _ => none }
def CpsetCharsWrongFalsely : Prop := cpsetCharsRow.holds Tryd.pinned (OpenSpec.ofChange cpsetCharsWrong)

/-- 'cedillalaw06.CpsetRanges': WHATEVER THE INPUT: true; the input reads as it did. -/
def cpsetRangesSpec : ChangeSpec := { name := "cpsetRanges", fn := fun _ => fun
  | [d1, d2] => { results := [.lit (.bool true)], args := [d1, d2] }
  | _ => none }
def cpsetRangesRow : OpenClaim := { program := "ytccbofaefpbhlaadoor", sum := "ace2ebbcdb60395243fc9f42ada5a9cbeef6bacdbc52f60e276ffdfa50e78fd7", func := "cedilla/cedillalaw06.CpsetRanges", spec := "cpsetRanges", unfollowed := true, recurses := true, named := ["cedilla/cpset.runs"], apart := false, laid := [("cedilla/cpset.runs", laid_cedilla_cpset_runs)] }
def CpsetRangesSaid : Prop := cpsetRangesRow.holds Tryd.pinned (OpenSpec.ofChange cpsetRangesSpec)

/-- ITS FALSE NEIGHBOUR: 'it returns false'. Refute it at one input. -/
def cpsetRangesWrong : ChangeSpec := { name := "cpsetRanges", fn := fun _ => fun
  | [d1, d2] => { results := [.lit (.bool false)], args := [d1, d2] }
  | _ => none }
def CpsetRangesWrongFalsely : Prop := cpsetRangesRow.holds Tryd.pinned (OpenSpec.ofChange cpsetRangesWrong)

/-- 'cedillatop.CedillaChars': WHATEVER THE INPUT: true; the input reads as it did. -/
def cedillaCharsSpec : ChangeSpec := { name := "cedillaChars", fn := fun _ => fun
  | [d1, d2] => { results := [.lit (.bool true)], args := [d1, d2] }
  | _ => none }
def cedillaCharsRow : OpenClaim := { program := "ytccbofaefpbhlaadoor", sum := "ace2ebbcdb60395243fc9f42ada5a9cbeef6bacdbc52f60e276ffdfa50e78fd7", func := "cedilla/cedillatop.CedillaChars", spec := "cedillaChars", inPlace := ["internal/bytealg.abigen_runtime_cmpstring"], unfollowed := true, recurses := true, named := ["cedilla/utf.leads", "cedilla/cpset.runs"], apart := false, laid := [("cedilla/utf.leads", laid_cedilla_utf_leads), ("cedilla/cpset.runs", laid_cedilla_cpset_runs)] }
def CedillaCharsSaid : Prop := cedillaCharsRow.holds Tryd.pinned (OpenSpec.ofChange cedillaCharsSpec)

/-- ITS FALSE NEIGHBOUR: 'it returns false'. Refute it at one input. -/
def cedillaCharsWrong : ChangeSpec := { name := "cedillaChars", fn := fun _ => fun
  | [d1, d2] => { results := [.lit (.bool false)], args := [d1, d2] }
  | _ => none }
def CedillaCharsWrongFalsely : Prop := cedillaCharsRow.holds Tryd.pinned (OpenSpec.ofChange cedillaCharsWrong)

/-- 'cedillalaw09.RowsBack': WHATEVER THE INPUT: true; the input reads as it did. -/
def rowsBackSpec : ChangeSpec := { name := "rowsBack", fn := fun _ => fun
  | [d] => { results := [.lit (.bool true)], args := [d] }
  | _ => none }
def rowsBackRow : OpenClaim := { program := "ytccbofaefpbhlaadoor", sum := "ace2ebbcdb60395243fc9f42ada5a9cbeef6bacdbc52f60e276ffdfa50e78fd7", func := "cedilla/cedillalaw09.RowsBack", spec := "rowsBack", inPlace := ["internal/bytealg.IndexByteString", "internal/bytealg.IndexString", "internal/bytealg.CountString", "internal/abi.NoEscape", "internal/bytealg.MakeNoZero"], unfollowed := true, recurses := true, named := ["internal/bytealg.MaxLen", "unicode/utf8.first", "unicode/utf8.acceptRanges", "internal/strconv.uint64pow10", "math/bits.deBruijn32tab", "math/bits.deBruijn64tab"], apart := false, laid := [("math/bits.deBruijn32tab", laid_math_bits_deBruijn32tab), ("math/bits.deBruijn64tab", laid_math_bits_deBruijn64tab), ("internal/strconv.uint64pow10", laid_internal_strconv_uint64pow10), ("unicode/utf8.acceptRanges", laid_unicode_utf8_acceptRanges), ("unicode/utf8.first", laid_unicode_utf8_first)] }
def RowsBackSaid : Prop := rowsBackRow.holds Tryd.pinned (OpenSpec.ofChange rowsBackSpec)

/-- ITS FALSE NEIGHBOUR: 'it returns false'. Refute it at one input. -/
def rowsBackWrong : ChangeSpec := { name := "rowsBack", fn := fun _ => fun
  | [d] => { results := [.lit (.bool false)], args := [d] }
  | _ => none }
def RowsBackWrongFalsely : Prop := rowsBackRow.holds Tryd.pinned (OpenSpec.ofChange rowsBackWrong)

/-- 'cedillalaw09.RowsPlain': WHATEVER THE INPUT: true; the input reads as it did. -/
def rowsPlainSpec : ChangeSpec := { name := "rowsPlain", fn := fun _ => fun
  | [d] => { results := [.lit (.bool true)], args := [d] }
  | _ => none }
def rowsPlainRow : OpenClaim := { program := "ytccbofaefpbhlaadoor", sum := "ace2ebbcdb60395243fc9f42ada5a9cbeef6bacdbc52f60e276ffdfa50e78fd7", func := "cedilla/cedillalaw09.RowsPlain", spec := "rowsPlain", inPlace := ["internal/bytealg.IndexByteString", "internal/bytealg.IndexString", "internal/bytealg.CountString"], unfollowed := true, recurses := true, named := ["internal/bytealg.MaxLen", "unicode/utf8.first", "unicode/utf8.acceptRanges"], apart := false, laid := [("unicode/utf8.acceptRanges", laid_unicode_utf8_acceptRanges), ("unicode/utf8.first", laid_unicode_utf8_first)] }
def RowsPlainSaid : Prop := rowsPlainRow.holds Tryd.pinned (OpenSpec.ofChange rowsPlainSpec)

/-- ITS FALSE NEIGHBOUR: 'it returns false'. Refute it at one input. -/
def rowsPlainWrong : ChangeSpec := { name := "rowsPlain", fn := fun _ => fun
  | [d] => { results := [.lit (.bool false)], args := [d] }
  | _ => none }
def RowsPlainWrongFalsely : Prop := rowsPlainRow.holds Tryd.pinned (OpenSpec.ofChange rowsPlainWrong)

/-- 'cedillalaw10.ExclBack': WHATEVER THE INPUT: true; the input reads as it did. -/
def exclBackSpec : ChangeSpec := { name := "exclBack", fn := fun _ => fun
  | [d] => { results := [.lit (.bool true)], args := [d] }
  | _ => none }
def exclBackRow : OpenClaim := { program := "ytccbofaefpbhlaadoor", sum := "ace2ebbcdb60395243fc9f42ada5a9cbeef6bacdbc52f60e276ffdfa50e78fd7", func := "cedilla/cedillalaw10.ExclBack", spec := "exclBack", inPlace := ["internal/bytealg.IndexByteString", "internal/bytealg.IndexString", "internal/abi.NoEscape"], unfollowed := true, recurses := true, named := ["internal/bytealg.MaxLen", "unicode/utf8.first", "unicode/utf8.acceptRanges"], apart := false, laid := [("unicode/utf8.acceptRanges", laid_unicode_utf8_acceptRanges), ("unicode/utf8.first", laid_unicode_utf8_first)] }
def ExclBackSaid : Prop := exclBackRow.holds Tryd.pinned (OpenSpec.ofChange exclBackSpec)

/-- ITS FALSE NEIGHBOUR: 'it returns false'. Refute it at one input. -/
def exclBackWrong : ChangeSpec := { name := "exclBack", fn := fun _ => fun
  | [d] => { results := [.lit (.bool false)], args := [d] }
  | _ => none }
def ExclBackWrongFalsely : Prop := exclBackRow.holds Tryd.pinned (OpenSpec.ofChange exclBackWrong)

/-- 'cedillalaw10.ExclNotes': WHATEVER THE INPUT: true; the input reads as it did. -/
def exclNotesSpec : ChangeSpec := { name := "exclNotes", fn := fun _ => fun
  | [d1, d2] => { results := [.lit (.bool true)], args := [d1, d2] }
  | _ => none }
def exclNotesRow : OpenClaim := { program := "ytccbofaefpbhlaadoor", sum := "ace2ebbcdb60395243fc9f42ada5a9cbeef6bacdbc52f60e276ffdfa50e78fd7", func := "cedilla/cedillalaw10.ExclNotes", spec := "exclNotes", inPlace := ["internal/bytealg.IndexByteString", "internal/bytealg.IndexString"], unfollowed := true, recurses := true, named := ["internal/bytealg.MaxLen", "unicode/utf8.first", "unicode/utf8.acceptRanges"], apart := false, laid := [("unicode/utf8.acceptRanges", laid_unicode_utf8_acceptRanges), ("unicode/utf8.first", laid_unicode_utf8_first)] }
def ExclNotesSaid : Prop := exclNotesRow.holds Tryd.pinned (OpenSpec.ofChange exclNotesSpec)

/-- ITS FALSE NEIGHBOUR: 'it returns false'. Refute it at one input. -/
def exclNotesWrong : ChangeSpec := { name := "exclNotes", fn := fun _ => fun
  | [d1, d2] => { results := [.lit (.bool false)], args := [d1, d2] }
  | _ => none }
def ExclNotesWrongFalsely : Prop := exclNotesRow.holds Tryd.pinned (OpenSpec.ofChange exclNotesWrong)

/- THE SECOND FORM. 'bulk': how many values and letters a reading holds, each counted each time it is reached (what is shared counts as often as it is met; a slice's spare places count too). A statement '..UptoSaid' is the law's where the arguments, and the package variables that the reading takes, are together of bulk at most 1048576: NARROWER than '..Said'. Prove '..Said' where nothing that the law and all that it calls make is longer than what came in: it says more and counts as full. Else prove '..UptoSaid'. A law counts once. -/
mutual
def uptoBulk {H : Type} : DataW H → Nat
  | .lit (.string bytes) => bytes.length + 1
  | .lit _ => 1
  | .nil => 1
  | .ptr d => uptoBulk d + 1
  | .slice elems spare => uptoBulkAll elems + uptoBulkAll spare + 1
  | .agg parts => uptoBulkAll parts + 1
  | .iface _ d => uptoBulk d + 1
  | .map entries => uptoBulkEntries entries + 1
  | .held _ => 1
def uptoBulkAll {H : Type} : List (DataW H) → Nat
  | [] => 0
  | d :: r => uptoBulk d + uptoBulkAll r
def uptoBulkEntries {H : Type} : List (Lit × DataW H) → Nat
  | [] => 0
  | x :: r => uptoBulkEntry x + uptoBulkEntries r
def uptoBulkEntry {H : Type} : Lit × DataW H → Nat
  | (.string bytes, d) => bytes.length + uptoBulk d + 1
  | (_, d) => uptoBulk d + 1
 end
def uptoSmall : (H : Type) → List (DataW H) → Bool := fun _ ds => decide (uptoBulkAll ds ≤ 1048576)
def OpenSpec.upto (s : _root_.Go.ChangeSpec) : _root_.Go.OpenSpec := { _root_.Go.OpenSpec.ofChange s with cond := some uptoSmall }

/-- 'cedillalaw06.CpsetMakes', WHERE WHAT IT READS IS OF BULK AT MOST 1048576: true; the input reads as it did. -/
def cpsetMakesUptoRow : OpenClaim := { program := "ytccbofaefpbhlaadoor", sum := "ace2ebbcdb60395243fc9f42ada5a9cbeef6bacdbc52f60e276ffdfa50e78fd7", func := "cedilla/cedillalaw06.CpsetMakes", spec := "cpsetMakes", unfollowed := true, recurses := true, named := ["cedilla/cpset.runs"], apart := false, laid := [("cedilla/cpset.runs", laid_cedilla_cpset_runs)], narrowed := true }
def CpsetMakesUptoSaid : Prop := cpsetMakesUptoRow.holds Tryd.pinned (OpenSpec.upto cpsetMakesSpec)

/-- 'cedillalaw06.CpsetAlgebra', WHERE WHAT IT READS IS OF BULK AT MOST 1048576: true; the input reads as it did. -/
def cpsetAlgebraUptoRow : OpenClaim := { program := "ytccbofaefpbhlaadoor", sum := "ace2ebbcdb60395243fc9f42ada5a9cbeef6bacdbc52f60e276ffdfa50e78fd7", func := "cedilla/cedillalaw06.CpsetAlgebra", spec := "cpsetAlgebra", unfollowed := true, recurses := true, named := ["cedilla/cpset.runs"], apart := false, laid := [("cedilla/cpset.runs", laid_cedilla_cpset_runs)], narrowed := true }
def CpsetAlgebraUptoSaid : Prop := cpsetAlgebraUptoRow.holds Tryd.pinned (OpenSpec.upto cpsetAlgebraSpec)

/-- 'cedillalaw06.CpsetPlaces', WHERE WHAT IT READS IS OF BULK AT MOST 1048576: true; the input reads as it did. -/
def cpsetPlacesUptoRow : OpenClaim := { program := "ytccbofaefpbhlaadoor", sum := "ace2ebbcdb60395243fc9f42ada5a9cbeef6bacdbc52f60e276ffdfa50e78fd7", func := "cedilla/cedillalaw06.CpsetPlaces", spec := "cpsetPlaces", unfollowed := true, recurses := true, named := ["cedilla/cpset.runs"], apart := false, laid := [("cedilla/cpset.runs", laid_cedilla_cpset_runs)], narrowed := true }
def CpsetPlacesUptoSaid : Prop := cpsetPlacesUptoRow.holds Tryd.pinned (OpenSpec.upto cpsetPlacesSpec)

/-- 'cedillalaw06.CpsetChars', WHERE WHAT IT READS IS OF BULK AT MOST 1048576: true; the input reads as it did. -/
def cpsetCharsUptoRow : OpenClaim := { program := "ytccbofaefpbhlaadoor", sum := "ace2ebbcdb60395243fc9f42ada5a9cbeef6bacdbc52f60e276ffdfa50e78fd7", func := "cedilla/cedillalaw06.CpsetChars", spec := "cpsetChars", unfollowed := true, recurses := true, named := ["cedilla/cpset.runs"], apart := false, laid := [("cedilla/cpset.runs", laid_cedilla_cpset_runs)], narrowed := true }
def CpsetCharsUptoSaid : Prop := cpsetCharsUptoRow.holds Tryd.pinned (OpenSpec.upto cpsetCharsSpec)

/-- 'cedillalaw06.CpsetRanges', WHERE WHAT IT READS IS OF BULK AT MOST 1048576: true; the input reads as it did. -/
def cpsetRangesUptoRow : OpenClaim := { program := "ytccbofaefpbhlaadoor", sum := "ace2ebbcdb60395243fc9f42ada5a9cbeef6bacdbc52f60e276ffdfa50e78fd7", func := "cedilla/cedillalaw06.CpsetRanges", spec := "cpsetRanges", unfollowed := true, recurses := true, named := ["cedilla/cpset.runs"], apart := false, laid := [("cedilla/cpset.runs", laid_cedilla_cpset_runs)], narrowed := true }
def CpsetRangesUptoSaid : Prop := cpsetRangesUptoRow.holds Tryd.pinned (OpenSpec.upto cpsetRangesSpec)

/-- 'cedillatop.CedillaChars', WHERE WHAT IT READS IS OF BULK AT MOST 1048576: true; the input reads as it did. -/
def cedillaCharsUptoRow : OpenClaim := { program := "ytccbofaefpbhlaadoor", sum := "ace2ebbcdb60395243fc9f42ada5a9cbeef6bacdbc52f60e276ffdfa50e78fd7", func := "cedilla/cedillatop.CedillaChars", spec := "cedillaChars", inPlace := ["internal/bytealg.abigen_runtime_cmpstring"], unfollowed := true, recurses := true, named := ["cedilla/utf.leads", "cedilla/cpset.runs"], apart := false, laid := [("cedilla/utf.leads", laid_cedilla_utf_leads), ("cedilla/cpset.runs", laid_cedilla_cpset_runs)], narrowed := true }
def CedillaCharsUptoSaid : Prop := cedillaCharsUptoRow.holds Tryd.pinned (OpenSpec.upto cedillaCharsSpec)

/-- 'cedillalaw09.RowsBack', WHERE WHAT IT READS IS OF BULK AT MOST 1048576: true; the input reads as it did. -/
def rowsBackUptoRow : OpenClaim := { program := "ytccbofaefpbhlaadoor", sum := "ace2ebbcdb60395243fc9f42ada5a9cbeef6bacdbc52f60e276ffdfa50e78fd7", func := "cedilla/cedillalaw09.RowsBack", spec := "rowsBack", inPlace := ["internal/bytealg.IndexByteString", "internal/bytealg.IndexString", "internal/bytealg.CountString", "internal/abi.NoEscape", "internal/bytealg.MakeNoZero"], unfollowed := true, recurses := true, named := ["internal/bytealg.MaxLen", "unicode/utf8.first", "unicode/utf8.acceptRanges", "internal/strconv.uint64pow10", "math/bits.deBruijn32tab", "math/bits.deBruijn64tab"], apart := false, laid := [("math/bits.deBruijn32tab", laid_math_bits_deBruijn32tab), ("math/bits.deBruijn64tab", laid_math_bits_deBruijn64tab), ("internal/strconv.uint64pow10", laid_internal_strconv_uint64pow10), ("unicode/utf8.acceptRanges", laid_unicode_utf8_acceptRanges), ("unicode/utf8.first", laid_unicode_utf8_first)], narrowed := true }
def RowsBackUptoSaid : Prop := rowsBackUptoRow.holds Tryd.pinned (OpenSpec.upto rowsBackSpec)

/-- 'cedillalaw09.RowsPlain', WHERE WHAT IT READS IS OF BULK AT MOST 1048576: true; the input reads as it did. -/
def rowsPlainUptoRow : OpenClaim := { program := "ytccbofaefpbhlaadoor", sum := "ace2ebbcdb60395243fc9f42ada5a9cbeef6bacdbc52f60e276ffdfa50e78fd7", func := "cedilla/cedillalaw09.RowsPlain", spec := "rowsPlain", inPlace := ["internal/bytealg.IndexByteString", "internal/bytealg.IndexString", "internal/bytealg.CountString"], unfollowed := true, recurses := true, named := ["internal/bytealg.MaxLen", "unicode/utf8.first", "unicode/utf8.acceptRanges"], apart := false, laid := [("unicode/utf8.acceptRanges", laid_unicode_utf8_acceptRanges), ("unicode/utf8.first", laid_unicode_utf8_first)], narrowed := true }
def RowsPlainUptoSaid : Prop := rowsPlainUptoRow.holds Tryd.pinned (OpenSpec.upto rowsPlainSpec)

/-- 'cedillalaw10.ExclBack', WHERE WHAT IT READS IS OF BULK AT MOST 1048576: true; the input reads as it did. -/
def exclBackUptoRow : OpenClaim := { program := "ytccbofaefpbhlaadoor", sum := "ace2ebbcdb60395243fc9f42ada5a9cbeef6bacdbc52f60e276ffdfa50e78fd7", func := "cedilla/cedillalaw10.ExclBack", spec := "exclBack", inPlace := ["internal/bytealg.IndexByteString", "internal/bytealg.IndexString", "internal/abi.NoEscape"], unfollowed := true, recurses := true, named := ["internal/bytealg.MaxLen", "unicode/utf8.first", "unicode/utf8.acceptRanges"], apart := false, laid := [("unicode/utf8.acceptRanges", laid_unicode_utf8_acceptRanges), ("unicode/utf8.first", laid_unicode_utf8_first)], narrowed := true }
def ExclBackUptoSaid : Prop := exclBackUptoRow.holds Tryd.pinned (OpenSpec.upto exclBackSpec)

/-- 'cedillalaw10.ExclNotes', WHERE WHAT IT READS IS OF BULK AT MOST 1048576: true; the input reads as it did. -/
def exclNotesUptoRow : OpenClaim := { program := "ytccbofaefpbhlaadoor", sum := "ace2ebbcdb60395243fc9f42ada5a9cbeef6bacdbc52f60e276ffdfa50e78fd7", func := "cedilla/cedillalaw10.ExclNotes", spec := "exclNotes", inPlace := ["internal/bytealg.IndexByteString", "internal/bytealg.IndexString"], unfollowed := true, recurses := true, named := ["internal/bytealg.MaxLen", "unicode/utf8.first", "unicode/utf8.acceptRanges"], apart := false, laid := [("unicode/utf8.acceptRanges", laid_unicode_utf8_acceptRanges), ("unicode/utf8.first", laid_unicode_utf8_first)], narrowed := true }
def ExclNotesUptoSaid : Prop := exclNotesUptoRow.holds Tryd.pinned (OpenSpec.upto exclNotesSpec)

end Rows
end Go.Proofs.YtccbofaefpbhlaaDoor
