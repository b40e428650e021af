/-
  NARROWER THAN 'FOR EVERY INPUT', by the rows' own cells (each row's printed sentence says how): LinesParse: laid · LinesPrint: laid · LinesTurn: laid · LinesBack: laid · LinesRemarks: laid · LinesWrong: laid · LinesPrefix: laid.
  DERIVED. THE GIVEN ROWS OF THIS SEAT. 7 by the template 'for every input the law returns true; each argument reads behind the call as it read before'; 0 by the template 'total and deterministic' (their statements: YthgpocbmkmmecaaDoorTotals.lean).
  GIVEN WITH THE SEED: the statements are not yours to turn. If you find one false, say at which input.
  Laid BY PROGRAM, IN A SANDBOX (cutbox-rows.mjs): the forced cells as the released guide's own fill.sh prints them over the translation 76417b3b2e85c320… (all of the seat's roots in one cut). By AI agents, Wed Nov 11 2026. No macro, syntax, notation, axiom, sorry.
-/
import Derived.Test.YthgpocbmkmmecaaDoorChecked
import GoSem.PinnedTables
import GoSem.Claim
import GoSem.ClaimJoined
import GoSem.ClaimMapViews
import Derived.JoinedTies
import Derived.KernelRfl
namespace Go.Proofs.YthgpocbmkmmecaaDoor
/- THE CELL 'sum', in the pinned program and in every row, IS THE sha256 OF THE DUMP (.gsa) THAT YthgpocbmkmmecaaDoorProg.lean LOADS. Nothing in Lean hashes anything: it is a label: what it is worth is what the hold of that sum in a sandbox is worth. -/
noncomputable def Tryd.pinned : Pinned := { name := "ythgpocbmkmmecaadoor", sum := "76417b3b2e85c32082ae0b3adf1cdac1910b59064dcc7fb1ecbc964325c72945", checked := Tryd.checked }
namespace Rows
def none {H : Type} : Left H := { results := [], args := [] }

/- WHAT THE LISTED PACKAGE-LEVEL VARIABLES READ AS WHEN THE CALL BEGINS. Each datum BY PROGRAM (the guide's laid-datum.mjs) off the statement by which the dump's own 'gosem.cut.vars' lays the variable. In a bare row this is a premise. The card (YthgpocbmkmmecaaDoorCards.lean) ties it to the program's text. -/
def laid_unicode_utf8_acceptRanges {H : Type} : DataW H := .agg [.agg [.lit (.int .u8 128), .lit (.int .u8 191)], .agg [.lit (.int .u8 160), .lit (.int .u8 191)], .agg [.lit (.int .u8 128), .lit (.int .u8 159)], .agg [.lit (.int .u8 144), .lit (.int .u8 191)], .agg [.lit (.int .u8 128), .lit (.int .u8 143)], .agg [.lit (.int .u8 0), .lit (.int .u8 0)], .agg [.lit (.int .u8 0), .lit (.int .u8 0)], .agg [.lit (.int .u8 0), .lit (.int .u8 0)], .agg [.lit (.int .u8 0), .lit (.int .u8 0)], .agg [.lit (.int .u8 0), .lit (.int .u8 0)], .agg [.lit (.int .u8 0), .lit (.int .u8 0)], .agg [.lit (.int .u8 0), .lit (.int .u8 0)], .agg [.lit (.int .u8 0), .lit (.int .u8 0)], .agg [.lit (.int .u8 0), .lit (.int .u8 0)], .agg [.lit (.int .u8 0), .lit (.int .u8 0)], .agg [.lit (.int .u8 0), .lit (.int .u8 0)]]
/-- One of Go's own tables, pinned by name: the form's constant. -/
def laid_unicode_utf8_first : DataW Unit := Go.Pinned.utf8First

/-- 'matinslaw7.LinesParse': WHATEVER THE INPUT: true; the input reads as it did. -/
def linesParseSpec : ChangeSpec := { name := "linesParse", fn := fun _ => fun
  | [d] => { results := [.lit (.bool true)], args := [d] }
  | _ => none }
def linesParseRow : OpenClaim := { program := "ythgpocbmkmmecaadoor", sum := "76417b3b2e85c32082ae0b3adf1cdac1910b59064dcc7fb1ecbc964325c72945", func := "matins/matinslaw7.LinesParse", spec := "linesParse", inPlace := ["internal/bytealg.IndexByteString", "internal/bytealg.IndexString", "internal/abi.NoEscape"], unfollowed := true, recurses := true, named := ["internal/bytealg.MaxLen", "unicode/utf8.first", "unicode/utf8.acceptRanges"], apart := false, laid := [("unicode/utf8.acceptRanges", laid_unicode_utf8_acceptRanges), ("unicode/utf8.first", laid_unicode_utf8_first)] }
def LinesParseSaid : Prop := linesParseRow.holds Tryd.pinned (OpenSpec.ofChange linesParseSpec)

/-- ITS FALSE NEIGHBOUR: 'it returns false'. Refute it at one input. -/
def linesParseWrong : ChangeSpec := { name := "linesParse", fn := fun _ => fun
  | [d] => { results := [.lit (.bool false)], args := [d] }
  | _ => none }
def LinesParseWrongFalsely : Prop := linesParseRow.holds Tryd.pinned (OpenSpec.ofChange linesParseWrong)

/-- 'matinslaw7.LinesPrint': WHATEVER THE INPUT: true; the input reads as it did. -/
def linesPrintSpec : ChangeSpec := { name := "linesPrint", fn := fun _ => fun
  | [d] => { results := [.lit (.bool true)], args := [d] }
  | _ => none }
def linesPrintRow : OpenClaim := { program := "ythgpocbmkmmecaadoor", sum := "76417b3b2e85c32082ae0b3adf1cdac1910b59064dcc7fb1ecbc964325c72945", func := "matins/matinslaw7.LinesPrint", spec := "linesPrint", inPlace := ["internal/bytealg.IndexByteString", "internal/bytealg.IndexString", "internal/abi.NoEscape"], unfollowed := true, recurses := true, named := ["internal/bytealg.MaxLen", "unicode/utf8.first", "unicode/utf8.acceptRanges"], apart := false, laid := [("unicode/utf8.acceptRanges", laid_unicode_utf8_acceptRanges), ("unicode/utf8.first", laid_unicode_utf8_first)] }
def LinesPrintSaid : Prop := linesPrintRow.holds Tryd.pinned (OpenSpec.ofChange linesPrintSpec)

/-- ITS FALSE NEIGHBOUR: 'it returns false'. Refute it at one input. -/
def linesPrintWrong : ChangeSpec := { name := "linesPrint", fn := fun _ => fun
  | [d] => { results := [.lit (.bool false)], args := [d] }
  | _ => none }
def LinesPrintWrongFalsely : Prop := linesPrintRow.holds Tryd.pinned (OpenSpec.ofChange linesPrintWrong)

/-- 'matinslaw7.LinesTurn': WHATEVER THE INPUT: true; the input reads as it did. -/
def linesTurnSpec : ChangeSpec := { name := "linesTurn", fn := fun _ => fun
  | [d] => { results := [.lit (.bool true)], args := [d] }
  | _ => none }
def linesTurnRow : OpenClaim := { program := "ythgpocbmkmmecaadoor", sum := "76417b3b2e85c32082ae0b3adf1cdac1910b59064dcc7fb1ecbc964325c72945", func := "matins/matinslaw7.LinesTurn", spec := "linesTurn", inPlace := ["internal/bytealg.IndexByteString", "internal/bytealg.IndexString", "internal/abi.NoEscape"], unfollowed := true, recurses := true, named := ["internal/bytealg.MaxLen", "unicode/utf8.first", "unicode/utf8.acceptRanges"], apart := false, laid := [("unicode/utf8.acceptRanges", laid_unicode_utf8_acceptRanges), ("unicode/utf8.first", laid_unicode_utf8_first)] }
def LinesTurnSaid : Prop := linesTurnRow.holds Tryd.pinned (OpenSpec.ofChange linesTurnSpec)

/-- ITS FALSE NEIGHBOUR: 'it returns false'. Refute it at one input. -/
def linesTurnWrong : ChangeSpec := { name := "linesTurn", fn := fun _ => fun
  | [d] => { results := [.lit (.bool false)], args := [d] }
  | _ => none }
def LinesTurnWrongFalsely : Prop := linesTurnRow.holds Tryd.pinned (OpenSpec.ofChange linesTurnWrong)

/-- 'matinslaw7.LinesBack': WHATEVER THE INPUT: true; the input reads as it did. -/
def linesBackSpec : ChangeSpec := { name := "linesBack", fn := fun _ => fun
  | [d] => { results := [.lit (.bool true)], args := [d] }
  | _ => none }
def linesBackRow : OpenClaim := { program := "ythgpocbmkmmecaadoor", sum := "76417b3b2e85c32082ae0b3adf1cdac1910b59064dcc7fb1ecbc964325c72945", func := "matins/matinslaw7.LinesBack", spec := "linesBack", inPlace := ["internal/bytealg.IndexByteString", "internal/bytealg.IndexString", "internal/abi.NoEscape"], unfollowed := true, recurses := true, named := ["internal/bytealg.MaxLen", "unicode/utf8.first", "unicode/utf8.acceptRanges"], apart := false, laid := [("unicode/utf8.acceptRanges", laid_unicode_utf8_acceptRanges), ("unicode/utf8.first", laid_unicode_utf8_first)] }
def LinesBackSaid : Prop := linesBackRow.holds Tryd.pinned (OpenSpec.ofChange linesBackSpec)

/-- ITS FALSE NEIGHBOUR: 'it returns false'. Refute it at one input. -/
def linesBackWrong : ChangeSpec := { name := "linesBack", fn := fun _ => fun
  | [d] => { results := [.lit (.bool false)], args := [d] }
  | _ => none }
def LinesBackWrongFalsely : Prop := linesBackRow.holds Tryd.pinned (OpenSpec.ofChange linesBackWrong)

/-- 'matinslaw7.LinesRemarks': WHATEVER THE INPUT: true; the input reads as it did. -/
def linesRemarksSpec : ChangeSpec := { name := "linesRemarks", fn := fun _ => fun
  | [d1, d2, d3] => { results := [.lit (.bool true)], args := [d1, d2, d3] }
  | _ => none }
def linesRemarksRow : OpenClaim := { program := "ythgpocbmkmmecaadoor", sum := "76417b3b2e85c32082ae0b3adf1cdac1910b59064dcc7fb1ecbc964325c72945", func := "matins/matinslaw7.LinesRemarks", spec := "linesRemarks", inPlace := ["internal/bytealg.IndexByteString", "internal/bytealg.IndexString", "internal/abi.NoEscape"], unfollowed := true, recurses := true, named := ["internal/bytealg.MaxLen", "unicode/utf8.first", "unicode/utf8.acceptRanges"], apart := false, laid := [("unicode/utf8.acceptRanges", laid_unicode_utf8_acceptRanges), ("unicode/utf8.first", laid_unicode_utf8_first)] }
def LinesRemarksSaid : Prop := linesRemarksRow.holds Tryd.pinned (OpenSpec.ofChange linesRemarksSpec)

/-- ITS FALSE NEIGHBOUR: 'it returns false'. Refute it at one input. -/
def linesRemarksWrong : ChangeSpec := { name := "linesRemarks", fn := fun _ => fun
  | [d1, d2, d3] => { results := [.lit (.bool false)], args := [d1, d2, d3] }
  | _ => none }
def LinesRemarksWrongFalsely : Prop := linesRemarksRow.holds Tryd.pinned (OpenSpec.ofChange linesRemarksWrong)

/-- 'matinslaw7.LinesWrong': WHATEVER THE INPUT: true; the input reads as it did. -/
def linesWrongSpec : ChangeSpec := { name := "linesWrong", fn := fun _ => fun
  | [d1, d2, d3] => { results := [.lit (.bool true)], args := [d1, d2, d3] }
  | _ => none }
def linesWrongRow : OpenClaim := { program := "ythgpocbmkmmecaadoor", sum := "76417b3b2e85c32082ae0b3adf1cdac1910b59064dcc7fb1ecbc964325c72945", func := "matins/matinslaw7.LinesWrong", spec := "linesWrong", inPlace := ["internal/bytealg.IndexByteString", "internal/bytealg.IndexString", "internal/abi.NoEscape"], unfollowed := true, recurses := true, named := ["internal/bytealg.MaxLen", "unicode/utf8.first", "unicode/utf8.acceptRanges"], apart := false, laid := [("unicode/utf8.acceptRanges", laid_unicode_utf8_acceptRanges), ("unicode/utf8.first", laid_unicode_utf8_first)] }
def LinesWrongSaid : Prop := linesWrongRow.holds Tryd.pinned (OpenSpec.ofChange linesWrongSpec)

/-- ITS FALSE NEIGHBOUR: 'it returns false'. Refute it at one input. -/
def linesWrongWrong : ChangeSpec := { name := "linesWrong", fn := fun _ => fun
  | [d1, d2, d3] => { results := [.lit (.bool false)], args := [d1, d2, d3] }
  | _ => none }
def LinesWrongWrongFalsely : Prop := linesWrongRow.holds Tryd.pinned (OpenSpec.ofChange linesWrongWrong)

/-- 'matinslaw7.LinesPrefix': WHATEVER THE INPUT: true; the input reads as it did. -/
def linesPrefixSpec : ChangeSpec := { name := "linesPrefix", fn := fun _ => fun
  | [d1, d2] => { results := [.lit (.bool true)], args := [d1, d2] }
  | _ => none }
def linesPrefixRow : OpenClaim := { program := "ythgpocbmkmmecaadoor", sum := "76417b3b2e85c32082ae0b3adf1cdac1910b59064dcc7fb1ecbc964325c72945", func := "matins/matinslaw7.LinesPrefix", spec := "linesPrefix", inPlace := ["internal/bytealg.IndexByteString", "internal/bytealg.IndexString", "internal/abi.NoEscape"], unfollowed := true, recurses := true, named := ["internal/bytealg.MaxLen", "unicode/utf8.first", "unicode/utf8.acceptRanges"], apart := false, laid := [("unicode/utf8.acceptRanges", laid_unicode_utf8_acceptRanges), ("unicode/utf8.first", laid_unicode_utf8_first)] }
def LinesPrefixSaid : Prop := linesPrefixRow.holds Tryd.pinned (OpenSpec.ofChange linesPrefixSpec)

/-- ITS FALSE NEIGHBOUR: 'it returns false'. Refute it at one input. -/
def linesPrefixWrong : ChangeSpec := { name := "linesPrefix", fn := fun _ => fun
  | [d1, d2] => { results := [.lit (.bool false)], args := [d1, d2] }
  | _ => none }
def LinesPrefixWrongFalsely : Prop := linesPrefixRow.holds Tryd.pinned (OpenSpec.ofChange linesPrefixWrong)

/- THE SECOND FORM. 'bulk': how many values and letters a reading holds, each counted each time it is reached (what is shared counts as often as it is met; a slice's spare places count too). A statement '..UptoSaid' is the law's where the arguments, and the package variables that the reading takes, are together of bulk at most 1048576: NARROWER than '..Said'. Prove '..Said' where nothing that the law and all that it calls make is longer than what came in: it says more and counts as full. Else prove '..UptoSaid'. A law counts once. -/
mutual
def uptoBulk {H : Type} : DataW H → Nat
  | .lit (.string bytes) => bytes.length + 1
  | .lit _ => 1
  | .nil => 1
  | .ptr d => uptoBulk d + 1
  | .slice elems spare => uptoBulkAll elems + uptoBulkAll spare + 1
  | .agg parts => uptoBulkAll parts + 1
  | .iface _ d => uptoBulk d + 1
  | .map entries => uptoBulkEntries entries + 1
  | .held _ => 1
def uptoBulkAll {H : Type} : List (DataW H) → Nat
  | [] => 0
  | d :: r => uptoBulk d + uptoBulkAll r
def uptoBulkEntries {H : Type} : List (Lit × DataW H) → Nat
  | [] => 0
  | x :: r => uptoBulkEntry x + uptoBulkEntries r
def uptoBulkEntry {H : Type} : Lit × DataW H → Nat
  | (.string bytes, d) => bytes.length + uptoBulk d + 1
  | (_, d) => uptoBulk d + 1
 end
def uptoSmall : (H : Type) → List (DataW H) → Bool := fun _ ds => decide (uptoBulkAll ds ≤ 1048576)
def OpenSpec.upto (s : _root_.Go.ChangeSpec) : _root_.Go.OpenSpec := { _root_.Go.OpenSpec.ofChange s with cond := some uptoSmall }

/-- 'matinslaw7.LinesParse', WHERE WHAT IT READS IS OF BULK AT MOST 1048576: true; the input reads as it did. -/
def linesParseUptoRow : OpenClaim := { program := "ythgpocbmkmmecaadoor", sum := "76417b3b2e85c32082ae0b3adf1cdac1910b59064dcc7fb1ecbc964325c72945", func := "matins/matinslaw7.LinesParse", spec := "linesParse", inPlace := ["internal/bytealg.IndexByteString", "internal/bytealg.IndexString", "internal/abi.NoEscape"], unfollowed := true, recurses := true, named := ["internal/bytealg.MaxLen", "unicode/utf8.first", "unicode/utf8.acceptRanges"], apart := false, laid := [("unicode/utf8.acceptRanges", laid_unicode_utf8_acceptRanges), ("unicode/utf8.first", laid_unicode_utf8_first)], narrowed := true }
def LinesParseUptoSaid : Prop := linesParseUptoRow.holds Tryd.pinned (OpenSpec.upto linesParseSpec)

/-- 'matinslaw7.LinesPrint', WHERE WHAT IT READS IS OF BULK AT MOST 1048576: true; the input reads as it did. -/
def linesPrintUptoRow : OpenClaim := { program := "ythgpocbmkmmecaadoor", sum := "76417b3b2e85c32082ae0b3adf1cdac1910b59064dcc7fb1ecbc964325c72945", func := "matins/matinslaw7.LinesPrint", spec := "linesPrint", inPlace := ["internal/bytealg.IndexByteString", "internal/bytealg.IndexString", "internal/abi.NoEscape"], unfollowed := true, recurses := true, named := ["internal/bytealg.MaxLen", "unicode/utf8.first", "unicode/utf8.acceptRanges"], apart := false, laid := [("unicode/utf8.acceptRanges", laid_unicode_utf8_acceptRanges), ("unicode/utf8.first", laid_unicode_utf8_first)], narrowed := true }
def LinesPrintUptoSaid : Prop := linesPrintUptoRow.holds Tryd.pinned (OpenSpec.upto linesPrintSpec)

/-- 'matinslaw7.LinesTurn', WHERE WHAT IT READS IS OF BULK AT MOST 1048576: true; the input reads as it did. -/
def linesTurnUptoRow : OpenClaim := { program := "ythgpocbmkmmecaadoor", sum := "76417b3b2e85c32082ae0b3adf1cdac1910b59064dcc7fb1ecbc964325c72945", func := "matins/matinslaw7.LinesTurn", spec := "linesTurn", inPlace := ["internal/bytealg.IndexByteString", "internal/bytealg.IndexString", "internal/abi.NoEscape"], unfollowed := true, recurses := true, named := ["internal/bytealg.MaxLen", "unicode/utf8.first", "unicode/utf8.acceptRanges"], apart := false, laid := [("unicode/utf8.acceptRanges", laid_unicode_utf8_acceptRanges), ("unicode/utf8.first", laid_unicode_utf8_first)], narrowed := true }
def LinesTurnUptoSaid : Prop := linesTurnUptoRow.holds Tryd.pinned (OpenSpec.upto linesTurnSpec)

/-- 'matinslaw7.LinesBack', WHERE WHAT IT READS IS OF BULK AT MOST 1048576: true; the input reads as it did. -/
def linesBackUptoRow : OpenClaim := { program := "ythgpocbmkmmecaadoor", sum := "76417b3b2e85c32082ae0b3adf1cdac1910b59064dcc7fb1ecbc964325c72945", func := "matins/matinslaw7.LinesBack", spec := "linesBack", inPlace := ["internal/bytealg.IndexByteString", "internal/bytealg.IndexString", "internal/abi.NoEscape"], unfollowed := true, recurses := true, named := ["internal/bytealg.MaxLen", "unicode/utf8.first", "unicode/utf8.acceptRanges"], apart := false, laid := [("unicode/utf8.acceptRanges", laid_unicode_utf8_acceptRanges), ("unicode/utf8.first", laid_unicode_utf8_first)], narrowed := true }
def LinesBackUptoSaid : Prop := linesBackUptoRow.holds Tryd.pinned (OpenSpec.upto linesBackSpec)

/-- 'matinslaw7.LinesRemarks', WHERE WHAT IT READS IS OF BULK AT MOST 1048576: true; the input reads as it did. -/
def linesRemarksUptoRow : OpenClaim := { program := "ythgpocbmkmmecaadoor", sum := "76417b3b2e85c32082ae0b3adf1cdac1910b59064dcc7fb1ecbc964325c72945", func := "matins/matinslaw7.LinesRemarks", spec := "linesRemarks", inPlace := ["internal/bytealg.IndexByteString", "internal/bytealg.IndexString", "internal/abi.NoEscape"], unfollowed := true, recurses := true, named := ["internal/bytealg.MaxLen", "unicode/utf8.first", "unicode/utf8.acceptRanges"], apart := false, laid := [("unicode/utf8.acceptRanges", laid_unicode_utf8_acceptRanges), ("unicode/utf8.first", laid_unicode_utf8_first)], narrowed := true }
def LinesRemarksUptoSaid : Prop := linesRemarksUptoRow.holds Tryd.pinned (OpenSpec.upto linesRemarksSpec)

/-- 'matinslaw7.LinesWrong', WHERE WHAT IT READS IS OF BULK AT MOST 1048576: true; the input reads as it did. -/
def linesWrongUptoRow : OpenClaim := { program := "ythgpocbmkmmecaadoor", sum := "76417b3b2e85c32082ae0b3adf1cdac1910b59064dcc7fb1ecbc964325c72945", func := "matins/matinslaw7.LinesWrong", spec := "linesWrong", inPlace := ["internal/bytealg.IndexByteString", "internal/bytealg.IndexString", "internal/abi.NoEscape"], unfollowed := true, recurses := true, named := ["internal/bytealg.MaxLen", "unicode/utf8.first", "unicode/utf8.acceptRanges"], apart := false, laid := [("unicode/utf8.acceptRanges", laid_unicode_utf8_acceptRanges), ("unicode/utf8.first", laid_unicode_utf8_first)], narrowed := true }
def LinesWrongUptoSaid : Prop := linesWrongUptoRow.holds Tryd.pinned (OpenSpec.upto linesWrongSpec)

/-- 'matinslaw7.LinesPrefix', WHERE WHAT IT READS IS OF BULK AT MOST 1048576: true; the input reads as it did. -/
def linesPrefixUptoRow : OpenClaim := { program := "ythgpocbmkmmecaadoor", sum := "76417b3b2e85c32082ae0b3adf1cdac1910b59064dcc7fb1ecbc964325c72945", func := "matins/matinslaw7.LinesPrefix", spec := "linesPrefix", inPlace := ["internal/bytealg.IndexByteString", "internal/bytealg.IndexString", "internal/abi.NoEscape"], unfollowed := true, recurses := true, named := ["internal/bytealg.MaxLen", "unicode/utf8.first", "unicode/utf8.acceptRanges"], apart := false, laid := [("unicode/utf8.acceptRanges", laid_unicode_utf8_acceptRanges), ("unicode/utf8.first", laid_unicode_utf8_first)], narrowed := true }
def LinesPrefixUptoSaid : Prop := linesPrefixUptoRow.holds Tryd.pinned (OpenSpec.upto linesPrefixSpec)

end Rows
end Go.Proofs.YthgpocbmkmmecaaDoor
