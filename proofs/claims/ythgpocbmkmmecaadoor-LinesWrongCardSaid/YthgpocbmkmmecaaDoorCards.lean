/-
  DERIVED. GIVEN WITH THE SEED: THE CARDS: each row of YthgpocbmkmmecaaDoorRows.lean that lists a variable, with what it lists TIED to the program's text (the seventh form; the later family's looks); each row that meets fmt, with fmt's text TOLD by the authors' own Lean function (tested against real Go, not proved from fmt's source: count such statements apart). THE CARD IS WHAT COUNTS. Prove the row's statement (the work); the ties are given (YthgpocbmkmmecaaDoorTie.lean); close each card by the builder's one call (the guide's Derived/Test/ToyasCard.lean, 'card_holds'). Laid BY PROGRAM, IN A SANDBOX (cutbox-door.mjs). By AI agents, Wed Nov 11 2026. No macro, syntax, notation, axiom, sorry.
-/
import Derived.Test.YthgpocbmkmmecaaDoorRows
import GoSem.ClaimSeven
namespace Go.Proofs.YthgpocbmkmmecaaDoor
namespace Rows

/-- THE TIED CARD OF 'matinslaw7.LinesParse'. -/
def linesParseCard : Claim7 := { stood := { row := linesParseRow, standIns := [], harness := (true, "2873b8aa0024fc477bd4d672bc98ac77ad3b11a3cf40ae433b098e4fc7b069a8"), looks := false }, kinds := [], alts := [], laidByText := true, laidKinds := [.data, .pinned], laidTests := true, laidLooks := .later }
def LinesParseCardSaid : Prop := Claim7.holds Tryd.pinned (.plain (OpenSpec.ofChange linesParseSpec)) linesParseCard

/-- THE TIED CARD OF 'matinslaw7.LinesPrint'. -/
def linesPrintCard : Claim7 := { stood := { row := linesPrintRow, standIns := [], harness := (true, "2873b8aa0024fc477bd4d672bc98ac77ad3b11a3cf40ae433b098e4fc7b069a8"), looks := false }, kinds := [], alts := [], laidByText := true, laidKinds := [.data, .pinned], laidTests := true, laidLooks := .later }
def LinesPrintCardSaid : Prop := Claim7.holds Tryd.pinned (.plain (OpenSpec.ofChange linesPrintSpec)) linesPrintCard

/-- THE TIED CARD OF 'matinslaw7.LinesTurn'. -/
def linesTurnCard : Claim7 := { stood := { row := linesTurnRow, standIns := [], harness := (true, "2873b8aa0024fc477bd4d672bc98ac77ad3b11a3cf40ae433b098e4fc7b069a8"), looks := false }, kinds := [], alts := [], laidByText := true, laidKinds := [.data, .pinned], laidTests := true, laidLooks := .later }
def LinesTurnCardSaid : Prop := Claim7.holds Tryd.pinned (.plain (OpenSpec.ofChange linesTurnSpec)) linesTurnCard

/-- THE TIED CARD OF 'matinslaw7.LinesBack'. -/
def linesBackCard : Claim7 := { stood := { row := linesBackRow, standIns := [], harness := (true, "2873b8aa0024fc477bd4d672bc98ac77ad3b11a3cf40ae433b098e4fc7b069a8"), looks := false }, kinds := [], alts := [], laidByText := true, laidKinds := [.data, .pinned], laidTests := true, laidLooks := .later }
def LinesBackCardSaid : Prop := Claim7.holds Tryd.pinned (.plain (OpenSpec.ofChange linesBackSpec)) linesBackCard

/-- THE TIED CARD OF 'matinslaw7.LinesRemarks'. -/
def linesRemarksCard : Claim7 := { stood := { row := linesRemarksRow, standIns := [], harness := (true, "2873b8aa0024fc477bd4d672bc98ac77ad3b11a3cf40ae433b098e4fc7b069a8"), looks := false }, kinds := [], alts := [], laidByText := true, laidKinds := [.data, .pinned], laidTests := true, laidLooks := .later }
def LinesRemarksCardSaid : Prop := Claim7.holds Tryd.pinned (.plain (OpenSpec.ofChange linesRemarksSpec)) linesRemarksCard

/-- THE TIED CARD OF 'matinslaw7.LinesWrong'. -/
def linesWrongCard : Claim7 := { stood := { row := linesWrongRow, standIns := [], harness := (true, "2873b8aa0024fc477bd4d672bc98ac77ad3b11a3cf40ae433b098e4fc7b069a8"), looks := false }, kinds := [], alts := [], laidByText := true, laidKinds := [.data, .pinned], laidTests := true, laidLooks := .later }
def LinesWrongCardSaid : Prop := Claim7.holds Tryd.pinned (.plain (OpenSpec.ofChange linesWrongSpec)) linesWrongCard

/-- THE TIED CARD OF 'matinslaw7.LinesPrefix'. -/
def linesPrefixCard : Claim7 := { stood := { row := linesPrefixRow, standIns := [], harness := (true, "2873b8aa0024fc477bd4d672bc98ac77ad3b11a3cf40ae433b098e4fc7b069a8"), looks := false }, kinds := [], alts := [], laidByText := true, laidKinds := [.data, .pinned], laidTests := true, laidLooks := .later }
def LinesPrefixCardSaid : Prop := Claim7.holds Tryd.pinned (.plain (OpenSpec.ofChange linesPrefixSpec)) linesPrefixCard

/-- THE SECOND FORM's CARD OF 'matinslaw7.LinesParse'. -/
def linesParseUptoCard : Claim7 := { stood := { row := linesParseUptoRow, standIns := [], harness := (true, "2873b8aa0024fc477bd4d672bc98ac77ad3b11a3cf40ae433b098e4fc7b069a8"), looks := false }, kinds := [], alts := [], laidByText := true, laidKinds := [.data, .pinned], laidTests := true, laidLooks := .later }
def LinesParseUptoCardSaid : Prop := Claim7.holds Tryd.pinned (.plain (OpenSpec.upto linesParseSpec)) linesParseUptoCard

/-- THE SECOND FORM's CARD OF 'matinslaw7.LinesPrint'. -/
def linesPrintUptoCard : Claim7 := { stood := { row := linesPrintUptoRow, standIns := [], harness := (true, "2873b8aa0024fc477bd4d672bc98ac77ad3b11a3cf40ae433b098e4fc7b069a8"), looks := false }, kinds := [], alts := [], laidByText := true, laidKinds := [.data, .pinned], laidTests := true, laidLooks := .later }
def LinesPrintUptoCardSaid : Prop := Claim7.holds Tryd.pinned (.plain (OpenSpec.upto linesPrintSpec)) linesPrintUptoCard

/-- THE SECOND FORM's CARD OF 'matinslaw7.LinesTurn'. -/
def linesTurnUptoCard : Claim7 := { stood := { row := linesTurnUptoRow, standIns := [], harness := (true, "2873b8aa0024fc477bd4d672bc98ac77ad3b11a3cf40ae433b098e4fc7b069a8"), looks := false }, kinds := [], alts := [], laidByText := true, laidKinds := [.data, .pinned], laidTests := true, laidLooks := .later }
def LinesTurnUptoCardSaid : Prop := Claim7.holds Tryd.pinned (.plain (OpenSpec.upto linesTurnSpec)) linesTurnUptoCard

/-- THE SECOND FORM's CARD OF 'matinslaw7.LinesBack'. -/
def linesBackUptoCard : Claim7 := { stood := { row := linesBackUptoRow, standIns := [], harness := (true, "2873b8aa0024fc477bd4d672bc98ac77ad3b11a3cf40ae433b098e4fc7b069a8"), looks := false }, kinds := [], alts := [], laidByText := true, laidKinds := [.data, .pinned], laidTests := true, laidLooks := .later }
def LinesBackUptoCardSaid : Prop := Claim7.holds Tryd.pinned (.plain (OpenSpec.upto linesBackSpec)) linesBackUptoCard

/-- THE SECOND FORM's CARD OF 'matinslaw7.LinesRemarks'. -/
def linesRemarksUptoCard : Claim7 := { stood := { row := linesRemarksUptoRow, standIns := [], harness := (true, "2873b8aa0024fc477bd4d672bc98ac77ad3b11a3cf40ae433b098e4fc7b069a8"), looks := false }, kinds := [], alts := [], laidByText := true, laidKinds := [.data, .pinned], laidTests := true, laidLooks := .later }
def LinesRemarksUptoCardSaid : Prop := Claim7.holds Tryd.pinned (.plain (OpenSpec.upto linesRemarksSpec)) linesRemarksUptoCard

/-- THE SECOND FORM's CARD OF 'matinslaw7.LinesWrong'. -/
def linesWrongUptoCard : Claim7 := { stood := { row := linesWrongUptoRow, standIns := [], harness := (true, "2873b8aa0024fc477bd4d672bc98ac77ad3b11a3cf40ae433b098e4fc7b069a8"), looks := false }, kinds := [], alts := [], laidByText := true, laidKinds := [.data, .pinned], laidTests := true, laidLooks := .later }
def LinesWrongUptoCardSaid : Prop := Claim7.holds Tryd.pinned (.plain (OpenSpec.upto linesWrongSpec)) linesWrongUptoCard

/-- THE SECOND FORM's CARD OF 'matinslaw7.LinesPrefix'. -/
def linesPrefixUptoCard : Claim7 := { stood := { row := linesPrefixUptoRow, standIns := [], harness := (true, "2873b8aa0024fc477bd4d672bc98ac77ad3b11a3cf40ae433b098e4fc7b069a8"), looks := false }, kinds := [], alts := [], laidByText := true, laidKinds := [.data, .pinned], laidTests := true, laidLooks := .later }
def LinesPrefixUptoCardSaid : Prop := Claim7.holds Tryd.pinned (.plain (OpenSpec.upto linesPrefixSpec)) linesPrefixUptoCard
end Rows
end Go.Proofs.YthgpocbmkmmecaaDoor
