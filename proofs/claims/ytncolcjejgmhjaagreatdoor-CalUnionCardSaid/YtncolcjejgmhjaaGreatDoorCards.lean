/-
  DERIVED. GIVEN WITH THE SEED: THE CARDS: each row of YtncolcjejgmhjaaGreatDoorRows.lean that lists a variable, with what it lists TIED to the program's text (the seventh form; the later family's looks); each row that meets fmt, with fmt's text TOLD by the authors' own Lean function (tested against real Go, not proved from fmt's source: count such statements apart). THE CARD IS WHAT COUNTS. Prove the row's statement (the work); the ties are given (YtncolcjejgmhjaaGreatDoorTie.lean); close each card by the builder's one call (the guide's Derived/Test/ToyasCard.lean, 'card_holds'). Laid BY PROGRAM, IN A SANDBOX (cutbox-door.mjs). By AI agents, Wed Nov 11 2026. No macro, syntax, notation, axiom, sorry.
-/
import Derived.Test.YtncolcjejgmhjaaGreatDoorRows
import GoSem.ClaimSeven
namespace Go.Proofs.YtncolcjejgmhjaaGreatDoor
namespace Rows

/-- THE TIED CARD OF 'matinslaw4.CalNext'. -/
def calNextCard : Claim7 := { stood := { row := calNextRow, standIns := [], harness := (true, "9835cf2e51b70a83c4bf51bf48622ea62b2eb372d645c18c8dd97dffbb11fc57"), looks := false }, kinds := [], alts := [], laidByText := true, laidKinds := [.data, .data, .data, .data, .data, .data, .data, .pinned], laidTests := true, laidLooks := .later }
def CalNextCardSaid : Prop := Claim7.holds Tryz.pinned (.plain (OpenSpec.ofChange calNextSpec)) calNextCard

/-- THE TIED CARD OF 'matinslaw4.CalUnion'. -/
def calUnionCard : Claim7 := { stood := { row := calUnionRow, standIns := [], harness := (true, "9835cf2e51b70a83c4bf51bf48622ea62b2eb372d645c18c8dd97dffbb11fc57"), looks := false }, kinds := [], alts := [], laidByText := true, laidKinds := [.data, .data, .data, .data, .data, .data, .data, .pinned], laidTests := true, laidLooks := .later }
def CalUnionCardSaid : Prop := Claim7.holds Tryz.pinned (.plain (OpenSpec.ofChange calUnionSpec)) calUnionCard

/-- THE SECOND FORM's CARD OF 'matinslaw4.CalNext'. -/
def calNextUptoCard : Claim7 := { stood := { row := calNextUptoRow, standIns := [], harness := (true, "9835cf2e51b70a83c4bf51bf48622ea62b2eb372d645c18c8dd97dffbb11fc57"), looks := false }, kinds := [], alts := [], laidByText := true, laidKinds := [.data, .data, .data, .data, .data, .data, .data, .pinned], laidTests := true, laidLooks := .later }
def CalNextUptoCardSaid : Prop := Claim7.holds Tryz.pinned (.plain (OpenSpec.upto calNextSpec)) calNextUptoCard

/-- THE SECOND FORM's CARD OF 'matinslaw4.CalUnion'. -/
def calUnionUptoCard : Claim7 := { stood := { row := calUnionUptoRow, standIns := [], harness := (true, "9835cf2e51b70a83c4bf51bf48622ea62b2eb372d645c18c8dd97dffbb11fc57"), looks := false }, kinds := [], alts := [], laidByText := true, laidKinds := [.data, .data, .data, .data, .data, .data, .data, .pinned], laidTests := true, laidLooks := .later }
def CalUnionUptoCardSaid : Prop := Claim7.holds Tryz.pinned (.plain (OpenSpec.upto calUnionSpec)) calUnionUptoCard
end Rows
end Go.Proofs.YtncolcjejgmhjaaGreatDoor
