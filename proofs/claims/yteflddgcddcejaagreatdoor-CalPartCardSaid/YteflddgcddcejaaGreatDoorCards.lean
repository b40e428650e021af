/-
  DERIVED. GIVEN WITH THE SEED: THE CARDS: each row of YteflddgcddcejaaGreatDoorRows.lean that lists a variable, with what it lists TIED to the program's text (the seventh form; the later family's looks); each row that meets fmt, with fmt's text TOLD by the authors' own Lean function (tested against real Go, not proved from fmt's source: count such statements apart). THE CARD IS WHAT COUNTS. Prove the row's statement (the work); the ties are given (YteflddgcddcejaaGreatDoorTie.lean); close each card by the builder's one call (the guide's Derived/Test/ToyasCard.lean, 'card_holds'). Laid BY PROGRAM, IN A SANDBOX (cutbox-door.mjs). By AI agents, Wed Nov 11 2026. No macro, syntax, notation, axiom, sorry.
-/
import Derived.Test.YteflddgcddcejaaGreatDoorRows
import GoSem.ClaimSeven
namespace Go.Proofs.YteflddgcddcejaaGreatDoor
namespace Rows

/-- THE TIED CARD OF 'matinslaw4.CalParse'. -/
def calParseCard : Claim7 := { stood := { row := calParseRow, standIns := [], harness := (true, "8e3c83da69923bfa98eaaafb8b561774c370a91a45cc43144321fa1c52ac3883"), looks := false }, kinds := [], alts := [], laidByText := true, laidKinds := [.data, .data, .data, .data, .data, .data, .data, .pinned], laidTests := true, laidLooks := .later }
def CalParseCardSaid : Prop := Claim7.holds Tryz.pinned (.plain (OpenSpec.ofChange calParseSpec)) calParseCard

/-- THE TIED CARD OF 'matinslaw4.CalNext'. -/
def calNextCard : Claim7 := { stood := { row := calNextRow, standIns := [], harness := (true, "8e3c83da69923bfa98eaaafb8b561774c370a91a45cc43144321fa1c52ac3883"), looks := false }, kinds := [], alts := [], laidByText := true, laidKinds := [.data, .data, .data, .data, .data, .data, .data, .pinned], laidTests := true, laidLooks := .later }
def CalNextCardSaid : Prop := Claim7.holds Tryz.pinned (.plain (OpenSpec.ofChange calNextSpec)) calNextCard

/-- THE TIED CARD OF 'matinslaw4.CalPart'. -/
def calPartCard : Claim7 := { stood := { row := calPartRow, standIns := [], harness := (true, "8e3c83da69923bfa98eaaafb8b561774c370a91a45cc43144321fa1c52ac3883"), looks := false }, kinds := [], alts := [], laidByText := true, laidKinds := [.data, .data, .data, .data, .data, .data, .data, .pinned], laidTests := true, laidLooks := .later }
def CalPartCardSaid : Prop := Claim7.holds Tryz.pinned (.plain (OpenSpec.ofChange calPartSpec)) calPartCard

/-- THE TIED CARD OF 'matinslaw4.CalUnion'. -/
def calUnionCard : Claim7 := { stood := { row := calUnionRow, standIns := [], harness := (true, "8e3c83da69923bfa98eaaafb8b561774c370a91a45cc43144321fa1c52ac3883"), looks := false }, kinds := [], alts := [], laidByText := true, laidKinds := [.data, .data, .data, .data, .data, .data, .data, .pinned], laidTests := true, laidLooks := .later }
def CalUnionCardSaid : Prop := Claim7.holds Tryz.pinned (.plain (OpenSpec.ofChange calUnionSpec)) calUnionCard

/-- THE SECOND FORM's CARD OF 'matinslaw4.CalParse'. -/
def calParseUptoCard : Claim7 := { stood := { row := calParseUptoRow, standIns := [], harness := (true, "8e3c83da69923bfa98eaaafb8b561774c370a91a45cc43144321fa1c52ac3883"), looks := false }, kinds := [], alts := [], laidByText := true, laidKinds := [.data, .data, .data, .data, .data, .data, .data, .pinned], laidTests := true, laidLooks := .later }
def CalParseUptoCardSaid : Prop := Claim7.holds Tryz.pinned (.plain (OpenSpec.upto calParseSpec)) calParseUptoCard

/-- THE SECOND FORM's CARD OF 'matinslaw4.CalNext'. -/
def calNextUptoCard : Claim7 := { stood := { row := calNextUptoRow, standIns := [], harness := (true, "8e3c83da69923bfa98eaaafb8b561774c370a91a45cc43144321fa1c52ac3883"), looks := false }, kinds := [], alts := [], laidByText := true, laidKinds := [.data, .data, .data, .data, .data, .data, .data, .pinned], laidTests := true, laidLooks := .later }
def CalNextUptoCardSaid : Prop := Claim7.holds Tryz.pinned (.plain (OpenSpec.upto calNextSpec)) calNextUptoCard

/-- THE SECOND FORM's CARD OF 'matinslaw4.CalPart'. -/
def calPartUptoCard : Claim7 := { stood := { row := calPartUptoRow, standIns := [], harness := (true, "8e3c83da69923bfa98eaaafb8b561774c370a91a45cc43144321fa1c52ac3883"), looks := false }, kinds := [], alts := [], laidByText := true, laidKinds := [.data, .data, .data, .data, .data, .data, .data, .pinned], laidTests := true, laidLooks := .later }
def CalPartUptoCardSaid : Prop := Claim7.holds Tryz.pinned (.plain (OpenSpec.upto calPartSpec)) calPartUptoCard

/-- THE SECOND FORM's CARD OF 'matinslaw4.CalUnion'. -/
def calUnionUptoCard : Claim7 := { stood := { row := calUnionUptoRow, standIns := [], harness := (true, "8e3c83da69923bfa98eaaafb8b561774c370a91a45cc43144321fa1c52ac3883"), looks := false }, kinds := [], alts := [], laidByText := true, laidKinds := [.data, .data, .data, .data, .data, .data, .data, .pinned], laidTests := true, laidLooks := .later }
def CalUnionUptoCardSaid : Prop := Claim7.holds Tryz.pinned (.plain (OpenSpec.upto calUnionSpec)) calUnionUptoCard
end Rows
end Go.Proofs.YteflddgcddcejaaGreatDoor
