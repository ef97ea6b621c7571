/-
  DERIVED. GIVEN WITH THE SEED: THE CARDS: each row of YtkhhfodbldemeaaDoorRows.lean that lists a variable, with what it lists TIED to the program's text (the seventh form; the later family's looks); each row that meets fmt, with fmt's text TOLD by the authors' own Lean function (tested against real Go, not proved from fmt's source: count such statements apart). THE CARD IS WHAT COUNTS. Prove the row's statement (the work); the ties are given (YtkhhfodbldemeaaDoorTie.lean); close each card by the builder's one call (the guide's Derived/Test/ToyasCard.lean, 'card_holds'). Laid BY PROGRAM, IN A SANDBOX (cutbox-door.mjs). By AI agents, Wed Nov 11 2026. No macro, syntax, notation, axiom, sorry.
-/
import Derived.Test.YtkhhfodbldemeaaDoorRows
import GoSem.ClaimSeven
namespace Go.Proofs.YtkhhfodbldemeaaDoor
namespace Rows

/-- THE TIED CARD OF 'parquetrylaw15.NeutralSettles'. -/
def neutralSettlesCard : Claim7 := { stood := { row := neutralSettlesRow, standIns := [], harness := (true, "840f1c67af3e153f943a0914da229d03cc3e8ef09a9798dbdb7d3fac22e2053f"), looks := false }, kinds := [], alts := [], laidByText := true, laidKinds := [.data, .data, .pinned], laidTests := true, laidLooks := .later }
def NeutralSettlesCardSaid : Prop := Claim7.holds Tryd.pinned (.plain (OpenSpec.ofChange neutralSettlesSpec)) neutralSettlesCard

/-- THE TIED CARD OF 'parquetrylaw15.NeutralLevels'. -/
def neutralLevelsCard : Claim7 := { stood := { row := neutralLevelsRow, standIns := [], harness := (true, "840f1c67af3e153f943a0914da229d03cc3e8ef09a9798dbdb7d3fac22e2053f"), looks := false }, kinds := [], alts := [], laidByText := true, laidKinds := [.data, .data, .pinned], laidTests := true, laidLooks := .later }
def NeutralLevelsCardSaid : Prop := Claim7.holds Tryd.pinned (.plain (OpenSpec.ofChange neutralLevelsSpec)) neutralLevelsCard

/-- THE TIED CARD OF 'parquetrylaw15.NeutralLeaves'. -/
def neutralLeavesCard : Claim7 := { stood := { row := neutralLeavesRow, standIns := [], harness := (true, "840f1c67af3e153f943a0914da229d03cc3e8ef09a9798dbdb7d3fac22e2053f"), looks := false }, kinds := [], alts := [], laidByText := true, laidKinds := [.data, .data, .pinned], laidTests := true, laidLooks := .later }
def NeutralLeavesCardSaid : Prop := Claim7.holds Tryd.pinned (.plain (OpenSpec.ofChange neutralLeavesSpec)) neutralLeavesCard

/-- THE TIED CARD OF 'parquetrylaw15.NeutralParts'. -/
def neutralPartsCard : Claim7 := { stood := { row := neutralPartsRow, standIns := [], harness := (true, "840f1c67af3e153f943a0914da229d03cc3e8ef09a9798dbdb7d3fac22e2053f"), looks := false }, kinds := [], alts := [], laidByText := true, laidKinds := [.data, .data, .pinned], laidTests := true, laidLooks := .later }
def NeutralPartsCardSaid : Prop := Claim7.holds Tryd.pinned (.plain (OpenSpec.ofChange neutralPartsSpec)) neutralPartsCard

/-- THE TIED CARD OF 'parquetrylaw15.NeutralTurns'. -/
def neutralTurnsCard : Claim7 := { stood := { row := neutralTurnsRow, standIns := [], harness := (true, "840f1c67af3e153f943a0914da229d03cc3e8ef09a9798dbdb7d3fac22e2053f"), looks := false }, kinds := [], alts := [], laidByText := true, laidKinds := [.data, .data, .pinned], laidTests := true, laidLooks := .later }
def NeutralTurnsCardSaid : Prop := Claim7.holds Tryd.pinned (.plain (OpenSpec.ofChange neutralTurnsSpec)) neutralTurnsCard

/-- THE TIED CARD OF 'parquetrylaw15.NeutralEven'. -/
def neutralEvenCard : Claim7 := { stood := { row := neutralEvenRow, standIns := [], harness := (true, "840f1c67af3e153f943a0914da229d03cc3e8ef09a9798dbdb7d3fac22e2053f"), looks := false }, kinds := [], alts := [], laidByText := true, laidKinds := [.data, .data, .pinned], laidTests := true, laidLooks := .later }
def NeutralEvenCardSaid : Prop := Claim7.holds Tryd.pinned (.plain (OpenSpec.ofChange neutralEvenSpec)) neutralEvenCard

/-- THE SECOND FORM's CARD OF 'parquetrylaw15.NeutralSettles'. -/
def neutralSettlesUptoCard : Claim7 := { stood := { row := neutralSettlesUptoRow, standIns := [], harness := (true, "840f1c67af3e153f943a0914da229d03cc3e8ef09a9798dbdb7d3fac22e2053f"), looks := false }, kinds := [], alts := [], laidByText := true, laidKinds := [.data, .data, .pinned], laidTests := true, laidLooks := .later }
def NeutralSettlesUptoCardSaid : Prop := Claim7.holds Tryd.pinned (.plain (OpenSpec.upto neutralSettlesSpec)) neutralSettlesUptoCard

/-- THE SECOND FORM's CARD OF 'parquetrylaw15.NeutralLevels'. -/
def neutralLevelsUptoCard : Claim7 := { stood := { row := neutralLevelsUptoRow, standIns := [], harness := (true, "840f1c67af3e153f943a0914da229d03cc3e8ef09a9798dbdb7d3fac22e2053f"), looks := false }, kinds := [], alts := [], laidByText := true, laidKinds := [.data, .data, .pinned], laidTests := true, laidLooks := .later }
def NeutralLevelsUptoCardSaid : Prop := Claim7.holds Tryd.pinned (.plain (OpenSpec.upto neutralLevelsSpec)) neutralLevelsUptoCard

/-- THE SECOND FORM's CARD OF 'parquetrylaw15.NeutralLeaves'. -/
def neutralLeavesUptoCard : Claim7 := { stood := { row := neutralLeavesUptoRow, standIns := [], harness := (true, "840f1c67af3e153f943a0914da229d03cc3e8ef09a9798dbdb7d3fac22e2053f"), looks := false }, kinds := [], alts := [], laidByText := true, laidKinds := [.data, .data, .pinned], laidTests := true, laidLooks := .later }
def NeutralLeavesUptoCardSaid : Prop := Claim7.holds Tryd.pinned (.plain (OpenSpec.upto neutralLeavesSpec)) neutralLeavesUptoCard

/-- THE SECOND FORM's CARD OF 'parquetrylaw15.NeutralParts'. -/
def neutralPartsUptoCard : Claim7 := { stood := { row := neutralPartsUptoRow, standIns := [], harness := (true, "840f1c67af3e153f943a0914da229d03cc3e8ef09a9798dbdb7d3fac22e2053f"), looks := false }, kinds := [], alts := [], laidByText := true, laidKinds := [.data, .data, .pinned], laidTests := true, laidLooks := .later }
def NeutralPartsUptoCardSaid : Prop := Claim7.holds Tryd.pinned (.plain (OpenSpec.upto neutralPartsSpec)) neutralPartsUptoCard

/-- THE SECOND FORM's CARD OF 'parquetrylaw15.NeutralTurns'. -/
def neutralTurnsUptoCard : Claim7 := { stood := { row := neutralTurnsUptoRow, standIns := [], harness := (true, "840f1c67af3e153f943a0914da229d03cc3e8ef09a9798dbdb7d3fac22e2053f"), looks := false }, kinds := [], alts := [], laidByText := true, laidKinds := [.data, .data, .pinned], laidTests := true, laidLooks := .later }
def NeutralTurnsUptoCardSaid : Prop := Claim7.holds Tryd.pinned (.plain (OpenSpec.upto neutralTurnsSpec)) neutralTurnsUptoCard

/-- THE SECOND FORM's CARD OF 'parquetrylaw15.NeutralEven'. -/
def neutralEvenUptoCard : Claim7 := { stood := { row := neutralEvenUptoRow, standIns := [], harness := (true, "840f1c67af3e153f943a0914da229d03cc3e8ef09a9798dbdb7d3fac22e2053f"), looks := false }, kinds := [], alts := [], laidByText := true, laidKinds := [.data, .data, .pinned], laidTests := true, laidLooks := .later }
def NeutralEvenUptoCardSaid : Prop := Claim7.holds Tryd.pinned (.plain (OpenSpec.upto neutralEvenSpec)) neutralEvenUptoCard
end Rows
end Go.Proofs.YtkhhfodbldemeaaDoor
