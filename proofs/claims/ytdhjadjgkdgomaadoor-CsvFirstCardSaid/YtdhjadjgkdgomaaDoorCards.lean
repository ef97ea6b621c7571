/-
  DERIVED. GIVEN WITH THE SEED: THE CARDS: each row of YtdhjadjgkdgomaaDoorRows.lean that lists a variable, with what it lists TIED to the program's text (the seventh form; the later family's looks); each row that meets fmt, with fmt's text TOLD by the authors' own Lean function (tested against real Go, not proved from fmt's source: count such statements apart). THE CARD IS WHAT COUNTS. Prove the row's statement (the work); the ties are given (YtdhjadjgkdgomaaDoorTie.lean); close each card by the builder's one call (the guide's Derived/Test/ToyasCard.lean, 'card_holds'). Laid BY PROGRAM, IN A SANDBOX (cutbox-door.mjs). By AI agents, Wed Nov 11 2026. No macro, syntax, notation, axiom, sorry.
-/
import Derived.Test.YtdhjadjgkdgomaaDoorRows
import GoSem.ClaimSeven
namespace Go.Proofs.YtdhjadjgkdgomaaDoor
namespace Rows

/-- THE TIED CARD OF 'parquetrylaw07.CsvParses'. -/
def csvParsesCard : Claim7 := { stood := { row := csvParsesRow, standIns := [], harness := (true, "70d7b8067d62b9ef9073b90744f4a4782b950ab5ded6e2d3eeb41ea9a8151f78"), looks := false }, kinds := [], alts := [], laidByText := true, laidKinds := [.data, .pinned], laidTests := true, laidLooks := .later }
def CsvParsesCardSaid : Prop := Claim7.holds Tryd.pinned (.plain (OpenSpec.ofChange csvParsesSpec)) csvParsesCard

/-- THE TIED CARD OF 'parquetrylaw07.CsvFirst'. -/
def csvFirstCard : Claim7 := { stood := { row := csvFirstRow, standIns := [], harness := (true, "70d7b8067d62b9ef9073b90744f4a4782b950ab5ded6e2d3eeb41ea9a8151f78"), looks := false }, kinds := [], alts := [], laidByText := true, laidKinds := [.data, .pinned], laidTests := true, laidLooks := .later }
def CsvFirstCardSaid : Prop := Claim7.holds Tryd.pinned (.plain (OpenSpec.ofChange csvFirstSpec)) csvFirstCard

/-- THE TIED CARD OF 'parquetrylaw07.CsvJoins'. -/
def csvJoinsCard : Claim7 := { stood := { row := csvJoinsRow, standIns := [], harness := (true, "70d7b8067d62b9ef9073b90744f4a4782b950ab5ded6e2d3eeb41ea9a8151f78"), looks := false }, kinds := [], alts := [], laidByText := true, laidKinds := [.data, .pinned], laidTests := true, laidLooks := .later }
def CsvJoinsCardSaid : Prop := Claim7.holds Tryd.pinned (.plain (OpenSpec.ofChange csvJoinsSpec)) csvJoinsCard

/-- THE SECOND FORM's CARD OF 'parquetrylaw07.CsvParses'. -/
def csvParsesUptoCard : Claim7 := { stood := { row := csvParsesUptoRow, standIns := [], harness := (true, "70d7b8067d62b9ef9073b90744f4a4782b950ab5ded6e2d3eeb41ea9a8151f78"), looks := false }, kinds := [], alts := [], laidByText := true, laidKinds := [.data, .pinned], laidTests := true, laidLooks := .later }
def CsvParsesUptoCardSaid : Prop := Claim7.holds Tryd.pinned (.plain (OpenSpec.upto csvParsesSpec)) csvParsesUptoCard

/-- THE SECOND FORM's CARD OF 'parquetrylaw07.CsvFirst'. -/
def csvFirstUptoCard : Claim7 := { stood := { row := csvFirstUptoRow, standIns := [], harness := (true, "70d7b8067d62b9ef9073b90744f4a4782b950ab5ded6e2d3eeb41ea9a8151f78"), looks := false }, kinds := [], alts := [], laidByText := true, laidKinds := [.data, .pinned], laidTests := true, laidLooks := .later }
def CsvFirstUptoCardSaid : Prop := Claim7.holds Tryd.pinned (.plain (OpenSpec.upto csvFirstSpec)) csvFirstUptoCard

/-- THE SECOND FORM's CARD OF 'parquetrylaw07.CsvJoins'. -/
def csvJoinsUptoCard : Claim7 := { stood := { row := csvJoinsUptoRow, standIns := [], harness := (true, "70d7b8067d62b9ef9073b90744f4a4782b950ab5ded6e2d3eeb41ea9a8151f78"), looks := false }, kinds := [], alts := [], laidByText := true, laidKinds := [.data, .pinned], laidTests := true, laidLooks := .later }
def CsvJoinsUptoCardSaid : Prop := Claim7.holds Tryd.pinned (.plain (OpenSpec.upto csvJoinsSpec)) csvJoinsUptoCard
end Rows
end Go.Proofs.YtdhjadjgkdgomaaDoor
