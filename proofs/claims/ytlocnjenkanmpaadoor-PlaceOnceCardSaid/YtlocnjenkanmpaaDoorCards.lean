/-
  DERIVED. GIVEN WITH THE SEED: THE CARDS: each row of YtlocnjenkanmpaaDoorRows.lean that lists a variable, with what it lists TIED to the program's text (the seventh form; the later family's looks); each row that meets fmt, with fmt's text TOLD by the authors' own Lean function (tested against real Go, not proved from fmt's source: count such statements apart). THE CARD IS WHAT COUNTS. Prove the row's statement (the work); the ties are given (YtlocnjenkanmpaaDoorTie.lean); close each card by the builder's one call (the guide's Derived/Test/ToyasCard.lean, 'card_holds'). Laid BY PROGRAM, IN A SANDBOX (cutbox-door.mjs). By AI agents, Wed Nov 11 2026. No macro, syntax, notation, axiom, sorry.
-/
import Derived.Test.YtlocnjenkanmpaaDoorRows
import GoSem.ClaimSeven
namespace Go.Proofs.YtlocnjenkanmpaaDoor
namespace Rows

/-- THE TIED CARD OF 'parquetrylaw19.PlaceSlots'. -/
def placeSlotsCard : Claim7 := { stood := { row := placeSlotsRow, standIns := [], harness := (true, "15f2f917b7162d6546a3c1fdf4bbff9482936b5ceb45a052df0047ed9c78612d"), looks := false }, kinds := [], alts := [], laidByText := true, laidKinds := [.data], laidTests := true, laidLooks := .later }
def PlaceSlotsCardSaid : Prop := Claim7.holds Tryd.pinned (.plain (OpenSpec.ofChange placeSlotsSpec)) placeSlotsCard

/-- THE TIED CARD OF 'parquetrylaw19.PlaceOnce'. -/
def placeOnceCard : Claim7 := { stood := { row := placeOnceRow, standIns := [], harness := (true, "15f2f917b7162d6546a3c1fdf4bbff9482936b5ceb45a052df0047ed9c78612d"), looks := false }, kinds := [], alts := [], laidByText := true, laidKinds := [.data], laidTests := true, laidLooks := .later }
def PlaceOnceCardSaid : Prop := Claim7.holds Tryd.pinned (.plain (OpenSpec.ofChange placeOnceSpec)) placeOnceCard

/-- THE TIED CARD OF 'parquetrylaw19.PlaceAligns'. -/
def placeAlignsCard : Claim7 := { stood := { row := placeAlignsRow, standIns := [], harness := (true, "15f2f917b7162d6546a3c1fdf4bbff9482936b5ceb45a052df0047ed9c78612d"), looks := false }, kinds := [], alts := [], laidByText := true, laidKinds := [.data], laidTests := true, laidLooks := .later }
def PlaceAlignsCardSaid : Prop := Claim7.holds Tryd.pinned (.plain (OpenSpec.ofChange placeAlignsSpec)) placeAlignsCard

/-- THE TIED CARD OF 'parquetrylaw19.PlacePlain'. -/
def placePlainCard : Claim7 := { stood := { row := placePlainRow, standIns := [], harness := (true, "15f2f917b7162d6546a3c1fdf4bbff9482936b5ceb45a052df0047ed9c78612d"), looks := false }, kinds := [], alts := [], laidByText := true, laidKinds := [.data], laidTests := true, laidLooks := .later }
def PlacePlainCardSaid : Prop := Claim7.holds Tryd.pinned (.plain (OpenSpec.ofChange placePlainSpec)) placePlainCard

/-- THE SECOND FORM's CARD OF 'parquetrylaw19.PlaceSlots'. -/
def placeSlotsUptoCard : Claim7 := { stood := { row := placeSlotsUptoRow, standIns := [], harness := (true, "15f2f917b7162d6546a3c1fdf4bbff9482936b5ceb45a052df0047ed9c78612d"), looks := false }, kinds := [], alts := [], laidByText := true, laidKinds := [.data], laidTests := true, laidLooks := .later }
def PlaceSlotsUptoCardSaid : Prop := Claim7.holds Tryd.pinned (.plain (OpenSpec.upto placeSlotsSpec)) placeSlotsUptoCard

/-- THE SECOND FORM's CARD OF 'parquetrylaw19.PlaceOnce'. -/
def placeOnceUptoCard : Claim7 := { stood := { row := placeOnceUptoRow, standIns := [], harness := (true, "15f2f917b7162d6546a3c1fdf4bbff9482936b5ceb45a052df0047ed9c78612d"), looks := false }, kinds := [], alts := [], laidByText := true, laidKinds := [.data], laidTests := true, laidLooks := .later }
def PlaceOnceUptoCardSaid : Prop := Claim7.holds Tryd.pinned (.plain (OpenSpec.upto placeOnceSpec)) placeOnceUptoCard

/-- THE SECOND FORM's CARD OF 'parquetrylaw19.PlaceAligns'. -/
def placeAlignsUptoCard : Claim7 := { stood := { row := placeAlignsUptoRow, standIns := [], harness := (true, "15f2f917b7162d6546a3c1fdf4bbff9482936b5ceb45a052df0047ed9c78612d"), looks := false }, kinds := [], alts := [], laidByText := true, laidKinds := [.data], laidTests := true, laidLooks := .later }
def PlaceAlignsUptoCardSaid : Prop := Claim7.holds Tryd.pinned (.plain (OpenSpec.upto placeAlignsSpec)) placeAlignsUptoCard

/-- THE SECOND FORM's CARD OF 'parquetrylaw19.PlacePlain'. -/
def placePlainUptoCard : Claim7 := { stood := { row := placePlainUptoRow, standIns := [], harness := (true, "15f2f917b7162d6546a3c1fdf4bbff9482936b5ceb45a052df0047ed9c78612d"), looks := false }, kinds := [], alts := [], laidByText := true, laidKinds := [.data], laidTests := true, laidLooks := .later }
def PlacePlainUptoCardSaid : Prop := Claim7.holds Tryd.pinned (.plain (OpenSpec.upto placePlainSpec)) placePlainUptoCard
end Rows
end Go.Proofs.YtlocnjenkanmpaaDoor
