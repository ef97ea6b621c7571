/-
  DERIVED. GIVEN WITH THE SEED: THE CARDS: each row of YtapeebnbiappgaaDoorRows.lean that lists a variable, with what it lists TIED to the program's text (the seventh form; the later family's looks); each row that meets fmt, with fmt's text TOLD by the authors' own Lean function (tested against real Go, not proved from fmt's source: count such statements apart). THE CARD IS WHAT COUNTS. Prove the row's statement (the work); the ties are given (YtapeebnbiappgaaDoorTie.lean); close each card by the builder's one call (the guide's Derived/Test/ToyasCard.lean, 'card_holds'). Laid BY PROGRAM, IN A SANDBOX (cutbox-door.mjs). By AI agents, Wed Nov 11 2026. No macro, syntax, notation, axiom, sorry.
-/
import Derived.Test.YtapeebnbiappgaaDoorRows
import GoSem.ClaimSeven
namespace Go.Proofs.YtapeebnbiappgaaDoor
namespace Rows

/-- THE TIED CARD OF 'parquetrylaw14.PairsFound'. -/
def pairsFoundCard : Claim7 := { stood := { row := pairsFoundRow, standIns := [], harness := (true, "5ab8faf20a61821e78c39df3730befa666d67ea68e19ab1afc714c671500d4f5"), looks := false }, kinds := [], alts := [], laidByText := true, laidKinds := [.data, .data, .pinned], laidTests := true, laidLooks := .later }
def PairsFoundCardSaid : Prop := Claim7.holds Tryd.pinned (.plain (OpenSpec.ofChange pairsFoundSpec)) pairsFoundCard

/-- THE TIED CARD OF 'parquetrylaw14.PairsSettle'. -/
def pairsSettleCard : Claim7 := { stood := { row := pairsSettleRow, standIns := [], harness := (true, "5ab8faf20a61821e78c39df3730befa666d67ea68e19ab1afc714c671500d4f5"), looks := false }, kinds := [], alts := [], laidByText := true, laidKinds := [.data, .data, .pinned], laidTests := true, laidLooks := .later }
def PairsSettleCardSaid : Prop := Claim7.holds Tryd.pinned (.plain (OpenSpec.ofChange pairsSettleSpec)) pairsSettleCard

/-- THE TIED CARD OF 'parquetrylaw14.PairsNest'. -/
def pairsNestCard : Claim7 := { stood := { row := pairsNestRow, standIns := [], harness := (true, "5ab8faf20a61821e78c39df3730befa666d67ea68e19ab1afc714c671500d4f5"), looks := false }, kinds := [], alts := [], laidByText := true, laidKinds := [.data, .data, .pinned], laidTests := true, laidLooks := .later }
def PairsNestCardSaid : Prop := Claim7.holds Tryd.pinned (.plain (OpenSpec.ofChange pairsNestSpec)) pairsNestCard

/-- THE TIED CARD OF 'parquetrylaw14.PairsJust'. -/
def pairsJustCard : Claim7 := { stood := { row := pairsJustRow, standIns := [], harness := (true, "5ab8faf20a61821e78c39df3730befa666d67ea68e19ab1afc714c671500d4f5"), looks := false }, kinds := [], alts := [], laidByText := true, laidKinds := [.data, .data, .pinned], laidTests := true, laidLooks := .later }
def PairsJustCardSaid : Prop := Claim7.holds Tryd.pinned (.plain (OpenSpec.ofChange pairsJustSpec)) pairsJustCard

/-- THE TIED CARD OF 'parquetrylaw14.PairsTurn'. -/
def pairsTurnCard : Claim7 := { stood := { row := pairsTurnRow, standIns := [], harness := (true, "5ab8faf20a61821e78c39df3730befa666d67ea68e19ab1afc714c671500d4f5"), looks := false }, kinds := [], alts := [], laidByText := true, laidKinds := [.data, .data, .pinned], laidTests := true, laidLooks := .later }
def PairsTurnCardSaid : Prop := Claim7.holds Tryd.pinned (.plain (OpenSpec.ofChange pairsTurnSpec)) pairsTurnCard

/-- THE SECOND FORM's CARD OF 'parquetrylaw14.PairsFound'. -/
def pairsFoundUptoCard : Claim7 := { stood := { row := pairsFoundUptoRow, standIns := [], harness := (true, "5ab8faf20a61821e78c39df3730befa666d67ea68e19ab1afc714c671500d4f5"), looks := false }, kinds := [], alts := [], laidByText := true, laidKinds := [.data, .data, .pinned], laidTests := true, laidLooks := .later }
def PairsFoundUptoCardSaid : Prop := Claim7.holds Tryd.pinned (.plain (OpenSpec.upto pairsFoundSpec)) pairsFoundUptoCard

/-- THE SECOND FORM's CARD OF 'parquetrylaw14.PairsSettle'. -/
def pairsSettleUptoCard : Claim7 := { stood := { row := pairsSettleUptoRow, standIns := [], harness := (true, "5ab8faf20a61821e78c39df3730befa666d67ea68e19ab1afc714c671500d4f5"), looks := false }, kinds := [], alts := [], laidByText := true, laidKinds := [.data, .data, .pinned], laidTests := true, laidLooks := .later }
def PairsSettleUptoCardSaid : Prop := Claim7.holds Tryd.pinned (.plain (OpenSpec.upto pairsSettleSpec)) pairsSettleUptoCard

/-- THE SECOND FORM's CARD OF 'parquetrylaw14.PairsNest'. -/
def pairsNestUptoCard : Claim7 := { stood := { row := pairsNestUptoRow, standIns := [], harness := (true, "5ab8faf20a61821e78c39df3730befa666d67ea68e19ab1afc714c671500d4f5"), looks := false }, kinds := [], alts := [], laidByText := true, laidKinds := [.data, .data, .pinned], laidTests := true, laidLooks := .later }
def PairsNestUptoCardSaid : Prop := Claim7.holds Tryd.pinned (.plain (OpenSpec.upto pairsNestSpec)) pairsNestUptoCard

/-- THE SECOND FORM's CARD OF 'parquetrylaw14.PairsJust'. -/
def pairsJustUptoCard : Claim7 := { stood := { row := pairsJustUptoRow, standIns := [], harness := (true, "5ab8faf20a61821e78c39df3730befa666d67ea68e19ab1afc714c671500d4f5"), looks := false }, kinds := [], alts := [], laidByText := true, laidKinds := [.data, .data, .pinned], laidTests := true, laidLooks := .later }
def PairsJustUptoCardSaid : Prop := Claim7.holds Tryd.pinned (.plain (OpenSpec.upto pairsJustSpec)) pairsJustUptoCard

/-- THE SECOND FORM's CARD OF 'parquetrylaw14.PairsTurn'. -/
def pairsTurnUptoCard : Claim7 := { stood := { row := pairsTurnUptoRow, standIns := [], harness := (true, "5ab8faf20a61821e78c39df3730befa666d67ea68e19ab1afc714c671500d4f5"), looks := false }, kinds := [], alts := [], laidByText := true, laidKinds := [.data, .data, .pinned], laidTests := true, laidLooks := .later }
def PairsTurnUptoCardSaid : Prop := Claim7.holds Tryd.pinned (.plain (OpenSpec.upto pairsTurnSpec)) pairsTurnUptoCard
end Rows
end Go.Proofs.YtapeebnbiappgaaDoor
