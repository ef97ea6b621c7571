/-
  DERIVED. GIVEN WITH THE SEED: THE CARDS: each row of YtafpddpeffpnfaaDoorRows.lean that lists a variable, with what it lists TIED to the program's text (the seventh form; the later family's looks); each row that meets fmt, with fmt's text TOLD by the authors' own Lean function (tested against real Go, not proved from fmt's source: count such statements apart). THE CARD IS WHAT COUNTS. Prove the row's statement (the work); the ties are given (YtafpddpeffpnfaaDoorTie.lean); close each card by the builder's one call (the guide's Derived/Test/ToyasCard.lean, 'card_holds'). Laid BY PROGRAM, IN A SANDBOX (cutbox-door.mjs). By AI agents, Wed Nov 11 2026. No macro, syntax, notation, axiom, sorry.
-/
import Derived.Test.YtafpddpeffpnfaaDoorRows
import GoSem.ClaimSeven
namespace Go.Proofs.YtafpddpeffpnfaaDoor
namespace Rows

/-- THE TIED CARD OF 'parquetrylaw08.QuoteFields'. -/
def quoteFieldsCard : Claim7 := { stood := { row := quoteFieldsRow, standIns := [], harness := (true, "8b0ddd4391f593d9a8c81f0b604a71bf6594b19938d785f115202ba4ac532180"), looks := false }, kinds := [], alts := [], laidByText := true, laidKinds := [.data, .pinned], laidTests := true, laidLooks := .later }
def QuoteFieldsCardSaid : Prop := Claim7.holds Tryd.pinned (.plain (OpenSpec.ofChange quoteFieldsSpec)) quoteFieldsCard

/-- THE TIED CARD OF 'parquetrylaw08.QuotePrints'. -/
def quotePrintsCard : Claim7 := { stood := { row := quotePrintsRow, standIns := [], harness := (true, "8b0ddd4391f593d9a8c81f0b604a71bf6594b19938d785f115202ba4ac532180"), looks := false }, kinds := [], alts := [], laidByText := true, laidKinds := [.data, .pinned], laidTests := true, laidLooks := .later }
def QuotePrintsCardSaid : Prop := Claim7.holds Tryd.pinned (.plain (OpenSpec.ofChange quotePrintsSpec)) quotePrintsCard

/-- THE TIED CARD OF 'parquetrylaw08.QuoteLong'. -/
def quoteLongCard : Claim7 := { stood := { row := quoteLongRow, standIns := [], harness := (true, "8b0ddd4391f593d9a8c81f0b604a71bf6594b19938d785f115202ba4ac532180"), looks := false }, kinds := [], alts := [], laidByText := true, laidKinds := [.data, .pinned], laidTests := true, laidLooks := .later }
def QuoteLongCardSaid : Prop := Claim7.holds Tryd.pinned (.plain (OpenSpec.ofChange quoteLongSpec)) quoteLongCard

/-- THE TIED CARD OF 'parquetrylaw08.QuoteTidies'. -/
def quoteTidiesCard : Claim7 := { stood := { row := quoteTidiesRow, standIns := [], harness := (true, "8b0ddd4391f593d9a8c81f0b604a71bf6594b19938d785f115202ba4ac532180"), looks := false }, kinds := [], alts := [], laidByText := true, laidKinds := [.data, .pinned], laidTests := true, laidLooks := .later }
def QuoteTidiesCardSaid : Prop := Claim7.holds Tryd.pinned (.plain (OpenSpec.ofChange quoteTidiesSpec)) quoteTidiesCard

/-- THE TIED CARD OF 'parquetrylaw08.QuoteBack'. -/
def quoteBackCard : Claim7 := { stood := { row := quoteBackRow, standIns := [], harness := (true, "8b0ddd4391f593d9a8c81f0b604a71bf6594b19938d785f115202ba4ac532180"), looks := false }, kinds := [], alts := [], laidByText := true, laidKinds := [.data, .pinned], laidTests := true, laidLooks := .later }
def QuoteBackCardSaid : Prop := Claim7.holds Tryd.pinned (.plain (OpenSpec.ofChange quoteBackSpec)) quoteBackCard

/-- THE TIED CARD OF 'parquetrylaw08.QuoteStays'. -/
def quoteStaysCard : Claim7 := { stood := { row := quoteStaysRow, standIns := [], harness := (true, "8b0ddd4391f593d9a8c81f0b604a71bf6594b19938d785f115202ba4ac532180"), looks := false }, kinds := [], alts := [], laidByText := true, laidKinds := [.data, .pinned], laidTests := true, laidLooks := .later }
def QuoteStaysCardSaid : Prop := Claim7.holds Tryd.pinned (.plain (OpenSpec.ofChange quoteStaysSpec)) quoteStaysCard

/-- THE SECOND FORM's CARD OF 'parquetrylaw08.QuoteFields'. -/
def quoteFieldsUptoCard : Claim7 := { stood := { row := quoteFieldsUptoRow, standIns := [], harness := (true, "8b0ddd4391f593d9a8c81f0b604a71bf6594b19938d785f115202ba4ac532180"), looks := false }, kinds := [], alts := [], laidByText := true, laidKinds := [.data, .pinned], laidTests := true, laidLooks := .later }
def QuoteFieldsUptoCardSaid : Prop := Claim7.holds Tryd.pinned (.plain (OpenSpec.upto quoteFieldsSpec)) quoteFieldsUptoCard

/-- THE SECOND FORM's CARD OF 'parquetrylaw08.QuotePrints'. -/
def quotePrintsUptoCard : Claim7 := { stood := { row := quotePrintsUptoRow, standIns := [], harness := (true, "8b0ddd4391f593d9a8c81f0b604a71bf6594b19938d785f115202ba4ac532180"), looks := false }, kinds := [], alts := [], laidByText := true, laidKinds := [.data, .pinned], laidTests := true, laidLooks := .later }
def QuotePrintsUptoCardSaid : Prop := Claim7.holds Tryd.pinned (.plain (OpenSpec.upto quotePrintsSpec)) quotePrintsUptoCard

/-- THE SECOND FORM's CARD OF 'parquetrylaw08.QuoteLong'. -/
def quoteLongUptoCard : Claim7 := { stood := { row := quoteLongUptoRow, standIns := [], harness := (true, "8b0ddd4391f593d9a8c81f0b604a71bf6594b19938d785f115202ba4ac532180"), looks := false }, kinds := [], alts := [], laidByText := true, laidKinds := [.data, .pinned], laidTests := true, laidLooks := .later }
def QuoteLongUptoCardSaid : Prop := Claim7.holds Tryd.pinned (.plain (OpenSpec.upto quoteLongSpec)) quoteLongUptoCard

/-- THE SECOND FORM's CARD OF 'parquetrylaw08.QuoteTidies'. -/
def quoteTidiesUptoCard : Claim7 := { stood := { row := quoteTidiesUptoRow, standIns := [], harness := (true, "8b0ddd4391f593d9a8c81f0b604a71bf6594b19938d785f115202ba4ac532180"), looks := false }, kinds := [], alts := [], laidByText := true, laidKinds := [.data, .pinned], laidTests := true, laidLooks := .later }
def QuoteTidiesUptoCardSaid : Prop := Claim7.holds Tryd.pinned (.plain (OpenSpec.upto quoteTidiesSpec)) quoteTidiesUptoCard

/-- THE SECOND FORM's CARD OF 'parquetrylaw08.QuoteBack'. -/
def quoteBackUptoCard : Claim7 := { stood := { row := quoteBackUptoRow, standIns := [], harness := (true, "8b0ddd4391f593d9a8c81f0b604a71bf6594b19938d785f115202ba4ac532180"), looks := false }, kinds := [], alts := [], laidByText := true, laidKinds := [.data, .pinned], laidTests := true, laidLooks := .later }
def QuoteBackUptoCardSaid : Prop := Claim7.holds Tryd.pinned (.plain (OpenSpec.upto quoteBackSpec)) quoteBackUptoCard

/-- THE SECOND FORM's CARD OF 'parquetrylaw08.QuoteStays'. -/
def quoteStaysUptoCard : Claim7 := { stood := { row := quoteStaysUptoRow, standIns := [], harness := (true, "8b0ddd4391f593d9a8c81f0b604a71bf6594b19938d785f115202ba4ac532180"), looks := false }, kinds := [], alts := [], laidByText := true, laidKinds := [.data, .pinned], laidTests := true, laidLooks := .later }
def QuoteStaysUptoCardSaid : Prop := Claim7.holds Tryd.pinned (.plain (OpenSpec.upto quoteStaysSpec)) quoteStaysUptoCard
end Rows
end Go.Proofs.YtafpddpeffpnfaaDoor
