/-
  DERIVED. GIVEN WITH THE SEED: THE CARDS: each row of YtmhnhklkomboaaaDoorRows.lean that lists a variable, with what it lists TIED to the program's text (the seventh form; the later family's looks); each row that meets fmt, with fmt's text TOLD by the authors' own Lean function (tested against real Go, not proved from fmt's source: count such statements apart). THE CARD IS WHAT COUNTS. Prove the row's statement (the work); the ties are given (YtmhnhklkomboaaaDoorTie.lean); close each card by the builder's one call (the guide's Derived/Test/ToyasCard.lean, 'card_holds'). Laid BY PROGRAM, IN A SANDBOX (cutbox-door.mjs). By AI agents, Wed Nov 11 2026. No macro, syntax, notation, axiom, sorry.
-/
import Derived.Test.YtmhnhklkomboaaaDoorRows
import GoSem.ClaimSeven
namespace Go.Proofs.YtmhnhklkomboaaaDoor
namespace Rows

/-- THE TIED CARD OF 'parquetrylaw13.WeakRules'. -/
def weakRulesCard : Claim7 := { stood := { row := weakRulesRow, standIns := [], harness := (true, "14469f2c6873348fd6e08c65ca0a8d63d0a72390e6af6706efc1bcb04c7fa5ff"), looks := false }, kinds := [], alts := [], laidByText := true, laidKinds := [.data, .data, .pinned], laidTests := true, laidLooks := .later }
def WeakRulesCardSaid : Prop := Claim7.holds Tryd.pinned (.plain (OpenSpec.ofChange weakRulesSpec)) weakRulesCard

/-- THE TIED CARD OF 'parquetrylaw13.WeakSettles'. -/
def weakSettlesCard : Claim7 := { stood := { row := weakSettlesRow, standIns := [], harness := (true, "14469f2c6873348fd6e08c65ca0a8d63d0a72390e6af6706efc1bcb04c7fa5ff"), looks := false }, kinds := [], alts := [], laidByText := true, laidKinds := [.data, .data, .pinned], laidTests := true, laidLooks := .later }
def WeakSettlesCardSaid : Prop := Claim7.holds Tryd.pinned (.plain (OpenSpec.ofChange weakSettlesSpec)) weakSettlesCard

/-- THE TIED CARD OF 'parquetrylaw13.WeakParts'. -/
def weakPartsCard : Claim7 := { stood := { row := weakPartsRow, standIns := [], harness := (true, "14469f2c6873348fd6e08c65ca0a8d63d0a72390e6af6706efc1bcb04c7fa5ff"), looks := false }, kinds := [], alts := [], laidByText := true, laidKinds := [.data, .data, .pinned], laidTests := true, laidLooks := .later }
def WeakPartsCardSaid : Prop := Claim7.holds Tryd.pinned (.plain (OpenSpec.ofChange weakPartsSpec)) weakPartsCard

/-- THE SECOND FORM's CARD OF 'parquetrylaw13.WeakRules'. -/
def weakRulesUptoCard : Claim7 := { stood := { row := weakRulesUptoRow, standIns := [], harness := (true, "14469f2c6873348fd6e08c65ca0a8d63d0a72390e6af6706efc1bcb04c7fa5ff"), looks := false }, kinds := [], alts := [], laidByText := true, laidKinds := [.data, .data, .pinned], laidTests := true, laidLooks := .later }
def WeakRulesUptoCardSaid : Prop := Claim7.holds Tryd.pinned (.plain (OpenSpec.upto weakRulesSpec)) weakRulesUptoCard

/-- THE SECOND FORM's CARD OF 'parquetrylaw13.WeakSettles'. -/
def weakSettlesUptoCard : Claim7 := { stood := { row := weakSettlesUptoRow, standIns := [], harness := (true, "14469f2c6873348fd6e08c65ca0a8d63d0a72390e6af6706efc1bcb04c7fa5ff"), looks := false }, kinds := [], alts := [], laidByText := true, laidKinds := [.data, .data, .pinned], laidTests := true, laidLooks := .later }
def WeakSettlesUptoCardSaid : Prop := Claim7.holds Tryd.pinned (.plain (OpenSpec.upto weakSettlesSpec)) weakSettlesUptoCard

/-- THE SECOND FORM's CARD OF 'parquetrylaw13.WeakParts'. -/
def weakPartsUptoCard : Claim7 := { stood := { row := weakPartsUptoRow, standIns := [], harness := (true, "14469f2c6873348fd6e08c65ca0a8d63d0a72390e6af6706efc1bcb04c7fa5ff"), looks := false }, kinds := [], alts := [], laidByText := true, laidKinds := [.data, .data, .pinned], laidTests := true, laidLooks := .later }
def WeakPartsUptoCardSaid : Prop := Claim7.holds Tryd.pinned (.plain (OpenSpec.upto weakPartsSpec)) weakPartsUptoCard
end Rows
end Go.Proofs.YtmhnhklkomboaaaDoor
