/-
  DERIVED. GIVEN WITH THE SEED: THE CARDS: each row of YtpfihikldeagnaaDoorRows.lean that lists a variable, with what it lists TIED to the program's text (the seventh form; the later family's looks); each row that meets fmt, with fmt's text TOLD by the authors' own Lean function (tested against real Go, not proved from fmt's source: count such statements apart). THE CARD IS WHAT COUNTS. Prove the row's statement (the work); the ties are given (YtpfihikldeagnaaDoorTie.lean); close each card by the builder's one call (the guide's Derived/Test/ToyasCard.lean, 'card_holds'). Laid BY PROGRAM, IN A SANDBOX (cutbox-door.mjs). By AI agents, Wed Nov 11 2026. No macro, syntax, notation, axiom, sorry.
-/
import Derived.Test.YtpfihikldeagnaaDoorRows
import GoSem.ClaimSeven
namespace Go.Proofs.YtpfihikldeagnaaDoor
namespace Rows

/-- THE TIED CARD OF 'parquetrylaw06.ClusterOf'. -/
def clusterOfCard : Claim7 := { stood := { row := clusterOfRow, standIns := [], harness := (true, "6266be65454116c20761097c10453cce90d7e1924b2052746f8030f8566e73d3"), looks := false }, kinds := [], alts := [], laidByText := true, laidKinds := [.data], laidTests := true, laidLooks := .later }
def ClusterOfCardSaid : Prop := Claim7.holds Tryd.pinned (.plain (OpenSpec.ofChange clusterOfSpec)) clusterOfCard

/-- THE TIED CARD OF 'parquetrylaw06.ClusterSplit'. -/
def clusterSplitCard : Claim7 := { stood := { row := clusterSplitRow, standIns := [], harness := (true, "6266be65454116c20761097c10453cce90d7e1924b2052746f8030f8566e73d3"), looks := false }, kinds := [], alts := [], laidByText := true, laidKinds := [.data], laidTests := true, laidLooks := .later }
def ClusterSplitCardSaid : Prop := Claim7.holds Tryd.pinned (.plain (OpenSpec.ofChange clusterSplitSpec)) clusterSplitCard

/-- THE TIED CARD OF 'parquetrylaw06.ClusterFind'. -/
def clusterFindCard : Claim7 := { stood := { row := clusterFindRow, standIns := [], harness := (true, "6266be65454116c20761097c10453cce90d7e1924b2052746f8030f8566e73d3"), looks := false }, kinds := [], alts := [], laidByText := true, laidKinds := [.data], laidTests := true, laidLooks := .later }
def ClusterFindCardSaid : Prop := Claim7.holds Tryd.pinned (.plain (OpenSpec.ofChange clusterFindSpec)) clusterFindCard

/-- THE TIED CARD OF 'parquetrylaw06.ClusterWhole'. -/
def clusterWholeCard : Claim7 := { stood := { row := clusterWholeRow, standIns := [], harness := (true, "6266be65454116c20761097c10453cce90d7e1924b2052746f8030f8566e73d3"), looks := false }, kinds := [], alts := [], laidByText := true, laidKinds := [.data], laidTests := true, laidLooks := .later }
def ClusterWholeCardSaid : Prop := Claim7.holds Tryd.pinned (.plain (OpenSpec.ofChange clusterWholeSpec)) clusterWholeCard

/-- THE TIED CARD OF 'parquetrylaw06.ClusterCut'. -/
def clusterCutCard : Claim7 := { stood := { row := clusterCutRow, standIns := [], harness := (true, "6266be65454116c20761097c10453cce90d7e1924b2052746f8030f8566e73d3"), looks := false }, kinds := [], alts := [], laidByText := true, laidKinds := [.data], laidTests := true, laidLooks := .later }
def ClusterCutCardSaid : Prop := Claim7.holds Tryd.pinned (.plain (OpenSpec.ofChange clusterCutSpec)) clusterCutCard

/-- THE SECOND FORM's CARD OF 'parquetrylaw06.ClusterOf'. -/
def clusterOfUptoCard : Claim7 := { stood := { row := clusterOfUptoRow, standIns := [], harness := (true, "6266be65454116c20761097c10453cce90d7e1924b2052746f8030f8566e73d3"), looks := false }, kinds := [], alts := [], laidByText := true, laidKinds := [.data], laidTests := true, laidLooks := .later }
def ClusterOfUptoCardSaid : Prop := Claim7.holds Tryd.pinned (.plain (OpenSpec.upto clusterOfSpec)) clusterOfUptoCard

/-- THE SECOND FORM's CARD OF 'parquetrylaw06.ClusterSplit'. -/
def clusterSplitUptoCard : Claim7 := { stood := { row := clusterSplitUptoRow, standIns := [], harness := (true, "6266be65454116c20761097c10453cce90d7e1924b2052746f8030f8566e73d3"), looks := false }, kinds := [], alts := [], laidByText := true, laidKinds := [.data], laidTests := true, laidLooks := .later }
def ClusterSplitUptoCardSaid : Prop := Claim7.holds Tryd.pinned (.plain (OpenSpec.upto clusterSplitSpec)) clusterSplitUptoCard

/-- THE SECOND FORM's CARD OF 'parquetrylaw06.ClusterFind'. -/
def clusterFindUptoCard : Claim7 := { stood := { row := clusterFindUptoRow, standIns := [], harness := (true, "6266be65454116c20761097c10453cce90d7e1924b2052746f8030f8566e73d3"), looks := false }, kinds := [], alts := [], laidByText := true, laidKinds := [.data], laidTests := true, laidLooks := .later }
def ClusterFindUptoCardSaid : Prop := Claim7.holds Tryd.pinned (.plain (OpenSpec.upto clusterFindSpec)) clusterFindUptoCard

/-- THE SECOND FORM's CARD OF 'parquetrylaw06.ClusterWhole'. -/
def clusterWholeUptoCard : Claim7 := { stood := { row := clusterWholeUptoRow, standIns := [], harness := (true, "6266be65454116c20761097c10453cce90d7e1924b2052746f8030f8566e73d3"), looks := false }, kinds := [], alts := [], laidByText := true, laidKinds := [.data], laidTests := true, laidLooks := .later }
def ClusterWholeUptoCardSaid : Prop := Claim7.holds Tryd.pinned (.plain (OpenSpec.upto clusterWholeSpec)) clusterWholeUptoCard

/-- THE SECOND FORM's CARD OF 'parquetrylaw06.ClusterCut'. -/
def clusterCutUptoCard : Claim7 := { stood := { row := clusterCutUptoRow, standIns := [], harness := (true, "6266be65454116c20761097c10453cce90d7e1924b2052746f8030f8566e73d3"), looks := false }, kinds := [], alts := [], laidByText := true, laidKinds := [.data], laidTests := true, laidLooks := .later }
def ClusterCutUptoCardSaid : Prop := Claim7.holds Tryd.pinned (.plain (OpenSpec.upto clusterCutSpec)) clusterCutUptoCard
end Rows
end Go.Proofs.YtpfihikldeagnaaDoor
