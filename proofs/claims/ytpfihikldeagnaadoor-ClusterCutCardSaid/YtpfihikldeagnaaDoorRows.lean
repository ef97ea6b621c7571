/-
  NARROWER THAN 'FOR EVERY INPUT', by the rows' own cells (each row's printed sentence says how): ClusterOf: laid · ClusterSplit: laid · ClusterFind: laid · ClusterWhole: laid · ClusterCut: laid.
  DERIVED. THE GIVEN ROWS OF THIS SEAT. 5 by the template 'for every input the law returns true; each argument reads behind the call as it read before'; 0 by the template 'total and deterministic' (their statements: YtpfihikldeagnaaDoorTotals.lean).
  GIVEN WITH THE SEED: the statements are not yours to turn. If you find one false, say at which input.
  Laid BY PROGRAM, IN A SANDBOX (cutbox-rows.mjs): the forced cells as the released guide's own fill.sh prints them over the translation d3aedbe6f34e6d70… (all of the seat's roots in one cut). By AI agents, Wed Nov 11 2026. No macro, syntax, notation, axiom, sorry.
-/
import Derived.Test.YtpfihikldeagnaaDoorChecked
import GoSem.Claim
import GoSem.ClaimJoined
import GoSem.ClaimMapViews
import Derived.JoinedTies
import Derived.KernelRfl
namespace Go.Proofs.YtpfihikldeagnaaDoor
/- THE CELL 'sum', in the pinned program and in every row, IS THE sha256 OF THE DUMP (.gsa) THAT YtpfihikldeagnaaDoorProg.lean LOADS. Nothing in Lean hashes anything: it is a label: what it is worth is what the hold of that sum in a sandbox is worth. -/
noncomputable def Tryd.pinned : Pinned := { name := "ytpfihikldeagnaadoor", sum := "d3aedbe6f34e6d707600fb60cae5ce373af4935580425a147e8b58a60d880ad0", checked := Tryd.checked }
namespace Rows
def none {H : Type} : Left H := { results := [], args := [] }

/- WHAT THE LISTED PACKAGE-LEVEL VARIABLES READ AS WHEN THE CALL BEGINS. Each datum BY PROGRAM (the guide's laid-datum.mjs) off the statement by which the dump's own 'gosem.cut.vars' lays the variable. In a bare row this is a premise. The card (YtpfihikldeagnaaDoorCards.lean) ties it to the program's text. -/
def laid_parquetry_cluster_behind {H : Type} : DataW H := .agg [.lit (.int .u16 304), .lit (.int .u16 4), .lit (.int .u16 0), .lit (.int .u16 0), .lit (.int .u16 304), .lit (.int .u16 304), .lit (.int .u16 304), .lit (.int .u16 16369), .lit (.int .u16 304), .lit (.int .u16 14128), .lit (.int .u16 3376), .lit (.int .u16 2352), .lit (.int .u16 3376), .lit (.int .u16 2352)]

/-- 'parquetrylaw06.ClusterOf': WHATEVER THE INPUT: true; the input reads as it did. -/
def clusterOfSpec : ChangeSpec := { name := "clusterOf", fn := fun _ => fun
  | [d] => { results := [.lit (.bool true)], args := [d] }
  | _ => none }
def clusterOfRow : OpenClaim := { program := "ytpfihikldeagnaadoor", sum := "d3aedbe6f34e6d707600fb60cae5ce373af4935580425a147e8b58a60d880ad0", func := "parquetry/parquetrylaw06.ClusterOf", spec := "clusterOf", unfollowed := true, recurses := true, named := ["parquetry/cluster.behind"], apart := false, laid := [("parquetry/cluster.behind", laid_parquetry_cluster_behind)] }
def ClusterOfSaid : Prop := clusterOfRow.holds Tryd.pinned (OpenSpec.ofChange clusterOfSpec)

/-- ITS FALSE NEIGHBOUR: 'it returns false'. Refute it at one input. -/
def clusterOfWrong : ChangeSpec := { name := "clusterOf", fn := fun _ => fun
  | [d] => { results := [.lit (.bool false)], args := [d] }
  | _ => none }
def ClusterOfWrongFalsely : Prop := clusterOfRow.holds Tryd.pinned (OpenSpec.ofChange clusterOfWrong)

/-- 'parquetrylaw06.ClusterSplit': WHATEVER THE INPUT: true; the input reads as it did. -/
def clusterSplitSpec : ChangeSpec := { name := "clusterSplit", fn := fun _ => fun
  | [d] => { results := [.lit (.bool true)], args := [d] }
  | _ => none }
def clusterSplitRow : OpenClaim := { program := "ytpfihikldeagnaadoor", sum := "d3aedbe6f34e6d707600fb60cae5ce373af4935580425a147e8b58a60d880ad0", func := "parquetry/parquetrylaw06.ClusterSplit", spec := "clusterSplit", unfollowed := true, recurses := true, named := ["parquetry/cluster.behind"], apart := false, laid := [("parquetry/cluster.behind", laid_parquetry_cluster_behind)] }
def ClusterSplitSaid : Prop := clusterSplitRow.holds Tryd.pinned (OpenSpec.ofChange clusterSplitSpec)

/-- ITS FALSE NEIGHBOUR: 'it returns false'. Refute it at one input. -/
def clusterSplitWrong : ChangeSpec := { name := "clusterSplit", fn := fun _ => fun
  | [d] => { results := [.lit (.bool false)], args := [d] }
  | _ => none }
def ClusterSplitWrongFalsely : Prop := clusterSplitRow.holds Tryd.pinned (OpenSpec.ofChange clusterSplitWrong)

/-- 'parquetrylaw06.ClusterFind': WHATEVER THE INPUT: true; the input reads as it did. -/
def clusterFindSpec : ChangeSpec := { name := "clusterFind", fn := fun _ => fun
  | [d1, d2] => { results := [.lit (.bool true)], args := [d1, d2] }
  | _ => none }
def clusterFindRow : OpenClaim := { program := "ytpfihikldeagnaadoor", sum := "d3aedbe6f34e6d707600fb60cae5ce373af4935580425a147e8b58a60d880ad0", func := "parquetry/parquetrylaw06.ClusterFind", spec := "clusterFind", unfollowed := true, recurses := true, named := ["parquetry/cluster.behind"], apart := false, laid := [("parquetry/cluster.behind", laid_parquetry_cluster_behind)] }
def ClusterFindSaid : Prop := clusterFindRow.holds Tryd.pinned (OpenSpec.ofChange clusterFindSpec)

/-- ITS FALSE NEIGHBOUR: 'it returns false'. Refute it at one input. -/
def clusterFindWrong : ChangeSpec := { name := "clusterFind", fn := fun _ => fun
  | [d1, d2] => { results := [.lit (.bool false)], args := [d1, d2] }
  | _ => none }
def ClusterFindWrongFalsely : Prop := clusterFindRow.holds Tryd.pinned (OpenSpec.ofChange clusterFindWrong)

/-- 'parquetrylaw06.ClusterWhole': WHATEVER THE INPUT: true; the input reads as it did. -/
def clusterWholeSpec : ChangeSpec := { name := "clusterWhole", fn := fun _ => fun
  | [d] => { results := [.lit (.bool true)], args := [d] }
  | _ => none }
def clusterWholeRow : OpenClaim := { program := "ytpfihikldeagnaadoor", sum := "d3aedbe6f34e6d707600fb60cae5ce373af4935580425a147e8b58a60d880ad0", func := "parquetry/parquetrylaw06.ClusterWhole", spec := "clusterWhole", unfollowed := true, recurses := true, named := ["parquetry/cluster.behind"], apart := false, laid := [("parquetry/cluster.behind", laid_parquetry_cluster_behind)] }
def ClusterWholeSaid : Prop := clusterWholeRow.holds Tryd.pinned (OpenSpec.ofChange clusterWholeSpec)

/-- ITS FALSE NEIGHBOUR: 'it returns false'. Refute it at one input. -/
def clusterWholeWrong : ChangeSpec := { name := "clusterWhole", fn := fun _ => fun
  | [d] => { results := [.lit (.bool false)], args := [d] }
  | _ => none }
def ClusterWholeWrongFalsely : Prop := clusterWholeRow.holds Tryd.pinned (OpenSpec.ofChange clusterWholeWrong)

/-- 'parquetrylaw06.ClusterCut': WHATEVER THE INPUT: true; the input reads as it did. -/
def clusterCutSpec : ChangeSpec := { name := "clusterCut", fn := fun _ => fun
  | [d1, d2] => { results := [.lit (.bool true)], args := [d1, d2] }
  | _ => none }
def clusterCutRow : OpenClaim := { program := "ytpfihikldeagnaadoor", sum := "d3aedbe6f34e6d707600fb60cae5ce373af4935580425a147e8b58a60d880ad0", func := "parquetry/parquetrylaw06.ClusterCut", spec := "clusterCut", unfollowed := true, recurses := true, named := ["parquetry/cluster.behind"], apart := false, laid := [("parquetry/cluster.behind", laid_parquetry_cluster_behind)] }
def ClusterCutSaid : Prop := clusterCutRow.holds Tryd.pinned (OpenSpec.ofChange clusterCutSpec)

/-- ITS FALSE NEIGHBOUR: 'it returns false'. Refute it at one input. -/
def clusterCutWrong : ChangeSpec := { name := "clusterCut", fn := fun _ => fun
  | [d1, d2] => { results := [.lit (.bool false)], args := [d1, d2] }
  | _ => none }
def ClusterCutWrongFalsely : Prop := clusterCutRow.holds Tryd.pinned (OpenSpec.ofChange clusterCutWrong)

/- THE SECOND FORM. 'bulk': how many values and letters a reading holds, each counted each time it is reached (what is shared counts as often as it is met; a slice's spare places count too). A statement '..UptoSaid' is the law's where the arguments, and the package variables that the reading takes, are together of bulk at most 1048576: NARROWER than '..Said'. Prove '..Said' where nothing that the law and all that it calls make is longer than what came in: it says more and counts as full. Else prove '..UptoSaid'. A law counts once. -/
mutual
def uptoBulk {H : Type} : DataW H → Nat
  | .lit (.string bytes) => bytes.length + 1
  | .lit _ => 1
  | .nil => 1
  | .ptr d => uptoBulk d + 1
  | .slice elems spare => uptoBulkAll elems + uptoBulkAll spare + 1
  | .agg parts => uptoBulkAll parts + 1
  | .iface _ d => uptoBulk d + 1
  | .map entries => uptoBulkEntries entries + 1
  | .held _ => 1
def uptoBulkAll {H : Type} : List (DataW H) → Nat
  | [] => 0
  | d :: r => uptoBulk d + uptoBulkAll r
def uptoBulkEntries {H : Type} : List (Lit × DataW H) → Nat
  | [] => 0
  | x :: r => uptoBulkEntry x + uptoBulkEntries r
def uptoBulkEntry {H : Type} : Lit × DataW H → Nat
  | (.string bytes, d) => bytes.length + uptoBulk d + 1
  | (_, d) => uptoBulk d + 1
 end
def uptoSmall : (H : Type) → List (DataW H) → Bool := fun _ ds => decide (uptoBulkAll ds ≤ 1048576)
def OpenSpec.upto (s : _root_.Go.ChangeSpec) : _root_.Go.OpenSpec := { _root_.Go.OpenSpec.ofChange s with cond := some uptoSmall }

/-- 'parquetrylaw06.ClusterOf', WHERE WHAT IT READS IS OF BULK AT MOST 1048576: true; the input reads as it did. -/
def clusterOfUptoRow : OpenClaim := { program := "ytpfihikldeagnaadoor", sum := "d3aedbe6f34e6d707600fb60cae5ce373af4935580425a147e8b58a60d880ad0", func := "parquetry/parquetrylaw06.ClusterOf", spec := "clusterOf", unfollowed := true, recurses := true, named := ["parquetry/cluster.behind"], apart := false, laid := [("parquetry/cluster.behind", laid_parquetry_cluster_behind)], narrowed := true }
def ClusterOfUptoSaid : Prop := clusterOfUptoRow.holds Tryd.pinned (OpenSpec.upto clusterOfSpec)

/-- 'parquetrylaw06.ClusterSplit', WHERE WHAT IT READS IS OF BULK AT MOST 1048576: true; the input reads as it did. -/
def clusterSplitUptoRow : OpenClaim := { program := "ytpfihikldeagnaadoor", sum := "d3aedbe6f34e6d707600fb60cae5ce373af4935580425a147e8b58a60d880ad0", func := "parquetry/parquetrylaw06.ClusterSplit", spec := "clusterSplit", unfollowed := true, recurses := true, named := ["parquetry/cluster.behind"], apart := false, laid := [("parquetry/cluster.behind", laid_parquetry_cluster_behind)], narrowed := true }
def ClusterSplitUptoSaid : Prop := clusterSplitUptoRow.holds Tryd.pinned (OpenSpec.upto clusterSplitSpec)

/-- 'parquetrylaw06.ClusterFind', WHERE WHAT IT READS IS OF BULK AT MOST 1048576: true; the input reads as it did. -/
def clusterFindUptoRow : OpenClaim := { program := "ytpfihikldeagnaadoor", sum := "d3aedbe6f34e6d707600fb60cae5ce373af4935580425a147e8b58a60d880ad0", func := "parquetry/parquetrylaw06.ClusterFind", spec := "clusterFind", unfollowed := true, recurses := true, named := ["parquetry/cluster.behind"], apart := false, laid := [("parquetry/cluster.behind", laid_parquetry_cluster_behind)], narrowed := true }
def ClusterFindUptoSaid : Prop := clusterFindUptoRow.holds Tryd.pinned (OpenSpec.upto clusterFindSpec)

/-- 'parquetrylaw06.ClusterWhole', WHERE WHAT IT READS IS OF BULK AT MOST 1048576: true; the input reads as it did. -/
def clusterWholeUptoRow : OpenClaim := { program := "ytpfihikldeagnaadoor", sum := "d3aedbe6f34e6d707600fb60cae5ce373af4935580425a147e8b58a60d880ad0", func := "parquetry/parquetrylaw06.ClusterWhole", spec := "clusterWhole", unfollowed := true, recurses := true, named := ["parquetry/cluster.behind"], apart := false, laid := [("parquetry/cluster.behind", laid_parquetry_cluster_behind)], narrowed := true }
def ClusterWholeUptoSaid : Prop := clusterWholeUptoRow.holds Tryd.pinned (OpenSpec.upto clusterWholeSpec)

/-- 'parquetrylaw06.ClusterCut', WHERE WHAT IT READS IS OF BULK AT MOST 1048576: true; the input reads as it did. -/
def clusterCutUptoRow : OpenClaim := { program := "ytpfihikldeagnaadoor", sum := "d3aedbe6f34e6d707600fb60cae5ce373af4935580425a147e8b58a60d880ad0", func := "parquetry/parquetrylaw06.ClusterCut", spec := "clusterCut", unfollowed := true, recurses := true, named := ["parquetry/cluster.behind"], apart := false, laid := [("parquetry/cluster.behind", laid_parquetry_cluster_behind)], narrowed := true }
def ClusterCutUptoSaid : Prop := clusterCutUptoRow.holds Tryd.pinned (OpenSpec.upto clusterCutSpec)

end Rows
end Go.Proofs.YtpfihikldeagnaaDoor
