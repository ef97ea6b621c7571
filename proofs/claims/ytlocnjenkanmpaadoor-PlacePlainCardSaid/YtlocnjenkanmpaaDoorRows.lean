/-
  NARROWER THAN 'FOR EVERY INPUT', by the rows' own cells (each row's printed sentence says how): PlaceSlots: laid · PlaceOnce: laid · PlaceAligns: laid · PlacePlain: laid.
  DERIVED. THE GIVEN ROWS OF THIS SEAT. 4 by the template 'for every input the law returns true; each argument reads behind the call as it read before'; 0 by the template 'total and deterministic' (their statements: YtlocnjenkanmpaaDoorTotals.lean).
  GIVEN WITH THE SEED: the statements are not yours to turn. If you find one false, say at which input.
  Laid BY PROGRAM, IN A SANDBOX (cutbox-rows.mjs): the forced cells as the released guide's own fill.sh prints them over the translation e622dda76f003e0b… (all of the seat's roots in one cut). By AI agents, Wed Nov 11 2026. No macro, syntax, notation, axiom, sorry.
-/
import Derived.Test.YtlocnjenkanmpaaDoorChecked
import GoSem.Claim
import GoSem.ClaimJoined
import GoSem.ClaimMapViews
import Derived.JoinedTies
import Derived.KernelRfl
namespace Go.Proofs.YtlocnjenkanmpaaDoor
/- THE CELL 'sum', in the pinned program and in every row, IS THE sha256 OF THE DUMP (.gsa) THAT YtlocnjenkanmpaaDoorProg.lean LOADS. Nothing in Lean hashes anything: it is a label: what it is worth is what the hold of that sum in a sandbox is worth. -/
noncomputable def Tryd.pinned : Pinned := { name := "ytlocnjenkanmpaadoor", sum := "e622dda76f003e0b5edc092cbaf66abf0c233277ba84ee866d2c50828ba5b2ed", checked := Tryd.checked }
namespace Rows
def none {H : Type} : Left H := { results := [], args := [] }

/- WHAT THE LISTED PACKAGE-LEVEL VARIABLES READ AS WHEN THE CALL BEGINS. Each datum BY PROGRAM (the guide's laid-datum.mjs) off the statement by which the dump's own 'gosem.cut.vars' lays the variable. In a bare row this is a premise. The card (YtlocnjenkanmpaaDoorCards.lean) ties it to the program's text. -/
def laid_parquetry_cluster_behind {H : Type} : DataW H := .agg [.lit (.int .u16 304), .lit (.int .u16 4), .lit (.int .u16 0), .lit (.int .u16 0), .lit (.int .u16 304), .lit (.int .u16 304), .lit (.int .u16 304), .lit (.int .u16 16369), .lit (.int .u16 304), .lit (.int .u16 14128), .lit (.int .u16 3376), .lit (.int .u16 2352), .lit (.int .u16 3376), .lit (.int .u16 2352)]

/-- 'parquetrylaw19.PlaceSlots': WHATEVER THE INPUT: true; the input reads as it did. -/
def placeSlotsSpec : ChangeSpec := { name := "placeSlots", fn := fun _ => fun
  | [d1, d2, d3, d4, d5, d6] => { results := [.lit (.bool true)], args := [d1, d2, d3, d4, d5, d6] }
  | _ => none }
def placeSlotsRow : OpenClaim := { program := "ytlocnjenkanmpaadoor", sum := "e622dda76f003e0b5edc092cbaf66abf0c233277ba84ee866d2c50828ba5b2ed", func := "parquetry/parquetrylaw19.PlaceSlots", spec := "placeSlots", inPlace := ["slices.overlaps[parquetry/api.Slot]"], unfollowed := true, recurses := true, named := ["parquetry/cluster.behind"], apart := false, laid := [("parquetry/cluster.behind", laid_parquetry_cluster_behind)] }
def PlaceSlotsSaid : Prop := placeSlotsRow.holds Tryd.pinned (OpenSpec.ofChange placeSlotsSpec)

/-- ITS FALSE NEIGHBOUR: 'it returns false'. Refute it at one input. -/
def placeSlotsWrong : ChangeSpec := { name := "placeSlots", fn := fun _ => fun
  | [d1, d2, d3, d4, d5, d6] => { results := [.lit (.bool false)], args := [d1, d2, d3, d4, d5, d6] }
  | _ => none }
def PlaceSlotsWrongFalsely : Prop := placeSlotsRow.holds Tryd.pinned (OpenSpec.ofChange placeSlotsWrong)

/-- 'parquetrylaw19.PlaceOnce': WHATEVER THE INPUT: true; the input reads as it did. -/
def placeOnceSpec : ChangeSpec := { name := "placeOnce", fn := fun _ => fun
  | [d1, d2, d3, d4, d5, d6] => { results := [.lit (.bool true)], args := [d1, d2, d3, d4, d5, d6] }
  | _ => none }
def placeOnceRow : OpenClaim := { program := "ytlocnjenkanmpaadoor", sum := "e622dda76f003e0b5edc092cbaf66abf0c233277ba84ee866d2c50828ba5b2ed", func := "parquetry/parquetrylaw19.PlaceOnce", spec := "placeOnce", inPlace := ["slices.overlaps[parquetry/api.Slot]"], unfollowed := true, recurses := true, named := ["parquetry/cluster.behind"], apart := false, laid := [("parquetry/cluster.behind", laid_parquetry_cluster_behind)] }
def PlaceOnceSaid : Prop := placeOnceRow.holds Tryd.pinned (OpenSpec.ofChange placeOnceSpec)

/-- ITS FALSE NEIGHBOUR: 'it returns false'. Refute it at one input. -/
def placeOnceWrong : ChangeSpec := { name := "placeOnce", fn := fun _ => fun
  | [d1, d2, d3, d4, d5, d6] => { results := [.lit (.bool false)], args := [d1, d2, d3, d4, d5, d6] }
  | _ => none }
def PlaceOnceWrongFalsely : Prop := placeOnceRow.holds Tryd.pinned (OpenSpec.ofChange placeOnceWrong)

/-- 'parquetrylaw19.PlaceAligns': WHATEVER THE INPUT: true; the input reads as it did. -/
def placeAlignsSpec : ChangeSpec := { name := "placeAligns", fn := fun _ => fun
  | [d1, d2, d3, d4, d5] => { results := [.lit (.bool true)], args := [d1, d2, d3, d4, d5] }
  | _ => none }
def placeAlignsRow : OpenClaim := { program := "ytlocnjenkanmpaadoor", sum := "e622dda76f003e0b5edc092cbaf66abf0c233277ba84ee866d2c50828ba5b2ed", func := "parquetry/parquetrylaw19.PlaceAligns", spec := "placeAligns", inPlace := ["slices.overlaps[parquetry/api.Slot]"], unfollowed := true, recurses := true, named := ["parquetry/cluster.behind"], apart := false, laid := [("parquetry/cluster.behind", laid_parquetry_cluster_behind)] }
def PlaceAlignsSaid : Prop := placeAlignsRow.holds Tryd.pinned (OpenSpec.ofChange placeAlignsSpec)

/-- ITS FALSE NEIGHBOUR: 'it returns false'. Refute it at one input. -/
def placeAlignsWrong : ChangeSpec := { name := "placeAligns", fn := fun _ => fun
  | [d1, d2, d3, d4, d5] => { results := [.lit (.bool false)], args := [d1, d2, d3, d4, d5] }
  | _ => none }
def PlaceAlignsWrongFalsely : Prop := placeAlignsRow.holds Tryd.pinned (OpenSpec.ofChange placeAlignsWrong)

/-- 'parquetrylaw19.PlacePlain': WHATEVER THE INPUT: true; the input reads as it did. -/
def placePlainSpec : ChangeSpec := { name := "placePlain", fn := fun _ => fun
  | [d1, d2, d3, d4, d5] => { results := [.lit (.bool true)], args := [d1, d2, d3, d4, d5] }
  | _ => none }
def placePlainRow : OpenClaim := { program := "ytlocnjenkanmpaadoor", sum := "e622dda76f003e0b5edc092cbaf66abf0c233277ba84ee866d2c50828ba5b2ed", func := "parquetry/parquetrylaw19.PlacePlain", spec := "placePlain", inPlace := ["slices.overlaps[parquetry/api.Slot]"], unfollowed := true, recurses := true, named := ["parquetry/cluster.behind"], apart := false, laid := [("parquetry/cluster.behind", laid_parquetry_cluster_behind)] }
def PlacePlainSaid : Prop := placePlainRow.holds Tryd.pinned (OpenSpec.ofChange placePlainSpec)

/-- ITS FALSE NEIGHBOUR: 'it returns false'. Refute it at one input. -/
def placePlainWrong : ChangeSpec := { name := "placePlain", fn := fun _ => fun
  | [d1, d2, d3, d4, d5] => { results := [.lit (.bool false)], args := [d1, d2, d3, d4, d5] }
  | _ => none }
def PlacePlainWrongFalsely : Prop := placePlainRow.holds Tryd.pinned (OpenSpec.ofChange placePlainWrong)

/- THE SECOND FORM. 'bulk': how many values and letters a reading holds, each counted each time it is reached (what is shared counts as often as it is met; a slice's spare places count too). A statement '..UptoSaid' is the law's where the arguments, and the package variables that the reading takes, are together of bulk at most 1048576: NARROWER than '..Said'. Prove '..Said' where nothing that the law and all that it calls make is longer than what came in: it says more and counts as full. Else prove '..UptoSaid'. A law counts once. -/
mutual
def uptoBulk {H : Type} : DataW H → Nat
  | .lit (.string bytes) => bytes.length + 1
  | .lit _ => 1
  | .nil => 1
  | .ptr d => uptoBulk d + 1
  | .slice elems spare => uptoBulkAll elems + uptoBulkAll spare + 1
  | .agg parts => uptoBulkAll parts + 1
  | .iface _ d => uptoBulk d + 1
  | .map entries => uptoBulkEntries entries + 1
  | .held _ => 1
def uptoBulkAll {H : Type} : List (DataW H) → Nat
  | [] => 0
  | d :: r => uptoBulk d + uptoBulkAll r
def uptoBulkEntries {H : Type} : List (Lit × DataW H) → Nat
  | [] => 0
  | x :: r => uptoBulkEntry x + uptoBulkEntries r
def uptoBulkEntry {H : Type} : Lit × DataW H → Nat
  | (.string bytes, d) => bytes.length + uptoBulk d + 1
  | (_, d) => uptoBulk d + 1
 end
def uptoSmall : (H : Type) → List (DataW H) → Bool := fun _ ds => decide (uptoBulkAll ds ≤ 1048576)
def OpenSpec.upto (s : _root_.Go.ChangeSpec) : _root_.Go.OpenSpec := { _root_.Go.OpenSpec.ofChange s with cond := some uptoSmall }

/-- 'parquetrylaw19.PlaceSlots', WHERE WHAT IT READS IS OF BULK AT MOST 1048576: true; the input reads as it did. -/
def placeSlotsUptoRow : OpenClaim := { program := "ytlocnjenkanmpaadoor", sum := "e622dda76f003e0b5edc092cbaf66abf0c233277ba84ee866d2c50828ba5b2ed", func := "parquetry/parquetrylaw19.PlaceSlots", spec := "placeSlots", inPlace := ["slices.overlaps[parquetry/api.Slot]"], unfollowed := true, recurses := true, named := ["parquetry/cluster.behind"], apart := false, laid := [("parquetry/cluster.behind", laid_parquetry_cluster_behind)], narrowed := true }
def PlaceSlotsUptoSaid : Prop := placeSlotsUptoRow.holds Tryd.pinned (OpenSpec.upto placeSlotsSpec)

/-- 'parquetrylaw19.PlaceOnce', WHERE WHAT IT READS IS OF BULK AT MOST 1048576: true; the input reads as it did. -/
def placeOnceUptoRow : OpenClaim := { program := "ytlocnjenkanmpaadoor", sum := "e622dda76f003e0b5edc092cbaf66abf0c233277ba84ee866d2c50828ba5b2ed", func := "parquetry/parquetrylaw19.PlaceOnce", spec := "placeOnce", inPlace := ["slices.overlaps[parquetry/api.Slot]"], unfollowed := true, recurses := true, named := ["parquetry/cluster.behind"], apart := false, laid := [("parquetry/cluster.behind", laid_parquetry_cluster_behind)], narrowed := true }
def PlaceOnceUptoSaid : Prop := placeOnceUptoRow.holds Tryd.pinned (OpenSpec.upto placeOnceSpec)

/-- 'parquetrylaw19.PlaceAligns', WHERE WHAT IT READS IS OF BULK AT MOST 1048576: true; the input reads as it did. -/
def placeAlignsUptoRow : OpenClaim := { program := "ytlocnjenkanmpaadoor", sum := "e622dda76f003e0b5edc092cbaf66abf0c233277ba84ee866d2c50828ba5b2ed", func := "parquetry/parquetrylaw19.PlaceAligns", spec := "placeAligns", inPlace := ["slices.overlaps[parquetry/api.Slot]"], unfollowed := true, recurses := true, named := ["parquetry/cluster.behind"], apart := false, laid := [("parquetry/cluster.behind", laid_parquetry_cluster_behind)], narrowed := true }
def PlaceAlignsUptoSaid : Prop := placeAlignsUptoRow.holds Tryd.pinned (OpenSpec.upto placeAlignsSpec)

/-- 'parquetrylaw19.PlacePlain', WHERE WHAT IT READS IS OF BULK AT MOST 1048576: true; the input reads as it did. -/
def placePlainUptoRow : OpenClaim := { program := "ytlocnjenkanmpaadoor", sum := "e622dda76f003e0b5edc092cbaf66abf0c233277ba84ee866d2c50828ba5b2ed", func := "parquetry/parquetrylaw19.PlacePlain", spec := "placePlain", inPlace := ["slices.overlaps[parquetry/api.Slot]"], unfollowed := true, recurses := true, named := ["parquetry/cluster.behind"], apart := false, laid := [("parquetry/cluster.behind", laid_parquetry_cluster_behind)], narrowed := true }
def PlacePlainUptoSaid : Prop := placePlainUptoRow.holds Tryd.pinned (OpenSpec.upto placePlainSpec)

end Rows
end Go.Proofs.YtlocnjenkanmpaaDoor
