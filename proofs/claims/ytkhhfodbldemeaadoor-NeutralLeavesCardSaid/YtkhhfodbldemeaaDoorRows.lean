/-
  NARROWER THAN 'FOR EVERY INPUT', by the rows' own cells (each row's printed sentence says how): NeutralSettles: laid · NeutralLevels: laid · NeutralLeaves: laid · NeutralParts: laid · NeutralTurns: laid · NeutralEven: laid.
  DERIVED. THE GIVEN ROWS OF THIS SEAT. 6 by the template 'for every input the law returns true; each argument reads behind the call as it read before'; 0 by the template 'total and deterministic' (their statements: YtkhhfodbldemeaaDoorTotals.lean).
  GIVEN WITH THE SEED: the statements are not yours to turn. If you find one false, say at which input.
  Laid BY PROGRAM, IN A SANDBOX (cutbox-rows.mjs): the forced cells as the released guide's own fill.sh prints them over the translation 54efe31b2bf25d01… (all of the seat's roots in one cut). By AI agents, Wed Nov 11 2026. No macro, syntax, notation, axiom, sorry.
-/
import Derived.Test.YtkhhfodbldemeaaDoorChecked
import GoSem.PinnedTables
import GoSem.Claim
import GoSem.ClaimJoined
import GoSem.ClaimMapViews
import Derived.JoinedTies
import Derived.KernelRfl
namespace Go.Proofs.YtkhhfodbldemeaaDoor
/- THE CELL 'sum', in the pinned program and in every row, IS THE sha256 OF THE DUMP (.gsa) THAT YtkhhfodbldemeaaDoorProg.lean LOADS. Nothing in Lean hashes anything: it is a label: what it is worth is what the hold of that sum in a sandbox is worth. -/
noncomputable def Tryd.pinned : Pinned := { name := "ytkhhfodbldemeaadoor", sum := "54efe31b2bf25d01eca02d69331dbc69bb1f7793d0259d149e95e0e51cbb0469", checked := Tryd.checked }
namespace Rows
def none {H : Type} : Left H := { results := [], args := [] }

/- WHAT THE LISTED PACKAGE-LEVEL VARIABLES READ AS WHEN THE CALL BEGINS. Each datum BY PROGRAM (the guide's laid-datum.mjs) off the statement by which the dump's own 'gosem.cut.vars' lays the variable. In a bare row this is a premise. The card (YtkhhfodbldemeaaDoorCards.lean) ties it to the program's text. -/
def laid_unicode_utf8_acceptRanges {H : Type} : DataW H := .agg [.agg [.lit (.int .u8 128), .lit (.int .u8 191)], .agg [.lit (.int .u8 160), .lit (.int .u8 191)], .agg [.lit (.int .u8 128), .lit (.int .u8 159)], .agg [.lit (.int .u8 144), .lit (.int .u8 191)], .agg [.lit (.int .u8 128), .lit (.int .u8 143)], .agg [.lit (.int .u8 0), .lit (.int .u8 0)], .agg [.lit (.int .u8 0), .lit (.int .u8 0)], .agg [.lit (.int .u8 0), .lit (.int .u8 0)], .agg [.lit (.int .u8 0), .lit (.int .u8 0)], .agg [.lit (.int .u8 0), .lit (.int .u8 0)], .agg [.lit (.int .u8 0), .lit (.int .u8 0)], .agg [.lit (.int .u8 0), .lit (.int .u8 0)], .agg [.lit (.int .u8 0), .lit (.int .u8 0)], .agg [.lit (.int .u8 0), .lit (.int .u8 0)], .agg [.lit (.int .u8 0), .lit (.int .u8 0)], .agg [.lit (.int .u8 0), .lit (.int .u8 0)]]
def laid_parquetry_class_names {H : Type} : DataW H := .agg [.lit (.string [76]), .lit (.string [82]), .lit (.string [65, 76]), .lit (.string [69, 78]), .lit (.string [69, 83]), .lit (.string [69, 84]), .lit (.string [65, 78]), .lit (.string [67, 83]), .lit (.string [78, 83, 77]), .lit (.string [66, 78]), .lit (.string [66]), .lit (.string [83]), .lit (.string [87, 83]), .lit (.string [79, 78]), .lit (.string [76, 82, 69]), .lit (.string [76, 82, 79]), .lit (.string [82, 76, 69]), .lit (.string [82, 76, 79]), .lit (.string [80, 68, 70]), .lit (.string [76, 82, 73]), .lit (.string [82, 76, 73]), .lit (.string [70, 83, 73]), .lit (.string [80, 68, 73])]
/-- One of Go's own tables, pinned by name: the form's constant. -/
def laid_unicode_utf8_first : DataW Unit := Go.Pinned.utf8First

/-- 'parquetrylaw15.NeutralSettles': WHATEVER THE INPUT: true; the input reads as it did. -/
def neutralSettlesSpec : ChangeSpec := { name := "neutralSettles", fn := fun _ => fun
  | [d1, d2, d3, d4] => { results := [.lit (.bool true)], args := [d1, d2, d3, d4] }
  | _ => none }
def neutralSettlesRow : OpenClaim := { program := "ytkhhfodbldemeaadoor", sum := "54efe31b2bf25d01eca02d69331dbc69bb1f7793d0259d149e95e0e51cbb0469", func := "parquetry/parquetrylaw15.NeutralSettles", spec := "neutralSettles", inPlace := ["internal/bytealg.CountString", "internal/bytealg.IndexByteString", "internal/bytealg.IndexString", "internal/abi.NoEscape", "internal/bytealg.MakeNoZero"], unfollowed := true, recurses := true, named := ["unicode/utf8.first", "unicode/utf8.acceptRanges", "internal/bytealg.MaxLen", "parquetry/class.names"], apart := false, laid := [("unicode/utf8.acceptRanges", laid_unicode_utf8_acceptRanges), ("parquetry/class.names", laid_parquetry_class_names), ("unicode/utf8.first", laid_unicode_utf8_first)] }
def NeutralSettlesSaid : Prop := neutralSettlesRow.holds Tryd.pinned (OpenSpec.ofChange neutralSettlesSpec)

/-- ITS FALSE NEIGHBOUR: 'it returns false'. Refute it at one input. -/
def neutralSettlesWrong : ChangeSpec := { name := "neutralSettles", fn := fun _ => fun
  | [d1, d2, d3, d4] => { results := [.lit (.bool false)], args := [d1, d2, d3, d4] }
  | _ => none }
def NeutralSettlesWrongFalsely : Prop := neutralSettlesRow.holds Tryd.pinned (OpenSpec.ofChange neutralSettlesWrong)

/-- 'parquetrylaw15.NeutralLevels': WHATEVER THE INPUT: true; the input reads as it did. -/
def neutralLevelsSpec : ChangeSpec := { name := "neutralLevels", fn := fun _ => fun
  | [d1, d2] => { results := [.lit (.bool true)], args := [d1, d2] }
  | _ => none }
def neutralLevelsRow : OpenClaim := { program := "ytkhhfodbldemeaadoor", sum := "54efe31b2bf25d01eca02d69331dbc69bb1f7793d0259d149e95e0e51cbb0469", func := "parquetry/parquetrylaw15.NeutralLevels", spec := "neutralLevels", inPlace := ["internal/bytealg.CountString", "internal/bytealg.IndexByteString", "internal/bytealg.IndexString", "internal/abi.NoEscape", "internal/bytealg.MakeNoZero"], unfollowed := true, recurses := true, named := ["unicode/utf8.first", "unicode/utf8.acceptRanges", "internal/bytealg.MaxLen", "parquetry/class.names"], apart := false, laid := [("unicode/utf8.acceptRanges", laid_unicode_utf8_acceptRanges), ("parquetry/class.names", laid_parquetry_class_names), ("unicode/utf8.first", laid_unicode_utf8_first)] }
def NeutralLevelsSaid : Prop := neutralLevelsRow.holds Tryd.pinned (OpenSpec.ofChange neutralLevelsSpec)

/-- ITS FALSE NEIGHBOUR: 'it returns false'. Refute it at one input. -/
def neutralLevelsWrong : ChangeSpec := { name := "neutralLevels", fn := fun _ => fun
  | [d1, d2] => { results := [.lit (.bool false)], args := [d1, d2] }
  | _ => none }
def NeutralLevelsWrongFalsely : Prop := neutralLevelsRow.holds Tryd.pinned (OpenSpec.ofChange neutralLevelsWrong)

/-- 'parquetrylaw15.NeutralLeaves': WHATEVER THE INPUT: true; the input reads as it did. -/
def neutralLeavesSpec : ChangeSpec := { name := "neutralLeaves", fn := fun _ => fun
  | [d1, d2, d3, d4] => { results := [.lit (.bool true)], args := [d1, d2, d3, d4] }
  | _ => none }
def neutralLeavesRow : OpenClaim := { program := "ytkhhfodbldemeaadoor", sum := "54efe31b2bf25d01eca02d69331dbc69bb1f7793d0259d149e95e0e51cbb0469", func := "parquetry/parquetrylaw15.NeutralLeaves", spec := "neutralLeaves", inPlace := ["internal/bytealg.CountString", "internal/bytealg.IndexByteString", "internal/bytealg.IndexString", "internal/abi.NoEscape", "internal/bytealg.MakeNoZero"], unfollowed := true, recurses := true, named := ["unicode/utf8.first", "unicode/utf8.acceptRanges", "internal/bytealg.MaxLen", "parquetry/class.names"], apart := false, laid := [("unicode/utf8.acceptRanges", laid_unicode_utf8_acceptRanges), ("parquetry/class.names", laid_parquetry_class_names), ("unicode/utf8.first", laid_unicode_utf8_first)] }
def NeutralLeavesSaid : Prop := neutralLeavesRow.holds Tryd.pinned (OpenSpec.ofChange neutralLeavesSpec)

/-- ITS FALSE NEIGHBOUR: 'it returns false'. Refute it at one input. -/
def neutralLeavesWrong : ChangeSpec := { name := "neutralLeaves", fn := fun _ => fun
  | [d1, d2, d3, d4] => { results := [.lit (.bool false)], args := [d1, d2, d3, d4] }
  | _ => none }
def NeutralLeavesWrongFalsely : Prop := neutralLeavesRow.holds Tryd.pinned (OpenSpec.ofChange neutralLeavesWrong)

/-- 'parquetrylaw15.NeutralParts': WHATEVER THE INPUT: true; the input reads as it did. -/
def neutralPartsSpec : ChangeSpec := { name := "neutralParts", fn := fun _ => fun
  | [d1, d2, d3, d4, d5, d6] => { results := [.lit (.bool true)], args := [d1, d2, d3, d4, d5, d6] }
  | _ => none }
def neutralPartsRow : OpenClaim := { program := "ytkhhfodbldemeaadoor", sum := "54efe31b2bf25d01eca02d69331dbc69bb1f7793d0259d149e95e0e51cbb0469", func := "parquetry/parquetrylaw15.NeutralParts", spec := "neutralParts", inPlace := ["internal/bytealg.CountString", "internal/bytealg.IndexByteString", "internal/bytealg.IndexString", "internal/abi.NoEscape", "internal/bytealg.MakeNoZero"], unfollowed := true, recurses := true, named := ["unicode/utf8.first", "unicode/utf8.acceptRanges", "internal/bytealg.MaxLen", "parquetry/class.names"], apart := false, laid := [("unicode/utf8.acceptRanges", laid_unicode_utf8_acceptRanges), ("parquetry/class.names", laid_parquetry_class_names), ("unicode/utf8.first", laid_unicode_utf8_first)] }
def NeutralPartsSaid : Prop := neutralPartsRow.holds Tryd.pinned (OpenSpec.ofChange neutralPartsSpec)

/-- ITS FALSE NEIGHBOUR: 'it returns false'. Refute it at one input. -/
def neutralPartsWrong : ChangeSpec := { name := "neutralParts", fn := fun _ => fun
  | [d1, d2, d3, d4, d5, d6] => { results := [.lit (.bool false)], args := [d1, d2, d3, d4, d5, d6] }
  | _ => none }
def NeutralPartsWrongFalsely : Prop := neutralPartsRow.holds Tryd.pinned (OpenSpec.ofChange neutralPartsWrong)

/-- 'parquetrylaw15.NeutralTurns': WHATEVER THE INPUT: true; the input reads as it did. -/
def neutralTurnsSpec : ChangeSpec := { name := "neutralTurns", fn := fun _ => fun
  | [d1, d2, d3, d4] => { results := [.lit (.bool true)], args := [d1, d2, d3, d4] }
  | _ => none }
def neutralTurnsRow : OpenClaim := { program := "ytkhhfodbldemeaadoor", sum := "54efe31b2bf25d01eca02d69331dbc69bb1f7793d0259d149e95e0e51cbb0469", func := "parquetry/parquetrylaw15.NeutralTurns", spec := "neutralTurns", inPlace := ["internal/bytealg.CountString", "internal/bytealg.IndexByteString", "internal/bytealg.IndexString", "internal/abi.NoEscape", "internal/bytealg.MakeNoZero"], unfollowed := true, recurses := true, named := ["unicode/utf8.first", "unicode/utf8.acceptRanges", "internal/bytealg.MaxLen", "parquetry/class.names"], apart := false, laid := [("unicode/utf8.acceptRanges", laid_unicode_utf8_acceptRanges), ("parquetry/class.names", laid_parquetry_class_names), ("unicode/utf8.first", laid_unicode_utf8_first)] }
def NeutralTurnsSaid : Prop := neutralTurnsRow.holds Tryd.pinned (OpenSpec.ofChange neutralTurnsSpec)

/-- ITS FALSE NEIGHBOUR: 'it returns false'. Refute it at one input. -/
def neutralTurnsWrong : ChangeSpec := { name := "neutralTurns", fn := fun _ => fun
  | [d1, d2, d3, d4] => { results := [.lit (.bool false)], args := [d1, d2, d3, d4] }
  | _ => none }
def NeutralTurnsWrongFalsely : Prop := neutralTurnsRow.holds Tryd.pinned (OpenSpec.ofChange neutralTurnsWrong)

/-- 'parquetrylaw15.NeutralEven': WHATEVER THE INPUT: true; the input reads as it did. -/
def neutralEvenSpec : ChangeSpec := { name := "neutralEven", fn := fun _ => fun
  | [d1, d2] => { results := [.lit (.bool true)], args := [d1, d2] }
  | _ => none }
def neutralEvenRow : OpenClaim := { program := "ytkhhfodbldemeaadoor", sum := "54efe31b2bf25d01eca02d69331dbc69bb1f7793d0259d149e95e0e51cbb0469", func := "parquetry/parquetrylaw15.NeutralEven", spec := "neutralEven", inPlace := ["internal/bytealg.CountString", "internal/bytealg.IndexByteString", "internal/bytealg.IndexString", "internal/abi.NoEscape", "internal/bytealg.MakeNoZero"], unfollowed := true, recurses := true, named := ["unicode/utf8.first", "unicode/utf8.acceptRanges", "internal/bytealg.MaxLen", "parquetry/class.names"], apart := false, laid := [("unicode/utf8.acceptRanges", laid_unicode_utf8_acceptRanges), ("parquetry/class.names", laid_parquetry_class_names), ("unicode/utf8.first", laid_unicode_utf8_first)] }
def NeutralEvenSaid : Prop := neutralEvenRow.holds Tryd.pinned (OpenSpec.ofChange neutralEvenSpec)

/-- ITS FALSE NEIGHBOUR: 'it returns false'. Refute it at one input. -/
def neutralEvenWrong : ChangeSpec := { name := "neutralEven", fn := fun _ => fun
  | [d1, d2] => { results := [.lit (.bool false)], args := [d1, d2] }
  | _ => none }
def NeutralEvenWrongFalsely : Prop := neutralEvenRow.holds Tryd.pinned (OpenSpec.ofChange neutralEvenWrong)

/- THE SECOND FORM. 'bulk': how many values and letters a reading holds, each counted each time it is reached (what is shared counts as often as it is met; a slice's spare places count too). A statement '..UptoSaid' is the law's where the arguments, and the package variables that the reading takes, are together of bulk at most 1048576: NARROWER than '..Said'. Prove '..Said' where nothing that the law and all that it calls make is longer than what came in: it says more and counts as full. Else prove '..UptoSaid'. A law counts once. -/
mutual
def uptoBulk {H : Type} : DataW H → Nat
  | .lit (.string bytes) => bytes.length + 1
  | .lit _ => 1
  | .nil => 1
  | .ptr d => uptoBulk d + 1
  | .slice elems spare => uptoBulkAll elems + uptoBulkAll spare + 1
  | .agg parts => uptoBulkAll parts + 1
  | .iface _ d => uptoBulk d + 1
  | .map entries => uptoBulkEntries entries + 1
  | .held _ => 1
def uptoBulkAll {H : Type} : List (DataW H) → Nat
  | [] => 0
  | d :: r => uptoBulk d + uptoBulkAll r
def uptoBulkEntries {H : Type} : List (Lit × DataW H) → Nat
  | [] => 0
  | x :: r => uptoBulkEntry x + uptoBulkEntries r
def uptoBulkEntry {H : Type} : Lit × DataW H → Nat
  | (.string bytes, d) => bytes.length + uptoBulk d + 1
  | (_, d) => uptoBulk d + 1
 end
def uptoSmall : (H : Type) → List (DataW H) → Bool := fun _ ds => decide (uptoBulkAll ds ≤ 1048576)
def OpenSpec.upto (s : _root_.Go.ChangeSpec) : _root_.Go.OpenSpec := { _root_.Go.OpenSpec.ofChange s with cond := some uptoSmall }

/-- 'parquetrylaw15.NeutralSettles', WHERE WHAT IT READS IS OF BULK AT MOST 1048576: true; the input reads as it did. -/
def neutralSettlesUptoRow : OpenClaim := { program := "ytkhhfodbldemeaadoor", sum := "54efe31b2bf25d01eca02d69331dbc69bb1f7793d0259d149e95e0e51cbb0469", func := "parquetry/parquetrylaw15.NeutralSettles", spec := "neutralSettles", inPlace := ["internal/bytealg.CountString", "internal/bytealg.IndexByteString", "internal/bytealg.IndexString", "internal/abi.NoEscape", "internal/bytealg.MakeNoZero"], unfollowed := true, recurses := true, named := ["unicode/utf8.first", "unicode/utf8.acceptRanges", "internal/bytealg.MaxLen", "parquetry/class.names"], apart := false, laid := [("unicode/utf8.acceptRanges", laid_unicode_utf8_acceptRanges), ("parquetry/class.names", laid_parquetry_class_names), ("unicode/utf8.first", laid_unicode_utf8_first)], narrowed := true }
def NeutralSettlesUptoSaid : Prop := neutralSettlesUptoRow.holds Tryd.pinned (OpenSpec.upto neutralSettlesSpec)

/-- 'parquetrylaw15.NeutralLevels', WHERE WHAT IT READS IS OF BULK AT MOST 1048576: true; the input reads as it did. -/
def neutralLevelsUptoRow : OpenClaim := { program := "ytkhhfodbldemeaadoor", sum := "54efe31b2bf25d01eca02d69331dbc69bb1f7793d0259d149e95e0e51cbb0469", func := "parquetry/parquetrylaw15.NeutralLevels", spec := "neutralLevels", inPlace := ["internal/bytealg.CountString", "internal/bytealg.IndexByteString", "internal/bytealg.IndexString", "internal/abi.NoEscape", "internal/bytealg.MakeNoZero"], unfollowed := true, recurses := true, named := ["unicode/utf8.first", "unicode/utf8.acceptRanges", "internal/bytealg.MaxLen", "parquetry/class.names"], apart := false, laid := [("unicode/utf8.acceptRanges", laid_unicode_utf8_acceptRanges), ("parquetry/class.names", laid_parquetry_class_names), ("unicode/utf8.first", laid_unicode_utf8_first)], narrowed := true }
def NeutralLevelsUptoSaid : Prop := neutralLevelsUptoRow.holds Tryd.pinned (OpenSpec.upto neutralLevelsSpec)

/-- 'parquetrylaw15.NeutralLeaves', WHERE WHAT IT READS IS OF BULK AT MOST 1048576: true; the input reads as it did. -/
def neutralLeavesUptoRow : OpenClaim := { program := "ytkhhfodbldemeaadoor", sum := "54efe31b2bf25d01eca02d69331dbc69bb1f7793d0259d149e95e0e51cbb0469", func := "parquetry/parquetrylaw15.NeutralLeaves", spec := "neutralLeaves", inPlace := ["internal/bytealg.CountString", "internal/bytealg.IndexByteString", "internal/bytealg.IndexString", "internal/abi.NoEscape", "internal/bytealg.MakeNoZero"], unfollowed := true, recurses := true, named := ["unicode/utf8.first", "unicode/utf8.acceptRanges", "internal/bytealg.MaxLen", "parquetry/class.names"], apart := false, laid := [("unicode/utf8.acceptRanges", laid_unicode_utf8_acceptRanges), ("parquetry/class.names", laid_parquetry_class_names), ("unicode/utf8.first", laid_unicode_utf8_first)], narrowed := true }
def NeutralLeavesUptoSaid : Prop := neutralLeavesUptoRow.holds Tryd.pinned (OpenSpec.upto neutralLeavesSpec)

/-- 'parquetrylaw15.NeutralParts', WHERE WHAT IT READS IS OF BULK AT MOST 1048576: true; the input reads as it did. -/
def neutralPartsUptoRow : OpenClaim := { program := "ytkhhfodbldemeaadoor", sum := "54efe31b2bf25d01eca02d69331dbc69bb1f7793d0259d149e95e0e51cbb0469", func := "parquetry/parquetrylaw15.NeutralParts", spec := "neutralParts", inPlace := ["internal/bytealg.CountString", "internal/bytealg.IndexByteString", "internal/bytealg.IndexString", "internal/abi.NoEscape", "internal/bytealg.MakeNoZero"], unfollowed := true, recurses := true, named := ["unicode/utf8.first", "unicode/utf8.acceptRanges", "internal/bytealg.MaxLen", "parquetry/class.names"], apart := false, laid := [("unicode/utf8.acceptRanges", laid_unicode_utf8_acceptRanges), ("parquetry/class.names", laid_parquetry_class_names), ("unicode/utf8.first", laid_unicode_utf8_first)], narrowed := true }
def NeutralPartsUptoSaid : Prop := neutralPartsUptoRow.holds Tryd.pinned (OpenSpec.upto neutralPartsSpec)

/-- 'parquetrylaw15.NeutralTurns', WHERE WHAT IT READS IS OF BULK AT MOST 1048576: true; the input reads as it did. -/
def neutralTurnsUptoRow : OpenClaim := { program := "ytkhhfodbldemeaadoor", sum := "54efe31b2bf25d01eca02d69331dbc69bb1f7793d0259d149e95e0e51cbb0469", func := "parquetry/parquetrylaw15.NeutralTurns", spec := "neutralTurns", inPlace := ["internal/bytealg.CountString", "internal/bytealg.IndexByteString", "internal/bytealg.IndexString", "internal/abi.NoEscape", "internal/bytealg.MakeNoZero"], unfollowed := true, recurses := true, named := ["unicode/utf8.first", "unicode/utf8.acceptRanges", "internal/bytealg.MaxLen", "parquetry/class.names"], apart := false, laid := [("unicode/utf8.acceptRanges", laid_unicode_utf8_acceptRanges), ("parquetry/class.names", laid_parquetry_class_names), ("unicode/utf8.first", laid_unicode_utf8_first)], narrowed := true }
def NeutralTurnsUptoSaid : Prop := neutralTurnsUptoRow.holds Tryd.pinned (OpenSpec.upto neutralTurnsSpec)

/-- 'parquetrylaw15.NeutralEven', WHERE WHAT IT READS IS OF BULK AT MOST 1048576: true; the input reads as it did. -/
def neutralEvenUptoRow : OpenClaim := { program := "ytkhhfodbldemeaadoor", sum := "54efe31b2bf25d01eca02d69331dbc69bb1f7793d0259d149e95e0e51cbb0469", func := "parquetry/parquetrylaw15.NeutralEven", spec := "neutralEven", inPlace := ["internal/bytealg.CountString", "internal/bytealg.IndexByteString", "internal/bytealg.IndexString", "internal/abi.NoEscape", "internal/bytealg.MakeNoZero"], unfollowed := true, recurses := true, named := ["unicode/utf8.first", "unicode/utf8.acceptRanges", "internal/bytealg.MaxLen", "parquetry/class.names"], apart := false, laid := [("unicode/utf8.acceptRanges", laid_unicode_utf8_acceptRanges), ("parquetry/class.names", laid_parquetry_class_names), ("unicode/utf8.first", laid_unicode_utf8_first)], narrowed := true }
def NeutralEvenUptoSaid : Prop := neutralEvenUptoRow.holds Tryd.pinned (OpenSpec.upto neutralEvenSpec)

end Rows
end Go.Proofs.YtkhhfodbldemeaaDoor
