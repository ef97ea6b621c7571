/-
  NARROWER THAN 'FOR EVERY INPUT', by the rows' own cells (each row's printed sentence says how): PairsFound: laid · PairsSettle: laid · PairsNest: laid · PairsJust: laid · PairsTurn: laid.
  DERIVED. THE GIVEN ROWS OF THIS SEAT. 5 by the template 'for every input the law returns true; each argument reads behind the call as it read before'; 0 by the template 'total and deterministic' (their statements: YtapeebnbiappgaaDoorTotals.lean).
  GIVEN WITH THE SEED: the statements are not yours to turn. If you find one false, say at which input.
  Laid BY PROGRAM, IN A SANDBOX (cutbox-rows.mjs): the forced cells as the released guide's own fill.sh prints them over the translation 41e4d2b61fb55ae9… (all of the seat's roots in one cut). By AI agents, Wed Nov 11 2026. No macro, syntax, notation, axiom, sorry.
-/
import Derived.Test.YtapeebnbiappgaaDoorChecked
import GoSem.PinnedTables
import GoSem.Claim
import GoSem.ClaimJoined
import GoSem.ClaimMapViews
import Derived.JoinedTies
import Derived.KernelRfl
namespace Go.Proofs.YtapeebnbiappgaaDoor
/- THE CELL 'sum', in the pinned program and in every row, IS THE sha256 OF THE DUMP (.gsa) THAT YtapeebnbiappgaaDoorProg.lean LOADS. Nothing in Lean hashes anything: it is a label: what it is worth is what the hold of that sum in a sandbox is worth. -/
noncomputable def Tryd.pinned : Pinned := { name := "ytapeebnbiappgaadoor", sum := "41e4d2b61fb55ae99dfddf7f901100b56c4ca612b182dfd1c61cf1eeb54c9530", checked := Tryd.checked }
namespace Rows
def none {H : Type} : Left H := { results := [], args := [] }

/- WHAT THE LISTED PACKAGE-LEVEL VARIABLES READ AS WHEN THE CALL BEGINS. Each datum BY PROGRAM (the guide's laid-datum.mjs) off the statement by which the dump's own 'gosem.cut.vars' lays the variable. In a bare row this is a premise. The card (YtapeebnbiappgaaDoorCards.lean) ties it to the program's text. -/
def laid_unicode_utf8_acceptRanges {H : Type} : DataW H := .agg [.agg [.lit (.int .u8 128), .lit (.int .u8 191)], .agg [.lit (.int .u8 160), .lit (.int .u8 191)], .agg [.lit (.int .u8 128), .lit (.int .u8 159)], .agg [.lit (.int .u8 144), .lit (.int .u8 191)], .agg [.lit (.int .u8 128), .lit (.int .u8 143)], .agg [.lit (.int .u8 0), .lit (.int .u8 0)], .agg [.lit (.int .u8 0), .lit (.int .u8 0)], .agg [.lit (.int .u8 0), .lit (.int .u8 0)], .agg [.lit (.int .u8 0), .lit (.int .u8 0)], .agg [.lit (.int .u8 0), .lit (.int .u8 0)], .agg [.lit (.int .u8 0), .lit (.int .u8 0)], .agg [.lit (.int .u8 0), .lit (.int .u8 0)], .agg [.lit (.int .u8 0), .lit (.int .u8 0)], .agg [.lit (.int .u8 0), .lit (.int .u8 0)], .agg [.lit (.int .u8 0), .lit (.int .u8 0)], .agg [.lit (.int .u8 0), .lit (.int .u8 0)]]
def laid_parquetry_class_names {H : Type} : DataW H := .agg [.lit (.string [76]), .lit (.string [82]), .lit (.string [65, 76]), .lit (.string [69, 78]), .lit (.string [69, 83]), .lit (.string [69, 84]), .lit (.string [65, 78]), .lit (.string [67, 83]), .lit (.string [78, 83, 77]), .lit (.string [66, 78]), .lit (.string [66]), .lit (.string [83]), .lit (.string [87, 83]), .lit (.string [79, 78]), .lit (.string [76, 82, 69]), .lit (.string [76, 82, 79]), .lit (.string [82, 76, 69]), .lit (.string [82, 76, 79]), .lit (.string [80, 68, 70]), .lit (.string [76, 82, 73]), .lit (.string [82, 76, 73]), .lit (.string [70, 83, 73]), .lit (.string [80, 68, 73])]
/-- One of Go's own tables, pinned by name: the form's constant. -/
def laid_unicode_utf8_first : DataW Unit := Go.Pinned.utf8First

/-- 'parquetrylaw14.PairsFound': WHATEVER THE INPUT: true; the input reads as it did. -/
def pairsFoundSpec : ChangeSpec := { name := "pairsFound", fn := fun _ => fun
  | [d1, d2] => { results := [.lit (.bool true)], args := [d1, d2] }
  | _ => none }
def pairsFoundRow : OpenClaim := { program := "ytapeebnbiappgaadoor", sum := "41e4d2b61fb55ae99dfddf7f901100b56c4ca612b182dfd1c61cf1eeb54c9530", func := "parquetry/parquetrylaw14.PairsFound", spec := "pairsFound", inPlace := ["internal/bytealg.CountString", "internal/bytealg.IndexByteString", "internal/bytealg.IndexString", "internal/abi.NoEscape", "internal/bytealg.MakeNoZero"], unfollowed := true, recurses := true, named := ["unicode/utf8.first", "unicode/utf8.acceptRanges", "internal/bytealg.MaxLen", "parquetry/class.names"], apart := false, laid := [("unicode/utf8.acceptRanges", laid_unicode_utf8_acceptRanges), ("parquetry/class.names", laid_parquetry_class_names), ("unicode/utf8.first", laid_unicode_utf8_first)] }
def PairsFoundSaid : Prop := pairsFoundRow.holds Tryd.pinned (OpenSpec.ofChange pairsFoundSpec)

/-- ITS FALSE NEIGHBOUR: 'it returns false'. Refute it at one input. -/
def pairsFoundWrong : ChangeSpec := { name := "pairsFound", fn := fun _ => fun
  | [d1, d2] => { results := [.lit (.bool false)], args := [d1, d2] }
  | _ => none }
def PairsFoundWrongFalsely : Prop := pairsFoundRow.holds Tryd.pinned (OpenSpec.ofChange pairsFoundWrong)

/-- 'parquetrylaw14.PairsSettle': WHATEVER THE INPUT: true; the input reads as it did. -/
def pairsSettleSpec : ChangeSpec := { name := "pairsSettle", fn := fun _ => fun
  | [d1, d2, d3, d4, d5] => { results := [.lit (.bool true)], args := [d1, d2, d3, d4, d5] }
  | _ => none }
def pairsSettleRow : OpenClaim := { program := "ytapeebnbiappgaadoor", sum := "41e4d2b61fb55ae99dfddf7f901100b56c4ca612b182dfd1c61cf1eeb54c9530", func := "parquetry/parquetrylaw14.PairsSettle", spec := "pairsSettle", inPlace := ["internal/bytealg.CountString", "internal/bytealg.IndexByteString", "internal/bytealg.IndexString", "internal/abi.NoEscape", "internal/bytealg.MakeNoZero"], unfollowed := true, recurses := true, named := ["unicode/utf8.first", "unicode/utf8.acceptRanges", "internal/bytealg.MaxLen", "parquetry/class.names"], apart := false, laid := [("unicode/utf8.acceptRanges", laid_unicode_utf8_acceptRanges), ("parquetry/class.names", laid_parquetry_class_names), ("unicode/utf8.first", laid_unicode_utf8_first)] }
def PairsSettleSaid : Prop := pairsSettleRow.holds Tryd.pinned (OpenSpec.ofChange pairsSettleSpec)

/-- ITS FALSE NEIGHBOUR: 'it returns false'. Refute it at one input. -/
def pairsSettleWrong : ChangeSpec := { name := "pairsSettle", fn := fun _ => fun
  | [d1, d2, d3, d4, d5] => { results := [.lit (.bool false)], args := [d1, d2, d3, d4, d5] }
  | _ => none }
def PairsSettleWrongFalsely : Prop := pairsSettleRow.holds Tryd.pinned (OpenSpec.ofChange pairsSettleWrong)

/-- 'parquetrylaw14.PairsNest': WHATEVER THE INPUT: true; the input reads as it did. -/
def pairsNestSpec : ChangeSpec := { name := "pairsNest", fn := fun _ => fun
  | [d1, d2] => { results := [.lit (.bool true)], args := [d1, d2] }
  | _ => none }
def pairsNestRow : OpenClaim := { program := "ytapeebnbiappgaadoor", sum := "41e4d2b61fb55ae99dfddf7f901100b56c4ca612b182dfd1c61cf1eeb54c9530", func := "parquetry/parquetrylaw14.PairsNest", spec := "pairsNest", inPlace := ["internal/bytealg.CountString", "internal/bytealg.IndexByteString", "internal/bytealg.IndexString", "internal/abi.NoEscape", "internal/bytealg.MakeNoZero"], unfollowed := true, recurses := true, named := ["unicode/utf8.first", "unicode/utf8.acceptRanges", "internal/bytealg.MaxLen", "parquetry/class.names"], apart := false, laid := [("unicode/utf8.acceptRanges", laid_unicode_utf8_acceptRanges), ("parquetry/class.names", laid_parquetry_class_names), ("unicode/utf8.first", laid_unicode_utf8_first)] }
def PairsNestSaid : Prop := pairsNestRow.holds Tryd.pinned (OpenSpec.ofChange pairsNestSpec)

/-- ITS FALSE NEIGHBOUR: 'it returns false'. Refute it at one input. -/
def pairsNestWrong : ChangeSpec := { name := "pairsNest", fn := fun _ => fun
  | [d1, d2] => { results := [.lit (.bool false)], args := [d1, d2] }
  | _ => none }
def PairsNestWrongFalsely : Prop := pairsNestRow.holds Tryd.pinned (OpenSpec.ofChange pairsNestWrong)

/-- 'parquetrylaw14.PairsJust': WHATEVER THE INPUT: true; the input reads as it did. -/
def pairsJustSpec : ChangeSpec := { name := "pairsJust", fn := fun _ => fun
  | [d1, d2, d3, d4, d5] => { results := [.lit (.bool true)], args := [d1, d2, d3, d4, d5] }
  | _ => none }
def pairsJustRow : OpenClaim := { program := "ytapeebnbiappgaadoor", sum := "41e4d2b61fb55ae99dfddf7f901100b56c4ca612b182dfd1c61cf1eeb54c9530", func := "parquetry/parquetrylaw14.PairsJust", spec := "pairsJust", inPlace := ["internal/bytealg.CountString", "internal/bytealg.IndexByteString", "internal/bytealg.IndexString", "internal/abi.NoEscape", "internal/bytealg.MakeNoZero"], unfollowed := true, recurses := true, named := ["unicode/utf8.first", "unicode/utf8.acceptRanges", "internal/bytealg.MaxLen", "parquetry/class.names"], apart := false, laid := [("unicode/utf8.acceptRanges", laid_unicode_utf8_acceptRanges), ("parquetry/class.names", laid_parquetry_class_names), ("unicode/utf8.first", laid_unicode_utf8_first)] }
def PairsJustSaid : Prop := pairsJustRow.holds Tryd.pinned (OpenSpec.ofChange pairsJustSpec)

/-- ITS FALSE NEIGHBOUR: 'it returns false'. Refute it at one input. -/
def pairsJustWrong : ChangeSpec := { name := "pairsJust", fn := fun _ => fun
  | [d1, d2, d3, d4, d5] => { results := [.lit (.bool false)], args := [d1, d2, d3, d4, d5] }
  | _ => none }
def PairsJustWrongFalsely : Prop := pairsJustRow.holds Tryd.pinned (OpenSpec.ofChange pairsJustWrong)

/-- 'parquetrylaw14.PairsTurn': WHATEVER THE INPUT: true; the input reads as it did. -/
def pairsTurnSpec : ChangeSpec := { name := "pairsTurn", fn := fun _ => fun
  | [d1, d2, d3, d4, d5] => { results := [.lit (.bool true)], args := [d1, d2, d3, d4, d5] }
  | _ => none }
def pairsTurnRow : OpenClaim := { program := "ytapeebnbiappgaadoor", sum := "41e4d2b61fb55ae99dfddf7f901100b56c4ca612b182dfd1c61cf1eeb54c9530", func := "parquetry/parquetrylaw14.PairsTurn", spec := "pairsTurn", inPlace := ["internal/bytealg.CountString", "internal/bytealg.IndexByteString", "internal/bytealg.IndexString", "internal/abi.NoEscape", "internal/bytealg.MakeNoZero"], unfollowed := true, recurses := true, named := ["unicode/utf8.first", "unicode/utf8.acceptRanges", "internal/bytealg.MaxLen", "parquetry/class.names"], apart := false, laid := [("unicode/utf8.acceptRanges", laid_unicode_utf8_acceptRanges), ("parquetry/class.names", laid_parquetry_class_names), ("unicode/utf8.first", laid_unicode_utf8_first)] }
def PairsTurnSaid : Prop := pairsTurnRow.holds Tryd.pinned (OpenSpec.ofChange pairsTurnSpec)

/-- ITS FALSE NEIGHBOUR: 'it returns false'. Refute it at one input. -/
def pairsTurnWrong : ChangeSpec := { name := "pairsTurn", fn := fun _ => fun
  | [d1, d2, d3, d4, d5] => { results := [.lit (.bool false)], args := [d1, d2, d3, d4, d5] }
  | _ => none }
def PairsTurnWrongFalsely : Prop := pairsTurnRow.holds Tryd.pinned (OpenSpec.ofChange pairsTurnWrong)

/- THE SECOND FORM. 'bulk': how many values and letters a reading holds, each counted each time it is reached (what is shared counts as often as it is met; a slice's spare places count too). A statement '..UptoSaid' is the law's where the arguments, and the package variables that the reading takes, are together of bulk at most 1048576: NARROWER than '..Said'. Prove '..Said' where nothing that the law and all that it calls make is longer than what came in: it says more and counts as full. Else prove '..UptoSaid'. A law counts once. -/
mutual
def uptoBulk {H : Type} : DataW H → Nat
  | .lit (.string bytes) => bytes.length + 1
  | .lit _ => 1
  | .nil => 1
  | .ptr d => uptoBulk d + 1
  | .slice elems spare => uptoBulkAll elems + uptoBulkAll spare + 1
  | .agg parts => uptoBulkAll parts + 1
  | .iface _ d => uptoBulk d + 1
  | .map entries => uptoBulkEntries entries + 1
  | .held _ => 1
def uptoBulkAll {H : Type} : List (DataW H) → Nat
  | [] => 0
  | d :: r => uptoBulk d + uptoBulkAll r
def uptoBulkEntries {H : Type} : List (Lit × DataW H) → Nat
  | [] => 0
  | x :: r => uptoBulkEntry x + uptoBulkEntries r
def uptoBulkEntry {H : Type} : Lit × DataW H → Nat
  | (.string bytes, d) => bytes.length + uptoBulk d + 1
  | (_, d) => uptoBulk d + 1
 end
def uptoSmall : (H : Type) → List (DataW H) → Bool := fun _ ds => decide (uptoBulkAll ds ≤ 1048576)
def OpenSpec.upto (s : _root_.Go.ChangeSpec) : _root_.Go.OpenSpec := { _root_.Go.OpenSpec.ofChange s with cond := some uptoSmall }

/-- 'parquetrylaw14.PairsFound', WHERE WHAT IT READS IS OF BULK AT MOST 1048576: true; the input reads as it did. -/
def pairsFoundUptoRow : OpenClaim := { program := "ytapeebnbiappgaadoor", sum := "41e4d2b61fb55ae99dfddf7f901100b56c4ca612b182dfd1c61cf1eeb54c9530", func := "parquetry/parquetrylaw14.PairsFound", spec := "pairsFound", inPlace := ["internal/bytealg.CountString", "internal/bytealg.IndexByteString", "internal/bytealg.IndexString", "internal/abi.NoEscape", "internal/bytealg.MakeNoZero"], unfollowed := true, recurses := true, named := ["unicode/utf8.first", "unicode/utf8.acceptRanges", "internal/bytealg.MaxLen", "parquetry/class.names"], apart := false, laid := [("unicode/utf8.acceptRanges", laid_unicode_utf8_acceptRanges), ("parquetry/class.names", laid_parquetry_class_names), ("unicode/utf8.first", laid_unicode_utf8_first)], narrowed := true }
def PairsFoundUptoSaid : Prop := pairsFoundUptoRow.holds Tryd.pinned (OpenSpec.upto pairsFoundSpec)

/-- 'parquetrylaw14.PairsSettle', WHERE WHAT IT READS IS OF BULK AT MOST 1048576: true; the input reads as it did. -/
def pairsSettleUptoRow : OpenClaim := { program := "ytapeebnbiappgaadoor", sum := "41e4d2b61fb55ae99dfddf7f901100b56c4ca612b182dfd1c61cf1eeb54c9530", func := "parquetry/parquetrylaw14.PairsSettle", spec := "pairsSettle", inPlace := ["internal/bytealg.CountString", "internal/bytealg.IndexByteString", "internal/bytealg.IndexString", "internal/abi.NoEscape", "internal/bytealg.MakeNoZero"], unfollowed := true, recurses := true, named := ["unicode/utf8.first", "unicode/utf8.acceptRanges", "internal/bytealg.MaxLen", "parquetry/class.names"], apart := false, laid := [("unicode/utf8.acceptRanges", laid_unicode_utf8_acceptRanges), ("parquetry/class.names", laid_parquetry_class_names), ("unicode/utf8.first", laid_unicode_utf8_first)], narrowed := true }
def PairsSettleUptoSaid : Prop := pairsSettleUptoRow.holds Tryd.pinned (OpenSpec.upto pairsSettleSpec)

/-- 'parquetrylaw14.PairsNest', WHERE WHAT IT READS IS OF BULK AT MOST 1048576: true; the input reads as it did. -/
def pairsNestUptoRow : OpenClaim := { program := "ytapeebnbiappgaadoor", sum := "41e4d2b61fb55ae99dfddf7f901100b56c4ca612b182dfd1c61cf1eeb54c9530", func := "parquetry/parquetrylaw14.PairsNest", spec := "pairsNest", inPlace := ["internal/bytealg.CountString", "internal/bytealg.IndexByteString", "internal/bytealg.IndexString", "internal/abi.NoEscape", "internal/bytealg.MakeNoZero"], unfollowed := true, recurses := true, named := ["unicode/utf8.first", "unicode/utf8.acceptRanges", "internal/bytealg.MaxLen", "parquetry/class.names"], apart := false, laid := [("unicode/utf8.acceptRanges", laid_unicode_utf8_acceptRanges), ("parquetry/class.names", laid_parquetry_class_names), ("unicode/utf8.first", laid_unicode_utf8_first)], narrowed := true }
def PairsNestUptoSaid : Prop := pairsNestUptoRow.holds Tryd.pinned (OpenSpec.upto pairsNestSpec)

/-- 'parquetrylaw14.PairsJust', WHERE WHAT IT READS IS OF BULK AT MOST 1048576: true; the input reads as it did. -/
def pairsJustUptoRow : OpenClaim := { program := "ytapeebnbiappgaadoor", sum := "41e4d2b61fb55ae99dfddf7f901100b56c4ca612b182dfd1c61cf1eeb54c9530", func := "parquetry/parquetrylaw14.PairsJust", spec := "pairsJust", inPlace := ["internal/bytealg.CountString", "internal/bytealg.IndexByteString", "internal/bytealg.IndexString", "internal/abi.NoEscape", "internal/bytealg.MakeNoZero"], unfollowed := true, recurses := true, named := ["unicode/utf8.first", "unicode/utf8.acceptRanges", "internal/bytealg.MaxLen", "parquetry/class.names"], apart := false, laid := [("unicode/utf8.acceptRanges", laid_unicode_utf8_acceptRanges), ("parquetry/class.names", laid_parquetry_class_names), ("unicode/utf8.first", laid_unicode_utf8_first)], narrowed := true }
def PairsJustUptoSaid : Prop := pairsJustUptoRow.holds Tryd.pinned (OpenSpec.upto pairsJustSpec)

/-- 'parquetrylaw14.PairsTurn', WHERE WHAT IT READS IS OF BULK AT MOST 1048576: true; the input reads as it did. -/
def pairsTurnUptoRow : OpenClaim := { program := "ytapeebnbiappgaadoor", sum := "41e4d2b61fb55ae99dfddf7f901100b56c4ca612b182dfd1c61cf1eeb54c9530", func := "parquetry/parquetrylaw14.PairsTurn", spec := "pairsTurn", inPlace := ["internal/bytealg.CountString", "internal/bytealg.IndexByteString", "internal/bytealg.IndexString", "internal/abi.NoEscape", "internal/bytealg.MakeNoZero"], unfollowed := true, recurses := true, named := ["unicode/utf8.first", "unicode/utf8.acceptRanges", "internal/bytealg.MaxLen", "parquetry/class.names"], apart := false, laid := [("unicode/utf8.acceptRanges", laid_unicode_utf8_acceptRanges), ("parquetry/class.names", laid_parquetry_class_names), ("unicode/utf8.first", laid_unicode_utf8_first)], narrowed := true }
def PairsTurnUptoSaid : Prop := pairsTurnUptoRow.holds Tryd.pinned (OpenSpec.upto pairsTurnSpec)

end Rows
end Go.Proofs.YtapeebnbiappgaaDoor
