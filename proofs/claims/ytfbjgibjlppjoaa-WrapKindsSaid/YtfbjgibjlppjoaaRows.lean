/-
  No cell of these rows narrows 'for every input' (looked for: loops, veiled, ifaces, maps, wideKeys, modest, calm, conditions, laid).
  DERIVED. THE GIVEN ROWS OF THIS SEAT. 5 by the template 'for every input the law returns true; each argument reads behind the call as it read before'; 0 by the template 'total and deterministic' (their statements: YtfbjgibjlppjoaaTotals.lean).
  GIVEN WITH THE SEED: the statements are not yours to turn. If you find one false, say at which input.
  Laid BY PROGRAM, IN A SANDBOX (cutbox-rows.mjs): the forced cells as the released guide's own fill.sh prints them over the translation 6667f21179ef3956… (all of the seat's roots in one cut). By AI agents, Wed Nov 11 2026. No macro, syntax, notation, axiom, sorry.
-/
import Derived.Test.YtfbjgibjlppjoaaChecked
import GoSem.Claim
import GoSem.ClaimJoined
import GoSem.ClaimMapViews
import Derived.JoinedTies
import Derived.KernelRfl
namespace Go.Proofs.Ytfbjgibjlppjoaa
/- THE CELL 'sum', in the pinned program and in every row, IS THE sha256 OF THE DUMP (.gsa) THAT YtfbjgibjlppjoaaProg.lean LOADS. Nothing in Lean hashes anything: it is a label: what it is worth is what the hold of that sum in a sandbox is worth. -/
noncomputable def Try.pinned : Pinned := { name := "ytfbjgibjlppjoaa", sum := "6667f21179ef3956109791a578d7ebf417b62e6f4d88a389f11576d03c781d2d", checked := Try.checked }
namespace Rows
def none {H : Type} : Left H := { results := [], args := [] }

/-- 'parquetrylaw17.WrapKinds': WHATEVER THE INPUT: true; the input reads as it did. -/
def wrapKindsSpec : ChangeSpec := { name := "wrapKinds", fn := fun _ => fun
  | [d] => { results := [.lit (.bool true)], args := [d] }
  | _ => none }
def wrapKindsRow : OpenClaim := { program := "ytfbjgibjlppjoaa", sum := "6667f21179ef3956109791a578d7ebf417b62e6f4d88a389f11576d03c781d2d", func := "parquetry/parquetrylaw17.WrapKinds", spec := "wrapKinds", unfollowed := true, recurses := true, apart := false }
def WrapKindsSaid : Prop := wrapKindsRow.holds Try.pinned (OpenSpec.ofChange wrapKindsSpec)

/-- ITS FALSE NEIGHBOUR: 'it returns false'. Refute it at one input. -/
def wrapKindsWrong : ChangeSpec := { name := "wrapKinds", fn := fun _ => fun
  | [d] => { results := [.lit (.bool false)], args := [d] }
  | _ => none }
def WrapKindsWrongFalsely : Prop := wrapKindsRow.holds Try.pinned (OpenSpec.ofChange wrapKindsWrong)

/-- 'parquetrylaw17.WrapFits': WHATEVER THE INPUT: true; the input reads as it did. -/
def wrapFitsSpec : ChangeSpec := { name := "wrapFits", fn := fun _ => fun
  | [d1, d2, d3] => { results := [.lit (.bool true)], args := [d1, d2, d3] }
  | _ => none }
def wrapFitsRow : OpenClaim := { program := "ytfbjgibjlppjoaa", sum := "6667f21179ef3956109791a578d7ebf417b62e6f4d88a389f11576d03c781d2d", func := "parquetry/parquetrylaw17.WrapFits", spec := "wrapFits", unfollowed := true, recurses := true, apart := false }
def WrapFitsSaid : Prop := wrapFitsRow.holds Try.pinned (OpenSpec.ofChange wrapFitsSpec)

/-- ITS FALSE NEIGHBOUR: 'it returns false'. Refute it at one input. -/
def wrapFitsWrong : ChangeSpec := { name := "wrapFits", fn := fun _ => fun
  | [d1, d2, d3] => { results := [.lit (.bool false)], args := [d1, d2, d3] }
  | _ => none }
def WrapFitsWrongFalsely : Prop := wrapFitsRow.holds Try.pinned (OpenSpec.ofChange wrapFitsWrong)

/-- 'parquetrylaw17.WrapLines': WHATEVER THE INPUT: true; the input reads as it did. -/
def wrapLinesSpec : ChangeSpec := { name := "wrapLines", fn := fun _ => fun
  | [d1, d2, d3] => { results := [.lit (.bool true)], args := [d1, d2, d3] }
  | _ => none }
def wrapLinesRow : OpenClaim := { program := "ytfbjgibjlppjoaa", sum := "6667f21179ef3956109791a578d7ebf417b62e6f4d88a389f11576d03c781d2d", func := "parquetry/parquetrylaw17.WrapLines", spec := "wrapLines", unfollowed := true, recurses := true, apart := false }
def WrapLinesSaid : Prop := wrapLinesRow.holds Try.pinned (OpenSpec.ofChange wrapLinesSpec)

/-- ITS FALSE NEIGHBOUR: 'it returns false'. Refute it at one input. -/
def wrapLinesWrong : ChangeSpec := { name := "wrapLines", fn := fun _ => fun
  | [d1, d2, d3] => { results := [.lit (.bool false)], args := [d1, d2, d3] }
  | _ => none }
def WrapLinesWrongFalsely : Prop := wrapLinesRow.holds Try.pinned (OpenSpec.ofChange wrapLinesWrong)

/-- 'parquetrylaw17.WrapAll': WHATEVER THE INPUT: true; the input reads as it did. -/
def wrapAllSpec : ChangeSpec := { name := "wrapAll", fn := fun _ => fun
  | [d1, d2, d3] => { results := [.lit (.bool true)], args := [d1, d2, d3] }
  | _ => none }
def wrapAllRow : OpenClaim := { program := "ytfbjgibjlppjoaa", sum := "6667f21179ef3956109791a578d7ebf417b62e6f4d88a389f11576d03c781d2d", func := "parquetry/parquetrylaw17.WrapAll", spec := "wrapAll", unfollowed := true, recurses := true, apart := false }
def WrapAllSaid : Prop := wrapAllRow.holds Try.pinned (OpenSpec.ofChange wrapAllSpec)

/-- ITS FALSE NEIGHBOUR: 'it returns false'. Refute it at one input. -/
def wrapAllWrong : ChangeSpec := { name := "wrapAll", fn := fun _ => fun
  | [d1, d2, d3] => { results := [.lit (.bool false)], args := [d1, d2, d3] }
  | _ => none }
def WrapAllWrongFalsely : Prop := wrapAllRow.holds Try.pinned (OpenSpec.ofChange wrapAllWrong)

/-- 'parquetrylaw17.WrapWide': WHATEVER THE INPUT: true; the input reads as it did. -/
def wrapWideSpec : ChangeSpec := { name := "wrapWide", fn := fun _ => fun
  | [d1, d2] => { results := [.lit (.bool true)], args := [d1, d2] }
  | _ => none }
def wrapWideRow : OpenClaim := { program := "ytfbjgibjlppjoaa", sum := "6667f21179ef3956109791a578d7ebf417b62e6f4d88a389f11576d03c781d2d", func := "parquetry/parquetrylaw17.WrapWide", spec := "wrapWide", unfollowed := true, recurses := true, apart := false }
def WrapWideSaid : Prop := wrapWideRow.holds Try.pinned (OpenSpec.ofChange wrapWideSpec)

/-- ITS FALSE NEIGHBOUR: 'it returns false'. Refute it at one input. -/
def wrapWideWrong : ChangeSpec := { name := "wrapWide", fn := fun _ => fun
  | [d1, d2] => { results := [.lit (.bool false)], args := [d1, d2] }
  | _ => none }
def WrapWideWrongFalsely : Prop := wrapWideRow.holds Try.pinned (OpenSpec.ofChange wrapWideWrong)

/- THE SECOND FORM. 'bulk': how many values and letters a reading holds, each counted each time it is reached (what is shared counts as often as it is met; a slice's spare places count too). A statement '..UptoSaid' is the law's where the arguments, and the package variables that the reading takes, are together of bulk at most 1048576: NARROWER than '..Said'. Prove '..Said' where nothing that the law and all that it calls make is longer than what came in: it says more and counts as full. Else prove '..UptoSaid'. A law counts once. -/
mutual
def uptoBulk {H : Type} : DataW H → Nat
  | .lit (.string bytes) => bytes.length + 1
  | .lit _ => 1
  | .nil => 1
  | .ptr d => uptoBulk d + 1
  | .slice elems spare => uptoBulkAll elems + uptoBulkAll spare + 1
  | .agg parts => uptoBulkAll parts + 1
  | .iface _ d => uptoBulk d + 1
  | .map entries => uptoBulkEntries entries + 1
  | .held _ => 1
def uptoBulkAll {H : Type} : List (DataW H) → Nat
  | [] => 0
  | d :: r => uptoBulk d + uptoBulkAll r
def uptoBulkEntries {H : Type} : List (Lit × DataW H) → Nat
  | [] => 0
  | x :: r => uptoBulkEntry x + uptoBulkEntries r
def uptoBulkEntry {H : Type} : Lit × DataW H → Nat
  | (.string bytes, d) => bytes.length + uptoBulk d + 1
  | (_, d) => uptoBulk d + 1
 end
def uptoSmall : (H : Type) → List (DataW H) → Bool := fun _ ds => decide (uptoBulkAll ds ≤ 1048576)
def OpenSpec.upto (s : _root_.Go.ChangeSpec) : _root_.Go.OpenSpec := { _root_.Go.OpenSpec.ofChange s with cond := some uptoSmall }

/-- 'parquetrylaw17.WrapKinds', WHERE WHAT IT READS IS OF BULK AT MOST 1048576: true; the input reads as it did. -/
def wrapKindsUptoRow : OpenClaim := { program := "ytfbjgibjlppjoaa", sum := "6667f21179ef3956109791a578d7ebf417b62e6f4d88a389f11576d03c781d2d", func := "parquetry/parquetrylaw17.WrapKinds", spec := "wrapKinds", unfollowed := true, recurses := true, apart := false, narrowed := true }
def WrapKindsUptoSaid : Prop := wrapKindsUptoRow.holds Try.pinned (OpenSpec.upto wrapKindsSpec)

/-- 'parquetrylaw17.WrapFits', WHERE WHAT IT READS IS OF BULK AT MOST 1048576: true; the input reads as it did. -/
def wrapFitsUptoRow : OpenClaim := { program := "ytfbjgibjlppjoaa", sum := "6667f21179ef3956109791a578d7ebf417b62e6f4d88a389f11576d03c781d2d", func := "parquetry/parquetrylaw17.WrapFits", spec := "wrapFits", unfollowed := true, recurses := true, apart := false, narrowed := true }
def WrapFitsUptoSaid : Prop := wrapFitsUptoRow.holds Try.pinned (OpenSpec.upto wrapFitsSpec)

/-- 'parquetrylaw17.WrapLines', WHERE WHAT IT READS IS OF BULK AT MOST 1048576: true; the input reads as it did. -/
def wrapLinesUptoRow : OpenClaim := { program := "ytfbjgibjlppjoaa", sum := "6667f21179ef3956109791a578d7ebf417b62e6f4d88a389f11576d03c781d2d", func := "parquetry/parquetrylaw17.WrapLines", spec := "wrapLines", unfollowed := true, recurses := true, apart := false, narrowed := true }
def WrapLinesUptoSaid : Prop := wrapLinesUptoRow.holds Try.pinned (OpenSpec.upto wrapLinesSpec)

/-- 'parquetrylaw17.WrapAll', WHERE WHAT IT READS IS OF BULK AT MOST 1048576: true; the input reads as it did. -/
def wrapAllUptoRow : OpenClaim := { program := "ytfbjgibjlppjoaa", sum := "6667f21179ef3956109791a578d7ebf417b62e6f4d88a389f11576d03c781d2d", func := "parquetry/parquetrylaw17.WrapAll", spec := "wrapAll", unfollowed := true, recurses := true, apart := false, narrowed := true }
def WrapAllUptoSaid : Prop := wrapAllUptoRow.holds Try.pinned (OpenSpec.upto wrapAllSpec)

/-- 'parquetrylaw17.WrapWide', WHERE WHAT IT READS IS OF BULK AT MOST 1048576: true; the input reads as it did. -/
def wrapWideUptoRow : OpenClaim := { program := "ytfbjgibjlppjoaa", sum := "6667f21179ef3956109791a578d7ebf417b62e6f4d88a389f11576d03c781d2d", func := "parquetry/parquetrylaw17.WrapWide", spec := "wrapWide", unfollowed := true, recurses := true, apart := false, narrowed := true }
def WrapWideUptoSaid : Prop := wrapWideUptoRow.holds Try.pinned (OpenSpec.upto wrapWideSpec)

end Rows
end Go.Proofs.Ytfbjgibjlppjoaa
