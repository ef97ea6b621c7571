/-
  No cell of these rows narrows 'for every input' (looked for: loops, veiled, ifaces, maps, wideKeys, modest, calm, conditions, laid).
  DERIVED. THE GIVEN ROWS OF THIS SEAT. 7 by the template 'for every input the law returns true; each argument reads behind the call as it read before'; 0 by the template 'total and deterministic' (their statements: YtfclpecbnailgaaGreatTotals.lean).
  GIVEN WITH THE SEED: the statements are not yours to turn. If you find one false, say at which input.
  Laid BY PROGRAM, IN A SANDBOX (cutbox-rows.mjs): the forced cells as the released guide's own fill.sh prints them over the translation d6e22eb898dfe1d5… (all of the seat's roots in one cut). By AI agents, Wed Nov 11 2026. No macro, syntax, notation, axiom, sorry.
-/
import Derived.Test.YtfclpecbnailgaaGreatChecked
import GoSem.Claim
import GoSem.ClaimJoined
import GoSem.ClaimMapViews
import Derived.JoinedTies
import Derived.KernelRfl
namespace Go.Proofs.YtfclpecbnailgaaGreat
/- THE CELL 'sum', in the pinned program and in every row, IS THE sha256 OF THE DUMP (.gsa) THAT YtfclpecbnailgaaGreatProg.lean LOADS. Nothing in Lean hashes anything: it is a label: what it is worth is what the hold of that sum in a sandbox is worth. -/
noncomputable def Tryz.pinned : Pinned := { name := "ytfclpecbnailgaagreat", sum := "d6e22eb898dfe1d5ebcd9f19db63c3e7c085cc32503b8e1a8ecaa500227a0370", checked := Tryz.checked }
namespace Rows
def none {H : Type} : Left H := { results := [], args := [] }

/-- 'parquetrylaw16.BidiResolves': WHATEVER THE INPUT: true; the input reads as it did. -/
def bidiResolvesSpec : ChangeSpec := { name := "bidiResolves", fn := fun _ => fun
  | [d1, d2] => { results := [.lit (.bool true)], args := [d1, d2] }
  | _ => none }
def bidiResolvesRow : OpenClaim := { program := "ytfclpecbnailgaagreat", sum := "d6e22eb898dfe1d5ebcd9f19db63c3e7c085cc32503b8e1a8ecaa500227a0370", func := "parquetry/parquetrylaw16.BidiResolves", spec := "bidiResolves", unfollowed := true, recurses := true, apart := false }
def BidiResolvesSaid : Prop := bidiResolvesRow.holds Tryz.pinned (OpenSpec.ofChange bidiResolvesSpec)

/-- ITS FALSE NEIGHBOUR: 'it returns false'. Refute it at one input. -/
def bidiResolvesWrong : ChangeSpec := { name := "bidiResolves", fn := fun _ => fun
  | [d1, d2] => { results := [.lit (.bool false)], args := [d1, d2] }
  | _ => none }
def BidiResolvesWrongFalsely : Prop := bidiResolvesRow.holds Tryz.pinned (OpenSpec.ofChange bidiResolvesWrong)

/-- 'parquetrylaw16.BidiLines': WHATEVER THE INPUT: true; the input reads as it did. -/
def bidiLinesSpec : ChangeSpec := { name := "bidiLines", fn := fun _ => fun
  | [d1, d2, d3] => { results := [.lit (.bool true)], args := [d1, d2, d3] }
  | _ => none }
def bidiLinesRow : OpenClaim := { program := "ytfclpecbnailgaagreat", sum := "d6e22eb898dfe1d5ebcd9f19db63c3e7c085cc32503b8e1a8ecaa500227a0370", func := "parquetry/parquetrylaw16.BidiLines", spec := "bidiLines", unfollowed := true, recurses := true, apart := false }
def BidiLinesSaid : Prop := bidiLinesRow.holds Tryz.pinned (OpenSpec.ofChange bidiLinesSpec)

/-- ITS FALSE NEIGHBOUR: 'it returns false'. Refute it at one input. -/
def bidiLinesWrong : ChangeSpec := { name := "bidiLines", fn := fun _ => fun
  | [d1, d2, d3] => { results := [.lit (.bool false)], args := [d1, d2, d3] }
  | _ => none }
def BidiLinesWrongFalsely : Prop := bidiLinesRow.holds Tryz.pinned (OpenSpec.ofChange bidiLinesWrong)

/-- 'parquetrylaw16.BidiOrders': WHATEVER THE INPUT: true; the input reads as it did. -/
def bidiOrdersSpec : ChangeSpec := { name := "bidiOrders", fn := fun _ => fun
  | [d] => { results := [.lit (.bool true)], args := [d] }
  | _ => none }
def bidiOrdersRow : OpenClaim := { program := "ytfclpecbnailgaagreat", sum := "d6e22eb898dfe1d5ebcd9f19db63c3e7c085cc32503b8e1a8ecaa500227a0370", func := "parquetry/parquetrylaw16.BidiOrders", spec := "bidiOrders", unfollowed := true, recurses := true, apart := false }
def BidiOrdersSaid : Prop := bidiOrdersRow.holds Tryz.pinned (OpenSpec.ofChange bidiOrdersSpec)

/-- ITS FALSE NEIGHBOUR: 'it returns false'. Refute it at one input. -/
def bidiOrdersWrong : ChangeSpec := { name := "bidiOrders", fn := fun _ => fun
  | [d] => { results := [.lit (.bool false)], args := [d] }
  | _ => none }
def BidiOrdersWrongFalsely : Prop := bidiOrdersRow.holds Tryz.pinned (OpenSpec.ofChange bidiOrdersWrong)

/-- 'parquetrylaw16.BidiShows': WHATEVER THE INPUT: true; the input reads as it did. -/
def bidiShowsSpec : ChangeSpec := { name := "bidiShows", fn := fun _ => fun
  | [d1, d2] => { results := [.lit (.bool true)], args := [d1, d2] }
  | _ => none }
def bidiShowsRow : OpenClaim := { program := "ytfclpecbnailgaagreat", sum := "d6e22eb898dfe1d5ebcd9f19db63c3e7c085cc32503b8e1a8ecaa500227a0370", func := "parquetry/parquetrylaw16.BidiShows", spec := "bidiShows", unfollowed := true, recurses := true, apart := false }
def BidiShowsSaid : Prop := bidiShowsRow.holds Tryz.pinned (OpenSpec.ofChange bidiShowsSpec)

/-- ITS FALSE NEIGHBOUR: 'it returns false'. Refute it at one input. -/
def bidiShowsWrong : ChangeSpec := { name := "bidiShows", fn := fun _ => fun
  | [d1, d2] => { results := [.lit (.bool false)], args := [d1, d2] }
  | _ => none }
def BidiShowsWrongFalsely : Prop := bidiShowsRow.holds Tryz.pinned (OpenSpec.ofChange bidiShowsWrong)

/-- 'parquetrylaw16.BidiIsolates': WHATEVER THE INPUT: true; the input reads as it did. -/
def bidiIsolatesSpec : ChangeSpec := { name := "bidiIsolates", fn := fun _ => fun
  | [d1, d2, d3, d4, d5] => { results := [.lit (.bool true)], args := [d1, d2, d3, d4, d5] }
  | _ => none }
def bidiIsolatesRow : OpenClaim := { program := "ytfclpecbnailgaagreat", sum := "d6e22eb898dfe1d5ebcd9f19db63c3e7c085cc32503b8e1a8ecaa500227a0370", func := "parquetry/parquetrylaw16.BidiIsolates", spec := "bidiIsolates", unfollowed := true, recurses := true, apart := false }
def BidiIsolatesSaid : Prop := bidiIsolatesRow.holds Tryz.pinned (OpenSpec.ofChange bidiIsolatesSpec)

/-- ITS FALSE NEIGHBOUR: 'it returns false'. Refute it at one input. -/
def bidiIsolatesWrong : ChangeSpec := { name := "bidiIsolates", fn := fun _ => fun
  | [d1, d2, d3, d4, d5] => { results := [.lit (.bool false)], args := [d1, d2, d3, d4, d5] }
  | _ => none }
def BidiIsolatesWrongFalsely : Prop := bidiIsolatesRow.holds Tryz.pinned (OpenSpec.ofChange bidiIsolatesWrong)

/-- 'parquetrylaw16.BidiOnce': WHATEVER THE INPUT: true; the input reads as it did. -/
def bidiOnceSpec : ChangeSpec := { name := "bidiOnce", fn := fun _ => fun
  | [d] => { results := [.lit (.bool true)], args := [d] }
  | _ => none }
def bidiOnceRow : OpenClaim := { program := "ytfclpecbnailgaagreat", sum := "d6e22eb898dfe1d5ebcd9f19db63c3e7c085cc32503b8e1a8ecaa500227a0370", func := "parquetry/parquetrylaw16.BidiOnce", spec := "bidiOnce", unfollowed := true, recurses := true, apart := false }
def BidiOnceSaid : Prop := bidiOnceRow.holds Tryz.pinned (OpenSpec.ofChange bidiOnceSpec)

/-- ITS FALSE NEIGHBOUR: 'it returns false'. Refute it at one input. -/
def bidiOnceWrong : ChangeSpec := { name := "bidiOnce", fn := fun _ => fun
  | [d] => { results := [.lit (.bool false)], args := [d] }
  | _ => none }
def BidiOnceWrongFalsely : Prop := bidiOnceRow.holds Tryz.pinned (OpenSpec.ofChange bidiOnceWrong)

/-- 'parquetrylaw16.BidiPlain': WHATEVER THE INPUT: true; the input reads as it did. -/
def bidiPlainSpec : ChangeSpec := { name := "bidiPlain", fn := fun _ => fun
  | [d1, d2, d3] => { results := [.lit (.bool true)], args := [d1, d2, d3] }
  | _ => none }
def bidiPlainRow : OpenClaim := { program := "ytfclpecbnailgaagreat", sum := "d6e22eb898dfe1d5ebcd9f19db63c3e7c085cc32503b8e1a8ecaa500227a0370", func := "parquetry/parquetrylaw16.BidiPlain", spec := "bidiPlain", unfollowed := true, recurses := true, apart := false }
def BidiPlainSaid : Prop := bidiPlainRow.holds Tryz.pinned (OpenSpec.ofChange bidiPlainSpec)

/-- ITS FALSE NEIGHBOUR: 'it returns false'. Refute it at one input. -/
def bidiPlainWrong : ChangeSpec := { name := "bidiPlain", fn := fun _ => fun
  | [d1, d2, d3] => { results := [.lit (.bool false)], args := [d1, d2, d3] }
  | _ => none }
def BidiPlainWrongFalsely : Prop := bidiPlainRow.holds Tryz.pinned (OpenSpec.ofChange bidiPlainWrong)

/- THE SECOND FORM. 'bulk': how many values and letters a reading holds, each counted each time it is reached (what is shared counts as often as it is met; a slice's spare places count too). A statement '..UptoSaid' is the law's where the arguments, and the package variables that the reading takes, are together of bulk at most 1048576: NARROWER than '..Said'. Prove '..Said' where nothing that the law and all that it calls make is longer than what came in: it says more and counts as full. Else prove '..UptoSaid'. A law counts once. -/
mutual
def uptoBulk {H : Type} : DataW H → Nat
  | .lit (.string bytes) => bytes.length + 1
  | .lit _ => 1
  | .nil => 1
  | .ptr d => uptoBulk d + 1
  | .slice elems spare => uptoBulkAll elems + uptoBulkAll spare + 1
  | .agg parts => uptoBulkAll parts + 1
  | .iface _ d => uptoBulk d + 1
  | .map entries => uptoBulkEntries entries + 1
  | .held _ => 1
def uptoBulkAll {H : Type} : List (DataW H) → Nat
  | [] => 0
  | d :: r => uptoBulk d + uptoBulkAll r
def uptoBulkEntries {H : Type} : List (Lit × DataW H) → Nat
  | [] => 0
  | x :: r => uptoBulkEntry x + uptoBulkEntries r
def uptoBulkEntry {H : Type} : Lit × DataW H → Nat
  | (.string bytes, d) => bytes.length + uptoBulk d + 1
  | (_, d) => uptoBulk d + 1
 end
def uptoSmall : (H : Type) → List (DataW H) → Bool := fun _ ds => decide (uptoBulkAll ds ≤ 1048576)
def OpenSpec.upto (s : _root_.Go.ChangeSpec) : _root_.Go.OpenSpec := { _root_.Go.OpenSpec.ofChange s with cond := some uptoSmall }

/-- 'parquetrylaw16.BidiResolves', WHERE WHAT IT READS IS OF BULK AT MOST 1048576: true; the input reads as it did. -/
def bidiResolvesUptoRow : OpenClaim := { program := "ytfclpecbnailgaagreat", sum := "d6e22eb898dfe1d5ebcd9f19db63c3e7c085cc32503b8e1a8ecaa500227a0370", func := "parquetry/parquetrylaw16.BidiResolves", spec := "bidiResolves", unfollowed := true, recurses := true, apart := false, narrowed := true }
def BidiResolvesUptoSaid : Prop := bidiResolvesUptoRow.holds Tryz.pinned (OpenSpec.upto bidiResolvesSpec)

/-- 'parquetrylaw16.BidiLines', WHERE WHAT IT READS IS OF BULK AT MOST 1048576: true; the input reads as it did. -/
def bidiLinesUptoRow : OpenClaim := { program := "ytfclpecbnailgaagreat", sum := "d6e22eb898dfe1d5ebcd9f19db63c3e7c085cc32503b8e1a8ecaa500227a0370", func := "parquetry/parquetrylaw16.BidiLines", spec := "bidiLines", unfollowed := true, recurses := true, apart := false, narrowed := true }
def BidiLinesUptoSaid : Prop := bidiLinesUptoRow.holds Tryz.pinned (OpenSpec.upto bidiLinesSpec)

/-- 'parquetrylaw16.BidiOrders', WHERE WHAT IT READS IS OF BULK AT MOST 1048576: true; the input reads as it did. -/
def bidiOrdersUptoRow : OpenClaim := { program := "ytfclpecbnailgaagreat", sum := "d6e22eb898dfe1d5ebcd9f19db63c3e7c085cc32503b8e1a8ecaa500227a0370", func := "parquetry/parquetrylaw16.BidiOrders", spec := "bidiOrders", unfollowed := true, recurses := true, apart := false, narrowed := true }
def BidiOrdersUptoSaid : Prop := bidiOrdersUptoRow.holds Tryz.pinned (OpenSpec.upto bidiOrdersSpec)

/-- 'parquetrylaw16.BidiShows', WHERE WHAT IT READS IS OF BULK AT MOST 1048576: true; the input reads as it did. -/
def bidiShowsUptoRow : OpenClaim := { program := "ytfclpecbnailgaagreat", sum := "d6e22eb898dfe1d5ebcd9f19db63c3e7c085cc32503b8e1a8ecaa500227a0370", func := "parquetry/parquetrylaw16.BidiShows", spec := "bidiShows", unfollowed := true, recurses := true, apart := false, narrowed := true }
def BidiShowsUptoSaid : Prop := bidiShowsUptoRow.holds Tryz.pinned (OpenSpec.upto bidiShowsSpec)

/-- 'parquetrylaw16.BidiIsolates', WHERE WHAT IT READS IS OF BULK AT MOST 1048576: true; the input reads as it did. -/
def bidiIsolatesUptoRow : OpenClaim := { program := "ytfclpecbnailgaagreat", sum := "d6e22eb898dfe1d5ebcd9f19db63c3e7c085cc32503b8e1a8ecaa500227a0370", func := "parquetry/parquetrylaw16.BidiIsolates", spec := "bidiIsolates", unfollowed := true, recurses := true, apart := false, narrowed := true }
def BidiIsolatesUptoSaid : Prop := bidiIsolatesUptoRow.holds Tryz.pinned (OpenSpec.upto bidiIsolatesSpec)

/-- 'parquetrylaw16.BidiOnce', WHERE WHAT IT READS IS OF BULK AT MOST 1048576: true; the input reads as it did. -/
def bidiOnceUptoRow : OpenClaim := { program := "ytfclpecbnailgaagreat", sum := "d6e22eb898dfe1d5ebcd9f19db63c3e7c085cc32503b8e1a8ecaa500227a0370", func := "parquetry/parquetrylaw16.BidiOnce", spec := "bidiOnce", unfollowed := true, recurses := true, apart := false, narrowed := true }
def BidiOnceUptoSaid : Prop := bidiOnceUptoRow.holds Tryz.pinned (OpenSpec.upto bidiOnceSpec)

/-- 'parquetrylaw16.BidiPlain', WHERE WHAT IT READS IS OF BULK AT MOST 1048576: true; the input reads as it did. -/
def bidiPlainUptoRow : OpenClaim := { program := "ytfclpecbnailgaagreat", sum := "d6e22eb898dfe1d5ebcd9f19db63c3e7c085cc32503b8e1a8ecaa500227a0370", func := "parquetry/parquetrylaw16.BidiPlain", spec := "bidiPlain", unfollowed := true, recurses := true, apart := false, narrowed := true }
def BidiPlainUptoSaid : Prop := bidiPlainUptoRow.holds Tryz.pinned (OpenSpec.upto bidiPlainSpec)

end Rows
end Go.Proofs.YtfclpecbnailgaaGreat
