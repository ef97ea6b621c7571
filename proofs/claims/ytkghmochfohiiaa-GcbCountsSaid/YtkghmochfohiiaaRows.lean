/-
  No cell of these rows narrows 'for every input' (looked for: loops, veiled, ifaces, maps, wideKeys, modest, calm, conditions, laid).
  DERIVED. THE GIVEN ROWS OF THIS SEAT. 4 by the template 'for every input the law returns true; each argument reads behind the call as it read before'; 0 by the template 'total and deterministic' (their statements: YtkghmochfohiiaaTotals.lean).
  GIVEN WITH THE SEED: the statements are not yours to turn. If you find one false, say at which input.
  Laid BY PROGRAM, IN A SANDBOX (cutbox-rows.mjs): the forced cells as the released guide's own fill.sh prints them over the translation 5595298a897dfb51… (all of the seat's roots in one cut). By AI agents, Wed Nov 11 2026. No macro, syntax, notation, axiom, sorry.
-/
import Derived.Test.YtkghmochfohiiaaChecked
import GoSem.Claim
import GoSem.ClaimJoined
import GoSem.ClaimMapViews
import Derived.JoinedTies
import Derived.KernelRfl
namespace Go.Proofs.Ytkghmochfohiiaa
/- THE CELL 'sum', in the pinned program and in every row, IS THE sha256 OF THE DUMP (.gsa) THAT YtkghmochfohiiaaProg.lean LOADS. Nothing in Lean hashes anything: it is a label: what it is worth is what the hold of that sum in a sandbox is worth. -/
noncomputable def Try.pinned : Pinned := { name := "ytkghmochfohiiaa", sum := "5595298a897dfb5192c30f47b862ddccf9bce8670f5875c1b93de842c80de990", checked := Try.checked }
namespace Rows
def none {H : Type} : Left H := { results := [], args := [] }

/-- 'parquetrylaw05.GcbOf': WHATEVER THE INPUT: true; the input reads as it did. -/
def gcbOfSpec : ChangeSpec := { name := "gcbOf", fn := fun _ => fun
  | [d] => { results := [.lit (.bool true)], args := [d] }
  | _ => none }
def gcbOfRow : OpenClaim := { program := "ytkghmochfohiiaa", sum := "5595298a897dfb5192c30f47b862ddccf9bce8670f5875c1b93de842c80de990", func := "parquetry/parquetrylaw05.GcbOf", spec := "gcbOf", unfollowed := true, recurses := true, apart := false }
def GcbOfSaid : Prop := gcbOfRow.holds Try.pinned (OpenSpec.ofChange gcbOfSpec)

/-- ITS FALSE NEIGHBOUR: 'it returns false'. Refute it at one input. -/
def gcbOfWrong : ChangeSpec := { name := "gcbOf", fn := fun _ => fun
  | [d] => { results := [.lit (.bool false)], args := [d] }
  | _ => none }
def GcbOfWrongFalsely : Prop := gcbOfRow.holds Try.pinned (OpenSpec.ofChange gcbOfWrong)

/-- 'parquetrylaw05.GcbRuns': WHATEVER THE INPUT: true; the input reads as it did. -/
def gcbRunsSpec : ChangeSpec := { name := "gcbRuns", fn := fun _ => fun
  | [d] => { results := [.lit (.bool true)], args := [d] }
  | _ => none }
def gcbRunsRow : OpenClaim := { program := "ytkghmochfohiiaa", sum := "5595298a897dfb5192c30f47b862ddccf9bce8670f5875c1b93de842c80de990", func := "parquetry/parquetrylaw05.GcbRuns", spec := "gcbRuns", unfollowed := true, recurses := true, apart := false }
def GcbRunsSaid : Prop := gcbRunsRow.holds Try.pinned (OpenSpec.ofChange gcbRunsSpec)

/-- ITS FALSE NEIGHBOUR: 'it returns false'. Refute it at one input. -/
def gcbRunsWrong : ChangeSpec := { name := "gcbRuns", fn := fun _ => fun
  | [d] => { results := [.lit (.bool false)], args := [d] }
  | _ => none }
def GcbRunsWrongFalsely : Prop := gcbRunsRow.holds Try.pinned (OpenSpec.ofChange gcbRunsWrong)

/-- 'parquetrylaw05.GcbSyllables': WHATEVER THE INPUT: true; the input reads as it did. -/
def gcbSyllablesSpec : ChangeSpec := { name := "gcbSyllables", fn := fun _ => fun
  | [d] => { results := [.lit (.bool true)], args := [d] }
  | _ => none }
def gcbSyllablesRow : OpenClaim := { program := "ytkghmochfohiiaa", sum := "5595298a897dfb5192c30f47b862ddccf9bce8670f5875c1b93de842c80de990", func := "parquetry/parquetrylaw05.GcbSyllables", spec := "gcbSyllables", unfollowed := true, recurses := true, apart := false }
def GcbSyllablesSaid : Prop := gcbSyllablesRow.holds Try.pinned (OpenSpec.ofChange gcbSyllablesSpec)

/-- ITS FALSE NEIGHBOUR: 'it returns false'. Refute it at one input. -/
def gcbSyllablesWrong : ChangeSpec := { name := "gcbSyllables", fn := fun _ => fun
  | [d] => { results := [.lit (.bool false)], args := [d] }
  | _ => none }
def GcbSyllablesWrongFalsely : Prop := gcbSyllablesRow.holds Try.pinned (OpenSpec.ofChange gcbSyllablesWrong)

/-- 'parquetrylaw05.GcbCounts': WHATEVER THE INPUT: true; the input reads as it did. -/
def gcbCountsSpec : ChangeSpec := { name := "gcbCounts", fn := fun _ => fun
  | [d] => { results := [.lit (.bool true)], args := [d] }
  | _ => none }
def gcbCountsRow : OpenClaim := { program := "ytkghmochfohiiaa", sum := "5595298a897dfb5192c30f47b862ddccf9bce8670f5875c1b93de842c80de990", func := "parquetry/parquetrylaw05.GcbCounts", spec := "gcbCounts", unfollowed := true, recurses := true, apart := false }
def GcbCountsSaid : Prop := gcbCountsRow.holds Try.pinned (OpenSpec.ofChange gcbCountsSpec)

/-- ITS FALSE NEIGHBOUR: 'it returns false'. Refute it at one input. -/
def gcbCountsWrong : ChangeSpec := { name := "gcbCounts", fn := fun _ => fun
  | [d] => { results := [.lit (.bool false)], args := [d] }
  | _ => none }
def GcbCountsWrongFalsely : Prop := gcbCountsRow.holds Try.pinned (OpenSpec.ofChange gcbCountsWrong)

/- THE SECOND FORM. 'bulk': how many values and letters a reading holds, each counted each time it is reached (what is shared counts as often as it is met; a slice's spare places count too). A statement '..UptoSaid' is the law's where the arguments, and the package variables that the reading takes, are together of bulk at most 1048576: NARROWER than '..Said'. Prove '..Said' where nothing that the law and all that it calls make is longer than what came in: it says more and counts as full. Else prove '..UptoSaid'. A law counts once. -/
mutual
def uptoBulk {H : Type} : DataW H → Nat
  | .lit (.string bytes) => bytes.length + 1
  | .lit _ => 1
  | .nil => 1
  | .ptr d => uptoBulk d + 1
  | .slice elems spare => uptoBulkAll elems + uptoBulkAll spare + 1
  | .agg parts => uptoBulkAll parts + 1
  | .iface _ d => uptoBulk d + 1
  | .map entries => uptoBulkEntries entries + 1
  | .held _ => 1
def uptoBulkAll {H : Type} : List (DataW H) → Nat
  | [] => 0
  | d :: r => uptoBulk d + uptoBulkAll r
def uptoBulkEntries {H : Type} : List (Lit × DataW H) → Nat
  | [] => 0
  | x :: r => uptoBulkEntry x + uptoBulkEntries r
def uptoBulkEntry {H : Type} : Lit × DataW H → Nat
  | (.string bytes, d) => bytes.length + uptoBulk d + 1
  | (_, d) => uptoBulk d + 1
 end
def uptoSmall : (H : Type) → List (DataW H) → Bool := fun _ ds => decide (uptoBulkAll ds ≤ 1048576)
def OpenSpec.upto (s : _root_.Go.ChangeSpec) : _root_.Go.OpenSpec := { _root_.Go.OpenSpec.ofChange s with cond := some uptoSmall }

/-- 'parquetrylaw05.GcbOf', WHERE WHAT IT READS IS OF BULK AT MOST 1048576: true; the input reads as it did. -/
def gcbOfUptoRow : OpenClaim := { program := "ytkghmochfohiiaa", sum := "5595298a897dfb5192c30f47b862ddccf9bce8670f5875c1b93de842c80de990", func := "parquetry/parquetrylaw05.GcbOf", spec := "gcbOf", unfollowed := true, recurses := true, apart := false, narrowed := true }
def GcbOfUptoSaid : Prop := gcbOfUptoRow.holds Try.pinned (OpenSpec.upto gcbOfSpec)

/-- 'parquetrylaw05.GcbRuns', WHERE WHAT IT READS IS OF BULK AT MOST 1048576: true; the input reads as it did. -/
def gcbRunsUptoRow : OpenClaim := { program := "ytkghmochfohiiaa", sum := "5595298a897dfb5192c30f47b862ddccf9bce8670f5875c1b93de842c80de990", func := "parquetry/parquetrylaw05.GcbRuns", spec := "gcbRuns", unfollowed := true, recurses := true, apart := false, narrowed := true }
def GcbRunsUptoSaid : Prop := gcbRunsUptoRow.holds Try.pinned (OpenSpec.upto gcbRunsSpec)

/-- 'parquetrylaw05.GcbSyllables', WHERE WHAT IT READS IS OF BULK AT MOST 1048576: true; the input reads as it did. -/
def gcbSyllablesUptoRow : OpenClaim := { program := "ytkghmochfohiiaa", sum := "5595298a897dfb5192c30f47b862ddccf9bce8670f5875c1b93de842c80de990", func := "parquetry/parquetrylaw05.GcbSyllables", spec := "gcbSyllables", unfollowed := true, recurses := true, apart := false, narrowed := true }
def GcbSyllablesUptoSaid : Prop := gcbSyllablesUptoRow.holds Try.pinned (OpenSpec.upto gcbSyllablesSpec)

/-- 'parquetrylaw05.GcbCounts', WHERE WHAT IT READS IS OF BULK AT MOST 1048576: true; the input reads as it did. -/
def gcbCountsUptoRow : OpenClaim := { program := "ytkghmochfohiiaa", sum := "5595298a897dfb5192c30f47b862ddccf9bce8670f5875c1b93de842c80de990", func := "parquetry/parquetrylaw05.GcbCounts", spec := "gcbCounts", unfollowed := true, recurses := true, apart := false, narrowed := true }
def GcbCountsUptoSaid : Prop := gcbCountsUptoRow.holds Try.pinned (OpenSpec.upto gcbCountsSpec)

end Rows
end Go.Proofs.Ytkghmochfohiiaa
