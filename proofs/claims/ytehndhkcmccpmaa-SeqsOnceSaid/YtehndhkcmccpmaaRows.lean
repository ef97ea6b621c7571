/-
  No cell of these rows narrows 'for every input' (looked for: loops, veiled, ifaces, maps, wideKeys, modest, calm, conditions, laid).
  DERIVED. THE GIVEN ROWS OF THIS SEAT. 7 by the template 'for every input the law returns true; each argument reads behind the call as it read before'; 0 by the template 'total and deterministic' (their statements: YtehndhkcmccpmaaTotals.lean).
  GIVEN WITH THE SEED: the statements are not yours to turn. If you find one false, say at which input.
  Laid BY PROGRAM, IN A SANDBOX (cutbox-rows.mjs): the forced cells as the released guide's own fill.sh prints them over the translation 87be255fe8042921… (all of the seat's roots in one cut). By AI agents, Wed Nov 11 2026. No macro, syntax, notation, axiom, sorry.
-/
import Derived.Test.YtehndhkcmccpmaaChecked
import GoSem.Claim
import GoSem.ClaimJoined
import GoSem.ClaimMapViews
import Derived.JoinedTies
import Derived.KernelRfl
namespace Go.Proofs.Ytehndhkcmccpmaa
/- THE CELL 'sum', in the pinned program and in every row, IS THE sha256 OF THE DUMP (.gsa) THAT YtehndhkcmccpmaaProg.lean LOADS. Nothing in Lean hashes anything: it is a label: what it is worth is what the hold of that sum in a sandbox is worth. -/
noncomputable def Try.pinned : Pinned := { name := "ytehndhkcmccpmaa", sum := "87be255fe8042921de94123ea8f2388d65e92b85e49d971c91db13c0ad6ad73a", checked := Try.checked }
namespace Rows
def none {H : Type} : Left H := { results := [], args := [] }

/-- 'parquetrylaw11.LevelDeep': WHATEVER THE INPUT: true; the input reads as it did. -/
def levelDeepSpec : ChangeSpec := { name := "levelDeep", fn := fun _ => fun
  | [d1, d2] => { results := [.lit (.bool true)], args := [d1, d2] }
  | _ => none }
def levelDeepRow : OpenClaim := { program := "ytehndhkcmccpmaa", sum := "87be255fe8042921de94123ea8f2388d65e92b85e49d971c91db13c0ad6ad73a", func := "parquetry/parquetrylaw11.LevelDeep", spec := "levelDeep", apart := false }
def LevelDeepSaid : Prop := levelDeepRow.holds Try.pinned (OpenSpec.ofChange levelDeepSpec)

/-- ITS FALSE NEIGHBOUR: 'it returns false'. Refute it at one input. -/
def levelDeepWrong : ChangeSpec := { name := "levelDeep", fn := fun _ => fun
  | [d1, d2] => { results := [.lit (.bool false)], args := [d1, d2] }
  | _ => none }
def LevelDeepWrongFalsely : Prop := levelDeepRow.holds Try.pinned (OpenSpec.ofChange levelDeepWrong)

/-- 'parquetrylaw11.LevelIsolates': WHATEVER THE INPUT: true; the input reads as it did. -/
def levelIsolatesSpec : ChangeSpec := { name := "levelIsolates", fn := fun _ => fun
  | [d1, d2, d3, d4, d5] => { results := [.lit (.bool true)], args := [d1, d2, d3, d4, d5] }
  | _ => none }
def levelIsolatesRow : OpenClaim := { program := "ytehndhkcmccpmaa", sum := "87be255fe8042921de94123ea8f2388d65e92b85e49d971c91db13c0ad6ad73a", func := "parquetry/parquetrylaw11.LevelIsolates", spec := "levelIsolates", apart := false }
def LevelIsolatesSaid : Prop := levelIsolatesRow.holds Try.pinned (OpenSpec.ofChange levelIsolatesSpec)

/-- ITS FALSE NEIGHBOUR: 'it returns false'. Refute it at one input. -/
def levelIsolatesWrong : ChangeSpec := { name := "levelIsolates", fn := fun _ => fun
  | [d1, d2, d3, d4, d5] => { results := [.lit (.bool false)], args := [d1, d2, d3, d4, d5] }
  | _ => none }
def LevelIsolatesWrongFalsely : Prop := levelIsolatesRow.holds Try.pinned (OpenSpec.ofChange levelIsolatesWrong)

/-- 'parquetrylaw11.LevelAhead': WHATEVER THE INPUT: true; the input reads as it did. -/
def levelAheadSpec : ChangeSpec := { name := "levelAhead", fn := fun _ => fun
  | [d1, d2, d3] => { results := [.lit (.bool true)], args := [d1, d2, d3] }
  | _ => none }
def levelAheadRow : OpenClaim := { program := "ytehndhkcmccpmaa", sum := "87be255fe8042921de94123ea8f2388d65e92b85e49d971c91db13c0ad6ad73a", func := "parquetry/parquetrylaw11.LevelAhead", spec := "levelAhead", apart := false }
def LevelAheadSaid : Prop := levelAheadRow.holds Try.pinned (OpenSpec.ofChange levelAheadSpec)

/-- ITS FALSE NEIGHBOUR: 'it returns false'. Refute it at one input. -/
def levelAheadWrong : ChangeSpec := { name := "levelAhead", fn := fun _ => fun
  | [d1, d2, d3] => { results := [.lit (.bool false)], args := [d1, d2, d3] }
  | _ => none }
def LevelAheadWrongFalsely : Prop := levelAheadRow.holds Try.pinned (OpenSpec.ofChange levelAheadWrong)

/-- 'parquetrylaw12.SeqsFound': WHATEVER THE INPUT: true; the input reads as it did. -/
def seqsFoundSpec : ChangeSpec := { name := "seqsFound", fn := fun _ => fun
  | [d1, d2] => { results := [.lit (.bool true)], args := [d1, d2] }
  | _ => none }
def seqsFoundRow : OpenClaim := { program := "ytehndhkcmccpmaa", sum := "87be255fe8042921de94123ea8f2388d65e92b85e49d971c91db13c0ad6ad73a", func := "parquetry/parquetrylaw12.SeqsFound", spec := "seqsFound", unfollowed := true, recurses := true, apart := false }
def SeqsFoundSaid : Prop := seqsFoundRow.holds Try.pinned (OpenSpec.ofChange seqsFoundSpec)

/-- ITS FALSE NEIGHBOUR: 'it returns false'. Refute it at one input. -/
def seqsFoundWrong : ChangeSpec := { name := "seqsFound", fn := fun _ => fun
  | [d1, d2] => { results := [.lit (.bool false)], args := [d1, d2] }
  | _ => none }
def SeqsFoundWrongFalsely : Prop := seqsFoundRow.holds Try.pinned (OpenSpec.ofChange seqsFoundWrong)

/-- 'parquetrylaw12.SeqsOnce': WHATEVER THE INPUT: true; the input reads as it did. -/
def seqsOnceSpec : ChangeSpec := { name := "seqsOnce", fn := fun _ => fun
  | [d1, d2] => { results := [.lit (.bool true)], args := [d1, d2] }
  | _ => none }
def seqsOnceRow : OpenClaim := { program := "ytehndhkcmccpmaa", sum := "87be255fe8042921de94123ea8f2388d65e92b85e49d971c91db13c0ad6ad73a", func := "parquetry/parquetrylaw12.SeqsOnce", spec := "seqsOnce", unfollowed := true, recurses := true, apart := false }
def SeqsOnceSaid : Prop := seqsOnceRow.holds Try.pinned (OpenSpec.ofChange seqsOnceSpec)

/-- ITS FALSE NEIGHBOUR: 'it returns false'. Refute it at one input. -/
def seqsOnceWrong : ChangeSpec := { name := "seqsOnce", fn := fun _ => fun
  | [d1, d2] => { results := [.lit (.bool false)], args := [d1, d2] }
  | _ => none }
def SeqsOnceWrongFalsely : Prop := seqsOnceRow.holds Try.pinned (OpenSpec.ofChange seqsOnceWrong)

/-- 'parquetrylaw12.SeqsOne': WHATEVER THE INPUT: true; the input reads as it did. -/
def seqsOneSpec : ChangeSpec := { name := "seqsOne", fn := fun _ => fun
  | [d1, d2] => { results := [.lit (.bool true)], args := [d1, d2] }
  | _ => none }
def seqsOneRow : OpenClaim := { program := "ytehndhkcmccpmaa", sum := "87be255fe8042921de94123ea8f2388d65e92b85e49d971c91db13c0ad6ad73a", func := "parquetry/parquetrylaw12.SeqsOne", spec := "seqsOne", unfollowed := true, recurses := true, apart := false }
def SeqsOneSaid : Prop := seqsOneRow.holds Try.pinned (OpenSpec.ofChange seqsOneSpec)

/-- ITS FALSE NEIGHBOUR: 'it returns false'. Refute it at one input. -/
def seqsOneWrong : ChangeSpec := { name := "seqsOne", fn := fun _ => fun
  | [d1, d2] => { results := [.lit (.bool false)], args := [d1, d2] }
  | _ => none }
def SeqsOneWrongFalsely : Prop := seqsOneRow.holds Try.pinned (OpenSpec.ofChange seqsOneWrong)

/-- 'parquetrylaw12.SeqsBoth': WHATEVER THE INPUT: true; the input reads as it did. -/
def seqsBothSpec : ChangeSpec := { name := "seqsBoth", fn := fun _ => fun
  | [d1, d2] => { results := [.lit (.bool true)], args := [d1, d2] }
  | _ => none }
def seqsBothRow : OpenClaim := { program := "ytehndhkcmccpmaa", sum := "87be255fe8042921de94123ea8f2388d65e92b85e49d971c91db13c0ad6ad73a", func := "parquetry/parquetrylaw12.SeqsBoth", spec := "seqsBoth", unfollowed := true, recurses := true, apart := false }
def SeqsBothSaid : Prop := seqsBothRow.holds Try.pinned (OpenSpec.ofChange seqsBothSpec)

/-- ITS FALSE NEIGHBOUR: 'it returns false'. Refute it at one input. -/
def seqsBothWrong : ChangeSpec := { name := "seqsBoth", fn := fun _ => fun
  | [d1, d2] => { results := [.lit (.bool false)], args := [d1, d2] }
  | _ => none }
def SeqsBothWrongFalsely : Prop := seqsBothRow.holds Try.pinned (OpenSpec.ofChange seqsBothWrong)

/- THE SECOND FORM. 'bulk': how many values and letters a reading holds, each counted each time it is reached (what is shared counts as often as it is met; a slice's spare places count too). A statement '..UptoSaid' is the law's where the arguments, and the package variables that the reading takes, are together of bulk at most 1048576: NARROWER than '..Said'. Prove '..Said' where nothing that the law and all that it calls make is longer than what came in: it says more and counts as full. Else prove '..UptoSaid'. A law counts once. -/
mutual
def uptoBulk {H : Type} : DataW H → Nat
  | .lit (.string bytes) => bytes.length + 1
  | .lit _ => 1
  | .nil => 1
  | .ptr d => uptoBulk d + 1
  | .slice elems spare => uptoBulkAll elems + uptoBulkAll spare + 1
  | .agg parts => uptoBulkAll parts + 1
  | .iface _ d => uptoBulk d + 1
  | .map entries => uptoBulkEntries entries + 1
  | .held _ => 1
def uptoBulkAll {H : Type} : List (DataW H) → Nat
  | [] => 0
  | d :: r => uptoBulk d + uptoBulkAll r
def uptoBulkEntries {H : Type} : List (Lit × DataW H) → Nat
  | [] => 0
  | x :: r => uptoBulkEntry x + uptoBulkEntries r
def uptoBulkEntry {H : Type} : Lit × DataW H → Nat
  | (.string bytes, d) => bytes.length + uptoBulk d + 1
  | (_, d) => uptoBulk d + 1
 end
def uptoSmall : (H : Type) → List (DataW H) → Bool := fun _ ds => decide (uptoBulkAll ds ≤ 1048576)
def OpenSpec.upto (s : _root_.Go.ChangeSpec) : _root_.Go.OpenSpec := { _root_.Go.OpenSpec.ofChange s with cond := some uptoSmall }

/-- 'parquetrylaw11.LevelDeep', WHERE WHAT IT READS IS OF BULK AT MOST 1048576: true; the input reads as it did. -/
def levelDeepUptoRow : OpenClaim := { program := "ytehndhkcmccpmaa", sum := "87be255fe8042921de94123ea8f2388d65e92b85e49d971c91db13c0ad6ad73a", func := "parquetry/parquetrylaw11.LevelDeep", spec := "levelDeep", apart := false, narrowed := true }
def LevelDeepUptoSaid : Prop := levelDeepUptoRow.holds Try.pinned (OpenSpec.upto levelDeepSpec)

/-- 'parquetrylaw11.LevelIsolates', WHERE WHAT IT READS IS OF BULK AT MOST 1048576: true; the input reads as it did. -/
def levelIsolatesUptoRow : OpenClaim := { program := "ytehndhkcmccpmaa", sum := "87be255fe8042921de94123ea8f2388d65e92b85e49d971c91db13c0ad6ad73a", func := "parquetry/parquetrylaw11.LevelIsolates", spec := "levelIsolates", apart := false, narrowed := true }
def LevelIsolatesUptoSaid : Prop := levelIsolatesUptoRow.holds Try.pinned (OpenSpec.upto levelIsolatesSpec)

/-- 'parquetrylaw11.LevelAhead', WHERE WHAT IT READS IS OF BULK AT MOST 1048576: true; the input reads as it did. -/
def levelAheadUptoRow : OpenClaim := { program := "ytehndhkcmccpmaa", sum := "87be255fe8042921de94123ea8f2388d65e92b85e49d971c91db13c0ad6ad73a", func := "parquetry/parquetrylaw11.LevelAhead", spec := "levelAhead", apart := false, narrowed := true }
def LevelAheadUptoSaid : Prop := levelAheadUptoRow.holds Try.pinned (OpenSpec.upto levelAheadSpec)

/-- 'parquetrylaw12.SeqsFound', WHERE WHAT IT READS IS OF BULK AT MOST 1048576: true; the input reads as it did. -/
def seqsFoundUptoRow : OpenClaim := { program := "ytehndhkcmccpmaa", sum := "87be255fe8042921de94123ea8f2388d65e92b85e49d971c91db13c0ad6ad73a", func := "parquetry/parquetrylaw12.SeqsFound", spec := "seqsFound", unfollowed := true, recurses := true, apart := false, narrowed := true }
def SeqsFoundUptoSaid : Prop := seqsFoundUptoRow.holds Try.pinned (OpenSpec.upto seqsFoundSpec)

/-- 'parquetrylaw12.SeqsOnce', WHERE WHAT IT READS IS OF BULK AT MOST 1048576: true; the input reads as it did. -/
def seqsOnceUptoRow : OpenClaim := { program := "ytehndhkcmccpmaa", sum := "87be255fe8042921de94123ea8f2388d65e92b85e49d971c91db13c0ad6ad73a", func := "parquetry/parquetrylaw12.SeqsOnce", spec := "seqsOnce", unfollowed := true, recurses := true, apart := false, narrowed := true }
def SeqsOnceUptoSaid : Prop := seqsOnceUptoRow.holds Try.pinned (OpenSpec.upto seqsOnceSpec)

/-- 'parquetrylaw12.SeqsOne', WHERE WHAT IT READS IS OF BULK AT MOST 1048576: true; the input reads as it did. -/
def seqsOneUptoRow : OpenClaim := { program := "ytehndhkcmccpmaa", sum := "87be255fe8042921de94123ea8f2388d65e92b85e49d971c91db13c0ad6ad73a", func := "parquetry/parquetrylaw12.SeqsOne", spec := "seqsOne", unfollowed := true, recurses := true, apart := false, narrowed := true }
def SeqsOneUptoSaid : Prop := seqsOneUptoRow.holds Try.pinned (OpenSpec.upto seqsOneSpec)

/-- 'parquetrylaw12.SeqsBoth', WHERE WHAT IT READS IS OF BULK AT MOST 1048576: true; the input reads as it did. -/
def seqsBothUptoRow : OpenClaim := { program := "ytehndhkcmccpmaa", sum := "87be255fe8042921de94123ea8f2388d65e92b85e49d971c91db13c0ad6ad73a", func := "parquetry/parquetrylaw12.SeqsBoth", spec := "seqsBoth", unfollowed := true, recurses := true, apart := false, narrowed := true }
def SeqsBothUptoSaid : Prop := seqsBothUptoRow.holds Try.pinned (OpenSpec.upto seqsBothSpec)

end Rows
end Go.Proofs.Ytehndhkcmccpmaa
