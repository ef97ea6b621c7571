/-
  No cell of these rows narrows 'for every input' (looked for: loops, veiled, ifaces, maps, wideKeys, modest, calm, conditions, laid).
  DERIVED. THE GIVEN ROWS OF THIS SEAT. 5 by the template 'for every input the law returns true; each argument reads behind the call as it read before'; 0 by the template 'total and deterministic' (their statements: YtkeialfnmdicoaaTotals.lean).
  GIVEN WITH THE SEED: the statements are not yours to turn. If you find one false, say at which input.
  Laid BY PROGRAM, IN A SANDBOX (cutbox-rows.mjs): the forced cells as the released guide's own fill.sh prints them over the translation 9d231d2d0e4cf400… (all of the seat's roots in one cut). By AI agents, Wed Nov 11 2026. No macro, syntax, notation, axiom, sorry.
-/
import Derived.Test.YtkeialfnmdicoaaChecked
import GoSem.Claim
import GoSem.ClaimJoined
import GoSem.ClaimMapViews
import Derived.JoinedTies
import Derived.KernelRfl
namespace Go.Proofs.Ytkeialfnmdicoaa
/- THE CELL 'sum', in the pinned program and in every row, IS THE sha256 OF THE DUMP (.gsa) THAT YtkeialfnmdicoaaProg.lean LOADS. Nothing in Lean hashes anything: it is a label: what it is worth is what the hold of that sum in a sandbox is worth. -/
noncomputable def Try.pinned : Pinned := { name := "ytkeialfnmdicoaa", sum := "9d231d2d0e4cf40075ccb693b267e602622d9afec64bca3ee3ba9fa81d6d68b8", checked := Try.checked }
namespace Rows
def none {H : Type} : Left H := { results := [], args := [] }

/-- 'parquetrylaw11.LevelExplicit': WHATEVER THE INPUT: true; the input reads as it did. -/
def levelExplicitSpec : ChangeSpec := { name := "levelExplicit", fn := fun _ => fun
  | [d1, d2] => { results := [.lit (.bool true)], args := [d1, d2] }
  | _ => none }
def levelExplicitRow : OpenClaim := { program := "ytkeialfnmdicoaa", sum := "9d231d2d0e4cf40075ccb693b267e602622d9afec64bca3ee3ba9fa81d6d68b8", func := "parquetry/parquetrylaw11.LevelExplicit", spec := "levelExplicit", apart := false }
def LevelExplicitSaid : Prop := levelExplicitRow.holds Try.pinned (OpenSpec.ofChange levelExplicitSpec)

/-- ITS FALSE NEIGHBOUR: 'it returns false'. Refute it at one input. -/
def levelExplicitWrong : ChangeSpec := { name := "levelExplicit", fn := fun _ => fun
  | [d1, d2] => { results := [.lit (.bool false)], args := [d1, d2] }
  | _ => none }
def LevelExplicitWrongFalsely : Prop := levelExplicitRow.holds Try.pinned (OpenSpec.ofChange levelExplicitWrong)

/-- 'parquetrylaw11.LevelRemoved': WHATEVER THE INPUT: true; the input reads as it did. -/
def levelRemovedSpec : ChangeSpec := { name := "levelRemoved", fn := fun _ => fun
  | [d] => { results := [.lit (.bool true)], args := [d] }
  | _ => none }
def levelRemovedRow : OpenClaim := { program := "ytkeialfnmdicoaa", sum := "9d231d2d0e4cf40075ccb693b267e602622d9afec64bca3ee3ba9fa81d6d68b8", func := "parquetry/parquetrylaw11.LevelRemoved", spec := "levelRemoved", apart := false }
def LevelRemovedSaid : Prop := levelRemovedRow.holds Try.pinned (OpenSpec.ofChange levelRemovedSpec)

/-- ITS FALSE NEIGHBOUR: 'it returns false'. Refute it at one input. -/
def levelRemovedWrong : ChangeSpec := { name := "levelRemoved", fn := fun _ => fun
  | [d] => { results := [.lit (.bool false)], args := [d] }
  | _ => none }
def LevelRemovedWrongFalsely : Prop := levelRemovedRow.holds Try.pinned (OpenSpec.ofChange levelRemovedWrong)

/-- 'parquetrylaw11.LevelDeep': WHATEVER THE INPUT: true; the input reads as it did. -/
def levelDeepSpec : ChangeSpec := { name := "levelDeep", fn := fun _ => fun
  | [d1, d2] => { results := [.lit (.bool true)], args := [d1, d2] }
  | _ => none }
def levelDeepRow : OpenClaim := { program := "ytkeialfnmdicoaa", sum := "9d231d2d0e4cf40075ccb693b267e602622d9afec64bca3ee3ba9fa81d6d68b8", func := "parquetry/parquetrylaw11.LevelDeep", spec := "levelDeep", apart := false }
def LevelDeepSaid : Prop := levelDeepRow.holds Try.pinned (OpenSpec.ofChange levelDeepSpec)

/-- ITS FALSE NEIGHBOUR: 'it returns false'. Refute it at one input. -/
def levelDeepWrong : ChangeSpec := { name := "levelDeep", fn := fun _ => fun
  | [d1, d2] => { results := [.lit (.bool false)], args := [d1, d2] }
  | _ => none }
def LevelDeepWrongFalsely : Prop := levelDeepRow.holds Try.pinned (OpenSpec.ofChange levelDeepWrong)

/-- 'parquetrylaw11.LevelIsolates': WHATEVER THE INPUT: true; the input reads as it did. -/
def levelIsolatesSpec : ChangeSpec := { name := "levelIsolates", fn := fun _ => fun
  | [d1, d2, d3, d4, d5] => { results := [.lit (.bool true)], args := [d1, d2, d3, d4, d5] }
  | _ => none }
def levelIsolatesRow : OpenClaim := { program := "ytkeialfnmdicoaa", sum := "9d231d2d0e4cf40075ccb693b267e602622d9afec64bca3ee3ba9fa81d6d68b8", func := "parquetry/parquetrylaw11.LevelIsolates", spec := "levelIsolates", apart := false }
def LevelIsolatesSaid : Prop := levelIsolatesRow.holds Try.pinned (OpenSpec.ofChange levelIsolatesSpec)

/-- ITS FALSE NEIGHBOUR: 'it returns false'. Refute it at one input. -/
def levelIsolatesWrong : ChangeSpec := { name := "levelIsolates", fn := fun _ => fun
  | [d1, d2, d3, d4, d5] => { results := [.lit (.bool false)], args := [d1, d2, d3, d4, d5] }
  | _ => none }
def LevelIsolatesWrongFalsely : Prop := levelIsolatesRow.holds Try.pinned (OpenSpec.ofChange levelIsolatesWrong)

/-- 'parquetrylaw11.LevelAhead': WHATEVER THE INPUT: true; the input reads as it did. -/
def levelAheadSpec : ChangeSpec := { name := "levelAhead", fn := fun _ => fun
  | [d1, d2, d3] => { results := [.lit (.bool true)], args := [d1, d2, d3] }
  | _ => none }
def levelAheadRow : OpenClaim := { program := "ytkeialfnmdicoaa", sum := "9d231d2d0e4cf40075ccb693b267e602622d9afec64bca3ee3ba9fa81d6d68b8", func := "parquetry/parquetrylaw11.LevelAhead", spec := "levelAhead", apart := false }
def LevelAheadSaid : Prop := levelAheadRow.holds Try.pinned (OpenSpec.ofChange levelAheadSpec)

/-- ITS FALSE NEIGHBOUR: 'it returns false'. Refute it at one input. -/
def levelAheadWrong : ChangeSpec := { name := "levelAhead", fn := fun _ => fun
  | [d1, d2, d3] => { results := [.lit (.bool false)], args := [d1, d2, d3] }
  | _ => none }
def LevelAheadWrongFalsely : Prop := levelAheadRow.holds Try.pinned (OpenSpec.ofChange levelAheadWrong)

/- THE SECOND FORM. 'bulk': how many values and letters a reading holds, each counted each time it is reached (what is shared counts as often as it is met; a slice's spare places count too). A statement '..UptoSaid' is the law's where the arguments, and the package variables that the reading takes, are together of bulk at most 1048576: NARROWER than '..Said'. Prove '..Said' where nothing that the law and all that it calls make is longer than what came in: it says more and counts as full. Else prove '..UptoSaid'. A law counts once. -/
mutual
def uptoBulk {H : Type} : DataW H → Nat
  | .lit (.string bytes) => bytes.length + 1
  | .lit _ => 1
  | .nil => 1
  | .ptr d => uptoBulk d + 1
  | .slice elems spare => uptoBulkAll elems + uptoBulkAll spare + 1
  | .agg parts => uptoBulkAll parts + 1
  | .iface _ d => uptoBulk d + 1
  | .map entries => uptoBulkEntries entries + 1
  | .held _ => 1
def uptoBulkAll {H : Type} : List (DataW H) → Nat
  | [] => 0
  | d :: r => uptoBulk d + uptoBulkAll r
def uptoBulkEntries {H : Type} : List (Lit × DataW H) → Nat
  | [] => 0
  | x :: r => uptoBulkEntry x + uptoBulkEntries r
def uptoBulkEntry {H : Type} : Lit × DataW H → Nat
  | (.string bytes, d) => bytes.length + uptoBulk d + 1
  | (_, d) => uptoBulk d + 1
 end
def uptoSmall : (H : Type) → List (DataW H) → Bool := fun _ ds => decide (uptoBulkAll ds ≤ 1048576)
def OpenSpec.upto (s : _root_.Go.ChangeSpec) : _root_.Go.OpenSpec := { _root_.Go.OpenSpec.ofChange s with cond := some uptoSmall }

/-- 'parquetrylaw11.LevelExplicit', WHERE WHAT IT READS IS OF BULK AT MOST 1048576: true; the input reads as it did. -/
def levelExplicitUptoRow : OpenClaim := { program := "ytkeialfnmdicoaa", sum := "9d231d2d0e4cf40075ccb693b267e602622d9afec64bca3ee3ba9fa81d6d68b8", func := "parquetry/parquetrylaw11.LevelExplicit", spec := "levelExplicit", apart := false, narrowed := true }
def LevelExplicitUptoSaid : Prop := levelExplicitUptoRow.holds Try.pinned (OpenSpec.upto levelExplicitSpec)

/-- 'parquetrylaw11.LevelRemoved', WHERE WHAT IT READS IS OF BULK AT MOST 1048576: true; the input reads as it did. -/
def levelRemovedUptoRow : OpenClaim := { program := "ytkeialfnmdicoaa", sum := "9d231d2d0e4cf40075ccb693b267e602622d9afec64bca3ee3ba9fa81d6d68b8", func := "parquetry/parquetrylaw11.LevelRemoved", spec := "levelRemoved", apart := false, narrowed := true }
def LevelRemovedUptoSaid : Prop := levelRemovedUptoRow.holds Try.pinned (OpenSpec.upto levelRemovedSpec)

/-- 'parquetrylaw11.LevelDeep', WHERE WHAT IT READS IS OF BULK AT MOST 1048576: true; the input reads as it did. -/
def levelDeepUptoRow : OpenClaim := { program := "ytkeialfnmdicoaa", sum := "9d231d2d0e4cf40075ccb693b267e602622d9afec64bca3ee3ba9fa81d6d68b8", func := "parquetry/parquetrylaw11.LevelDeep", spec := "levelDeep", apart := false, narrowed := true }
def LevelDeepUptoSaid : Prop := levelDeepUptoRow.holds Try.pinned (OpenSpec.upto levelDeepSpec)

/-- 'parquetrylaw11.LevelIsolates', WHERE WHAT IT READS IS OF BULK AT MOST 1048576: true; the input reads as it did. -/
def levelIsolatesUptoRow : OpenClaim := { program := "ytkeialfnmdicoaa", sum := "9d231d2d0e4cf40075ccb693b267e602622d9afec64bca3ee3ba9fa81d6d68b8", func := "parquetry/parquetrylaw11.LevelIsolates", spec := "levelIsolates", apart := false, narrowed := true }
def LevelIsolatesUptoSaid : Prop := levelIsolatesUptoRow.holds Try.pinned (OpenSpec.upto levelIsolatesSpec)

/-- 'parquetrylaw11.LevelAhead', WHERE WHAT IT READS IS OF BULK AT MOST 1048576: true; the input reads as it did. -/
def levelAheadUptoRow : OpenClaim := { program := "ytkeialfnmdicoaa", sum := "9d231d2d0e4cf40075ccb693b267e602622d9afec64bca3ee3ba9fa81d6d68b8", func := "parquetry/parquetrylaw11.LevelAhead", spec := "levelAhead", apart := false, narrowed := true }
def LevelAheadUptoSaid : Prop := levelAheadUptoRow.holds Try.pinned (OpenSpec.upto levelAheadSpec)

end Rows
end Go.Proofs.Ytkeialfnmdicoaa
