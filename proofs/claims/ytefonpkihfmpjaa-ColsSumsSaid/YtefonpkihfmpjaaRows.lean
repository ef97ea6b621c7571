/-
  No cell of these rows narrows 'for every input' (looked for: loops, veiled, ifaces, maps, wideKeys, modest, calm, conditions, laid).
  DERIVED. THE GIVEN ROWS OF THIS SEAT. 4 by the template 'for every input the law returns true; each argument reads behind the call as it read before'; 0 by the template 'total and deterministic' (their statements: YtefonpkihfmpjaaTotals.lean).
  GIVEN WITH THE SEED: the statements are not yours to turn. If you find one false, say at which input.
  Laid BY PROGRAM, IN A SANDBOX (cutbox-rows.mjs): the forced cells as the released guide's own fill.sh prints them over the translation 47ccd4119d9197cd… (all of the seat's roots in one cut). By AI agents, Wed Nov 11 2026. No macro, syntax, notation, axiom, sorry.
-/
import Derived.Test.YtefonpkihfmpjaaChecked
import GoSem.Claim
import GoSem.ClaimJoined
import GoSem.ClaimMapViews
import Derived.JoinedTies
import Derived.KernelRfl
namespace Go.Proofs.Ytefonpkihfmpjaa
/- THE CELL 'sum', in the pinned program and in every row, IS THE sha256 OF THE DUMP (.gsa) THAT YtefonpkihfmpjaaProg.lean LOADS. Nothing in Lean hashes anything: it is a label: what it is worth is what the hold of that sum in a sandbox is worth. -/
noncomputable def Try.pinned : Pinned := { name := "ytefonpkihfmpjaa", sum := "47ccd4119d9197cd183ac51dfc3b28a645be7823835ca42b10759f1b968b0b77", checked := Try.checked }
namespace Rows
def none {H : Type} : Left H := { results := [], args := [] }

/-- 'parquetrylaw04.ColsOf': WHATEVER THE INPUT: true; the input reads as it did. -/
def colsOfSpec : ChangeSpec := { name := "colsOf", fn := fun _ => fun
  | [d] => { results := [.lit (.bool true)], args := [d] }
  | _ => none }
def colsOfRow : OpenClaim := { program := "ytefonpkihfmpjaa", sum := "47ccd4119d9197cd183ac51dfc3b28a645be7823835ca42b10759f1b968b0b77", func := "parquetry/parquetrylaw04.ColsOf", spec := "colsOf", unfollowed := true, recurses := true, apart := false }
def ColsOfSaid : Prop := colsOfRow.holds Try.pinned (OpenSpec.ofChange colsOfSpec)

/-- ITS FALSE NEIGHBOUR: 'it returns false'. Refute it at one input. -/
def colsOfWrong : ChangeSpec := { name := "colsOf", fn := fun _ => fun
  | [d] => { results := [.lit (.bool false)], args := [d] }
  | _ => none }
def ColsOfWrongFalsely : Prop := colsOfRow.holds Try.pinned (OpenSpec.ofChange colsOfWrong)

/-- 'parquetrylaw04.ColsAll': WHATEVER THE INPUT: true; the input reads as it did. -/
def colsAllSpec : ChangeSpec := { name := "colsAll", fn := fun _ => fun
  | [d] => { results := [.lit (.bool true)], args := [d] }
  | _ => none }
def colsAllRow : OpenClaim := { program := "ytefonpkihfmpjaa", sum := "47ccd4119d9197cd183ac51dfc3b28a645be7823835ca42b10759f1b968b0b77", func := "parquetry/parquetrylaw04.ColsAll", spec := "colsAll", unfollowed := true, recurses := true, apart := false }
def ColsAllSaid : Prop := colsAllRow.holds Try.pinned (OpenSpec.ofChange colsAllSpec)

/-- ITS FALSE NEIGHBOUR: 'it returns false'. Refute it at one input. -/
def colsAllWrong : ChangeSpec := { name := "colsAll", fn := fun _ => fun
  | [d] => { results := [.lit (.bool false)], args := [d] }
  | _ => none }
def ColsAllWrongFalsely : Prop := colsAllRow.holds Try.pinned (OpenSpec.ofChange colsAllWrong)

/-- 'parquetrylaw04.ColsSums': WHATEVER THE INPUT: true; the input reads as it did. -/
def colsSumsSpec : ChangeSpec := { name := "colsSums", fn := fun _ => fun
  | [d1, d2] => { results := [.lit (.bool true)], args := [d1, d2] }
  | _ => none }
def colsSumsRow : OpenClaim := { program := "ytefonpkihfmpjaa", sum := "47ccd4119d9197cd183ac51dfc3b28a645be7823835ca42b10759f1b968b0b77", func := "parquetry/parquetrylaw04.ColsSums", spec := "colsSums", unfollowed := true, recurses := true, apart := false }
def ColsSumsSaid : Prop := colsSumsRow.holds Try.pinned (OpenSpec.ofChange colsSumsSpec)

/-- ITS FALSE NEIGHBOUR: 'it returns false'. Refute it at one input. -/
def colsSumsWrong : ChangeSpec := { name := "colsSums", fn := fun _ => fun
  | [d1, d2] => { results := [.lit (.bool false)], args := [d1, d2] }
  | _ => none }
def ColsSumsWrongFalsely : Prop := colsSumsRow.holds Try.pinned (OpenSpec.ofChange colsSumsWrong)

/-- 'parquetrylaw04.ColsPlain': WHATEVER THE INPUT: true; the input reads as it did. -/
def colsPlainSpec : ChangeSpec := { name := "colsPlain", fn := fun _ => fun
  | [d] => { results := [.lit (.bool true)], args := [d] }
  | _ => none }
def colsPlainRow : OpenClaim := { program := "ytefonpkihfmpjaa", sum := "47ccd4119d9197cd183ac51dfc3b28a645be7823835ca42b10759f1b968b0b77", func := "parquetry/parquetrylaw04.ColsPlain", spec := "colsPlain", unfollowed := true, recurses := true, apart := false }
def ColsPlainSaid : Prop := colsPlainRow.holds Try.pinned (OpenSpec.ofChange colsPlainSpec)

/-- ITS FALSE NEIGHBOUR: 'it returns false'. Refute it at one input. -/
def colsPlainWrong : ChangeSpec := { name := "colsPlain", fn := fun _ => fun
  | [d] => { results := [.lit (.bool false)], args := [d] }
  | _ => none }
def ColsPlainWrongFalsely : Prop := colsPlainRow.holds Try.pinned (OpenSpec.ofChange colsPlainWrong)

/- THE SECOND FORM. 'bulk': how many values and letters a reading holds, each counted each time it is reached (what is shared counts as often as it is met; a slice's spare places count too). A statement '..UptoSaid' is the law's where the arguments, and the package variables that the reading takes, are together of bulk at most 1048576: NARROWER than '..Said'. Prove '..Said' where nothing that the law and all that it calls make is longer than what came in: it says more and counts as full. Else prove '..UptoSaid'. A law counts once. -/
mutual
def uptoBulk {H : Type} : DataW H → Nat
  | .lit (.string bytes) => bytes.length + 1
  | .lit _ => 1
  | .nil => 1
  | .ptr d => uptoBulk d + 1
  | .slice elems spare => uptoBulkAll elems + uptoBulkAll spare + 1
  | .agg parts => uptoBulkAll parts + 1
  | .iface _ d => uptoBulk d + 1
  | .map entries => uptoBulkEntries entries + 1
  | .held _ => 1
def uptoBulkAll {H : Type} : List (DataW H) → Nat
  | [] => 0
  | d :: r => uptoBulk d + uptoBulkAll r
def uptoBulkEntries {H : Type} : List (Lit × DataW H) → Nat
  | [] => 0
  | x :: r => uptoBulkEntry x + uptoBulkEntries r
def uptoBulkEntry {H : Type} : Lit × DataW H → Nat
  | (.string bytes, d) => bytes.length + uptoBulk d + 1
  | (_, d) => uptoBulk d + 1
 end
def uptoSmall : (H : Type) → List (DataW H) → Bool := fun _ ds => decide (uptoBulkAll ds ≤ 1048576)
def OpenSpec.upto (s : _root_.Go.ChangeSpec) : _root_.Go.OpenSpec := { _root_.Go.OpenSpec.ofChange s with cond := some uptoSmall }

/-- 'parquetrylaw04.ColsOf', WHERE WHAT IT READS IS OF BULK AT MOST 1048576: true; the input reads as it did. -/
def colsOfUptoRow : OpenClaim := { program := "ytefonpkihfmpjaa", sum := "47ccd4119d9197cd183ac51dfc3b28a645be7823835ca42b10759f1b968b0b77", func := "parquetry/parquetrylaw04.ColsOf", spec := "colsOf", unfollowed := true, recurses := true, apart := false, narrowed := true }
def ColsOfUptoSaid : Prop := colsOfUptoRow.holds Try.pinned (OpenSpec.upto colsOfSpec)

/-- 'parquetrylaw04.ColsAll', WHERE WHAT IT READS IS OF BULK AT MOST 1048576: true; the input reads as it did. -/
def colsAllUptoRow : OpenClaim := { program := "ytefonpkihfmpjaa", sum := "47ccd4119d9197cd183ac51dfc3b28a645be7823835ca42b10759f1b968b0b77", func := "parquetry/parquetrylaw04.ColsAll", spec := "colsAll", unfollowed := true, recurses := true, apart := false, narrowed := true }
def ColsAllUptoSaid : Prop := colsAllUptoRow.holds Try.pinned (OpenSpec.upto colsAllSpec)

/-- 'parquetrylaw04.ColsSums', WHERE WHAT IT READS IS OF BULK AT MOST 1048576: true; the input reads as it did. -/
def colsSumsUptoRow : OpenClaim := { program := "ytefonpkihfmpjaa", sum := "47ccd4119d9197cd183ac51dfc3b28a645be7823835ca42b10759f1b968b0b77", func := "parquetry/parquetrylaw04.ColsSums", spec := "colsSums", unfollowed := true, recurses := true, apart := false, narrowed := true }
def ColsSumsUptoSaid : Prop := colsSumsUptoRow.holds Try.pinned (OpenSpec.upto colsSumsSpec)

/-- 'parquetrylaw04.ColsPlain', WHERE WHAT IT READS IS OF BULK AT MOST 1048576: true; the input reads as it did. -/
def colsPlainUptoRow : OpenClaim := { program := "ytefonpkihfmpjaa", sum := "47ccd4119d9197cd183ac51dfc3b28a645be7823835ca42b10759f1b968b0b77", func := "parquetry/parquetrylaw04.ColsPlain", spec := "colsPlain", unfollowed := true, recurses := true, apart := false, narrowed := true }
def ColsPlainUptoSaid : Prop := colsPlainUptoRow.holds Try.pinned (OpenSpec.upto colsPlainSpec)

end Rows
end Go.Proofs.Ytefonpkihfmpjaa
