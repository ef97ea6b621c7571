/-
  No cell of these rows narrows 'for every input' (looked for: loops, veiled, ifaces, maps, wideKeys, modest, calm, conditions, laid).
  DERIVED. THE GIVEN ROWS OF THIS SEAT. 6 by the template 'for every input the law returns true; each argument reads behind the call as it read before'; 0 by the template 'total and deterministic' (their statements: YtlipcabfjikmkaaTotals.lean).
  GIVEN WITH THE SEED: the statements are not yours to turn. If you find one false, say at which input.
  Laid BY PROGRAM, IN A SANDBOX (cutbox-rows.mjs): the forced cells as the released guide's own fill.sh prints them over the translation 9e19ba5ba95b90d5… (all of the seat's roots in one cut). By AI agents, Wed Nov 11 2026. No macro, syntax, notation, axiom, sorry.
-/
import Derived.Test.YtlipcabfjikmkaaChecked
import GoSem.Claim
import GoSem.ClaimJoined
import GoSem.ClaimMapViews
import Derived.JoinedTies
import Derived.KernelRfl
namespace Go.Proofs.Ytlipcabfjikmkaa
/- THE CELL 'sum', in the pinned program and in every row, IS THE sha256 OF THE DUMP (.gsa) THAT YtlipcabfjikmkaaProg.lean LOADS. Nothing in Lean hashes anything: it is a label: what it is worth is what the hold of that sum in a sandbox is worth. -/
noncomputable def Try.pinned : Pinned := { name := "ytlipcabfjikmkaa", sum := "9e19ba5ba95b90d54ee76e88c3b28d83f2440153294c43d4570c68fe7c9ac10f", checked := Try.checked }
namespace Rows
def none {H : Type} : Left H := { results := [], args := [] }

/-- 'parquetrylaw01.RunesSplits': WHATEVER THE INPUT: true; the input reads as it did. -/
def runesSplitsSpec : ChangeSpec := { name := "runesSplits", fn := fun _ => fun
  | [d] => { results := [.lit (.bool true)], args := [d] }
  | _ => none }
def runesSplitsRow : OpenClaim := { program := "ytlipcabfjikmkaa", sum := "9e19ba5ba95b90d54ee76e88c3b28d83f2440153294c43d4570c68fe7c9ac10f", func := "parquetry/parquetrylaw01.RunesSplits", spec := "runesSplits", apart := false }
def RunesSplitsSaid : Prop := runesSplitsRow.holds Try.pinned (OpenSpec.ofChange runesSplitsSpec)

/-- ITS FALSE NEIGHBOUR: 'it returns false'. Refute it at one input. -/
def runesSplitsWrong : ChangeSpec := { name := "runesSplits", fn := fun _ => fun
  | [d] => { results := [.lit (.bool false)], args := [d] }
  | _ => none }
def RunesSplitsWrongFalsely : Prop := runesSplitsRow.holds Try.pinned (OpenSpec.ofChange runesSplitsWrong)

/-- 'parquetrylaw01.RunesTexts': WHATEVER THE INPUT: true; the input reads as it did. -/
def runesTextsSpec : ChangeSpec := { name := "runesTexts", fn := fun _ => fun
  | [d] => { results := [.lit (.bool true)], args := [d] }
  | _ => none }
def runesTextsRow : OpenClaim := { program := "ytlipcabfjikmkaa", sum := "9e19ba5ba95b90d54ee76e88c3b28d83f2440153294c43d4570c68fe7c9ac10f", func := "parquetry/parquetrylaw01.RunesTexts", spec := "runesTexts", apart := false }
def RunesTextsSaid : Prop := runesTextsRow.holds Try.pinned (OpenSpec.ofChange runesTextsSpec)

/-- ITS FALSE NEIGHBOUR: 'it returns false'. Refute it at one input. -/
def runesTextsWrong : ChangeSpec := { name := "runesTexts", fn := fun _ => fun
  | [d] => { results := [.lit (.bool false)], args := [d] }
  | _ => none }
def RunesTextsWrongFalsely : Prop := runesTextsRow.holds Try.pinned (OpenSpec.ofChange runesTextsWrong)

/-- 'parquetrylaw01.RunesPlaces': WHATEVER THE INPUT: true; the input reads as it did. -/
def runesPlacesSpec : ChangeSpec := { name := "runesPlaces", fn := fun _ => fun
  | [d1, d2] => { results := [.lit (.bool true)], args := [d1, d2] }
  | _ => none }
def runesPlacesRow : OpenClaim := { program := "ytlipcabfjikmkaa", sum := "9e19ba5ba95b90d54ee76e88c3b28d83f2440153294c43d4570c68fe7c9ac10f", func := "parquetry/parquetrylaw01.RunesPlaces", spec := "runesPlaces", apart := false }
def RunesPlacesSaid : Prop := runesPlacesRow.holds Try.pinned (OpenSpec.ofChange runesPlacesSpec)

/-- ITS FALSE NEIGHBOUR: 'it returns false'. Refute it at one input. -/
def runesPlacesWrong : ChangeSpec := { name := "runesPlaces", fn := fun _ => fun
  | [d1, d2] => { results := [.lit (.bool false)], args := [d1, d2] }
  | _ => none }
def RunesPlacesWrongFalsely : Prop := runesPlacesRow.holds Try.pinned (OpenSpec.ofChange runesPlacesWrong)

/-- 'parquetrylaw01.RunesWhole': WHATEVER THE INPUT: true; the input reads as it did. -/
def runesWholeSpec : ChangeSpec := { name := "runesWhole", fn := fun _ => fun
  | [d] => { results := [.lit (.bool true)], args := [d] }
  | _ => none }
def runesWholeRow : OpenClaim := { program := "ytlipcabfjikmkaa", sum := "9e19ba5ba95b90d54ee76e88c3b28d83f2440153294c43d4570c68fe7c9ac10f", func := "parquetry/parquetrylaw01.RunesWhole", spec := "runesWhole", apart := false }
def RunesWholeSaid : Prop := runesWholeRow.holds Try.pinned (OpenSpec.ofChange runesWholeSpec)

/-- ITS FALSE NEIGHBOUR: 'it returns false'. Refute it at one input. -/
def runesWholeWrong : ChangeSpec := { name := "runesWhole", fn := fun _ => fun
  | [d] => { results := [.lit (.bool false)], args := [d] }
  | _ => none }
def RunesWholeWrongFalsely : Prop := runesWholeRow.holds Try.pinned (OpenSpec.ofChange runesWholeWrong)

/-- 'parquetrylaw01.RunesBack': WHATEVER THE INPUT: true; the input reads as it did. -/
def runesBackSpec : ChangeSpec := { name := "runesBack", fn := fun _ => fun
  | [d1, d2, d3] => { results := [.lit (.bool true)], args := [d1, d2, d3] }
  | _ => none }
def runesBackRow : OpenClaim := { program := "ytlipcabfjikmkaa", sum := "9e19ba5ba95b90d54ee76e88c3b28d83f2440153294c43d4570c68fe7c9ac10f", func := "parquetry/parquetrylaw01.RunesBack", spec := "runesBack", apart := false }
def RunesBackSaid : Prop := runesBackRow.holds Try.pinned (OpenSpec.ofChange runesBackSpec)

/-- ITS FALSE NEIGHBOUR: 'it returns false'. Refute it at one input. -/
def runesBackWrong : ChangeSpec := { name := "runesBack", fn := fun _ => fun
  | [d1, d2, d3] => { results := [.lit (.bool false)], args := [d1, d2, d3] }
  | _ => none }
def RunesBackWrongFalsely : Prop := runesBackRow.holds Try.pinned (OpenSpec.ofChange runesBackWrong)

/-- 'parquetrylaw01.RunesCuts': WHATEVER THE INPUT: true; the input reads as it did. -/
def runesCutsSpec : ChangeSpec := { name := "runesCuts", fn := fun _ => fun
  | [d1, d2] => { results := [.lit (.bool true)], args := [d1, d2] }
  | _ => none }
def runesCutsRow : OpenClaim := { program := "ytlipcabfjikmkaa", sum := "9e19ba5ba95b90d54ee76e88c3b28d83f2440153294c43d4570c68fe7c9ac10f", func := "parquetry/parquetrylaw01.RunesCuts", spec := "runesCuts", apart := false }
def RunesCutsSaid : Prop := runesCutsRow.holds Try.pinned (OpenSpec.ofChange runesCutsSpec)

/-- ITS FALSE NEIGHBOUR: 'it returns false'. Refute it at one input. -/
def runesCutsWrong : ChangeSpec := { name := "runesCuts", fn := fun _ => fun
  | [d1, d2] => { results := [.lit (.bool false)], args := [d1, d2] }
  | _ => none }
def RunesCutsWrongFalsely : Prop := runesCutsRow.holds Try.pinned (OpenSpec.ofChange runesCutsWrong)

/- THE SECOND FORM. 'bulk': how many values and letters a reading holds, each counted each time it is reached (what is shared counts as often as it is met; a slice's spare places count too). A statement '..UptoSaid' is the law's where the arguments, and the package variables that the reading takes, are together of bulk at most 1048576: NARROWER than '..Said'. Prove '..Said' where nothing that the law and all that it calls make is longer than what came in: it says more and counts as full. Else prove '..UptoSaid'. A law counts once. -/
mutual
def uptoBulk {H : Type} : DataW H → Nat
  | .lit (.string bytes) => bytes.length + 1
  | .lit _ => 1
  | .nil => 1
  | .ptr d => uptoBulk d + 1
  | .slice elems spare => uptoBulkAll elems + uptoBulkAll spare + 1
  | .agg parts => uptoBulkAll parts + 1
  | .iface _ d => uptoBulk d + 1
  | .map entries => uptoBulkEntries entries + 1
  | .held _ => 1
def uptoBulkAll {H : Type} : List (DataW H) → Nat
  | [] => 0
  | d :: r => uptoBulk d + uptoBulkAll r
def uptoBulkEntries {H : Type} : List (Lit × DataW H) → Nat
  | [] => 0
  | x :: r => uptoBulkEntry x + uptoBulkEntries r
def uptoBulkEntry {H : Type} : Lit × DataW H → Nat
  | (.string bytes, d) => bytes.length + uptoBulk d + 1
  | (_, d) => uptoBulk d + 1
 end
def uptoSmall : (H : Type) → List (DataW H) → Bool := fun _ ds => decide (uptoBulkAll ds ≤ 1048576)
def OpenSpec.upto (s : _root_.Go.ChangeSpec) : _root_.Go.OpenSpec := { _root_.Go.OpenSpec.ofChange s with cond := some uptoSmall }

/-- 'parquetrylaw01.RunesSplits', WHERE WHAT IT READS IS OF BULK AT MOST 1048576: true; the input reads as it did. -/
def runesSplitsUptoRow : OpenClaim := { program := "ytlipcabfjikmkaa", sum := "9e19ba5ba95b90d54ee76e88c3b28d83f2440153294c43d4570c68fe7c9ac10f", func := "parquetry/parquetrylaw01.RunesSplits", spec := "runesSplits", apart := false, narrowed := true }
def RunesSplitsUptoSaid : Prop := runesSplitsUptoRow.holds Try.pinned (OpenSpec.upto runesSplitsSpec)

/-- 'parquetrylaw01.RunesTexts', WHERE WHAT IT READS IS OF BULK AT MOST 1048576: true; the input reads as it did. -/
def runesTextsUptoRow : OpenClaim := { program := "ytlipcabfjikmkaa", sum := "9e19ba5ba95b90d54ee76e88c3b28d83f2440153294c43d4570c68fe7c9ac10f", func := "parquetry/parquetrylaw01.RunesTexts", spec := "runesTexts", apart := false, narrowed := true }
def RunesTextsUptoSaid : Prop := runesTextsUptoRow.holds Try.pinned (OpenSpec.upto runesTextsSpec)

/-- 'parquetrylaw01.RunesPlaces', WHERE WHAT IT READS IS OF BULK AT MOST 1048576: true; the input reads as it did. -/
def runesPlacesUptoRow : OpenClaim := { program := "ytlipcabfjikmkaa", sum := "9e19ba5ba95b90d54ee76e88c3b28d83f2440153294c43d4570c68fe7c9ac10f", func := "parquetry/parquetrylaw01.RunesPlaces", spec := "runesPlaces", apart := false, narrowed := true }
def RunesPlacesUptoSaid : Prop := runesPlacesUptoRow.holds Try.pinned (OpenSpec.upto runesPlacesSpec)

/-- 'parquetrylaw01.RunesWhole', WHERE WHAT IT READS IS OF BULK AT MOST 1048576: true; the input reads as it did. -/
def runesWholeUptoRow : OpenClaim := { program := "ytlipcabfjikmkaa", sum := "9e19ba5ba95b90d54ee76e88c3b28d83f2440153294c43d4570c68fe7c9ac10f", func := "parquetry/parquetrylaw01.RunesWhole", spec := "runesWhole", apart := false, narrowed := true }
def RunesWholeUptoSaid : Prop := runesWholeUptoRow.holds Try.pinned (OpenSpec.upto runesWholeSpec)

/-- 'parquetrylaw01.RunesBack', WHERE WHAT IT READS IS OF BULK AT MOST 1048576: true; the input reads as it did. -/
def runesBackUptoRow : OpenClaim := { program := "ytlipcabfjikmkaa", sum := "9e19ba5ba95b90d54ee76e88c3b28d83f2440153294c43d4570c68fe7c9ac10f", func := "parquetry/parquetrylaw01.RunesBack", spec := "runesBack", apart := false, narrowed := true }
def RunesBackUptoSaid : Prop := runesBackUptoRow.holds Try.pinned (OpenSpec.upto runesBackSpec)

/-- 'parquetrylaw01.RunesCuts', WHERE WHAT IT READS IS OF BULK AT MOST 1048576: true; the input reads as it did. -/
def runesCutsUptoRow : OpenClaim := { program := "ytlipcabfjikmkaa", sum := "9e19ba5ba95b90d54ee76e88c3b28d83f2440153294c43d4570c68fe7c9ac10f", func := "parquetry/parquetrylaw01.RunesCuts", spec := "runesCuts", apart := false, narrowed := true }
def RunesCutsUptoSaid : Prop := runesCutsUptoRow.holds Try.pinned (OpenSpec.upto runesCutsSpec)

end Rows
end Go.Proofs.Ytlipcabfjikmkaa
