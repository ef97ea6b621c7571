/-
  No cell of these rows narrows 'for every input' (looked for: loops, veiled, ifaces, maps, wideKeys, modest, calm, conditions, laid).
  DERIVED. THE GIVEN ROWS OF THIS SEAT. 6 by the template 'for every input the law returns true; each argument reads behind the call as it read before'; 0 by the template 'total and deterministic' (their statements: YtifaimoaaiikpaaTotals.lean).
  GIVEN WITH THE SEED: the statements are not yours to turn. If you find one false, say at which input.
  Laid BY PROGRAM, IN A SANDBOX (cutbox-rows.mjs): the forced cells as the released guide's own fill.sh prints them over the translation 96a3bdf8cc77b559… (all of the seat's roots in one cut). By AI agents, Wed Nov 11 2026. No macro, syntax, notation, axiom, sorry.
-/
import Derived.Test.YtifaimoaaiikpaaChecked
import GoSem.Claim
import GoSem.ClaimJoined
import GoSem.ClaimMapViews
import Derived.JoinedTies
import Derived.KernelRfl
namespace Go.Proofs.Ytifaimoaaiikpaa
/- THE CELL 'sum', in the pinned program and in every row, IS THE sha256 OF THE DUMP (.gsa) THAT YtifaimoaaiikpaaProg.lean LOADS. Nothing in Lean hashes anything: it is a label: what it is worth is what the hold of that sum in a sandbox is worth. -/
noncomputable def Try.pinned : Pinned := { name := "ytifaimoaaiikpaa", sum := "96a3bdf8cc77b559b2659de72a08a64085303d64ecd1f3721371b86c9c111d2b", checked := Try.checked }
namespace Rows
def none {H : Type} : Left H := { results := [], args := [] }

/-- 'parquetrylaw10.BaseEnds': WHATEVER THE INPUT: true; the input reads as it did. -/
def baseEndsSpec : ChangeSpec := { name := "baseEnds", fn := fun _ => fun
  | [d] => { results := [.lit (.bool true)], args := [d] }
  | _ => none }
def baseEndsRow : OpenClaim := { program := "ytifaimoaaiikpaa", sum := "96a3bdf8cc77b559b2659de72a08a64085303d64ecd1f3721371b86c9c111d2b", func := "parquetry/parquetrylaw10.BaseEnds", spec := "baseEnds", unfollowed := true, recurses := true, apart := false }
def BaseEndsSaid : Prop := baseEndsRow.holds Try.pinned (OpenSpec.ofChange baseEndsSpec)

/-- ITS FALSE NEIGHBOUR: 'it returns false'. Refute it at one input. -/
def baseEndsWrong : ChangeSpec := { name := "baseEnds", fn := fun _ => fun
  | [d] => { results := [.lit (.bool false)], args := [d] }
  | _ => none }
def BaseEndsWrongFalsely : Prop := baseEndsRow.holds Try.pinned (OpenSpec.ofChange baseEndsWrong)

/-- 'parquetrylaw10.BaseMatches': WHATEVER THE INPUT: true; the input reads as it did. -/
def baseMatchesSpec : ChangeSpec := { name := "baseMatches", fn := fun _ => fun
  | [d] => { results := [.lit (.bool true)], args := [d] }
  | _ => none }
def baseMatchesRow : OpenClaim := { program := "ytifaimoaaiikpaa", sum := "96a3bdf8cc77b559b2659de72a08a64085303d64ecd1f3721371b86c9c111d2b", func := "parquetry/parquetrylaw10.BaseMatches", spec := "baseMatches", unfollowed := true, recurses := true, apart := false }
def BaseMatchesSaid : Prop := baseMatchesRow.holds Try.pinned (OpenSpec.ofChange baseMatchesSpec)

/-- ITS FALSE NEIGHBOUR: 'it returns false'. Refute it at one input. -/
def baseMatchesWrong : ChangeSpec := { name := "baseMatches", fn := fun _ => fun
  | [d] => { results := [.lit (.bool false)], args := [d] }
  | _ => none }
def BaseMatchesWrongFalsely : Prop := baseMatchesRow.holds Try.pinned (OpenSpec.ofChange baseMatchesWrong)

/-- 'parquetrylaw10.BaseLevels': WHATEVER THE INPUT: true; the input reads as it did. -/
def baseLevelsSpec : ChangeSpec := { name := "baseLevels", fn := fun _ => fun
  | [d] => { results := [.lit (.bool true)], args := [d] }
  | _ => none }
def baseLevelsRow : OpenClaim := { program := "ytifaimoaaiikpaa", sum := "96a3bdf8cc77b559b2659de72a08a64085303d64ecd1f3721371b86c9c111d2b", func := "parquetry/parquetrylaw10.BaseLevels", spec := "baseLevels", unfollowed := true, recurses := true, apart := false }
def BaseLevelsSaid : Prop := baseLevelsRow.holds Try.pinned (OpenSpec.ofChange baseLevelsSpec)

/-- ITS FALSE NEIGHBOUR: 'it returns false'. Refute it at one input. -/
def baseLevelsWrong : ChangeSpec := { name := "baseLevels", fn := fun _ => fun
  | [d] => { results := [.lit (.bool false)], args := [d] }
  | _ => none }
def BaseLevelsWrongFalsely : Prop := baseLevelsRow.holds Try.pinned (OpenSpec.ofChange baseLevelsWrong)

/-- 'parquetrylaw10.BaseNests': WHATEVER THE INPUT: true; the input reads as it did. -/
def baseNestsSpec : ChangeSpec := { name := "baseNests", fn := fun _ => fun
  | [d] => { results := [.lit (.bool true)], args := [d] }
  | _ => none }
def baseNestsRow : OpenClaim := { program := "ytifaimoaaiikpaa", sum := "96a3bdf8cc77b559b2659de72a08a64085303d64ecd1f3721371b86c9c111d2b", func := "parquetry/parquetrylaw10.BaseNests", spec := "baseNests", unfollowed := true, recurses := true, apart := false }
def BaseNestsSaid : Prop := baseNestsRow.holds Try.pinned (OpenSpec.ofChange baseNestsSpec)

/-- ITS FALSE NEIGHBOUR: 'it returns false'. Refute it at one input. -/
def baseNestsWrong : ChangeSpec := { name := "baseNests", fn := fun _ => fun
  | [d] => { results := [.lit (.bool false)], args := [d] }
  | _ => none }
def BaseNestsWrongFalsely : Prop := baseNestsRow.holds Try.pinned (OpenSpec.ofChange baseNestsWrong)

/-- 'parquetrylaw10.BaseSkips': WHATEVER THE INPUT: true; the input reads as it did. -/
def baseSkipsSpec : ChangeSpec := { name := "baseSkips", fn := fun _ => fun
  | [d1, d2, d3, d4] => { results := [.lit (.bool true)], args := [d1, d2, d3, d4] }
  | _ => none }
def baseSkipsRow : OpenClaim := { program := "ytifaimoaaiikpaa", sum := "96a3bdf8cc77b559b2659de72a08a64085303d64ecd1f3721371b86c9c111d2b", func := "parquetry/parquetrylaw10.BaseSkips", spec := "baseSkips", unfollowed := true, recurses := true, apart := false }
def BaseSkipsSaid : Prop := baseSkipsRow.holds Try.pinned (OpenSpec.ofChange baseSkipsSpec)

/-- ITS FALSE NEIGHBOUR: 'it returns false'. Refute it at one input. -/
def baseSkipsWrong : ChangeSpec := { name := "baseSkips", fn := fun _ => fun
  | [d1, d2, d3, d4] => { results := [.lit (.bool false)], args := [d1, d2, d3, d4] }
  | _ => none }
def BaseSkipsWrongFalsely : Prop := baseSkipsRow.holds Try.pinned (OpenSpec.ofChange baseSkipsWrong)

/-- 'parquetrylaw10.BaseCovers': WHATEVER THE INPUT: true; the input reads as it did. -/
def baseCoversSpec : ChangeSpec := { name := "baseCovers", fn := fun _ => fun
  | [d] => { results := [.lit (.bool true)], args := [d] }
  | _ => none }
def baseCoversRow : OpenClaim := { program := "ytifaimoaaiikpaa", sum := "96a3bdf8cc77b559b2659de72a08a64085303d64ecd1f3721371b86c9c111d2b", func := "parquetry/parquetrylaw10.BaseCovers", spec := "baseCovers", unfollowed := true, recurses := true, apart := false }
def BaseCoversSaid : Prop := baseCoversRow.holds Try.pinned (OpenSpec.ofChange baseCoversSpec)

/-- ITS FALSE NEIGHBOUR: 'it returns false'. Refute it at one input. -/
def baseCoversWrong : ChangeSpec := { name := "baseCovers", fn := fun _ => fun
  | [d] => { results := [.lit (.bool false)], args := [d] }
  | _ => none }
def BaseCoversWrongFalsely : Prop := baseCoversRow.holds Try.pinned (OpenSpec.ofChange baseCoversWrong)

/- THE SECOND FORM. 'bulk': how many values and letters a reading holds, each counted each time it is reached (what is shared counts as often as it is met; a slice's spare places count too). A statement '..UptoSaid' is the law's where the arguments, and the package variables that the reading takes, are together of bulk at most 1048576: NARROWER than '..Said'. Prove '..Said' where nothing that the law and all that it calls make is longer than what came in: it says more and counts as full. Else prove '..UptoSaid'. A law counts once. -/
mutual
def uptoBulk {H : Type} : DataW H → Nat
  | .lit (.string bytes) => bytes.length + 1
  | .lit _ => 1
  | .nil => 1
  | .ptr d => uptoBulk d + 1
  | .slice elems spare => uptoBulkAll elems + uptoBulkAll spare + 1
  | .agg parts => uptoBulkAll parts + 1
  | .iface _ d => uptoBulk d + 1
  | .map entries => uptoBulkEntries entries + 1
  | .held _ => 1
def uptoBulkAll {H : Type} : List (DataW H) → Nat
  | [] => 0
  | d :: r => uptoBulk d + uptoBulkAll r
def uptoBulkEntries {H : Type} : List (Lit × DataW H) → Nat
  | [] => 0
  | x :: r => uptoBulkEntry x + uptoBulkEntries r
def uptoBulkEntry {H : Type} : Lit × DataW H → Nat
  | (.string bytes, d) => bytes.length + uptoBulk d + 1
  | (_, d) => uptoBulk d + 1
 end
def uptoSmall : (H : Type) → List (DataW H) → Bool := fun _ ds => decide (uptoBulkAll ds ≤ 1048576)
def OpenSpec.upto (s : _root_.Go.ChangeSpec) : _root_.Go.OpenSpec := { _root_.Go.OpenSpec.ofChange s with cond := some uptoSmall }

/-- 'parquetrylaw10.BaseEnds', WHERE WHAT IT READS IS OF BULK AT MOST 1048576: true; the input reads as it did. -/
def baseEndsUptoRow : OpenClaim := { program := "ytifaimoaaiikpaa", sum := "96a3bdf8cc77b559b2659de72a08a64085303d64ecd1f3721371b86c9c111d2b", func := "parquetry/parquetrylaw10.BaseEnds", spec := "baseEnds", unfollowed := true, recurses := true, apart := false, narrowed := true }
def BaseEndsUptoSaid : Prop := baseEndsUptoRow.holds Try.pinned (OpenSpec.upto baseEndsSpec)

/-- 'parquetrylaw10.BaseMatches', WHERE WHAT IT READS IS OF BULK AT MOST 1048576: true; the input reads as it did. -/
def baseMatchesUptoRow : OpenClaim := { program := "ytifaimoaaiikpaa", sum := "96a3bdf8cc77b559b2659de72a08a64085303d64ecd1f3721371b86c9c111d2b", func := "parquetry/parquetrylaw10.BaseMatches", spec := "baseMatches", unfollowed := true, recurses := true, apart := false, narrowed := true }
def BaseMatchesUptoSaid : Prop := baseMatchesUptoRow.holds Try.pinned (OpenSpec.upto baseMatchesSpec)

/-- 'parquetrylaw10.BaseLevels', WHERE WHAT IT READS IS OF BULK AT MOST 1048576: true; the input reads as it did. -/
def baseLevelsUptoRow : OpenClaim := { program := "ytifaimoaaiikpaa", sum := "96a3bdf8cc77b559b2659de72a08a64085303d64ecd1f3721371b86c9c111d2b", func := "parquetry/parquetrylaw10.BaseLevels", spec := "baseLevels", unfollowed := true, recurses := true, apart := false, narrowed := true }
def BaseLevelsUptoSaid : Prop := baseLevelsUptoRow.holds Try.pinned (OpenSpec.upto baseLevelsSpec)

/-- 'parquetrylaw10.BaseNests', WHERE WHAT IT READS IS OF BULK AT MOST 1048576: true; the input reads as it did. -/
def baseNestsUptoRow : OpenClaim := { program := "ytifaimoaaiikpaa", sum := "96a3bdf8cc77b559b2659de72a08a64085303d64ecd1f3721371b86c9c111d2b", func := "parquetry/parquetrylaw10.BaseNests", spec := "baseNests", unfollowed := true, recurses := true, apart := false, narrowed := true }
def BaseNestsUptoSaid : Prop := baseNestsUptoRow.holds Try.pinned (OpenSpec.upto baseNestsSpec)

/-- 'parquetrylaw10.BaseSkips', WHERE WHAT IT READS IS OF BULK AT MOST 1048576: true; the input reads as it did. -/
def baseSkipsUptoRow : OpenClaim := { program := "ytifaimoaaiikpaa", sum := "96a3bdf8cc77b559b2659de72a08a64085303d64ecd1f3721371b86c9c111d2b", func := "parquetry/parquetrylaw10.BaseSkips", spec := "baseSkips", unfollowed := true, recurses := true, apart := false, narrowed := true }
def BaseSkipsUptoSaid : Prop := baseSkipsUptoRow.holds Try.pinned (OpenSpec.upto baseSkipsSpec)

/-- 'parquetrylaw10.BaseCovers', WHERE WHAT IT READS IS OF BULK AT MOST 1048576: true; the input reads as it did. -/
def baseCoversUptoRow : OpenClaim := { program := "ytifaimoaaiikpaa", sum := "96a3bdf8cc77b559b2659de72a08a64085303d64ecd1f3721371b86c9c111d2b", func := "parquetry/parquetrylaw10.BaseCovers", spec := "baseCovers", unfollowed := true, recurses := true, apart := false, narrowed := true }
def BaseCoversUptoSaid : Prop := baseCoversUptoRow.holds Try.pinned (OpenSpec.upto baseCoversSpec)

end Rows
end Go.Proofs.Ytifaimoaaiikpaa
