/-
  No cell of these rows narrows 'for every input' (looked for: loops, veiled, ifaces, maps, wideKeys, modest, calm, conditions, laid).
  DERIVED. THE GIVEN ROWS OF THIS SEAT. 12 by the template 'for every input the law returns true; each argument reads behind the call as it read before'; 0 by the template 'total and deterministic' (their statements: YtglehjcohdjhoaaTotals.lean).
  GIVEN WITH THE SEED: the statements are not yours to turn. If you find one false, say at which input.
  Laid BY PROGRAM, IN A SANDBOX (cutbox-rows.mjs): the forced cells as the released guide's own fill.sh prints them over the translation bcb2e42fc2a628c6… (all of the seat's roots in one cut). By AI agents, Wed Nov 11 2026. No macro, syntax, notation, axiom, sorry.
-/
import Derived.Test.YtglehjcohdjhoaaChecked
import GoSem.Claim
import GoSem.ClaimJoined
import GoSem.ClaimMapViews
import Derived.JoinedTies
import Derived.KernelRfl
namespace Go.Proofs.Ytglehjcohdjhoaa
/- THE CELL 'sum', in the pinned program and in every row, IS THE sha256 OF THE DUMP (.gsa) THAT YtglehjcohdjhoaaProg.lean LOADS. Nothing in Lean hashes anything: it is a label: what it is worth is what the hold of that sum in a sandbox is worth. -/
noncomputable def Try.pinned : Pinned := { name := "ytglehjcohdjhoaa", sum := "bcb2e42fc2a628c6e7e09ead7583baa360875e68e1c1a719246335ffa3f6dd9c", checked := Try.checked }
namespace Rows
def none {H : Type} : Left H := { results := [], args := [] }

/-- 'juntolaw06.PairChecks': WHATEVER THE INPUT: true; the input reads as it did. -/
def pairChecksSpec : ChangeSpec := { name := "pairChecks", fn := fun _ => fun
  | [d1, d2, d3] => { results := [.lit (.bool true)], args := [d1, d2, d3] }
  | _ => none }
def pairChecksRow : OpenClaim := { program := "ytglehjcohdjhoaa", sum := "bcb2e42fc2a628c6e7e09ead7583baa360875e68e1c1a719246335ffa3f6dd9c", func := "junto/juntolaw06.PairChecks", spec := "pairChecks", unfollowed := true, recurses := true, apart := false }
def PairChecksSaid : Prop := pairChecksRow.holds Try.pinned (OpenSpec.ofChange pairChecksSpec)

/-- ITS FALSE NEIGHBOUR: 'it returns false'. Refute it at one input. -/
def pairChecksWrong : ChangeSpec := { name := "pairChecks", fn := fun _ => fun
  | [d1, d2, d3] => { results := [.lit (.bool false)], args := [d1, d2, d3] }
  | _ => none }
def PairChecksWrongFalsely : Prop := pairChecksRow.holds Try.pinned (OpenSpec.ofChange pairChecksWrong)

/-- 'juntolaw06.PairMakes': WHATEVER THE INPUT: true; the input reads as it did. -/
def pairMakesSpec : ChangeSpec := { name := "pairMakes", fn := fun _ => fun
  | [d1, d2] => { results := [.lit (.bool true)], args := [d1, d2] }
  | _ => none }
def pairMakesRow : OpenClaim := { program := "ytglehjcohdjhoaa", sum := "bcb2e42fc2a628c6e7e09ead7583baa360875e68e1c1a719246335ffa3f6dd9c", func := "junto/juntolaw06.PairMakes", spec := "pairMakes", unfollowed := true, recurses := true, apart := false }
def PairMakesSaid : Prop := pairMakesRow.holds Try.pinned (OpenSpec.ofChange pairMakesSpec)

/-- ITS FALSE NEIGHBOUR: 'it returns false'. Refute it at one input. -/
def pairMakesWrong : ChangeSpec := { name := "pairMakes", fn := fun _ => fun
  | [d1, d2] => { results := [.lit (.bool false)], args := [d1, d2] }
  | _ => none }
def PairMakesWrongFalsely : Prop := pairMakesRow.holds Try.pinned (OpenSpec.ofChange pairMakesWrong)

/-- 'juntolaw06.PairTapes': WHATEVER THE INPUT: true; the input reads as it did. -/
def pairTapesSpec : ChangeSpec := { name := "pairTapes", fn := fun _ => fun
  | [d1, d2, d3] => { results := [.lit (.bool true)], args := [d1, d2, d3] }
  | _ => none }
def pairTapesRow : OpenClaim := { program := "ytglehjcohdjhoaa", sum := "bcb2e42fc2a628c6e7e09ead7583baa360875e68e1c1a719246335ffa3f6dd9c", func := "junto/juntolaw06.PairTapes", spec := "pairTapes", unfollowed := true, recurses := true, apart := false }
def PairTapesSaid : Prop := pairTapesRow.holds Try.pinned (OpenSpec.ofChange pairTapesSpec)

/-- ITS FALSE NEIGHBOUR: 'it returns false'. Refute it at one input. -/
def pairTapesWrong : ChangeSpec := { name := "pairTapes", fn := fun _ => fun
  | [d1, d2, d3] => { results := [.lit (.bool false)], args := [d1, d2, d3] }
  | _ => none }
def PairTapesWrongFalsely : Prop := pairTapesRow.holds Try.pinned (OpenSpec.ofChange pairTapesWrong)

/-- 'juntolaw06.PairValues': WHATEVER THE INPUT: true; the input reads as it did. -/
def pairValuesSpec : ChangeSpec := { name := "pairValues", fn := fun _ => fun
  | [d1, d2, d3] => { results := [.lit (.bool true)], args := [d1, d2, d3] }
  | _ => none }
def pairValuesRow : OpenClaim := { program := "ytglehjcohdjhoaa", sum := "bcb2e42fc2a628c6e7e09ead7583baa360875e68e1c1a719246335ffa3f6dd9c", func := "junto/juntolaw06.PairValues", spec := "pairValues", unfollowed := true, recurses := true, apart := false }
def PairValuesSaid : Prop := pairValuesRow.holds Try.pinned (OpenSpec.ofChange pairValuesSpec)

/-- ITS FALSE NEIGHBOUR: 'it returns false'. Refute it at one input. -/
def pairValuesWrong : ChangeSpec := { name := "pairValues", fn := fun _ => fun
  | [d1, d2, d3] => { results := [.lit (.bool false)], args := [d1, d2, d3] }
  | _ => none }
def PairValuesWrongFalsely : Prop := pairValuesRow.holds Try.pinned (OpenSpec.ofChange pairValuesWrong)

/-- 'juntolaw06.PairSums': WHATEVER THE INPUT: true; the input reads as it did. -/
def pairSumsSpec : ChangeSpec := { name := "pairSums", fn := fun _ => fun
  | [d1, d2, d3] => { results := [.lit (.bool true)], args := [d1, d2, d3] }
  | _ => none }
def pairSumsRow : OpenClaim := { program := "ytglehjcohdjhoaa", sum := "bcb2e42fc2a628c6e7e09ead7583baa360875e68e1c1a719246335ffa3f6dd9c", func := "junto/juntolaw06.PairSums", spec := "pairSums", unfollowed := true, recurses := true, apart := false }
def PairSumsSaid : Prop := pairSumsRow.holds Try.pinned (OpenSpec.ofChange pairSumsSpec)

/-- ITS FALSE NEIGHBOUR: 'it returns false'. Refute it at one input. -/
def pairSumsWrong : ChangeSpec := { name := "pairSums", fn := fun _ => fun
  | [d1, d2, d3] => { results := [.lit (.bool false)], args := [d1, d2, d3] }
  | _ => none }
def PairSumsWrongFalsely : Prop := pairSumsRow.holds Try.pinned (OpenSpec.ofChange pairSumsWrong)

/-- 'juntolaw06.PairLifts': WHATEVER THE INPUT: true; the input reads as it did. -/
def pairLiftsSpec : ChangeSpec := { name := "pairLifts", fn := fun _ => fun
  | [d1, d2, d3] => { results := [.lit (.bool true)], args := [d1, d2, d3] }
  | _ => none }
def pairLiftsRow : OpenClaim := { program := "ytglehjcohdjhoaa", sum := "bcb2e42fc2a628c6e7e09ead7583baa360875e68e1c1a719246335ffa3f6dd9c", func := "junto/juntolaw06.PairLifts", spec := "pairLifts", unfollowed := true, recurses := true, apart := false }
def PairLiftsSaid : Prop := pairLiftsRow.holds Try.pinned (OpenSpec.ofChange pairLiftsSpec)

/-- ITS FALSE NEIGHBOUR: 'it returns false'. Refute it at one input. -/
def pairLiftsWrong : ChangeSpec := { name := "pairLifts", fn := fun _ => fun
  | [d1, d2, d3] => { results := [.lit (.bool false)], args := [d1, d2, d3] }
  | _ => none }
def PairLiftsWrongFalsely : Prop := pairLiftsRow.holds Try.pinned (OpenSpec.ofChange pairLiftsWrong)

/-- 'juntolaw06.PairQuarrels': WHATEVER THE INPUT: true; the input reads as it did. -/
def pairQuarrelsSpec : ChangeSpec := { name := "pairQuarrels", fn := fun _ => fun
  | [d1, d2, d3] => { results := [.lit (.bool true)], args := [d1, d2, d3] }
  | _ => none }
def pairQuarrelsRow : OpenClaim := { program := "ytglehjcohdjhoaa", sum := "bcb2e42fc2a628c6e7e09ead7583baa360875e68e1c1a719246335ffa3f6dd9c", func := "junto/juntolaw06.PairQuarrels", spec := "pairQuarrels", unfollowed := true, recurses := true, apart := false }
def PairQuarrelsSaid : Prop := pairQuarrelsRow.holds Try.pinned (OpenSpec.ofChange pairQuarrelsSpec)

/-- ITS FALSE NEIGHBOUR: 'it returns false'. Refute it at one input. -/
def pairQuarrelsWrong : ChangeSpec := { name := "pairQuarrels", fn := fun _ => fun
  | [d1, d2, d3] => { results := [.lit (.bool false)], args := [d1, d2, d3] }
  | _ => none }
def PairQuarrelsWrongFalsely : Prop := pairQuarrelsRow.holds Try.pinned (OpenSpec.ofChange pairQuarrelsWrong)

/-- 'juntolaw06.PairJoins': WHATEVER THE INPUT: true; the input reads as it did. -/
def pairJoinsSpec : ChangeSpec := { name := "pairJoins", fn := fun _ => fun
  | [d1, d2] => { results := [.lit (.bool true)], args := [d1, d2] }
  | _ => none }
def pairJoinsRow : OpenClaim := { program := "ytglehjcohdjhoaa", sum := "bcb2e42fc2a628c6e7e09ead7583baa360875e68e1c1a719246335ffa3f6dd9c", func := "junto/juntolaw06.PairJoins", spec := "pairJoins", unfollowed := true, recurses := true, apart := false }
def PairJoinsSaid : Prop := pairJoinsRow.holds Try.pinned (OpenSpec.ofChange pairJoinsSpec)

/-- ITS FALSE NEIGHBOUR: 'it returns false'. Refute it at one input. -/
def pairJoinsWrong : ChangeSpec := { name := "pairJoins", fn := fun _ => fun
  | [d1, d2] => { results := [.lit (.bool false)], args := [d1, d2] }
  | _ => none }
def PairJoinsWrongFalsely : Prop := pairJoinsRow.holds Try.pinned (OpenSpec.ofChange pairJoinsWrong)

/-- 'juntolaw06.PairBothWays': WHATEVER THE INPUT: true; the input reads as it did. -/
def pairBothWaysSpec : ChangeSpec := { name := "pairBothWays", fn := fun _ => fun
  | [d1, d2, d3] => { results := [.lit (.bool true)], args := [d1, d2, d3] }
  | _ => none }
def pairBothWaysRow : OpenClaim := { program := "ytglehjcohdjhoaa", sum := "bcb2e42fc2a628c6e7e09ead7583baa360875e68e1c1a719246335ffa3f6dd9c", func := "junto/juntolaw06.PairBothWays", spec := "pairBothWays", unfollowed := true, recurses := true, apart := false }
def PairBothWaysSaid : Prop := pairBothWaysRow.holds Try.pinned (OpenSpec.ofChange pairBothWaysSpec)

/-- ITS FALSE NEIGHBOUR: 'it returns false'. Refute it at one input. -/
def pairBothWaysWrong : ChangeSpec := { name := "pairBothWays", fn := fun _ => fun
  | [d1, d2, d3] => { results := [.lit (.bool false)], args := [d1, d2, d3] }
  | _ => none }
def PairBothWaysWrongFalsely : Prop := pairBothWaysRow.holds Try.pinned (OpenSpec.ofChange pairBothWaysWrong)

/-- 'juntolaw06.PairHeld': WHATEVER THE INPUT: true; the input reads as it did. -/
def pairHeldSpec : ChangeSpec := { name := "pairHeld", fn := fun _ => fun
  | [d1, d2] => { results := [.lit (.bool true)], args := [d1, d2] }
  | _ => none }
def pairHeldRow : OpenClaim := { program := "ytglehjcohdjhoaa", sum := "bcb2e42fc2a628c6e7e09ead7583baa360875e68e1c1a719246335ffa3f6dd9c", func := "junto/juntolaw06.PairHeld", spec := "pairHeld", unfollowed := true, recurses := true, apart := false }
def PairHeldSaid : Prop := pairHeldRow.holds Try.pinned (OpenSpec.ofChange pairHeldSpec)

/-- ITS FALSE NEIGHBOUR: 'it returns false'. Refute it at one input. -/
def pairHeldWrong : ChangeSpec := { name := "pairHeld", fn := fun _ => fun
  | [d1, d2] => { results := [.lit (.bool false)], args := [d1, d2] }
  | _ => none }
def PairHeldWrongFalsely : Prop := pairHeldRow.holds Try.pinned (OpenSpec.ofChange pairHeldWrong)

/-- 'juntolaw06.PairNothing': WHATEVER THE INPUT: true; the input reads as it did. -/
def pairNothingSpec : ChangeSpec := { name := "pairNothing", fn := fun _ => fun
  | [d1, d2, d3] => { results := [.lit (.bool true)], args := [d1, d2, d3] }
  | _ => none }
def pairNothingRow : OpenClaim := { program := "ytglehjcohdjhoaa", sum := "bcb2e42fc2a628c6e7e09ead7583baa360875e68e1c1a719246335ffa3f6dd9c", func := "junto/juntolaw06.PairNothing", spec := "pairNothing", unfollowed := true, recurses := true, apart := false }
def PairNothingSaid : Prop := pairNothingRow.holds Try.pinned (OpenSpec.ofChange pairNothingSpec)

/-- ITS FALSE NEIGHBOUR: 'it returns false'. Refute it at one input. -/
def pairNothingWrong : ChangeSpec := { name := "pairNothing", fn := fun _ => fun
  | [d1, d2, d3] => { results := [.lit (.bool false)], args := [d1, d2, d3] }
  | _ => none }
def PairNothingWrongFalsely : Prop := pairNothingRow.holds Try.pinned (OpenSpec.ofChange pairNothingWrong)

/-- 'juntolaw06.PairOnly': WHATEVER THE INPUT: true; the input reads as it did. -/
def pairOnlySpec : ChangeSpec := { name := "pairOnly", fn := fun _ => fun
  | [d1, d2, d3] => { results := [.lit (.bool true)], args := [d1, d2, d3] }
  | _ => none }
def pairOnlyRow : OpenClaim := { program := "ytglehjcohdjhoaa", sum := "bcb2e42fc2a628c6e7e09ead7583baa360875e68e1c1a719246335ffa3f6dd9c", func := "junto/juntolaw06.PairOnly", spec := "pairOnly", unfollowed := true, recurses := true, apart := false }
def PairOnlySaid : Prop := pairOnlyRow.holds Try.pinned (OpenSpec.ofChange pairOnlySpec)

/-- ITS FALSE NEIGHBOUR: 'it returns false'. Refute it at one input. -/
def pairOnlyWrong : ChangeSpec := { name := "pairOnly", fn := fun _ => fun
  | [d1, d2, d3] => { results := [.lit (.bool false)], args := [d1, d2, d3] }
  | _ => none }
def PairOnlyWrongFalsely : Prop := pairOnlyRow.holds Try.pinned (OpenSpec.ofChange pairOnlyWrong)

/- THE SECOND FORM. 'bulk': how many values and letters a reading holds, each counted each time it is reached (what is shared counts as often as it is met; a slice's spare places count too). A statement '..UptoSaid' is the law's where the arguments, and the package variables that the reading takes, are together of bulk at most 1048576: NARROWER than '..Said'. Prove '..Said' where nothing that the law and all that it calls make is longer than what came in: it says more and counts as full. Else prove '..UptoSaid'. A law counts once. -/
mutual
def uptoBulk {H : Type} : DataW H → Nat
  | .lit (.string bytes) => bytes.length + 1
  | .lit _ => 1
  | .nil => 1
  | .ptr d => uptoBulk d + 1
  | .slice elems spare => uptoBulkAll elems + uptoBulkAll spare + 1
  | .agg parts => uptoBulkAll parts + 1
  | .iface _ d => uptoBulk d + 1
  | .map entries => uptoBulkEntries entries + 1
  | .held _ => 1
def uptoBulkAll {H : Type} : List (DataW H) → Nat
  | [] => 0
  | d :: r => uptoBulk d + uptoBulkAll r
def uptoBulkEntries {H : Type} : List (Lit × DataW H) → Nat
  | [] => 0
  | x :: r => uptoBulkEntry x + uptoBulkEntries r
def uptoBulkEntry {H : Type} : Lit × DataW H → Nat
  | (.string bytes, d) => bytes.length + uptoBulk d + 1
  | (_, d) => uptoBulk d + 1
 end
def uptoSmall : (H : Type) → List (DataW H) → Bool := fun _ ds => decide (uptoBulkAll ds ≤ 1048576)
def OpenSpec.upto (s : _root_.Go.ChangeSpec) : _root_.Go.OpenSpec := { _root_.Go.OpenSpec.ofChange s with cond := some uptoSmall }

/-- 'juntolaw06.PairChecks', WHERE WHAT IT READS IS OF BULK AT MOST 1048576: true; the input reads as it did. -/
def pairChecksUptoRow : OpenClaim := { program := "ytglehjcohdjhoaa", sum := "bcb2e42fc2a628c6e7e09ead7583baa360875e68e1c1a719246335ffa3f6dd9c", func := "junto/juntolaw06.PairChecks", spec := "pairChecks", unfollowed := true, recurses := true, apart := false, narrowed := true }
def PairChecksUptoSaid : Prop := pairChecksUptoRow.holds Try.pinned (OpenSpec.upto pairChecksSpec)

/-- 'juntolaw06.PairMakes', WHERE WHAT IT READS IS OF BULK AT MOST 1048576: true; the input reads as it did. -/
def pairMakesUptoRow : OpenClaim := { program := "ytglehjcohdjhoaa", sum := "bcb2e42fc2a628c6e7e09ead7583baa360875e68e1c1a719246335ffa3f6dd9c", func := "junto/juntolaw06.PairMakes", spec := "pairMakes", unfollowed := true, recurses := true, apart := false, narrowed := true }
def PairMakesUptoSaid : Prop := pairMakesUptoRow.holds Try.pinned (OpenSpec.upto pairMakesSpec)

/-- 'juntolaw06.PairTapes', WHERE WHAT IT READS IS OF BULK AT MOST 1048576: true; the input reads as it did. -/
def pairTapesUptoRow : OpenClaim := { program := "ytglehjcohdjhoaa", sum := "bcb2e42fc2a628c6e7e09ead7583baa360875e68e1c1a719246335ffa3f6dd9c", func := "junto/juntolaw06.PairTapes", spec := "pairTapes", unfollowed := true, recurses := true, apart := false, narrowed := true }
def PairTapesUptoSaid : Prop := pairTapesUptoRow.holds Try.pinned (OpenSpec.upto pairTapesSpec)

/-- 'juntolaw06.PairValues', WHERE WHAT IT READS IS OF BULK AT MOST 1048576: true; the input reads as it did. -/
def pairValuesUptoRow : OpenClaim := { program := "ytglehjcohdjhoaa", sum := "bcb2e42fc2a628c6e7e09ead7583baa360875e68e1c1a719246335ffa3f6dd9c", func := "junto/juntolaw06.PairValues", spec := "pairValues", unfollowed := true, recurses := true, apart := false, narrowed := true }
def PairValuesUptoSaid : Prop := pairValuesUptoRow.holds Try.pinned (OpenSpec.upto pairValuesSpec)

/-- 'juntolaw06.PairSums', WHERE WHAT IT READS IS OF BULK AT MOST 1048576: true; the input reads as it did. -/
def pairSumsUptoRow : OpenClaim := { program := "ytglehjcohdjhoaa", sum := "bcb2e42fc2a628c6e7e09ead7583baa360875e68e1c1a719246335ffa3f6dd9c", func := "junto/juntolaw06.PairSums", spec := "pairSums", unfollowed := true, recurses := true, apart := false, narrowed := true }
def PairSumsUptoSaid : Prop := pairSumsUptoRow.holds Try.pinned (OpenSpec.upto pairSumsSpec)

/-- 'juntolaw06.PairLifts', WHERE WHAT IT READS IS OF BULK AT MOST 1048576: true; the input reads as it did. -/
def pairLiftsUptoRow : OpenClaim := { program := "ytglehjcohdjhoaa", sum := "bcb2e42fc2a628c6e7e09ead7583baa360875e68e1c1a719246335ffa3f6dd9c", func := "junto/juntolaw06.PairLifts", spec := "pairLifts", unfollowed := true, recurses := true, apart := false, narrowed := true }
def PairLiftsUptoSaid : Prop := pairLiftsUptoRow.holds Try.pinned (OpenSpec.upto pairLiftsSpec)

/-- 'juntolaw06.PairQuarrels', WHERE WHAT IT READS IS OF BULK AT MOST 1048576: true; the input reads as it did. -/
def pairQuarrelsUptoRow : OpenClaim := { program := "ytglehjcohdjhoaa", sum := "bcb2e42fc2a628c6e7e09ead7583baa360875e68e1c1a719246335ffa3f6dd9c", func := "junto/juntolaw06.PairQuarrels", spec := "pairQuarrels", unfollowed := true, recurses := true, apart := false, narrowed := true }
def PairQuarrelsUptoSaid : Prop := pairQuarrelsUptoRow.holds Try.pinned (OpenSpec.upto pairQuarrelsSpec)

/-- 'juntolaw06.PairJoins', WHERE WHAT IT READS IS OF BULK AT MOST 1048576: true; the input reads as it did. -/
def pairJoinsUptoRow : OpenClaim := { program := "ytglehjcohdjhoaa", sum := "bcb2e42fc2a628c6e7e09ead7583baa360875e68e1c1a719246335ffa3f6dd9c", func := "junto/juntolaw06.PairJoins", spec := "pairJoins", unfollowed := true, recurses := true, apart := false, narrowed := true }
def PairJoinsUptoSaid : Prop := pairJoinsUptoRow.holds Try.pinned (OpenSpec.upto pairJoinsSpec)

/-- 'juntolaw06.PairBothWays', WHERE WHAT IT READS IS OF BULK AT MOST 1048576: true; the input reads as it did. -/
def pairBothWaysUptoRow : OpenClaim := { program := "ytglehjcohdjhoaa", sum := "bcb2e42fc2a628c6e7e09ead7583baa360875e68e1c1a719246335ffa3f6dd9c", func := "junto/juntolaw06.PairBothWays", spec := "pairBothWays", unfollowed := true, recurses := true, apart := false, narrowed := true }
def PairBothWaysUptoSaid : Prop := pairBothWaysUptoRow.holds Try.pinned (OpenSpec.upto pairBothWaysSpec)

/-- 'juntolaw06.PairHeld', WHERE WHAT IT READS IS OF BULK AT MOST 1048576: true; the input reads as it did. -/
def pairHeldUptoRow : OpenClaim := { program := "ytglehjcohdjhoaa", sum := "bcb2e42fc2a628c6e7e09ead7583baa360875e68e1c1a719246335ffa3f6dd9c", func := "junto/juntolaw06.PairHeld", spec := "pairHeld", unfollowed := true, recurses := true, apart := false, narrowed := true }
def PairHeldUptoSaid : Prop := pairHeldUptoRow.holds Try.pinned (OpenSpec.upto pairHeldSpec)

/-- 'juntolaw06.PairNothing', WHERE WHAT IT READS IS OF BULK AT MOST 1048576: true; the input reads as it did. -/
def pairNothingUptoRow : OpenClaim := { program := "ytglehjcohdjhoaa", sum := "bcb2e42fc2a628c6e7e09ead7583baa360875e68e1c1a719246335ffa3f6dd9c", func := "junto/juntolaw06.PairNothing", spec := "pairNothing", unfollowed := true, recurses := true, apart := false, narrowed := true }
def PairNothingUptoSaid : Prop := pairNothingUptoRow.holds Try.pinned (OpenSpec.upto pairNothingSpec)

/-- 'juntolaw06.PairOnly', WHERE WHAT IT READS IS OF BULK AT MOST 1048576: true; the input reads as it did. -/
def pairOnlyUptoRow : OpenClaim := { program := "ytglehjcohdjhoaa", sum := "bcb2e42fc2a628c6e7e09ead7583baa360875e68e1c1a719246335ffa3f6dd9c", func := "junto/juntolaw06.PairOnly", spec := "pairOnly", unfollowed := true, recurses := true, apart := false, narrowed := true }
def PairOnlyUptoSaid : Prop := pairOnlyUptoRow.holds Try.pinned (OpenSpec.upto pairOnlySpec)

end Rows
end Go.Proofs.Ytglehjcohdjhoaa
