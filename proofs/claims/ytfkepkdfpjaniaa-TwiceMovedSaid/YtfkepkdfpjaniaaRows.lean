/-
  No cell of these rows narrows 'for every input' (looked for: loops, veiled, ifaces, maps, wideKeys, modest, calm, conditions, laid).
  DERIVED. THE GIVEN ROWS OF THIS SEAT. 9 by the template 'for every input the law returns true; each argument reads behind the call as it read before'; 0 by the template 'total and deterministic' (their statements: YtfkepkdfpjaniaaTotals.lean).
  GIVEN WITH THE SEED: the statements are not yours to turn. If you find one false, say at which input.
  Laid BY PROGRAM, IN A SANDBOX (cutbox-rows.mjs): the forced cells as the released guide's own fill.sh prints them over the translation 09ca2df82b745aaa… (all of the seat's roots in one cut). By AI agents, Wed Nov 11 2026. No macro, syntax, notation, axiom, sorry.
-/
import Derived.Test.YtfkepkdfpjaniaaChecked
import GoSem.Claim
import GoSem.ClaimJoined
import GoSem.ClaimMapViews
import Derived.JoinedTies
import Derived.KernelRfl
namespace Go.Proofs.Ytfkepkdfpjaniaa
/- THE CELL 'sum', in the pinned program and in every row, IS THE sha256 OF THE DUMP (.gsa) THAT YtfkepkdfpjaniaaProg.lean LOADS. Nothing in Lean hashes anything: it is a label: what it is worth is what the hold of that sum in a sandbox is worth. -/
noncomputable def Try.pinned : Pinned := { name := "ytfkepkdfpjaniaa", sum := "09ca2df82b745aaacf8b6b2b03d51d84d57e29569de2f655f530ec2b2b8d7a98", checked := Try.checked }
namespace Rows
def none {H : Type} : Left H := { results := [], args := [] }

/-- 'juntolaw07.TwiceChecks': WHATEVER THE INPUT: true; the input reads as it did. -/
def twiceChecksSpec : ChangeSpec := { name := "twiceChecks", fn := fun _ => fun
  | [d1, d2] => { results := [.lit (.bool true)], args := [d1, d2] }
  | _ => none }
def twiceChecksRow : OpenClaim := { program := "ytfkepkdfpjaniaa", sum := "09ca2df82b745aaacf8b6b2b03d51d84d57e29569de2f655f530ec2b2b8d7a98", func := "junto/juntolaw07.TwiceChecks", spec := "twiceChecks", unfollowed := true, recurses := true, apart := false }
def TwiceChecksSaid : Prop := twiceChecksRow.holds Try.pinned (OpenSpec.ofChange twiceChecksSpec)

/-- ITS FALSE NEIGHBOUR: 'it returns false'. Refute it at one input. -/
def twiceChecksWrong : ChangeSpec := { name := "twiceChecks", fn := fun _ => fun
  | [d1, d2] => { results := [.lit (.bool false)], args := [d1, d2] }
  | _ => none }
def TwiceChecksWrongFalsely : Prop := twiceChecksRow.holds Try.pinned (OpenSpec.ofChange twiceChecksWrong)

/-- 'juntolaw07.TwiceMakes': WHATEVER THE INPUT: true; the input reads as it did. -/
def twiceMakesSpec : ChangeSpec := { name := "twiceMakes", fn := fun _ => fun
  | [d1, d2, d3] => { results := [.lit (.bool true)], args := [d1, d2, d3] }
  | _ => none }
def twiceMakesRow : OpenClaim := { program := "ytfkepkdfpjaniaa", sum := "09ca2df82b745aaacf8b6b2b03d51d84d57e29569de2f655f530ec2b2b8d7a98", func := "junto/juntolaw07.TwiceMakes", spec := "twiceMakes", unfollowed := true, recurses := true, apart := false }
def TwiceMakesSaid : Prop := twiceMakesRow.holds Try.pinned (OpenSpec.ofChange twiceMakesSpec)

/-- ITS FALSE NEIGHBOUR: 'it returns false'. Refute it at one input. -/
def twiceMakesWrong : ChangeSpec := { name := "twiceMakes", fn := fun _ => fun
  | [d1, d2, d3] => { results := [.lit (.bool false)], args := [d1, d2, d3] }
  | _ => none }
def TwiceMakesWrongFalsely : Prop := twiceMakesRow.holds Try.pinned (OpenSpec.ofChange twiceMakesWrong)

/-- 'juntolaw07.TwiceValues': WHATEVER THE INPUT: true; the input reads as it did. -/
def twiceValuesSpec : ChangeSpec := { name := "twiceValues", fn := fun _ => fun
  | [d1, d2, d3] => { results := [.lit (.bool true)], args := [d1, d2, d3] }
  | _ => none }
def twiceValuesRow : OpenClaim := { program := "ytfkepkdfpjaniaa", sum := "09ca2df82b745aaacf8b6b2b03d51d84d57e29569de2f655f530ec2b2b8d7a98", func := "junto/juntolaw07.TwiceValues", spec := "twiceValues", unfollowed := true, recurses := true, apart := false }
def TwiceValuesSaid : Prop := twiceValuesRow.holds Try.pinned (OpenSpec.ofChange twiceValuesSpec)

/-- ITS FALSE NEIGHBOUR: 'it returns false'. Refute it at one input. -/
def twiceValuesWrong : ChangeSpec := { name := "twiceValues", fn := fun _ => fun
  | [d1, d2, d3] => { results := [.lit (.bool false)], args := [d1, d2, d3] }
  | _ => none }
def TwiceValuesWrongFalsely : Prop := twiceValuesRow.holds Try.pinned (OpenSpec.ofChange twiceValuesWrong)

/-- 'juntolaw07.TwiceJoins': WHATEVER THE INPUT: true; the input reads as it did. -/
def twiceJoinsSpec : ChangeSpec := { name := "twiceJoins", fn := fun _ => fun
  | [d1, d2, d3] => { results := [.lit (.bool true)], args := [d1, d2, d3] }
  | _ => none }
def twiceJoinsRow : OpenClaim := { program := "ytfkepkdfpjaniaa", sum := "09ca2df82b745aaacf8b6b2b03d51d84d57e29569de2f655f530ec2b2b8d7a98", func := "junto/juntolaw07.TwiceJoins", spec := "twiceJoins", unfollowed := true, recurses := true, apart := false }
def TwiceJoinsSaid : Prop := twiceJoinsRow.holds Try.pinned (OpenSpec.ofChange twiceJoinsSpec)

/-- ITS FALSE NEIGHBOUR: 'it returns false'. Refute it at one input. -/
def twiceJoinsWrong : ChangeSpec := { name := "twiceJoins", fn := fun _ => fun
  | [d1, d2, d3] => { results := [.lit (.bool false)], args := [d1, d2, d3] }
  | _ => none }
def TwiceJoinsWrongFalsely : Prop := twiceJoinsRow.holds Try.pinned (OpenSpec.ofChange twiceJoinsWrong)

/-- 'juntolaw07.TwiceMoves': WHATEVER THE INPUT: true; the input reads as it did. -/
def twiceMovesSpec : ChangeSpec := { name := "twiceMoves", fn := fun _ => fun
  | [d1, d2, d3] => { results := [.lit (.bool true)], args := [d1, d2, d3] }
  | _ => none }
def twiceMovesRow : OpenClaim := { program := "ytfkepkdfpjaniaa", sum := "09ca2df82b745aaacf8b6b2b03d51d84d57e29569de2f655f530ec2b2b8d7a98", func := "junto/juntolaw07.TwiceMoves", spec := "twiceMoves", unfollowed := true, recurses := true, apart := false }
def TwiceMovesSaid : Prop := twiceMovesRow.holds Try.pinned (OpenSpec.ofChange twiceMovesSpec)

/-- ITS FALSE NEIGHBOUR: 'it returns false'. Refute it at one input. -/
def twiceMovesWrong : ChangeSpec := { name := "twiceMoves", fn := fun _ => fun
  | [d1, d2, d3] => { results := [.lit (.bool false)], args := [d1, d2, d3] }
  | _ => none }
def TwiceMovesWrongFalsely : Prop := twiceMovesRow.holds Try.pinned (OpenSpec.ofChange twiceMovesWrong)

/-- 'juntolaw07.TwiceCuts': WHATEVER THE INPUT: true; the input reads as it did. -/
def twiceCutsSpec : ChangeSpec := { name := "twiceCuts", fn := fun _ => fun
  | [d1, d2, d3] => { results := [.lit (.bool true)], args := [d1, d2, d3] }
  | _ => none }
def twiceCutsRow : OpenClaim := { program := "ytfkepkdfpjaniaa", sum := "09ca2df82b745aaacf8b6b2b03d51d84d57e29569de2f655f530ec2b2b8d7a98", func := "junto/juntolaw07.TwiceCuts", spec := "twiceCuts", unfollowed := true, recurses := true, apart := false }
def TwiceCutsSaid : Prop := twiceCutsRow.holds Try.pinned (OpenSpec.ofChange twiceCutsSpec)

/-- ITS FALSE NEIGHBOUR: 'it returns false'. Refute it at one input. -/
def twiceCutsWrong : ChangeSpec := { name := "twiceCuts", fn := fun _ => fun
  | [d1, d2, d3] => { results := [.lit (.bool false)], args := [d1, d2, d3] }
  | _ => none }
def TwiceCutsWrongFalsely : Prop := twiceCutsRow.holds Try.pinned (OpenSpec.ofChange twiceCutsWrong)

/-- 'juntolaw07.TwiceOne': WHATEVER THE INPUT: true; the input reads as it did. -/
def twiceOneSpec : ChangeSpec := { name := "twiceOne", fn := fun _ => fun
  | [d1, d2, d3] => { results := [.lit (.bool true)], args := [d1, d2, d3] }
  | _ => none }
def twiceOneRow : OpenClaim := { program := "ytfkepkdfpjaniaa", sum := "09ca2df82b745aaacf8b6b2b03d51d84d57e29569de2f655f530ec2b2b8d7a98", func := "junto/juntolaw07.TwiceOne", spec := "twiceOne", unfollowed := true, recurses := true, apart := false }
def TwiceOneSaid : Prop := twiceOneRow.holds Try.pinned (OpenSpec.ofChange twiceOneSpec)

/-- ITS FALSE NEIGHBOUR: 'it returns false'. Refute it at one input. -/
def twiceOneWrong : ChangeSpec := { name := "twiceOne", fn := fun _ => fun
  | [d1, d2, d3] => { results := [.lit (.bool false)], args := [d1, d2, d3] }
  | _ => none }
def TwiceOneWrongFalsely : Prop := twiceOneRow.holds Try.pinned (OpenSpec.ofChange twiceOneWrong)

/-- 'juntolaw07.TwiceProduct': WHATEVER THE INPUT: true; the input reads as it did. -/
def twiceProductSpec : ChangeSpec := { name := "twiceProduct", fn := fun _ => fun
  | [d1, d2, d3] => { results := [.lit (.bool true)], args := [d1, d2, d3] }
  | _ => none }
def twiceProductRow : OpenClaim := { program := "ytfkepkdfpjaniaa", sum := "09ca2df82b745aaacf8b6b2b03d51d84d57e29569de2f655f530ec2b2b8d7a98", func := "junto/juntolaw07.TwiceProduct", spec := "twiceProduct", unfollowed := true, recurses := true, apart := false }
def TwiceProductSaid : Prop := twiceProductRow.holds Try.pinned (OpenSpec.ofChange twiceProductSpec)

/-- ITS FALSE NEIGHBOUR: 'it returns false'. Refute it at one input. -/
def twiceProductWrong : ChangeSpec := { name := "twiceProduct", fn := fun _ => fun
  | [d1, d2, d3] => { results := [.lit (.bool false)], args := [d1, d2, d3] }
  | _ => none }
def TwiceProductWrongFalsely : Prop := twiceProductRow.holds Try.pinned (OpenSpec.ofChange twiceProductWrong)

/-- 'juntolaw07.TwiceMoved': WHATEVER THE INPUT: true; the input reads as it did. -/
def twiceMovedSpec : ChangeSpec := { name := "twiceMoved", fn := fun _ => fun
  | [d1, d2, d3] => { results := [.lit (.bool true)], args := [d1, d2, d3] }
  | _ => none }
def twiceMovedRow : OpenClaim := { program := "ytfkepkdfpjaniaa", sum := "09ca2df82b745aaacf8b6b2b03d51d84d57e29569de2f655f530ec2b2b8d7a98", func := "junto/juntolaw07.TwiceMoved", spec := "twiceMoved", unfollowed := true, recurses := true, apart := false }
def TwiceMovedSaid : Prop := twiceMovedRow.holds Try.pinned (OpenSpec.ofChange twiceMovedSpec)

/-- ITS FALSE NEIGHBOUR: 'it returns false'. Refute it at one input. -/
def twiceMovedWrong : ChangeSpec := { name := "twiceMoved", fn := fun _ => fun
  | [d1, d2, d3] => { results := [.lit (.bool false)], args := [d1, d2, d3] }
  | _ => none }
def TwiceMovedWrongFalsely : Prop := twiceMovedRow.holds Try.pinned (OpenSpec.ofChange twiceMovedWrong)

/- THE SECOND FORM. 'bulk': how many values and letters a reading holds, each counted each time it is reached (what is shared counts as often as it is met; a slice's spare places count too). A statement '..UptoSaid' is the law's where the arguments, and the package variables that the reading takes, are together of bulk at most 1048576: NARROWER than '..Said'. Prove '..Said' where nothing that the law and all that it calls make is longer than what came in: it says more and counts as full. Else prove '..UptoSaid'. A law counts once. -/
mutual
def uptoBulk {H : Type} : DataW H → Nat
  | .lit (.string bytes) => bytes.length + 1
  | .lit _ => 1
  | .nil => 1
  | .ptr d => uptoBulk d + 1
  | .slice elems spare => uptoBulkAll elems + uptoBulkAll spare + 1
  | .agg parts => uptoBulkAll parts + 1
  | .iface _ d => uptoBulk d + 1
  | .map entries => uptoBulkEntries entries + 1
  | .held _ => 1
def uptoBulkAll {H : Type} : List (DataW H) → Nat
  | [] => 0
  | d :: r => uptoBulk d + uptoBulkAll r
def uptoBulkEntries {H : Type} : List (Lit × DataW H) → Nat
  | [] => 0
  | x :: r => uptoBulkEntry x + uptoBulkEntries r
def uptoBulkEntry {H : Type} : Lit × DataW H → Nat
  | (.string bytes, d) => bytes.length + uptoBulk d + 1
  | (_, d) => uptoBulk d + 1
 end
def uptoSmall : (H : Type) → List (DataW H) → Bool := fun _ ds => decide (uptoBulkAll ds ≤ 1048576)
def OpenSpec.upto (s : _root_.Go.ChangeSpec) : _root_.Go.OpenSpec := { _root_.Go.OpenSpec.ofChange s with cond := some uptoSmall }

/-- 'juntolaw07.TwiceChecks', WHERE WHAT IT READS IS OF BULK AT MOST 1048576: true; the input reads as it did. -/
def twiceChecksUptoRow : OpenClaim := { program := "ytfkepkdfpjaniaa", sum := "09ca2df82b745aaacf8b6b2b03d51d84d57e29569de2f655f530ec2b2b8d7a98", func := "junto/juntolaw07.TwiceChecks", spec := "twiceChecks", unfollowed := true, recurses := true, apart := false, narrowed := true }
def TwiceChecksUptoSaid : Prop := twiceChecksUptoRow.holds Try.pinned (OpenSpec.upto twiceChecksSpec)

/-- 'juntolaw07.TwiceMakes', WHERE WHAT IT READS IS OF BULK AT MOST 1048576: true; the input reads as it did. -/
def twiceMakesUptoRow : OpenClaim := { program := "ytfkepkdfpjaniaa", sum := "09ca2df82b745aaacf8b6b2b03d51d84d57e29569de2f655f530ec2b2b8d7a98", func := "junto/juntolaw07.TwiceMakes", spec := "twiceMakes", unfollowed := true, recurses := true, apart := false, narrowed := true }
def TwiceMakesUptoSaid : Prop := twiceMakesUptoRow.holds Try.pinned (OpenSpec.upto twiceMakesSpec)

/-- 'juntolaw07.TwiceValues', WHERE WHAT IT READS IS OF BULK AT MOST 1048576: true; the input reads as it did. -/
def twiceValuesUptoRow : OpenClaim := { program := "ytfkepkdfpjaniaa", sum := "09ca2df82b745aaacf8b6b2b03d51d84d57e29569de2f655f530ec2b2b8d7a98", func := "junto/juntolaw07.TwiceValues", spec := "twiceValues", unfollowed := true, recurses := true, apart := false, narrowed := true }
def TwiceValuesUptoSaid : Prop := twiceValuesUptoRow.holds Try.pinned (OpenSpec.upto twiceValuesSpec)

/-- 'juntolaw07.TwiceJoins', WHERE WHAT IT READS IS OF BULK AT MOST 1048576: true; the input reads as it did. -/
def twiceJoinsUptoRow : OpenClaim := { program := "ytfkepkdfpjaniaa", sum := "09ca2df82b745aaacf8b6b2b03d51d84d57e29569de2f655f530ec2b2b8d7a98", func := "junto/juntolaw07.TwiceJoins", spec := "twiceJoins", unfollowed := true, recurses := true, apart := false, narrowed := true }
def TwiceJoinsUptoSaid : Prop := twiceJoinsUptoRow.holds Try.pinned (OpenSpec.upto twiceJoinsSpec)

/-- 'juntolaw07.TwiceMoves', WHERE WHAT IT READS IS OF BULK AT MOST 1048576: true; the input reads as it did. -/
def twiceMovesUptoRow : OpenClaim := { program := "ytfkepkdfpjaniaa", sum := "09ca2df82b745aaacf8b6b2b03d51d84d57e29569de2f655f530ec2b2b8d7a98", func := "junto/juntolaw07.TwiceMoves", spec := "twiceMoves", unfollowed := true, recurses := true, apart := false, narrowed := true }
def TwiceMovesUptoSaid : Prop := twiceMovesUptoRow.holds Try.pinned (OpenSpec.upto twiceMovesSpec)

/-- 'juntolaw07.TwiceCuts', WHERE WHAT IT READS IS OF BULK AT MOST 1048576: true; the input reads as it did. -/
def twiceCutsUptoRow : OpenClaim := { program := "ytfkepkdfpjaniaa", sum := "09ca2df82b745aaacf8b6b2b03d51d84d57e29569de2f655f530ec2b2b8d7a98", func := "junto/juntolaw07.TwiceCuts", spec := "twiceCuts", unfollowed := true, recurses := true, apart := false, narrowed := true }
def TwiceCutsUptoSaid : Prop := twiceCutsUptoRow.holds Try.pinned (OpenSpec.upto twiceCutsSpec)

/-- 'juntolaw07.TwiceOne', WHERE WHAT IT READS IS OF BULK AT MOST 1048576: true; the input reads as it did. -/
def twiceOneUptoRow : OpenClaim := { program := "ytfkepkdfpjaniaa", sum := "09ca2df82b745aaacf8b6b2b03d51d84d57e29569de2f655f530ec2b2b8d7a98", func := "junto/juntolaw07.TwiceOne", spec := "twiceOne", unfollowed := true, recurses := true, apart := false, narrowed := true }
def TwiceOneUptoSaid : Prop := twiceOneUptoRow.holds Try.pinned (OpenSpec.upto twiceOneSpec)

/-- 'juntolaw07.TwiceProduct', WHERE WHAT IT READS IS OF BULK AT MOST 1048576: true; the input reads as it did. -/
def twiceProductUptoRow : OpenClaim := { program := "ytfkepkdfpjaniaa", sum := "09ca2df82b745aaacf8b6b2b03d51d84d57e29569de2f655f530ec2b2b8d7a98", func := "junto/juntolaw07.TwiceProduct", spec := "twiceProduct", unfollowed := true, recurses := true, apart := false, narrowed := true }
def TwiceProductUptoSaid : Prop := twiceProductUptoRow.holds Try.pinned (OpenSpec.upto twiceProductSpec)

/-- 'juntolaw07.TwiceMoved', WHERE WHAT IT READS IS OF BULK AT MOST 1048576: true; the input reads as it did. -/
def twiceMovedUptoRow : OpenClaim := { program := "ytfkepkdfpjaniaa", sum := "09ca2df82b745aaacf8b6b2b03d51d84d57e29569de2f655f530ec2b2b8d7a98", func := "junto/juntolaw07.TwiceMoved", spec := "twiceMoved", unfollowed := true, recurses := true, apart := false, narrowed := true }
def TwiceMovedUptoSaid : Prop := twiceMovedUptoRow.holds Try.pinned (OpenSpec.upto twiceMovedSpec)

end Rows
end Go.Proofs.Ytfkepkdfpjaniaa
