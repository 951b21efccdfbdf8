/-
  No cell of these rows narrows 'for every input' (looked for: loops, veiled, ifaces, maps, wideKeys, modest, calm, conditions, laid).
  DERIVED. THE GIVEN ROWS OF THIS SEAT. 13 by the template 'for every input the law returns true; each argument reads behind the call as it read before'; 0 by the template 'total and deterministic' (their statements: YtafoonhmfieikaaTotals.lean).
  GIVEN WITH THE SEED: the statements are not yours to turn. If you find one false, say at which input.
  Laid BY PROGRAM, IN A SANDBOX (cutbox-rows.mjs): the forced cells as the released guide's own fill.sh prints them over the translation 0c4a1cbd289ff7a9… (all of the seat's roots in one cut). By AI agents, Wed Nov 11 2026. No macro, syntax, notation, axiom, sorry.
-/
import Derived.Test.YtafoonhmfieikaaChecked
import GoSem.Claim
import GoSem.ClaimJoined
import GoSem.ClaimMapViews
import Derived.JoinedTies
import Derived.KernelRfl
namespace Go.Proofs.Ytafoonhmfieikaa
/- THE CELL 'sum', in the pinned program and in every row, IS THE sha256 OF THE DUMP (.gsa) THAT YtafoonhmfieikaaProg.lean LOADS. Nothing in Lean hashes anything: it is a label: what it is worth is what the hold of that sum in a sandbox is worth. -/
noncomputable def Try.pinned : Pinned := { name := "ytafoonhmfieikaa", sum := "0c4a1cbd289ff7a9aa539eaf60c96988491a347e6ff79c6bfeafbc91410e93ff", checked := Try.checked }
namespace Rows
def none {H : Type} : Left H := { results := [], args := [] }

/-- 'juntolaw02.PolyValues': WHATEVER THE INPUT: true; the input reads as it did. -/
def polyValuesSpec : ChangeSpec := { name := "polyValues", fn := fun _ => fun
  | [d1, d2, d3] => { results := [.lit (.bool true)], args := [d1, d2, d3] }
  | _ => none }
def polyValuesRow : OpenClaim := { program := "ytafoonhmfieikaa", sum := "0c4a1cbd289ff7a9aa539eaf60c96988491a347e6ff79c6bfeafbc91410e93ff", func := "junto/juntolaw02.PolyValues", spec := "polyValues", unfollowed := true, recurses := true, apart := false }
def PolyValuesSaid : Prop := polyValuesRow.holds Try.pinned (OpenSpec.ofChange polyValuesSpec)

/-- ITS FALSE NEIGHBOUR: 'it returns false'. Refute it at one input. -/
def polyValuesWrong : ChangeSpec := { name := "polyValues", fn := fun _ => fun
  | [d1, d2, d3] => { results := [.lit (.bool false)], args := [d1, d2, d3] }
  | _ => none }
def PolyValuesWrongFalsely : Prop := polyValuesRow.holds Try.pinned (OpenSpec.ofChange polyValuesWrong)

/-- 'juntolaw02.PolySums': WHATEVER THE INPUT: true; the input reads as it did. -/
def polySumsSpec : ChangeSpec := { name := "polySums", fn := fun _ => fun
  | [d1, d2, d3] => { results := [.lit (.bool true)], args := [d1, d2, d3] }
  | _ => none }
def polySumsRow : OpenClaim := { program := "ytafoonhmfieikaa", sum := "0c4a1cbd289ff7a9aa539eaf60c96988491a347e6ff79c6bfeafbc91410e93ff", func := "junto/juntolaw02.PolySums", spec := "polySums", unfollowed := true, recurses := true, apart := false }
def PolySumsSaid : Prop := polySumsRow.holds Try.pinned (OpenSpec.ofChange polySumsSpec)

/-- ITS FALSE NEIGHBOUR: 'it returns false'. Refute it at one input. -/
def polySumsWrong : ChangeSpec := { name := "polySums", fn := fun _ => fun
  | [d1, d2, d3] => { results := [.lit (.bool false)], args := [d1, d2, d3] }
  | _ => none }
def PolySumsWrongFalsely : Prop := polySumsRow.holds Try.pinned (OpenSpec.ofChange polySumsWrong)

/-- 'juntolaw02.PolyProducts': WHATEVER THE INPUT: true; the input reads as it did. -/
def polyProductsSpec : ChangeSpec := { name := "polyProducts", fn := fun _ => fun
  | [d1, d2, d3] => { results := [.lit (.bool true)], args := [d1, d2, d3] }
  | _ => none }
def polyProductsRow : OpenClaim := { program := "ytafoonhmfieikaa", sum := "0c4a1cbd289ff7a9aa539eaf60c96988491a347e6ff79c6bfeafbc91410e93ff", func := "junto/juntolaw02.PolyProducts", spec := "polyProducts", unfollowed := true, recurses := true, apart := false }
def PolyProductsSaid : Prop := polyProductsRow.holds Try.pinned (OpenSpec.ofChange polyProductsSpec)

/-- ITS FALSE NEIGHBOUR: 'it returns false'. Refute it at one input. -/
def polyProductsWrong : ChangeSpec := { name := "polyProducts", fn := fun _ => fun
  | [d1, d2, d3] => { results := [.lit (.bool false)], args := [d1, d2, d3] }
  | _ => none }
def PolyProductsWrongFalsely : Prop := polyProductsRow.holds Try.pinned (OpenSpec.ofChange polyProductsWrong)

/-- 'juntolaw02.PolyQuotients': WHATEVER THE INPUT: true; the input reads as it did. -/
def polyQuotientsSpec : ChangeSpec := { name := "polyQuotients", fn := fun _ => fun
  | [d1, d2, d3] => { results := [.lit (.bool true)], args := [d1, d2, d3] }
  | _ => none }
def polyQuotientsRow : OpenClaim := { program := "ytafoonhmfieikaa", sum := "0c4a1cbd289ff7a9aa539eaf60c96988491a347e6ff79c6bfeafbc91410e93ff", func := "junto/juntolaw02.PolyQuotients", spec := "polyQuotients", unfollowed := true, recurses := true, apart := false }
def PolyQuotientsSaid : Prop := polyQuotientsRow.holds Try.pinned (OpenSpec.ofChange polyQuotientsSpec)

/-- ITS FALSE NEIGHBOUR: 'it returns false'. Refute it at one input. -/
def polyQuotientsWrong : ChangeSpec := { name := "polyQuotients", fn := fun _ => fun
  | [d1, d2, d3] => { results := [.lit (.bool false)], args := [d1, d2, d3] }
  | _ => none }
def PolyQuotientsWrongFalsely : Prop := polyQuotientsRow.holds Try.pinned (OpenSpec.ofChange polyQuotientsWrong)

/-- 'juntolaw02.PolySlopes': WHATEVER THE INPUT: true; the input reads as it did. -/
def polySlopesSpec : ChangeSpec := { name := "polySlopes", fn := fun _ => fun
  | [d1, d2] => { results := [.lit (.bool true)], args := [d1, d2] }
  | _ => none }
def polySlopesRow : OpenClaim := { program := "ytafoonhmfieikaa", sum := "0c4a1cbd289ff7a9aa539eaf60c96988491a347e6ff79c6bfeafbc91410e93ff", func := "junto/juntolaw02.PolySlopes", spec := "polySlopes", unfollowed := true, recurses := true, apart := false }
def PolySlopesSaid : Prop := polySlopesRow.holds Try.pinned (OpenSpec.ofChange polySlopesSpec)

/-- ITS FALSE NEIGHBOUR: 'it returns false'. Refute it at one input. -/
def polySlopesWrong : ChangeSpec := { name := "polySlopes", fn := fun _ => fun
  | [d1, d2] => { results := [.lit (.bool false)], args := [d1, d2] }
  | _ => none }
def PolySlopesWrongFalsely : Prop := polySlopesRow.holds Try.pinned (OpenSpec.ofChange polySlopesWrong)

/-- 'juntolaw02.PolyThrough': WHATEVER THE INPUT: true; the input reads as it did. -/
def polyThroughSpec : ChangeSpec := { name := "polyThrough", fn := fun _ => fun
  | [d1, d2] => { results := [.lit (.bool true)], args := [d1, d2] }
  | _ => none }
def polyThroughRow : OpenClaim := { program := "ytafoonhmfieikaa", sum := "0c4a1cbd289ff7a9aa539eaf60c96988491a347e6ff79c6bfeafbc91410e93ff", func := "junto/juntolaw02.PolyThrough", spec := "polyThrough", unfollowed := true, recurses := true, apart := false }
def PolyThroughSaid : Prop := polyThroughRow.holds Try.pinned (OpenSpec.ofChange polyThroughSpec)

/-- ITS FALSE NEIGHBOUR: 'it returns false'. Refute it at one input. -/
def polyThroughWrong : ChangeSpec := { name := "polyThrough", fn := fun _ => fun
  | [d1, d2] => { results := [.lit (.bool false)], args := [d1, d2] }
  | _ => none }
def PolyThroughWrongFalsely : Prop := polyThroughRow.holds Try.pinned (OpenSpec.ofChange polyThroughWrong)

/-- 'juntolaw02.PolyWeights': WHATEVER THE INPUT: true; the input reads as it did. -/
def polyWeightsSpec : ChangeSpec := { name := "polyWeights", fn := fun _ => fun
  | [d1, d2, d3] => { results := [.lit (.bool true)], args := [d1, d2, d3] }
  | _ => none }
def polyWeightsRow : OpenClaim := { program := "ytafoonhmfieikaa", sum := "0c4a1cbd289ff7a9aa539eaf60c96988491a347e6ff79c6bfeafbc91410e93ff", func := "junto/juntolaw02.PolyWeights", spec := "polyWeights", unfollowed := true, recurses := true, apart := false }
def PolyWeightsSaid : Prop := polyWeightsRow.holds Try.pinned (OpenSpec.ofChange polyWeightsSpec)

/-- ITS FALSE NEIGHBOUR: 'it returns false'. Refute it at one input. -/
def polyWeightsWrong : ChangeSpec := { name := "polyWeights", fn := fun _ => fun
  | [d1, d2, d3] => { results := [.lit (.bool false)], args := [d1, d2, d3] }
  | _ => none }
def PolyWeightsWrongFalsely : Prop := polyWeightsRow.holds Try.pinned (OpenSpec.ofChange polyWeightsWrong)

/-- 'juntolaw02.PolyAway': WHATEVER THE INPUT: true; the input reads as it did. -/
def polyAwaySpec : ChangeSpec := { name := "polyAway", fn := fun _ => fun
  | [d1, d2] => { results := [.lit (.bool true)], args := [d1, d2] }
  | _ => none }
def polyAwayRow : OpenClaim := { program := "ytafoonhmfieikaa", sum := "0c4a1cbd289ff7a9aa539eaf60c96988491a347e6ff79c6bfeafbc91410e93ff", func := "junto/juntolaw02.PolyAway", spec := "polyAway", unfollowed := true, recurses := true, apart := false }
def PolyAwaySaid : Prop := polyAwayRow.holds Try.pinned (OpenSpec.ofChange polyAwaySpec)

/-- ITS FALSE NEIGHBOUR: 'it returns false'. Refute it at one input. -/
def polyAwayWrong : ChangeSpec := { name := "polyAway", fn := fun _ => fun
  | [d1, d2] => { results := [.lit (.bool false)], args := [d1, d2] }
  | _ => none }
def PolyAwayWrongFalsely : Prop := polyAwayRow.holds Try.pinned (OpenSpec.ofChange polyAwayWrong)

/-- 'juntolaw02.PolyRoots': WHATEVER THE INPUT: true; the input reads as it did. -/
def polyRootsSpec : ChangeSpec := { name := "polyRoots", fn := fun _ => fun
  | [d1, d2] => { results := [.lit (.bool true)], args := [d1, d2] }
  | _ => none }
def polyRootsRow : OpenClaim := { program := "ytafoonhmfieikaa", sum := "0c4a1cbd289ff7a9aa539eaf60c96988491a347e6ff79c6bfeafbc91410e93ff", func := "junto/juntolaw02.PolyRoots", spec := "polyRoots", unfollowed := true, recurses := true, apart := false }
def PolyRootsSaid : Prop := polyRootsRow.holds Try.pinned (OpenSpec.ofChange polyRootsSpec)

/-- ITS FALSE NEIGHBOUR: 'it returns false'. Refute it at one input. -/
def polyRootsWrong : ChangeSpec := { name := "polyRoots", fn := fun _ => fun
  | [d1, d2] => { results := [.lit (.bool false)], args := [d1, d2] }
  | _ => none }
def PolyRootsWrongFalsely : Prop := polyRootsRow.holds Try.pinned (OpenSpec.ofChange polyRootsWrong)

/-- 'juntolaw02.PolyValued': WHATEVER THE INPUT: true; the input reads as it did. -/
def polyValuedSpec : ChangeSpec := { name := "polyValued", fn := fun _ => fun
  | [d1, d2, d3] => { results := [.lit (.bool true)], args := [d1, d2, d3] }
  | _ => none }
def polyValuedRow : OpenClaim := { program := "ytafoonhmfieikaa", sum := "0c4a1cbd289ff7a9aa539eaf60c96988491a347e6ff79c6bfeafbc91410e93ff", func := "junto/juntolaw02.PolyValued", spec := "polyValued", unfollowed := true, recurses := true, apart := false }
def PolyValuedSaid : Prop := polyValuedRow.holds Try.pinned (OpenSpec.ofChange polyValuedSpec)

/-- ITS FALSE NEIGHBOUR: 'it returns false'. Refute it at one input. -/
def polyValuedWrong : ChangeSpec := { name := "polyValued", fn := fun _ => fun
  | [d1, d2, d3] => { results := [.lit (.bool false)], args := [d1, d2, d3] }
  | _ => none }
def PolyValuedWrongFalsely : Prop := polyValuedRow.holds Try.pinned (OpenSpec.ofChange polyValuedWrong)

/-- 'juntolaw02.PolyFew': WHATEVER THE INPUT: true; the input reads as it did. -/
def polyFewSpec : ChangeSpec := { name := "polyFew", fn := fun _ => fun
  | [d1, d2] => { results := [.lit (.bool true)], args := [d1, d2] }
  | _ => none }
def polyFewRow : OpenClaim := { program := "ytafoonhmfieikaa", sum := "0c4a1cbd289ff7a9aa539eaf60c96988491a347e6ff79c6bfeafbc91410e93ff", func := "junto/juntolaw02.PolyFew", spec := "polyFew", unfollowed := true, recurses := true, apart := false }
def PolyFewSaid : Prop := polyFewRow.holds Try.pinned (OpenSpec.ofChange polyFewSpec)

/-- ITS FALSE NEIGHBOUR: 'it returns false'. Refute it at one input. -/
def polyFewWrong : ChangeSpec := { name := "polyFew", fn := fun _ => fun
  | [d1, d2] => { results := [.lit (.bool false)], args := [d1, d2] }
  | _ => none }
def PolyFewWrongFalsely : Prop := polyFewRow.holds Try.pinned (OpenSpec.ofChange polyFewWrong)

/-- 'juntolaw02.PolyBack': WHATEVER THE INPUT: true; the input reads as it did. -/
def polyBackSpec : ChangeSpec := { name := "polyBack", fn := fun _ => fun
  | [d1, d2, d3] => { results := [.lit (.bool true)], args := [d1, d2, d3] }
  | _ => none }
def polyBackRow : OpenClaim := { program := "ytafoonhmfieikaa", sum := "0c4a1cbd289ff7a9aa539eaf60c96988491a347e6ff79c6bfeafbc91410e93ff", func := "junto/juntolaw02.PolyBack", spec := "polyBack", unfollowed := true, recurses := true, apart := false }
def PolyBackSaid : Prop := polyBackRow.holds Try.pinned (OpenSpec.ofChange polyBackSpec)

/-- ITS FALSE NEIGHBOUR: 'it returns false'. Refute it at one input. -/
def polyBackWrong : ChangeSpec := { name := "polyBack", fn := fun _ => fun
  | [d1, d2, d3] => { results := [.lit (.bool false)], args := [d1, d2, d3] }
  | _ => none }
def PolyBackWrongFalsely : Prop := polyBackRow.holds Try.pinned (OpenSpec.ofChange polyBackWrong)

/-- 'juntolaw02.PolyApart': WHATEVER THE INPUT: true; the input reads as it did. -/
def polyApartSpec : ChangeSpec := { name := "polyApart", fn := fun _ => fun
  | [d1, d2, d3] => { results := [.lit (.bool true)], args := [d1, d2, d3] }
  | _ => none }
def polyApartRow : OpenClaim := { program := "ytafoonhmfieikaa", sum := "0c4a1cbd289ff7a9aa539eaf60c96988491a347e6ff79c6bfeafbc91410e93ff", func := "junto/juntolaw02.PolyApart", spec := "polyApart", unfollowed := true, recurses := true, apart := false }
def PolyApartSaid : Prop := polyApartRow.holds Try.pinned (OpenSpec.ofChange polyApartSpec)

/-- ITS FALSE NEIGHBOUR: 'it returns false'. Refute it at one input. -/
def polyApartWrong : ChangeSpec := { name := "polyApart", fn := fun _ => fun
  | [d1, d2, d3] => { results := [.lit (.bool false)], args := [d1, d2, d3] }
  | _ => none }
def PolyApartWrongFalsely : Prop := polyApartRow.holds Try.pinned (OpenSpec.ofChange polyApartWrong)

/- THE SECOND FORM. 'bulk': how many values and letters a reading holds, each counted each time it is reached (what is shared counts as often as it is met; a slice's spare places count too). A statement '..UptoSaid' is the law's where the arguments, and the package variables that the reading takes, are together of bulk at most 1048576: NARROWER than '..Said'. Prove '..Said' where nothing that the law and all that it calls make is longer than what came in: it says more and counts as full. Else prove '..UptoSaid'. A law counts once. -/
mutual
def uptoBulk {H : Type} : DataW H → Nat
  | .lit (.string bytes) => bytes.length + 1
  | .lit _ => 1
  | .nil => 1
  | .ptr d => uptoBulk d + 1
  | .slice elems spare => uptoBulkAll elems + uptoBulkAll spare + 1
  | .agg parts => uptoBulkAll parts + 1
  | .iface _ d => uptoBulk d + 1
  | .map entries => uptoBulkEntries entries + 1
  | .held _ => 1
def uptoBulkAll {H : Type} : List (DataW H) → Nat
  | [] => 0
  | d :: r => uptoBulk d + uptoBulkAll r
def uptoBulkEntries {H : Type} : List (Lit × DataW H) → Nat
  | [] => 0
  | x :: r => uptoBulkEntry x + uptoBulkEntries r
def uptoBulkEntry {H : Type} : Lit × DataW H → Nat
  | (.string bytes, d) => bytes.length + uptoBulk d + 1
  | (_, d) => uptoBulk d + 1
 end
def uptoSmall : (H : Type) → List (DataW H) → Bool := fun _ ds => decide (uptoBulkAll ds ≤ 1048576)
def OpenSpec.upto (s : _root_.Go.ChangeSpec) : _root_.Go.OpenSpec := { _root_.Go.OpenSpec.ofChange s with cond := some uptoSmall }

/-- 'juntolaw02.PolyValues', WHERE WHAT IT READS IS OF BULK AT MOST 1048576: true; the input reads as it did. -/
def polyValuesUptoRow : OpenClaim := { program := "ytafoonhmfieikaa", sum := "0c4a1cbd289ff7a9aa539eaf60c96988491a347e6ff79c6bfeafbc91410e93ff", func := "junto/juntolaw02.PolyValues", spec := "polyValues", unfollowed := true, recurses := true, apart := false, narrowed := true }
def PolyValuesUptoSaid : Prop := polyValuesUptoRow.holds Try.pinned (OpenSpec.upto polyValuesSpec)

/-- 'juntolaw02.PolySums', WHERE WHAT IT READS IS OF BULK AT MOST 1048576: true; the input reads as it did. -/
def polySumsUptoRow : OpenClaim := { program := "ytafoonhmfieikaa", sum := "0c4a1cbd289ff7a9aa539eaf60c96988491a347e6ff79c6bfeafbc91410e93ff", func := "junto/juntolaw02.PolySums", spec := "polySums", unfollowed := true, recurses := true, apart := false, narrowed := true }
def PolySumsUptoSaid : Prop := polySumsUptoRow.holds Try.pinned (OpenSpec.upto polySumsSpec)

/-- 'juntolaw02.PolyProducts', WHERE WHAT IT READS IS OF BULK AT MOST 1048576: true; the input reads as it did. -/
def polyProductsUptoRow : OpenClaim := { program := "ytafoonhmfieikaa", sum := "0c4a1cbd289ff7a9aa539eaf60c96988491a347e6ff79c6bfeafbc91410e93ff", func := "junto/juntolaw02.PolyProducts", spec := "polyProducts", unfollowed := true, recurses := true, apart := false, narrowed := true }
def PolyProductsUptoSaid : Prop := polyProductsUptoRow.holds Try.pinned (OpenSpec.upto polyProductsSpec)

/-- 'juntolaw02.PolyQuotients', WHERE WHAT IT READS IS OF BULK AT MOST 1048576: true; the input reads as it did. -/
def polyQuotientsUptoRow : OpenClaim := { program := "ytafoonhmfieikaa", sum := "0c4a1cbd289ff7a9aa539eaf60c96988491a347e6ff79c6bfeafbc91410e93ff", func := "junto/juntolaw02.PolyQuotients", spec := "polyQuotients", unfollowed := true, recurses := true, apart := false, narrowed := true }
def PolyQuotientsUptoSaid : Prop := polyQuotientsUptoRow.holds Try.pinned (OpenSpec.upto polyQuotientsSpec)

/-- 'juntolaw02.PolySlopes', WHERE WHAT IT READS IS OF BULK AT MOST 1048576: true; the input reads as it did. -/
def polySlopesUptoRow : OpenClaim := { program := "ytafoonhmfieikaa", sum := "0c4a1cbd289ff7a9aa539eaf60c96988491a347e6ff79c6bfeafbc91410e93ff", func := "junto/juntolaw02.PolySlopes", spec := "polySlopes", unfollowed := true, recurses := true, apart := false, narrowed := true }
def PolySlopesUptoSaid : Prop := polySlopesUptoRow.holds Try.pinned (OpenSpec.upto polySlopesSpec)

/-- 'juntolaw02.PolyThrough', WHERE WHAT IT READS IS OF BULK AT MOST 1048576: true; the input reads as it did. -/
def polyThroughUptoRow : OpenClaim := { program := "ytafoonhmfieikaa", sum := "0c4a1cbd289ff7a9aa539eaf60c96988491a347e6ff79c6bfeafbc91410e93ff", func := "junto/juntolaw02.PolyThrough", spec := "polyThrough", unfollowed := true, recurses := true, apart := false, narrowed := true }
def PolyThroughUptoSaid : Prop := polyThroughUptoRow.holds Try.pinned (OpenSpec.upto polyThroughSpec)

/-- 'juntolaw02.PolyWeights', WHERE WHAT IT READS IS OF BULK AT MOST 1048576: true; the input reads as it did. -/
def polyWeightsUptoRow : OpenClaim := { program := "ytafoonhmfieikaa", sum := "0c4a1cbd289ff7a9aa539eaf60c96988491a347e6ff79c6bfeafbc91410e93ff", func := "junto/juntolaw02.PolyWeights", spec := "polyWeights", unfollowed := true, recurses := true, apart := false, narrowed := true }
def PolyWeightsUptoSaid : Prop := polyWeightsUptoRow.holds Try.pinned (OpenSpec.upto polyWeightsSpec)

/-- 'juntolaw02.PolyAway', WHERE WHAT IT READS IS OF BULK AT MOST 1048576: true; the input reads as it did. -/
def polyAwayUptoRow : OpenClaim := { program := "ytafoonhmfieikaa", sum := "0c4a1cbd289ff7a9aa539eaf60c96988491a347e6ff79c6bfeafbc91410e93ff", func := "junto/juntolaw02.PolyAway", spec := "polyAway", unfollowed := true, recurses := true, apart := false, narrowed := true }
def PolyAwayUptoSaid : Prop := polyAwayUptoRow.holds Try.pinned (OpenSpec.upto polyAwaySpec)

/-- 'juntolaw02.PolyRoots', WHERE WHAT IT READS IS OF BULK AT MOST 1048576: true; the input reads as it did. -/
def polyRootsUptoRow : OpenClaim := { program := "ytafoonhmfieikaa", sum := "0c4a1cbd289ff7a9aa539eaf60c96988491a347e6ff79c6bfeafbc91410e93ff", func := "junto/juntolaw02.PolyRoots", spec := "polyRoots", unfollowed := true, recurses := true, apart := false, narrowed := true }
def PolyRootsUptoSaid : Prop := polyRootsUptoRow.holds Try.pinned (OpenSpec.upto polyRootsSpec)

/-- 'juntolaw02.PolyValued', WHERE WHAT IT READS IS OF BULK AT MOST 1048576: true; the input reads as it did. -/
def polyValuedUptoRow : OpenClaim := { program := "ytafoonhmfieikaa", sum := "0c4a1cbd289ff7a9aa539eaf60c96988491a347e6ff79c6bfeafbc91410e93ff", func := "junto/juntolaw02.PolyValued", spec := "polyValued", unfollowed := true, recurses := true, apart := false, narrowed := true }
def PolyValuedUptoSaid : Prop := polyValuedUptoRow.holds Try.pinned (OpenSpec.upto polyValuedSpec)

/-- 'juntolaw02.PolyFew', WHERE WHAT IT READS IS OF BULK AT MOST 1048576: true; the input reads as it did. -/
def polyFewUptoRow : OpenClaim := { program := "ytafoonhmfieikaa", sum := "0c4a1cbd289ff7a9aa539eaf60c96988491a347e6ff79c6bfeafbc91410e93ff", func := "junto/juntolaw02.PolyFew", spec := "polyFew", unfollowed := true, recurses := true, apart := false, narrowed := true }
def PolyFewUptoSaid : Prop := polyFewUptoRow.holds Try.pinned (OpenSpec.upto polyFewSpec)

/-- 'juntolaw02.PolyBack', WHERE WHAT IT READS IS OF BULK AT MOST 1048576: true; the input reads as it did. -/
def polyBackUptoRow : OpenClaim := { program := "ytafoonhmfieikaa", sum := "0c4a1cbd289ff7a9aa539eaf60c96988491a347e6ff79c6bfeafbc91410e93ff", func := "junto/juntolaw02.PolyBack", spec := "polyBack", unfollowed := true, recurses := true, apart := false, narrowed := true }
def PolyBackUptoSaid : Prop := polyBackUptoRow.holds Try.pinned (OpenSpec.upto polyBackSpec)

/-- 'juntolaw02.PolyApart', WHERE WHAT IT READS IS OF BULK AT MOST 1048576: true; the input reads as it did. -/
def polyApartUptoRow : OpenClaim := { program := "ytafoonhmfieikaa", sum := "0c4a1cbd289ff7a9aa539eaf60c96988491a347e6ff79c6bfeafbc91410e93ff", func := "junto/juntolaw02.PolyApart", spec := "polyApart", unfollowed := true, recurses := true, apart := false, narrowed := true }
def PolyApartUptoSaid : Prop := polyApartUptoRow.holds Try.pinned (OpenSpec.upto polyApartSpec)

end Rows
end Go.Proofs.Ytafoonhmfieikaa
