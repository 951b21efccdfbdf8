/-
  No cell of these rows narrows 'for every input' (looked for: loops, veiled, ifaces, maps, wideKeys, modest, calm, conditions, laid).
  DERIVED. THE GIVEN ROWS OF THIS SEAT. 12 by the template 'for every input the law returns true; each argument reads behind the call as it read before'; 0 by the template 'total and deterministic' (their statements: YtgoognipljknjaaTotals.lean).
  GIVEN WITH THE SEED: the statements are not yours to turn. If you find one false, say at which input.
  Laid BY PROGRAM, IN A SANDBOX (cutbox-rows.mjs): the forced cells as the released guide's own fill.sh prints them over the translation 7cf2a144db0d0c02… (all of the seat's roots in one cut). By AI agents, Wed Nov 11 2026. No macro, syntax, notation, axiom, sorry.
-/
import Derived.Test.YtgoognipljknjaaChecked
import GoSem.Claim
import GoSem.ClaimJoined
import GoSem.ClaimMapViews
import Derived.JoinedTies
import Derived.KernelRfl
namespace Go.Proofs.Ytgoognipljknjaa
/- THE CELL 'sum', in the pinned program and in every row, IS THE sha256 OF THE DUMP (.gsa) THAT YtgoognipljknjaaProg.lean LOADS. Nothing in Lean hashes anything: it is a label: what it is worth is what the hold of that sum in a sandbox is worth. -/
noncomputable def Try.pinned : Pinned := { name := "ytgoognipljknjaa", sum := "7cf2a144db0d0c022d4a142c825fb3328b1058d4cd3a01687c6185f68b67d74e", checked := Try.checked }
namespace Rows
def none {H : Type} : Left H := { results := [], args := [] }

/-- 'juntolaw03.MatrixSolutions': WHATEVER THE INPUT: true; the input reads as it did. -/
def matrixSolutionsSpec : ChangeSpec := { name := "matrixSolutions", fn := fun _ => fun
  | [d1, d2, d3] => { results := [.lit (.bool true)], args := [d1, d2, d3] }
  | _ => none }
def matrixSolutionsRow : OpenClaim := { program := "ytgoognipljknjaa", sum := "7cf2a144db0d0c022d4a142c825fb3328b1058d4cd3a01687c6185f68b67d74e", func := "junto/juntolaw03.MatrixSolutions", spec := "matrixSolutions", unfollowed := true, recurses := true, apart := false }
def MatrixSolutionsSaid : Prop := matrixSolutionsRow.holds Try.pinned (OpenSpec.ofChange matrixSolutionsSpec)

/-- ITS FALSE NEIGHBOUR: 'it returns false'. Refute it at one input. -/
def matrixSolutionsWrong : ChangeSpec := { name := "matrixSolutions", fn := fun _ => fun
  | [d1, d2, d3] => { results := [.lit (.bool false)], args := [d1, d2, d3] }
  | _ => none }
def MatrixSolutionsWrongFalsely : Prop := matrixSolutionsRow.holds Try.pinned (OpenSpec.ofChange matrixSolutionsWrong)

/-- 'juntolaw04.ShareSetups': WHATEVER THE INPUT: true; the input reads as it did. -/
def shareSetupsSpec : ChangeSpec := { name := "shareSetups", fn := fun _ => fun
  | [d1, d2] => { results := [.lit (.bool true)], args := [d1, d2] }
  | _ => none }
def shareSetupsRow : OpenClaim := { program := "ytgoognipljknjaa", sum := "7cf2a144db0d0c022d4a142c825fb3328b1058d4cd3a01687c6185f68b67d74e", func := "junto/juntolaw04.ShareSetups", spec := "shareSetups", unfollowed := true, recurses := true, apart := false }
def ShareSetupsSaid : Prop := shareSetupsRow.holds Try.pinned (OpenSpec.ofChange shareSetupsSpec)

/-- ITS FALSE NEIGHBOUR: 'it returns false'. Refute it at one input. -/
def shareSetupsWrong : ChangeSpec := { name := "shareSetups", fn := fun _ => fun
  | [d1, d2] => { results := [.lit (.bool false)], args := [d1, d2] }
  | _ => none }
def ShareSetupsWrongFalsely : Prop := shareSetupsRow.holds Try.pinned (OpenSpec.ofChange shareSetupsWrong)

/-- 'juntolaw04.ShareMakes': WHATEVER THE INPUT: true; the input reads as it did. -/
def shareMakesSpec : ChangeSpec := { name := "shareMakes", fn := fun _ => fun
  | [d1, d2] => { results := [.lit (.bool true)], args := [d1, d2] }
  | _ => none }
def shareMakesRow : OpenClaim := { program := "ytgoognipljknjaa", sum := "7cf2a144db0d0c022d4a142c825fb3328b1058d4cd3a01687c6185f68b67d74e", func := "junto/juntolaw04.ShareMakes", spec := "shareMakes", unfollowed := true, recurses := true, apart := false }
def ShareMakesSaid : Prop := shareMakesRow.holds Try.pinned (OpenSpec.ofChange shareMakesSpec)

/-- ITS FALSE NEIGHBOUR: 'it returns false'. Refute it at one input. -/
def shareMakesWrong : ChangeSpec := { name := "shareMakes", fn := fun _ => fun
  | [d1, d2] => { results := [.lit (.bool false)], args := [d1, d2] }
  | _ => none }
def ShareMakesWrongFalsely : Prop := shareMakesRow.holds Try.pinned (OpenSpec.ofChange shareMakesWrong)

/-- 'juntolaw04.ShareValues': WHATEVER THE INPUT: true; the input reads as it did. -/
def shareValuesSpec : ChangeSpec := { name := "shareValues", fn := fun _ => fun
  | [d1, d2] => { results := [.lit (.bool true)], args := [d1, d2] }
  | _ => none }
def shareValuesRow : OpenClaim := { program := "ytgoognipljknjaa", sum := "7cf2a144db0d0c022d4a142c825fb3328b1058d4cd3a01687c6185f68b67d74e", func := "junto/juntolaw04.ShareValues", spec := "shareValues", unfollowed := true, recurses := true, apart := false }
def ShareValuesSaid : Prop := shareValuesRow.holds Try.pinned (OpenSpec.ofChange shareValuesSpec)

/-- ITS FALSE NEIGHBOUR: 'it returns false'. Refute it at one input. -/
def shareValuesWrong : ChangeSpec := { name := "shareValues", fn := fun _ => fun
  | [d1, d2] => { results := [.lit (.bool false)], args := [d1, d2] }
  | _ => none }
def ShareValuesWrongFalsely : Prop := shareValuesRow.holds Try.pinned (OpenSpec.ofChange shareValuesWrong)

/-- 'juntolaw04.ShareSecrets': WHATEVER THE INPUT: true; the input reads as it did. -/
def shareSecretsSpec : ChangeSpec := { name := "shareSecrets", fn := fun _ => fun
  | [d1, d2, d3] => { results := [.lit (.bool true)], args := [d1, d2, d3] }
  | _ => none }
def shareSecretsRow : OpenClaim := { program := "ytgoognipljknjaa", sum := "7cf2a144db0d0c022d4a142c825fb3328b1058d4cd3a01687c6185f68b67d74e", func := "junto/juntolaw04.ShareSecrets", spec := "shareSecrets", unfollowed := true, recurses := true, apart := false }
def ShareSecretsSaid : Prop := shareSecretsRow.holds Try.pinned (OpenSpec.ofChange shareSecretsSpec)

/-- ITS FALSE NEIGHBOUR: 'it returns false'. Refute it at one input. -/
def shareSecretsWrong : ChangeSpec := { name := "shareSecrets", fn := fun _ => fun
  | [d1, d2, d3] => { results := [.lit (.bool false)], args := [d1, d2, d3] }
  | _ => none }
def ShareSecretsWrongFalsely : Prop := shareSecretsRow.holds Try.pinned (OpenSpec.ofChange shareSecretsWrong)

/-- 'juntolaw04.ShareFits': WHATEVER THE INPUT: true; the input reads as it did. -/
def shareFitsSpec : ChangeSpec := { name := "shareFits", fn := fun _ => fun
  | [d1, d2, d3] => { results := [.lit (.bool true)], args := [d1, d2, d3] }
  | _ => none }
def shareFitsRow : OpenClaim := { program := "ytgoognipljknjaa", sum := "7cf2a144db0d0c022d4a142c825fb3328b1058d4cd3a01687c6185f68b67d74e", func := "junto/juntolaw04.ShareFits", spec := "shareFits", unfollowed := true, recurses := true, apart := false }
def ShareFitsSaid : Prop := shareFitsRow.holds Try.pinned (OpenSpec.ofChange shareFitsSpec)

/-- ITS FALSE NEIGHBOUR: 'it returns false'. Refute it at one input. -/
def shareFitsWrong : ChangeSpec := { name := "shareFits", fn := fun _ => fun
  | [d1, d2, d3] => { results := [.lit (.bool false)], args := [d1, d2, d3] }
  | _ => none }
def ShareFitsWrongFalsely : Prop := shareFitsRow.holds Try.pinned (OpenSpec.ofChange shareFitsWrong)

/-- 'juntolaw04.ShareSums': WHATEVER THE INPUT: true; the input reads as it did. -/
def shareSumsSpec : ChangeSpec := { name := "shareSums", fn := fun _ => fun
  | [d1, d2, d3] => { results := [.lit (.bool true)], args := [d1, d2, d3] }
  | _ => none }
def shareSumsRow : OpenClaim := { program := "ytgoognipljknjaa", sum := "7cf2a144db0d0c022d4a142c825fb3328b1058d4cd3a01687c6185f68b67d74e", func := "junto/juntolaw04.ShareSums", spec := "shareSums", unfollowed := true, recurses := true, apart := false }
def ShareSumsSaid : Prop := shareSumsRow.holds Try.pinned (OpenSpec.ofChange shareSumsSpec)

/-- ITS FALSE NEIGHBOUR: 'it returns false'. Refute it at one input. -/
def shareSumsWrong : ChangeSpec := { name := "shareSums", fn := fun _ => fun
  | [d1, d2, d3] => { results := [.lit (.bool false)], args := [d1, d2, d3] }
  | _ => none }
def ShareSumsWrongFalsely : Prop := shareSumsRow.holds Try.pinned (OpenSpec.ofChange shareSumsWrong)

/-- 'juntolaw04.ShareMoves': WHATEVER THE INPUT: true; the input reads as it did. -/
def shareMovesSpec : ChangeSpec := { name := "shareMoves", fn := fun _ => fun
  | [d1, d2] => { results := [.lit (.bool true)], args := [d1, d2] }
  | _ => none }
def shareMovesRow : OpenClaim := { program := "ytgoognipljknjaa", sum := "7cf2a144db0d0c022d4a142c825fb3328b1058d4cd3a01687c6185f68b67d74e", func := "junto/juntolaw04.ShareMoves", spec := "shareMoves", unfollowed := true, recurses := true, apart := false }
def ShareMovesSaid : Prop := shareMovesRow.holds Try.pinned (OpenSpec.ofChange shareMovesSpec)

/-- ITS FALSE NEIGHBOUR: 'it returns false'. Refute it at one input. -/
def shareMovesWrong : ChangeSpec := { name := "shareMoves", fn := fun _ => fun
  | [d1, d2] => { results := [.lit (.bool false)], args := [d1, d2] }
  | _ => none }
def ShareMovesWrongFalsely : Prop := shareMovesRow.holds Try.pinned (OpenSpec.ofChange shareMovesWrong)

/-- 'juntolaw04.ShareBack': WHATEVER THE INPUT: true; the input reads as it did. -/
def shareBackSpec : ChangeSpec := { name := "shareBack", fn := fun _ => fun
  | [d1, d2, d3] => { results := [.lit (.bool true)], args := [d1, d2, d3] }
  | _ => none }
def shareBackRow : OpenClaim := { program := "ytgoognipljknjaa", sum := "7cf2a144db0d0c022d4a142c825fb3328b1058d4cd3a01687c6185f68b67d74e", func := "junto/juntolaw04.ShareBack", spec := "shareBack", unfollowed := true, recurses := true, apart := false }
def ShareBackSaid : Prop := shareBackRow.holds Try.pinned (OpenSpec.ofChange shareBackSpec)

/-- ITS FALSE NEIGHBOUR: 'it returns false'. Refute it at one input. -/
def shareBackWrong : ChangeSpec := { name := "shareBack", fn := fun _ => fun
  | [d1, d2, d3] => { results := [.lit (.bool false)], args := [d1, d2, d3] }
  | _ => none }
def ShareBackWrongFalsely : Prop := shareBackRow.holds Try.pinned (OpenSpec.ofChange shareBackWrong)

/-- 'juntolaw04.ShareNothing': WHATEVER THE INPUT: true; the input reads as it did. -/
def shareNothingSpec : ChangeSpec := { name := "shareNothing", fn := fun _ => fun
  | [d1, d2, d3] => { results := [.lit (.bool true)], args := [d1, d2, d3] }
  | _ => none }
def shareNothingRow : OpenClaim := { program := "ytgoognipljknjaa", sum := "7cf2a144db0d0c022d4a142c825fb3328b1058d4cd3a01687c6185f68b67d74e", func := "junto/juntolaw04.ShareNothing", spec := "shareNothing", unfollowed := true, recurses := true, apart := false }
def ShareNothingSaid : Prop := shareNothingRow.holds Try.pinned (OpenSpec.ofChange shareNothingSpec)

/-- ITS FALSE NEIGHBOUR: 'it returns false'. Refute it at one input. -/
def shareNothingWrong : ChangeSpec := { name := "shareNothing", fn := fun _ => fun
  | [d1, d2, d3] => { results := [.lit (.bool false)], args := [d1, d2, d3] }
  | _ => none }
def ShareNothingWrongFalsely : Prop := shareNothingRow.holds Try.pinned (OpenSpec.ofChange shareNothingWrong)

/-- 'juntolaw04.ShareOnly': WHATEVER THE INPUT: true; the input reads as it did. -/
def shareOnlySpec : ChangeSpec := { name := "shareOnly", fn := fun _ => fun
  | [d1, d2, d3] => { results := [.lit (.bool true)], args := [d1, d2, d3] }
  | _ => none }
def shareOnlyRow : OpenClaim := { program := "ytgoognipljknjaa", sum := "7cf2a144db0d0c022d4a142c825fb3328b1058d4cd3a01687c6185f68b67d74e", func := "junto/juntolaw04.ShareOnly", spec := "shareOnly", unfollowed := true, recurses := true, apart := false }
def ShareOnlySaid : Prop := shareOnlyRow.holds Try.pinned (OpenSpec.ofChange shareOnlySpec)

/-- ITS FALSE NEIGHBOUR: 'it returns false'. Refute it at one input. -/
def shareOnlyWrong : ChangeSpec := { name := "shareOnly", fn := fun _ => fun
  | [d1, d2, d3] => { results := [.lit (.bool false)], args := [d1, d2, d3] }
  | _ => none }
def ShareOnlyWrongFalsely : Prop := shareOnlyRow.holds Try.pinned (OpenSpec.ofChange shareOnlyWrong)

/-- 'juntolaw04.ShareThere': WHATEVER THE INPUT: true; the input reads as it did. -/
def shareThereSpec : ChangeSpec := { name := "shareThere", fn := fun _ => fun
  | [d1, d2] => { results := [.lit (.bool true)], args := [d1, d2] }
  | _ => none }
def shareThereRow : OpenClaim := { program := "ytgoognipljknjaa", sum := "7cf2a144db0d0c022d4a142c825fb3328b1058d4cd3a01687c6185f68b67d74e", func := "junto/juntolaw04.ShareThere", spec := "shareThere", unfollowed := true, recurses := true, apart := false }
def ShareThereSaid : Prop := shareThereRow.holds Try.pinned (OpenSpec.ofChange shareThereSpec)

/-- ITS FALSE NEIGHBOUR: 'it returns false'. Refute it at one input. -/
def shareThereWrong : ChangeSpec := { name := "shareThere", fn := fun _ => fun
  | [d1, d2] => { results := [.lit (.bool false)], args := [d1, d2] }
  | _ => none }
def ShareThereWrongFalsely : Prop := shareThereRow.holds Try.pinned (OpenSpec.ofChange shareThereWrong)

/- THE SECOND FORM. 'bulk': how many values and letters a reading holds, each counted each time it is reached (what is shared counts as often as it is met; a slice's spare places count too). A statement '..UptoSaid' is the law's where the arguments, and the package variables that the reading takes, are together of bulk at most 1048576: NARROWER than '..Said'. Prove '..Said' where nothing that the law and all that it calls make is longer than what came in: it says more and counts as full. Else prove '..UptoSaid'. A law counts once. -/
mutual
def uptoBulk {H : Type} : DataW H → Nat
  | .lit (.string bytes) => bytes.length + 1
  | .lit _ => 1
  | .nil => 1
  | .ptr d => uptoBulk d + 1
  | .slice elems spare => uptoBulkAll elems + uptoBulkAll spare + 1
  | .agg parts => uptoBulkAll parts + 1
  | .iface _ d => uptoBulk d + 1
  | .map entries => uptoBulkEntries entries + 1
  | .held _ => 1
def uptoBulkAll {H : Type} : List (DataW H) → Nat
  | [] => 0
  | d :: r => uptoBulk d + uptoBulkAll r
def uptoBulkEntries {H : Type} : List (Lit × DataW H) → Nat
  | [] => 0
  | x :: r => uptoBulkEntry x + uptoBulkEntries r
def uptoBulkEntry {H : Type} : Lit × DataW H → Nat
  | (.string bytes, d) => bytes.length + uptoBulk d + 1
  | (_, d) => uptoBulk d + 1
 end
def uptoSmall : (H : Type) → List (DataW H) → Bool := fun _ ds => decide (uptoBulkAll ds ≤ 1048576)
def OpenSpec.upto (s : _root_.Go.ChangeSpec) : _root_.Go.OpenSpec := { _root_.Go.OpenSpec.ofChange s with cond := some uptoSmall }

/-- 'juntolaw03.MatrixSolutions', WHERE WHAT IT READS IS OF BULK AT MOST 1048576: true; the input reads as it did. -/
def matrixSolutionsUptoRow : OpenClaim := { program := "ytgoognipljknjaa", sum := "7cf2a144db0d0c022d4a142c825fb3328b1058d4cd3a01687c6185f68b67d74e", func := "junto/juntolaw03.MatrixSolutions", spec := "matrixSolutions", unfollowed := true, recurses := true, apart := false, narrowed := true }
def MatrixSolutionsUptoSaid : Prop := matrixSolutionsUptoRow.holds Try.pinned (OpenSpec.upto matrixSolutionsSpec)

/-- 'juntolaw04.ShareSetups', WHERE WHAT IT READS IS OF BULK AT MOST 1048576: true; the input reads as it did. -/
def shareSetupsUptoRow : OpenClaim := { program := "ytgoognipljknjaa", sum := "7cf2a144db0d0c022d4a142c825fb3328b1058d4cd3a01687c6185f68b67d74e", func := "junto/juntolaw04.ShareSetups", spec := "shareSetups", unfollowed := true, recurses := true, apart := false, narrowed := true }
def ShareSetupsUptoSaid : Prop := shareSetupsUptoRow.holds Try.pinned (OpenSpec.upto shareSetupsSpec)

/-- 'juntolaw04.ShareMakes', WHERE WHAT IT READS IS OF BULK AT MOST 1048576: true; the input reads as it did. -/
def shareMakesUptoRow : OpenClaim := { program := "ytgoognipljknjaa", sum := "7cf2a144db0d0c022d4a142c825fb3328b1058d4cd3a01687c6185f68b67d74e", func := "junto/juntolaw04.ShareMakes", spec := "shareMakes", unfollowed := true, recurses := true, apart := false, narrowed := true }
def ShareMakesUptoSaid : Prop := shareMakesUptoRow.holds Try.pinned (OpenSpec.upto shareMakesSpec)

/-- 'juntolaw04.ShareValues', WHERE WHAT IT READS IS OF BULK AT MOST 1048576: true; the input reads as it did. -/
def shareValuesUptoRow : OpenClaim := { program := "ytgoognipljknjaa", sum := "7cf2a144db0d0c022d4a142c825fb3328b1058d4cd3a01687c6185f68b67d74e", func := "junto/juntolaw04.ShareValues", spec := "shareValues", unfollowed := true, recurses := true, apart := false, narrowed := true }
def ShareValuesUptoSaid : Prop := shareValuesUptoRow.holds Try.pinned (OpenSpec.upto shareValuesSpec)

/-- 'juntolaw04.ShareSecrets', WHERE WHAT IT READS IS OF BULK AT MOST 1048576: true; the input reads as it did. -/
def shareSecretsUptoRow : OpenClaim := { program := "ytgoognipljknjaa", sum := "7cf2a144db0d0c022d4a142c825fb3328b1058d4cd3a01687c6185f68b67d74e", func := "junto/juntolaw04.ShareSecrets", spec := "shareSecrets", unfollowed := true, recurses := true, apart := false, narrowed := true }
def ShareSecretsUptoSaid : Prop := shareSecretsUptoRow.holds Try.pinned (OpenSpec.upto shareSecretsSpec)

/-- 'juntolaw04.ShareFits', WHERE WHAT IT READS IS OF BULK AT MOST 1048576: true; the input reads as it did. -/
def shareFitsUptoRow : OpenClaim := { program := "ytgoognipljknjaa", sum := "7cf2a144db0d0c022d4a142c825fb3328b1058d4cd3a01687c6185f68b67d74e", func := "junto/juntolaw04.ShareFits", spec := "shareFits", unfollowed := true, recurses := true, apart := false, narrowed := true }
def ShareFitsUptoSaid : Prop := shareFitsUptoRow.holds Try.pinned (OpenSpec.upto shareFitsSpec)

/-- 'juntolaw04.ShareSums', WHERE WHAT IT READS IS OF BULK AT MOST 1048576: true; the input reads as it did. -/
def shareSumsUptoRow : OpenClaim := { program := "ytgoognipljknjaa", sum := "7cf2a144db0d0c022d4a142c825fb3328b1058d4cd3a01687c6185f68b67d74e", func := "junto/juntolaw04.ShareSums", spec := "shareSums", unfollowed := true, recurses := true, apart := false, narrowed := true }
def ShareSumsUptoSaid : Prop := shareSumsUptoRow.holds Try.pinned (OpenSpec.upto shareSumsSpec)

/-- 'juntolaw04.ShareMoves', WHERE WHAT IT READS IS OF BULK AT MOST 1048576: true; the input reads as it did. -/
def shareMovesUptoRow : OpenClaim := { program := "ytgoognipljknjaa", sum := "7cf2a144db0d0c022d4a142c825fb3328b1058d4cd3a01687c6185f68b67d74e", func := "junto/juntolaw04.ShareMoves", spec := "shareMoves", unfollowed := true, recurses := true, apart := false, narrowed := true }
def ShareMovesUptoSaid : Prop := shareMovesUptoRow.holds Try.pinned (OpenSpec.upto shareMovesSpec)

/-- 'juntolaw04.ShareBack', WHERE WHAT IT READS IS OF BULK AT MOST 1048576: true; the input reads as it did. -/
def shareBackUptoRow : OpenClaim := { program := "ytgoognipljknjaa", sum := "7cf2a144db0d0c022d4a142c825fb3328b1058d4cd3a01687c6185f68b67d74e", func := "junto/juntolaw04.ShareBack", spec := "shareBack", unfollowed := true, recurses := true, apart := false, narrowed := true }
def ShareBackUptoSaid : Prop := shareBackUptoRow.holds Try.pinned (OpenSpec.upto shareBackSpec)

/-- 'juntolaw04.ShareNothing', WHERE WHAT IT READS IS OF BULK AT MOST 1048576: true; the input reads as it did. -/
def shareNothingUptoRow : OpenClaim := { program := "ytgoognipljknjaa", sum := "7cf2a144db0d0c022d4a142c825fb3328b1058d4cd3a01687c6185f68b67d74e", func := "junto/juntolaw04.ShareNothing", spec := "shareNothing", unfollowed := true, recurses := true, apart := false, narrowed := true }
def ShareNothingUptoSaid : Prop := shareNothingUptoRow.holds Try.pinned (OpenSpec.upto shareNothingSpec)

/-- 'juntolaw04.ShareOnly', WHERE WHAT IT READS IS OF BULK AT MOST 1048576: true; the input reads as it did. -/
def shareOnlyUptoRow : OpenClaim := { program := "ytgoognipljknjaa", sum := "7cf2a144db0d0c022d4a142c825fb3328b1058d4cd3a01687c6185f68b67d74e", func := "junto/juntolaw04.ShareOnly", spec := "shareOnly", unfollowed := true, recurses := true, apart := false, narrowed := true }
def ShareOnlyUptoSaid : Prop := shareOnlyUptoRow.holds Try.pinned (OpenSpec.upto shareOnlySpec)

/-- 'juntolaw04.ShareThere', WHERE WHAT IT READS IS OF BULK AT MOST 1048576: true; the input reads as it did. -/
def shareThereUptoRow : OpenClaim := { program := "ytgoognipljknjaa", sum := "7cf2a144db0d0c022d4a142c825fb3328b1058d4cd3a01687c6185f68b67d74e", func := "junto/juntolaw04.ShareThere", spec := "shareThere", unfollowed := true, recurses := true, apart := false, narrowed := true }
def ShareThereUptoSaid : Prop := shareThereUptoRow.holds Try.pinned (OpenSpec.upto shareThereSpec)

end Rows
end Go.Proofs.Ytgoognipljknjaa
