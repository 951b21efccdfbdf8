/-
  No cell of these rows narrows 'for every input' (looked for: loops, veiled, ifaces, maps, wideKeys, modest, calm, conditions, laid).
  DERIVED. THE GIVEN ROWS OF THIS SEAT. 9 by the template 'for every input the law returns true; each argument reads behind the call as it read before'; 0 by the template 'total and deterministic' (their statements: YtfgfapbhgehfiaaTotals.lean).
  GIVEN WITH THE SEED: the statements are not yours to turn. If you find one false, say at which input.
  Laid BY PROGRAM, IN A SANDBOX (cutbox-rows.mjs): the forced cells as the released guide's own fill.sh prints them over the translation 02d625b69bf480dd… (all of the seat's roots in one cut). By AI agents, Wed Nov 11 2026. No macro, syntax, notation, axiom, sorry.
-/
import Derived.Test.YtfgfapbhgehfiaaChecked
import GoSem.Claim
import GoSem.ClaimJoined
import GoSem.ClaimMapViews
import Derived.JoinedTies
import Derived.KernelRfl
namespace Go.Proofs.Ytfgfapbhgehfiaa
/- THE CELL 'sum', in the pinned program and in every row, IS THE sha256 OF THE DUMP (.gsa) THAT YtfgfapbhgehfiaaProg.lean LOADS. Nothing in Lean hashes anything: it is a label: what it is worth is what the hold of that sum in a sandbox is worth. -/
noncomputable def Try.pinned : Pinned := { name := "ytfgfapbhgehfiaa", sum := "02d625b69bf480dd00dce6a96d893187d7a7594035cf2950177e740f27e26afc", checked := Try.checked }
namespace Rows
def none {H : Type} : Left H := { results := [], args := [] }

/-- 'juntolaw05.DecodeChecks': WHATEVER THE INPUT: true; the input reads as it did. -/
def decodeChecksSpec : ChangeSpec := { name := "decodeChecks", fn := fun _ => fun
  | [d1, d2, d3] => { results := [.lit (.bool true)], args := [d1, d2, d3] }
  | _ => none }
def decodeChecksRow : OpenClaim := { program := "ytfgfapbhgehfiaa", sum := "02d625b69bf480dd00dce6a96d893187d7a7594035cf2950177e740f27e26afc", func := "junto/juntolaw05.DecodeChecks", spec := "decodeChecks", unfollowed := true, recurses := true, apart := false }
def DecodeChecksSaid : Prop := decodeChecksRow.holds Try.pinned (OpenSpec.ofChange decodeChecksSpec)

/-- ITS FALSE NEIGHBOUR: 'it returns false'. Refute it at one input. -/
def decodeChecksWrong : ChangeSpec := { name := "decodeChecks", fn := fun _ => fun
  | [d1, d2, d3] => { results := [.lit (.bool false)], args := [d1, d2, d3] }
  | _ => none }
def DecodeChecksWrongFalsely : Prop := decodeChecksRow.holds Try.pinned (OpenSpec.ofChange decodeChecksWrong)

/-- 'juntolaw05.DecodeMost': WHATEVER THE INPUT: true; the input reads as it did. -/
def decodeMostSpec : ChangeSpec := { name := "decodeMost", fn := fun _ => fun
  | [d1, d2] => { results := [.lit (.bool true)], args := [d1, d2] }
  | _ => none }
def decodeMostRow : OpenClaim := { program := "ytfgfapbhgehfiaa", sum := "02d625b69bf480dd00dce6a96d893187d7a7594035cf2950177e740f27e26afc", func := "junto/juntolaw05.DecodeMost", spec := "decodeMost", unfollowed := true, recurses := true, apart := false }
def DecodeMostSaid : Prop := decodeMostRow.holds Try.pinned (OpenSpec.ofChange decodeMostSpec)

/-- ITS FALSE NEIGHBOUR: 'it returns false'. Refute it at one input. -/
def decodeMostWrong : ChangeSpec := { name := "decodeMost", fn := fun _ => fun
  | [d1, d2] => { results := [.lit (.bool false)], args := [d1, d2] }
  | _ => none }
def DecodeMostWrongFalsely : Prop := decodeMostRow.holds Try.pinned (OpenSpec.ofChange decodeMostWrong)

/-- 'juntolaw05.DecodeDecodes': WHATEVER THE INPUT: true; the input reads as it did. -/
def decodeDecodesSpec : ChangeSpec := { name := "decodeDecodes", fn := fun _ => fun
  | [d1, d2, d3] => { results := [.lit (.bool true)], args := [d1, d2, d3] }
  | _ => none }
def decodeDecodesRow : OpenClaim := { program := "ytfgfapbhgehfiaa", sum := "02d625b69bf480dd00dce6a96d893187d7a7594035cf2950177e740f27e26afc", func := "junto/juntolaw05.DecodeDecodes", spec := "decodeDecodes", unfollowed := true, recurses := true, apart := false }
def DecodeDecodesSaid : Prop := decodeDecodesRow.holds Try.pinned (OpenSpec.ofChange decodeDecodesSpec)

/-- ITS FALSE NEIGHBOUR: 'it returns false'. Refute it at one input. -/
def decodeDecodesWrong : ChangeSpec := { name := "decodeDecodes", fn := fun _ => fun
  | [d1, d2, d3] => { results := [.lit (.bool false)], args := [d1, d2, d3] }
  | _ => none }
def DecodeDecodesWrongFalsely : Prop := decodeDecodesRow.holds Try.pinned (OpenSpec.ofChange decodeDecodesWrong)

/-- 'juntolaw05.DecodeBest': WHATEVER THE INPUT: true; the input reads as it did. -/
def decodeBestSpec : ChangeSpec := { name := "decodeBest", fn := fun _ => fun
  | [d1, d2, d3] => { results := [.lit (.bool true)], args := [d1, d2, d3] }
  | _ => none }
def decodeBestRow : OpenClaim := { program := "ytfgfapbhgehfiaa", sum := "02d625b69bf480dd00dce6a96d893187d7a7594035cf2950177e740f27e26afc", func := "junto/juntolaw05.DecodeBest", spec := "decodeBest", unfollowed := true, recurses := true, apart := false }
def DecodeBestSaid : Prop := decodeBestRow.holds Try.pinned (OpenSpec.ofChange decodeBestSpec)

/-- ITS FALSE NEIGHBOUR: 'it returns false'. Refute it at one input. -/
def decodeBestWrong : ChangeSpec := { name := "decodeBest", fn := fun _ => fun
  | [d1, d2, d3] => { results := [.lit (.bool false)], args := [d1, d2, d3] }
  | _ => none }
def DecodeBestWrongFalsely : Prop := decodeBestRow.holds Try.pinned (OpenSpec.ofChange decodeBestWrong)

/-- 'juntolaw05.DecodeGaps': WHATEVER THE INPUT: true; the input reads as it did. -/
def decodeGapsSpec : ChangeSpec := { name := "decodeGaps", fn := fun _ => fun
  | [d1, d2, d3] => { results := [.lit (.bool true)], args := [d1, d2, d3] }
  | _ => none }
def decodeGapsRow : OpenClaim := { program := "ytfgfapbhgehfiaa", sum := "02d625b69bf480dd00dce6a96d893187d7a7594035cf2950177e740f27e26afc", func := "junto/juntolaw05.DecodeGaps", spec := "decodeGaps", unfollowed := true, recurses := true, apart := false }
def DecodeGapsSaid : Prop := decodeGapsRow.holds Try.pinned (OpenSpec.ofChange decodeGapsSpec)

/-- ITS FALSE NEIGHBOUR: 'it returns false'. Refute it at one input. -/
def decodeGapsWrong : ChangeSpec := { name := "decodeGaps", fn := fun _ => fun
  | [d1, d2, d3] => { results := [.lit (.bool false)], args := [d1, d2, d3] }
  | _ => none }
def DecodeGapsWrongFalsely : Prop := decodeGapsRow.holds Try.pinned (OpenSpec.ofChange decodeGapsWrong)

/-- 'juntolaw05.DecodeSearched': WHATEVER THE INPUT: true; the input reads as it did. -/
def decodeSearchedSpec : ChangeSpec := { name := "decodeSearched", fn := fun _ => fun
  | [d1, d2, d3] => { results := [.lit (.bool true)], args := [d1, d2, d3] }
  | _ => none }
def decodeSearchedRow : OpenClaim := { program := "ytfgfapbhgehfiaa", sum := "02d625b69bf480dd00dce6a96d893187d7a7594035cf2950177e740f27e26afc", func := "junto/juntolaw05.DecodeSearched", spec := "decodeSearched", unfollowed := true, recurses := true, apart := false }
def DecodeSearchedSaid : Prop := decodeSearchedRow.holds Try.pinned (OpenSpec.ofChange decodeSearchedSpec)

/-- ITS FALSE NEIGHBOUR: 'it returns false'. Refute it at one input. -/
def decodeSearchedWrong : ChangeSpec := { name := "decodeSearched", fn := fun _ => fun
  | [d1, d2, d3] => { results := [.lit (.bool false)], args := [d1, d2, d3] }
  | _ => none }
def DecodeSearchedWrongFalsely : Prop := decodeSearchedRow.holds Try.pinned (OpenSpec.ofChange decodeSearchedWrong)

/-- 'juntolaw05.DecodeOne': WHATEVER THE INPUT: true; the input reads as it did. -/
def decodeOneSpec : ChangeSpec := { name := "decodeOne", fn := fun _ => fun
  | [d1, d2, d3] => { results := [.lit (.bool true)], args := [d1, d2, d3] }
  | _ => none }
def decodeOneRow : OpenClaim := { program := "ytfgfapbhgehfiaa", sum := "02d625b69bf480dd00dce6a96d893187d7a7594035cf2950177e740f27e26afc", func := "junto/juntolaw05.DecodeOne", spec := "decodeOne", unfollowed := true, recurses := true, apart := false }
def DecodeOneSaid : Prop := decodeOneRow.holds Try.pinned (OpenSpec.ofChange decodeOneSpec)

/-- ITS FALSE NEIGHBOUR: 'it returns false'. Refute it at one input. -/
def decodeOneWrong : ChangeSpec := { name := "decodeOne", fn := fun _ => fun
  | [d1, d2, d3] => { results := [.lit (.bool false)], args := [d1, d2, d3] }
  | _ => none }
def DecodeOneWrongFalsely : Prop := decodeOneRow.holds Try.pinned (OpenSpec.ofChange decodeOneWrong)

/-- 'juntolaw05.DecodeRight': WHATEVER THE INPUT: true; the input reads as it did. -/
def decodeRightSpec : ChangeSpec := { name := "decodeRight", fn := fun _ => fun
  | [d1, d2, d3] => { results := [.lit (.bool true)], args := [d1, d2, d3] }
  | _ => none }
def decodeRightRow : OpenClaim := { program := "ytfgfapbhgehfiaa", sum := "02d625b69bf480dd00dce6a96d893187d7a7594035cf2950177e740f27e26afc", func := "junto/juntolaw05.DecodeRight", spec := "decodeRight", unfollowed := true, recurses := true, apart := false }
def DecodeRightSaid : Prop := decodeRightRow.holds Try.pinned (OpenSpec.ofChange decodeRightSpec)

/-- ITS FALSE NEIGHBOUR: 'it returns false'. Refute it at one input. -/
def decodeRightWrong : ChangeSpec := { name := "decodeRight", fn := fun _ => fun
  | [d1, d2, d3] => { results := [.lit (.bool false)], args := [d1, d2, d3] }
  | _ => none }
def DecodeRightWrongFalsely : Prop := decodeRightRow.holds Try.pinned (OpenSpec.ofChange decodeRightWrong)

/-- 'juntolaw05.DecodeTold': WHATEVER THE INPUT: true; the input reads as it did. -/
def decodeToldSpec : ChangeSpec := { name := "decodeTold", fn := fun _ => fun
  | [d1, d2, d3] => { results := [.lit (.bool true)], args := [d1, d2, d3] }
  | _ => none }
def decodeToldRow : OpenClaim := { program := "ytfgfapbhgehfiaa", sum := "02d625b69bf480dd00dce6a96d893187d7a7594035cf2950177e740f27e26afc", func := "junto/juntolaw05.DecodeTold", spec := "decodeTold", unfollowed := true, recurses := true, apart := false }
def DecodeToldSaid : Prop := decodeToldRow.holds Try.pinned (OpenSpec.ofChange decodeToldSpec)

/-- ITS FALSE NEIGHBOUR: 'it returns false'. Refute it at one input. -/
def decodeToldWrong : ChangeSpec := { name := "decodeTold", fn := fun _ => fun
  | [d1, d2, d3] => { results := [.lit (.bool false)], args := [d1, d2, d3] }
  | _ => none }
def DecodeToldWrongFalsely : Prop := decodeToldRow.holds Try.pinned (OpenSpec.ofChange decodeToldWrong)

/- THE SECOND FORM. 'bulk': how many values and letters a reading holds, each counted each time it is reached (what is shared counts as often as it is met; a slice's spare places count too). A statement '..UptoSaid' is the law's where the arguments, and the package variables that the reading takes, are together of bulk at most 1048576: NARROWER than '..Said'. Prove '..Said' where nothing that the law and all that it calls make is longer than what came in: it says more and counts as full. Else prove '..UptoSaid'. A law counts once. -/
mutual
def uptoBulk {H : Type} : DataW H → Nat
  | .lit (.string bytes) => bytes.length + 1
  | .lit _ => 1
  | .nil => 1
  | .ptr d => uptoBulk d + 1
  | .slice elems spare => uptoBulkAll elems + uptoBulkAll spare + 1
  | .agg parts => uptoBulkAll parts + 1
  | .iface _ d => uptoBulk d + 1
  | .map entries => uptoBulkEntries entries + 1
  | .held _ => 1
def uptoBulkAll {H : Type} : List (DataW H) → Nat
  | [] => 0
  | d :: r => uptoBulk d + uptoBulkAll r
def uptoBulkEntries {H : Type} : List (Lit × DataW H) → Nat
  | [] => 0
  | x :: r => uptoBulkEntry x + uptoBulkEntries r
def uptoBulkEntry {H : Type} : Lit × DataW H → Nat
  | (.string bytes, d) => bytes.length + uptoBulk d + 1
  | (_, d) => uptoBulk d + 1
 end
def uptoSmall : (H : Type) → List (DataW H) → Bool := fun _ ds => decide (uptoBulkAll ds ≤ 1048576)
def OpenSpec.upto (s : _root_.Go.ChangeSpec) : _root_.Go.OpenSpec := { _root_.Go.OpenSpec.ofChange s with cond := some uptoSmall }

/-- 'juntolaw05.DecodeChecks', WHERE WHAT IT READS IS OF BULK AT MOST 1048576: true; the input reads as it did. -/
def decodeChecksUptoRow : OpenClaim := { program := "ytfgfapbhgehfiaa", sum := "02d625b69bf480dd00dce6a96d893187d7a7594035cf2950177e740f27e26afc", func := "junto/juntolaw05.DecodeChecks", spec := "decodeChecks", unfollowed := true, recurses := true, apart := false, narrowed := true }
def DecodeChecksUptoSaid : Prop := decodeChecksUptoRow.holds Try.pinned (OpenSpec.upto decodeChecksSpec)

/-- 'juntolaw05.DecodeMost', WHERE WHAT IT READS IS OF BULK AT MOST 1048576: true; the input reads as it did. -/
def decodeMostUptoRow : OpenClaim := { program := "ytfgfapbhgehfiaa", sum := "02d625b69bf480dd00dce6a96d893187d7a7594035cf2950177e740f27e26afc", func := "junto/juntolaw05.DecodeMost", spec := "decodeMost", unfollowed := true, recurses := true, apart := false, narrowed := true }
def DecodeMostUptoSaid : Prop := decodeMostUptoRow.holds Try.pinned (OpenSpec.upto decodeMostSpec)

/-- 'juntolaw05.DecodeDecodes', WHERE WHAT IT READS IS OF BULK AT MOST 1048576: true; the input reads as it did. -/
def decodeDecodesUptoRow : OpenClaim := { program := "ytfgfapbhgehfiaa", sum := "02d625b69bf480dd00dce6a96d893187d7a7594035cf2950177e740f27e26afc", func := "junto/juntolaw05.DecodeDecodes", spec := "decodeDecodes", unfollowed := true, recurses := true, apart := false, narrowed := true }
def DecodeDecodesUptoSaid : Prop := decodeDecodesUptoRow.holds Try.pinned (OpenSpec.upto decodeDecodesSpec)

/-- 'juntolaw05.DecodeBest', WHERE WHAT IT READS IS OF BULK AT MOST 1048576: true; the input reads as it did. -/
def decodeBestUptoRow : OpenClaim := { program := "ytfgfapbhgehfiaa", sum := "02d625b69bf480dd00dce6a96d893187d7a7594035cf2950177e740f27e26afc", func := "junto/juntolaw05.DecodeBest", spec := "decodeBest", unfollowed := true, recurses := true, apart := false, narrowed := true }
def DecodeBestUptoSaid : Prop := decodeBestUptoRow.holds Try.pinned (OpenSpec.upto decodeBestSpec)

/-- 'juntolaw05.DecodeGaps', WHERE WHAT IT READS IS OF BULK AT MOST 1048576: true; the input reads as it did. -/
def decodeGapsUptoRow : OpenClaim := { program := "ytfgfapbhgehfiaa", sum := "02d625b69bf480dd00dce6a96d893187d7a7594035cf2950177e740f27e26afc", func := "junto/juntolaw05.DecodeGaps", spec := "decodeGaps", unfollowed := true, recurses := true, apart := false, narrowed := true }
def DecodeGapsUptoSaid : Prop := decodeGapsUptoRow.holds Try.pinned (OpenSpec.upto decodeGapsSpec)

/-- 'juntolaw05.DecodeSearched', WHERE WHAT IT READS IS OF BULK AT MOST 1048576: true; the input reads as it did. -/
def decodeSearchedUptoRow : OpenClaim := { program := "ytfgfapbhgehfiaa", sum := "02d625b69bf480dd00dce6a96d893187d7a7594035cf2950177e740f27e26afc", func := "junto/juntolaw05.DecodeSearched", spec := "decodeSearched", unfollowed := true, recurses := true, apart := false, narrowed := true }
def DecodeSearchedUptoSaid : Prop := decodeSearchedUptoRow.holds Try.pinned (OpenSpec.upto decodeSearchedSpec)

/-- 'juntolaw05.DecodeOne', WHERE WHAT IT READS IS OF BULK AT MOST 1048576: true; the input reads as it did. -/
def decodeOneUptoRow : OpenClaim := { program := "ytfgfapbhgehfiaa", sum := "02d625b69bf480dd00dce6a96d893187d7a7594035cf2950177e740f27e26afc", func := "junto/juntolaw05.DecodeOne", spec := "decodeOne", unfollowed := true, recurses := true, apart := false, narrowed := true }
def DecodeOneUptoSaid : Prop := decodeOneUptoRow.holds Try.pinned (OpenSpec.upto decodeOneSpec)

/-- 'juntolaw05.DecodeRight', WHERE WHAT IT READS IS OF BULK AT MOST 1048576: true; the input reads as it did. -/
def decodeRightUptoRow : OpenClaim := { program := "ytfgfapbhgehfiaa", sum := "02d625b69bf480dd00dce6a96d893187d7a7594035cf2950177e740f27e26afc", func := "junto/juntolaw05.DecodeRight", spec := "decodeRight", unfollowed := true, recurses := true, apart := false, narrowed := true }
def DecodeRightUptoSaid : Prop := decodeRightUptoRow.holds Try.pinned (OpenSpec.upto decodeRightSpec)

/-- 'juntolaw05.DecodeTold', WHERE WHAT IT READS IS OF BULK AT MOST 1048576: true; the input reads as it did. -/
def decodeToldUptoRow : OpenClaim := { program := "ytfgfapbhgehfiaa", sum := "02d625b69bf480dd00dce6a96d893187d7a7594035cf2950177e740f27e26afc", func := "junto/juntolaw05.DecodeTold", spec := "decodeTold", unfollowed := true, recurses := true, apart := false, narrowed := true }
def DecodeToldUptoSaid : Prop := decodeToldUptoRow.holds Try.pinned (OpenSpec.upto decodeToldSpec)

end Rows
end Go.Proofs.Ytfgfapbhgehfiaa
