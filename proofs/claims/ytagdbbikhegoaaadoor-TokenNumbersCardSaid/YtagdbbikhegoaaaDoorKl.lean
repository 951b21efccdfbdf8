/-
  Tokens: slices of tokens; the reference's Same.
-/
import Derived.Test.YtagdbbikhegoaaaDoorKg
import Derived.Deep.RegionHeld3
namespace Go.Proofs.YtagdbbikhegoaaaDoor
open Go.RowKit
set_option linter.unusedVariables false
set_option maxRecDepth 100000

/-- a token of the program: kind, text, offset -/
structure T8 where
  kind : Int
  text : ByteArray
  off : Int
def T8.no : T8 := ⟨0, ByteArray.empty, 0⟩
/-- v reads, in w, as a list of tokens -/
def TokS (w : World) (v : Value) (ts : List T8) : Prop :=
  ts.length ≤ 17592186043904 ∧ ∃ A cap, v = .slice A ts.length cap ∧ ts.length ≤ cap ∧ (0 < ts.length → ∃ b off, A = some ⟨b, off, none⟩ ∧ b < w.heap.size ∧
    ∀ i, i < ts.length → w.cell? ⟨b, off + i * 3, none⟩ = some (.int .i64 (ts.getD i T8.no).kind) ∧ w.cell? ⟨b, off + i * 3 + 1, none⟩ = some (.string (ts.getD i T8.no).text) ∧ w.cell? ⟨b, off + i * 3 + 2, none⟩ = some (.int .i64 (ts.getD i T8.no).off))
theorem TokS.below {w w' : World} {v : Value} {ts : List T8} (h : TokS w v ts) (hb : Below w.heap.size w w') : TokS w' v ts := by
  obtain ⟨h1, A, cap, rfl, h2, h3⟩ := h
  refine ⟨h1, A, cap, rfl, h2, fun h0 => ?_⟩
  obtain ⟨b, off, rfl, hlt, hc⟩ := h3 h0
  exact ⟨b, off, rfl, Nat.lt_of_lt_of_le hlt hb.size, fun i hi => ⟨(hb.cell (p := ⟨b, _, none⟩) hlt).trans (hc i hi).1, (hb.cell (p := ⟨b, _, none⟩) hlt).trans (hc i hi).2.1, (hb.cell (p := ⟨b, _, none⟩) hlt).trans (hc i hi).2.2⟩⟩
end Go.Proofs.YtagdbbikhegoaaaDoor
