/-
  Tokens: the reference's lists of strings.
-/
import Derived.Test.YtagdbbikhegoaaaDoorKc
namespace Go.Proofs.YtagdbbikhegoaaaDoor
open Go.RowKit
set_option linter.unusedVariables false
set_option maxRecDepth 100000

theorem M.str_ne {x s : ByteArray} (h : x ≠ s) : (x.toList == s.toList) = false := by
  rw [beq_eq_false_iff_ne, ByteArray.toList_eq, ByteArray.toList_eq]
  intro e
  obtain ⟨⟨a⟩⟩ := x
  obtain ⟨⟨b⟩⟩ := s
  exact h (by rw [show a = b from e])
/-- v reads, in w, as a list of strings -/
def StrS (w : World) (v : Value) (L : List ByteArray) : Prop :=
  L.length ≤ 1000000 ∧ ∃ A cap, v = .slice A L.length cap ∧ (0 < L.length → ∃ b off, A = some ⟨b, off, none⟩ ∧ ∀ i, i < L.length → w.cell? ⟨b, off + i, none⟩ = some (.string (L.getD i ByteArray.empty)))
/-- the reserved words, in the reference's order -/
def words8 : List ByteArray := [⟨#[105, 110]⟩, ⟨#[102, 114, 111, 109]⟩, ⟨#[108, 101, 116]⟩, ⟨#[105, 102]⟩, ⟨#[101, 108, 115, 101]⟩, ⟨#[102, 111, 114]⟩, ⟨#[116, 111]⟩, ⟨#[111, 117, 116]⟩, ⟨#[97, 108, 108]⟩, ⟨#[100, 101, 102]⟩, ⟨#[114, 101, 116, 117, 114, 110]⟩, ⟨#[110, 117, 109]⟩, ⟨#[98, 105, 116]⟩, ⟨#[119, 111, 114, 100]⟩]
/-- the signs, in the reference's order -/
def signs8 : List ByteArray := [⟨#[61, 61]⟩, ⟨#[40]⟩, ⟨#[41]⟩, ⟨#[91]⟩, ⟨#[93]⟩, ⟨#[123]⟩, ⟨#[125]⟩, ⟨#[44]⟩, ⟨#[58]⟩, ⟨#[59]⟩, ⟨#[61]⟩, ⟨#[60]⟩, ⟨#[43]⟩, ⟨#[45]⟩, ⟨#[42]⟩, ⟨#[38]⟩, ⟨#[124]⟩, ⟨#[94]⟩, ⟨#[33]⟩]
theorem strS_new (w : World) (L : List ByteArray) (t : TypeId) (h : L.length ≤ 1000000) : StrS (w.alloc (.cells (L.map Value.string).toArray t)) (.slice (some ⟨w.heap.size, 0, none⟩) L.length L.length) L :=
  ⟨h, _, _, rfl, fun _ => ⟨_, _, rfl, fun i hi => by simp [hi, List.getD_eq_getElem?_getD]⟩⟩
namespace M
/-- is a text a reserved word? -/
def wordB (l : List Nat) : Bool := decide (l ∈ words8.map bs)
theorem signB_is (l : List Nat) : decide (l ∈ signs8.map bs) = signB l := by
  have e : signs8.map bs = [61, 61] :: [[40], [41], [91], [93], [123], [125], [44], [58], [59], [61], [60], [43], [45], [42], [38], [124], [94], [33]] := by decide
  rw [e, Bool.eq_iff_iff, decide_eq_true_eq]
  unfold signB singles
  match l with
  | [] => simp
  | [c] => simp
  | [c, d] => simp
  | c :: d :: f :: r => simp
end M
end Go.Proofs.YtagdbbikhegoaaaDoor
