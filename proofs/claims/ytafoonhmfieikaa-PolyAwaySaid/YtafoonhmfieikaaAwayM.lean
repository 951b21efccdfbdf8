/-
  Away: one answer, and the law's search for a zero.
-/
import Derived.Test.YtafoonhmfieikaaP10
namespace Go.Proofs.Ytafoonhmfieikaa.M
open Go.RowKit
set_option linter.unusedVariables false

theorem away_one {p : Nat} {xs : List Nat} (hi : isP p = true) (hl : xs.length ≤ 200) (hw : within p xs = true) (hz : NoZ xs) (hn : xs.Nodup) : ∃ F, ∀ f, AwayOf p xs f → f = F := by
  have hw2 : within p (xs ++ [0]) = true := by
    have := pos_of hi
    unfold within at hw ⊢
    rw [List.all_append, hw]
    simp; omega
  by_cases h : ∃ F, AwayOf p xs F
  · obtain ⟨F, hF⟩ := h
    exact ⟨F, fun f hf => Thru.unique hi ((nodup_snoc hz).2 hn) hw2 hf hF⟩
  · exact ⟨[], fun f hf => absurd ⟨f, hf⟩ h⟩
def zc (xs : List Nat) (k : Nat) : Int := if (xs.take k).all (· != 0) then 0 else 7
theorem zc_or (xs : List Nat) (k : Nat) : zc xs k = 0 ∨ zc xs k = 7 := by unfold zc; split; exact .inl rfl; exact .inr rfl
theorem zc_succ {xs : List Nat} {k : Nat} (h : k < xs.length) : (xs.getD k 0 = 0 → zc xs (k + 1) = 7) ∧ (xs.getD k 0 ≠ 0 → zc xs (k + 1) = zc xs k) := by
  have hg : xs.getD k 0 = xs[k] := getD_lt h
  have ht : xs.take (k + 1) = xs.take k ++ [xs[k]] := by rw [List.take_succ_eq_append_getElem h]
  unfold zc
  rw [ht, List.all_append, hg]
  refine ⟨fun h0 => ?_, fun h0 => ?_⟩
  · rw [h0]; simp
  · have : ([xs[k]].all (· != 0)) = true := by simp [h0]
    rw [this, Bool.and_true]
theorem zc_zero {xs : List Nat} (h : ¬ NoZ xs) : zc xs xs.length = 7 := by
  unfold zc
  rw [List.take_length, if_neg]
  intro h2
  apply h
  intro x hx
  have := List.all_eq_true.1 h2 x hx
  simpa using this
end Go.Proofs.Ytafoonhmfieikaa.M
