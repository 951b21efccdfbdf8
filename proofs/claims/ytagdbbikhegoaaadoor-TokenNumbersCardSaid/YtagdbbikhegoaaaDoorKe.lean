/-
  Tokens: the reference's Skip.
-/
import Derived.Test.YtagdbbikhegoaaaDoorKc
namespace Go.Proofs.YtagdbbikhegoaaaDoor
open Go.RowKit
set_option linter.unusedVariables false
set_option maxRecDepth 100000
namespace M
theorem drop_cons {L : List Nat} {i : Nat} (h : i < L.length) : L.drop i = L.getD i 0 :: L.drop (i + 1) := by
  rw [List.drop_eq_getElem_cons h, List.getD_eq_getElem?_getD, List.getElem?_eq_getElem h]; rfl
theorem skipL_suffix (l : List Nat) : skipL l <:+ l := by
  fun_induction skipL l with
  | case1 => exact List.suffix_refl _
  | case2 c r h ih => exact ih.trans (List.suffix_cons c r)
  | case3 c r h h2 ih => exact (ih.trans (List.dropWhile_suffix _)).trans (List.suffix_cons c r)
  | case4 c r h h2 => exact List.suffix_refl _
/-- the offset behind blanks and comments -/
def skipAt (L : List Nat) (i : Nat) : Nat := L.length - (skipL (L.drop i)).length
theorem drop_skipAt (L : List Nat) (i : Nat) : L.drop (skipAt L i) = skipL (L.drop i) :=
  (List.suffix_iff_eq_drop.1 ((skipL_suffix (L.drop i)).trans (List.drop_suffix i L))).symm
theorem skipAt_le (L : List Nat) (i : Nat) : skipAt L i ≤ L.length := Nat.sub_le _ _
theorem skipAt_ge (L : List Nat) (i : Nat) (h : i ≤ L.length) : i ≤ skipAt L i := by
  have := (skipL_suffix (L.drop i)).length_le
  rw [List.length_drop] at this
  unfold skipAt; omega
theorem skipAt_of {L : List Nat} {i j : Nat} (hj : j ≤ L.length) (h : skipL (L.drop j) = skipL (L.drop i)) (h2 : skipL (L.drop j) = L.drop j) : skipAt L i = j := by
  unfold skipAt
  rw [← h, h2, List.length_drop]; omega
theorem skip_end (L : List Nat) : skipL (L.drop L.length) = L.drop L.length := by rw [List.drop_length, skipL]
theorem skip_blank {L : List Nat} {i : Nat} (h : i < L.length) (hb : blankB (L.getD i 0) = true) : skipL (L.drop (i + 1)) = skipL (L.drop i) := by
  rw [drop_cons h]
  conv => rhs; rw [skipL, if_pos hb]
theorem lineOf {L : List Nat} {i : Nat} (h : i < L.length) (hb : L.getD i 0 ≠ 10) : (L.drop (i + 1)).dropWhile (fun c => c != 10) = (L.drop i).dropWhile (fun c => c != 10) := by
  rw [drop_cons h, List.dropWhile_cons_of_pos (by simpa using hb)]
theorem lineEnd {L : List Nat} {i : Nat} (h : ¬ (i < L.length ∧ L.getD i 0 ≠ 10)) : (L.drop i).dropWhile (fun c => c != 10) = L.drop i := by
  by_cases hi : i < L.length
  · have h10 : L.getD i 0 = 10 := by
      by_cases e : L.getD i 0 = 10
      · exact e
      · exact absurd ⟨hi, e⟩ h
    rw [drop_cons hi, List.dropWhile_cons_of_neg (by rw [h10]; decide)]
  · rw [List.drop_eq_nil_of_le (by omega)]; rfl
theorem skip_comment {L : List Nat} {i j : Nat} (h : i < L.length) (h1 : i + 1 < L.length) (hb : L.getD i 0 = 47) (hc : L.getD (i + 1) 0 = 47) (hl : (L.drop j).dropWhile (fun c => c != 10) = (L.drop i).dropWhile (fun c => c != 10)) (he : (L.drop j).dropWhile (fun c => c != 10) = L.drop j) : skipL (L.drop j) = skipL (L.drop i) := by
  have hn : blankB (L.getD i 0) = false := by rw [hb]; decide
  conv => rhs; rw [drop_cons h, skipL, if_neg (by rw [hn]; decide), if_pos ⟨hb, by rw [drop_cons h1, hc]; rfl⟩, lineOf h (by omega), ← hl, he]
theorem skip_stop {L : List Nat} {i : Nat} (h : i < L.length) (hb : blankB (L.getD i 0) = false) (hc : ¬ (L.getD i 0 = 47 ∧ i + 1 < L.length ∧ L.getD (i + 1) 0 = 47)) : skipL (L.drop i) = L.drop i := by
  rw [drop_cons h, skipL, if_neg (by rw [hb]; decide), if_neg]
  rintro ⟨h1, h2⟩
  by_cases h3 : i + 1 < L.length
  · rw [drop_cons h3] at h2
    exact hc ⟨h1, h3, by simpa using h2⟩
  · rw [List.drop_eq_nil_of_le (by omega)] at h2
    cases h2
end M

end Go.Proofs.YtagdbbikhegoaaaDoor
