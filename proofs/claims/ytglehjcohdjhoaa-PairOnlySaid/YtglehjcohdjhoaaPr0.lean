/-
  Pairs: what a value reads as; the errors of a matrix that must be symmetric.
-/
import Derived.Test.YtglehjcohdjhoaaXA
import Derived.Test.YtglehjcohdjhoaaPcM
import Derived.BigQuiet
namespace Go.Proofs.Ytglehjcohdjhoaa
open Go.RowKit
set_option linter.unusedVariables false
set_option maxRecDepth 100000

theorem mat_view6 {w : World} {v : Value} {m : List (List Nat)} (h : Mat w v m) : ∃ A cap, v = .slice A m.length cap ∧ m.length ≤ cap ∧ m.length ≤ 17592186043904 ∧
    (0 < m.length → ∃ b off, A = some ⟨b, off, none⟩ ∧ b < w.heap.size ∧ ∀ i, i < m.length → ∃ Au cu, w.cell? ⟨b, off + i, none⟩ = some (.slice Au (m.getD i []).length cu) ∧ Nums w (.slice Au (m.getD i []).length cu) (m.getD i [])) := by
  obtain ⟨h1, A, cap, h2, h3, h4⟩ := h
  refine ⟨A, cap, h2, h3, h1, fun h0 => ?_⟩
  obtain ⟨b, off, e, hb, hc⟩ := h4 h0
  refine ⟨b, off, e, hb, fun i hi => ?_⟩
  obtain ⟨u, hu, hn⟩ := hc i hi
  obtain ⟨Au, cu, rfl, _⟩ := nums_view hn
  exact ⟨Au, cu, hu, hn⟩
theorem below_drewN {B : Nat} {a w : World} (h : Below B a w) (n : Nat) : Below B a (w.drewN n) := ⟨h.os, h.tape, h.output, h.size, h.block⟩
/-- one row of it, cell by cell -/
theorem mat_row {w : World} {A : Option Addr} {n cap : Nat} {m : List (List Nat)} (h : Mat w (.slice A n cap) m) : n = m.length ∧ (0 < m.length → ∃ b off, A = some ⟨b, off, none⟩ ∧ b < w.heap.size ∧
    ∀ i, i < m.length → ∃ Au cu, w.cell? ⟨b, off + i, none⟩ = some (.slice Au (m.getD i []).length cu) ∧ Nums w (.slice Au (m.getD i []).length cu) (m.getD i []) ∧
      (0 < (m.getD i []).length → ∃ g o, Au = some ⟨g, o, none⟩ ∧ g < w.heap.size ∧ ∀ k, k < (m.getD i []).length → w.cell? ⟨g, o + k, none⟩ = some (.int .u64 (M.el m i k : Nat)))) := by
  obtain ⟨A', cap', e, hc, hl, h4⟩ := mat_view6 h
  simp only [Value.slice.injEq] at e
  obtain ⟨rfl, rfl, rfl⟩ := e
  refine ⟨rfl, fun h0 => ?_⟩
  obtain ⟨b, off, e, hb, h5⟩ := h4 h0
  refine ⟨b, off, e, hb, fun i hi => ?_⟩
  obtain ⟨Au, cu, h6, h7⟩ := h5 i hi
  refine ⟨Au, cu, h6, h7, fun h8 => ?_⟩
  obtain ⟨A2, c2, e2, _, _, h9⟩ := nums_view h7
  simp only [Value.slice.injEq] at e2
  obtain ⟨rfl, _, _⟩ := e2
  exact h9 h8

namespace M
def symB (n : Nat) (m : List (List Nat)) : Bool := (List.range n).all fun i => (List.range n).all fun k => el m i k == el m k i
/-- the error of a matrix of n rows of n numbers that must be symmetric -/
def pform (p n : Nat) (m : List (List Nat)) : Int := if m.length ≠ n then 4 else if m.all (fun r => r.length == n) = false then 4 else if m.all (within p) = false then 2 else if symB n m = false then 4 else 0
theorem getD_of_mem {m : List (List Nat)} {r : List Nat} (h : r ∈ m) : ∃ i, i < m.length ∧ m.getD i [] = r := by
  obtain ⟨i, hi, rfl⟩ := List.getElem_of_mem h
  exact ⟨i, hi, by simp [List.getD_eq_getElem?_getD, hi]⟩
theorem mem_of_getD {m : List (List Nat)} {i : Nat} (h : i < m.length) : m.getD i [] ∈ m := by
  rw [List.getD_eq_getElem?_getD, List.getElem?_eq_getElem h]
  exact List.getElem_mem h
theorem all_rows {m : List (List Nat)} {f : List Nat → Bool} : m.all f = true ↔ ∀ i, i < m.length → f (m.getD i []) = true := by
  rw [List.all_eq_true]
  refine ⟨fun h i hi => h _ (mem_of_getD hi), fun h r hr => ?_⟩
  obtain ⟨i, hi, rfl⟩ := getD_of_mem hr
  exact h i hi
theorem all_rows_no {m : List (List Nat)} {f : List Nat → Bool} {i : Nat} (hi : i < m.length) (h : f (m.getD i []) = false) : m.all f = false := by
  cases e : m.all f with
  | false => rfl
  | true => rw [all_rows.1 e i hi] at h; cases h
theorem symB_iff {n : Nat} {m : List (List Nat)} : symB n m = true ↔ SymF n (el m) := by
  unfold symB SymF
  simp only [List.all_eq_true, List.mem_range, beq_iff_eq]
  exact ⟨fun h i k hi hk => h i hi k hk, fun h i hi k hk => h i k hi hk⟩
theorem symB_no {n : Nat} {m : List (List Nat)} {i k : Nat} (hi : i < n) (hk : k < n) (h : el m i k ≠ el m k i) : symB n m = false := by
  cases e : symB n m with
  | false => rfl
  | true => exact absurd (symB_iff.1 e i k hi hk) h
/-- m is a pair for p and t, n = t + 1 -/
structure POk (p n : Nat) (m : List (List Nat)) : Prop where
  len : m.length = n
  rows : ∀ i, i < n → (m.getD i []).length = n
  lt : ∀ i, i < n → within p (m.getD i []) = true
  sym : SymF n (el m)
theorem pform_len {p n : Nat} {m : List (List Nat)} (h : m.length ≠ n) : pform p n m = 4 := by unfold pform; rw [if_pos h]
theorem pform_rows {p n : Nat} {m : List (List Nat)} (h : m.length = n) {i : Nat} (hi : i < m.length) (hr : (m.getD i []).length ≠ n) : pform p n m = 4 := by
  unfold pform
  rw [if_neg (by simp [h]), if_pos (all_rows_no hi (by simpa using hr))]
theorem pform_lt {p n : Nat} {m : List (List Nat)} (h : m.length = n) (hr : ∀ i, i < m.length → (m.getD i []).length = n) {i : Nat} (hi : i < m.length) (hw : within p (m.getD i []) = false) : pform p n m = 2 := by
  unfold pform
  rw [if_neg (by simp [h]), if_neg (by rw [all_rows.2 fun i hi => by simpa using hr i hi]; simp), if_pos (all_rows_no hi hw)]
theorem pform_sym {p n : Nat} {m : List (List Nat)} (h : m.length = n) (hr : ∀ i, i < m.length → (m.getD i []).length = n) (hw : ∀ i, i < m.length → within p (m.getD i []) = true) {i k : Nat} (hi : i < n) (hk : k < n) (hs : el m i k ≠ el m k i) : pform p n m = 4 := by
  unfold pform
  rw [if_neg (by simp [h]), if_neg (by rw [all_rows.2 fun i hi => by simpa using hr i hi]; simp), if_neg (by rw [all_rows.2 hw]; simp), if_pos (symB_no hi hk hs)]
theorem pform_ok {p n : Nat} {m : List (List Nat)} (h : POk p n m) : pform p n m = 0 := by
  unfold pform
  rw [if_neg (by simp [h.len]), if_neg (by rw [all_rows.2 fun i hi => by simpa using h.rows i (by rw [← h.len]; exact hi)]; simp), if_neg (by rw [all_rows.2 fun i hi => h.lt i (by rw [← h.len]; exact hi)]; simp), if_neg (by rw [symB_iff.2 h.sym]; simp)]
theorem pform_zero {p n : Nat} {m : List (List Nat)} (h : pform p n m = 0) : POk p n m := by
  unfold pform at h
  split at h
  · cases h
  · rename_i h1
    have h1 : m.length = n := by simpa using h1
    split at h
    · cases h
    · rename_i h2
      split at h
      · cases h
      · rename_i h3
        split at h
        · cases h
        · rename_i h4
          simp only [Bool.not_eq_false] at h2 h3 h4
          exact ⟨h1, fun i hi => by simpa using all_rows.1 h2 i (by omega), fun i hi => all_rows.1 h3 i (by omega), symB_iff.1 h4⟩
theorem POk.el_lt {p n : Nat} {m : List (List Nat)} (h : POk p n m) {i k : Nat} (hi : i < n) (hk : k < n) : el m i k < p := within_mem (h.lt i hi) (by rw [h.rows i hi]; exact hk)
theorem POk.rows' {p n : Nat} {m : List (List Nat)} (h : POk p n m) : m = tabMM n n (el m) := by
  apply List.ext_getElem
  · rw [tabMM_len, h.len]
  · intro i h1 h2
    have hi : i < n := by rw [← h.len]; exact h1
    have e1 : m[i] = m.getD i [] := by simp [List.getD_eq_getElem?_getD, h1]
    have e2 : (tabMM n n (el m))[i] = (tabMM n n (el m)).getD i [] := by simp [List.getD_eq_getElem?_getD, h2]
    rw [e1, e2, tabMM_at _ _ hi]
    refine (tabM_of (h.rows i hi)).symm
theorem POk.tab {p n : Nat} {F : Nat → Nat → Nat} (hs : SymF n F) (hl : ∀ i k, i < n → k < n → F i k < p) : POk p n (tabMM n n F) where
  len := tabMM_len _ _ _
  rows i hi := by rw [tabMM_at _ _ hi, tabM_len]
  lt i hi := by rw [tabMM_at _ _ hi]; exact within_tabM fun j hj => hl i j hi hj
  sym i k hi hk := by rw [tabMM_el F hi hk, tabMM_el F hk hi]; exact hs i k hi hk
end M
end Go.Proofs.Ytglehjcohdjhoaa
