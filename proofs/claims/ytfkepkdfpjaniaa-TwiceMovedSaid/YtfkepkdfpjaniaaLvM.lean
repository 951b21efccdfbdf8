/-
  A matrix whose rows are handed from elsewhere, under construction.
-/
import Derived.Test.YtfkepkdfpjaniaaP7b
namespace Go.Proofs.Ytfkepkdfpjaniaa
open Go.RowKit
set_option linter.unusedVariables false
set_option maxRecDepth 100000

theorem nums_set_other {w : World} {v : Value} {zs : List Nat} {B k : Nat} {u : Value} {cs : Array Value} {t : TypeId} {fr : Nat × Nat} (h : Nums w v zs) (hB : w.heap[B]? = some (.cells cs t fr)) (hc : ∀ (j : Nat) (x : Nat), cs[j]? ≠ some (.int .u64 x)) : Nums (w.setCell ⟨B, k, none⟩ u) v zs := by
  obtain ⟨h1, h2, h3⟩ := h
  refine ⟨h1, h2, ?_⟩
  rcases h3 with h3 | ⟨b, off, cap, e, hcap, hl, hcell⟩
  · exact .inl h3
  · by_cases h0 : zs.length = 0
    · rw [h0] at hcell e
      by_cases hbB : b = B
      · exact .inr ⟨b, off, cap, by rw [h0]; exact e, hcap, by simpa using hl, fun i hi => absurd hi (by omega)⟩
      · exact .inr ⟨b, off, cap, by rw [h0]; exact e, hcap, by simpa using hl, fun i hi => absurd hi (by omega)⟩
    · have hbB : b ≠ B := by
        rintro rfl
        have h4 := hcell 0 (by omega)
        rw [cell_of_row w b _ cs t fr hB] at h4
        exact hc _ _ h4
      exact .inr ⟨b, off, cap, e, hcap, by simpa using hl, fun i hi => by
        have hh := Below.heap_setCell w ⟨B, k, none⟩ u b hbB
        have h4 := hcell i hi
        unfold World.cell? at h4 ⊢
        rw [hh]
        exact h4⟩
/-- k of n rows are laid; each reads as Q says -/
structure LayV (w : World) (B n k : Nat) (Q : Nat → List Nat) : Prop where
  top : ∃ cs, w.heap[B]? = some (.cells cs 31 (0, 0)) ∧ cs.size = n ∧ (∀ i, i < k → ∃ A l c, cs[i]? = some (.slice A l c) ∧ Nums w (.slice A l c) (Q i)) ∧ ∀ i, k ≤ i → i < n → cs[i]? = some (.slice none 0 0)
section
variable {w w' : World} {B n k : Nat} {Q : Nat → List Nat}
theorem LayV.lt (h : LayV w B n k Q) : B < w.heap.size := by obtain ⟨cs, h1, _⟩ := h.top; exact lt_of_block h1
theorem LayV.free (h : LayV w B n k Q) (j : Nat) : w.frozen? ⟨B, j, none⟩ = false := by obtain ⟨cs, h1, _⟩ := h.top; exact frozen_of_row w B j cs _ h1
theorem LayV.cell (h : LayV w B n k Q) (hk : k < n) : w.cell? ⟨B, k, none⟩ = some (.slice none 0 0) := by
  obtain ⟨cs, h1, _, _, h4⟩ := h.top; rw [cell_of_row w B k cs _ (0, 0) h1]; exact h4 k (Nat.le_refl _) hk
theorem LayV.below (h : LayV w B n k Q) (hb : Below w.heap.size w w') : LayV w' B n k Q := by
  obtain ⟨cs, h1, h2, h3, h4⟩ := h.top
  exact ⟨cs, (hb.block B (lt_of_block h1)).trans h1, h2, fun i hi => by obtain ⟨A, l, c, e, hn⟩ := h3 i hi; exact ⟨A, l, c, e, hn.below hb⟩, h4⟩
theorem LayV.push (h : LayV w B n k Q) (hk : k < n) {A : Option Addr} {l c : Nat} (hu : Nums w (.slice A l c) (Q k)) : LayV (w.setCell ⟨B, k, none⟩ (.slice A l c)) B n (k + 1) Q := by
  obtain ⟨cs, h1, h2, h3, h4⟩ := h.top
  have hc : ∀ (j x : Nat), cs[j]? ≠ some (.int .u64 x) := by
    intro j x e
    by_cases hj : j < k
    · obtain ⟨A', l', c', e', _⟩ := h3 j hj
      rw [e'] at e; cases e
    · have hjn : j < n := by
        rw [← h2]
        exact (Array.getElem?_eq_some_iff.1 e).1
      rw [h4 j (by omega) hjn] at e; cases e
  refine ⟨_, heap_setCell_same w B k cs _ _ h1, by simpa using h2, fun i hi => ?_, fun i hi hin => ?_⟩
  · by_cases e : i = k
    · subst e
      exact ⟨A, l, c, by rw [Array.getElem?_setIfInBounds_self_of_lt (by omega)], nums_set_other hu h1 hc⟩
    · obtain ⟨A', l', c', e', hn⟩ := h3 i (by omega)
      exact ⟨A', l', c', by rw [Array.getElem?_setIfInBounds_ne (Ne.symm e), e'], nums_set_other hn h1 hc⟩
  · rw [Array.getElem?_setIfInBounds_ne (by omega), h4 i (by omega) hin]
theorem LayV.mat (h : LayV w B n n Q) (hn : n ≤ 1000) : Mat w (.slice (some ⟨B, 0, none⟩) n n) ((List.range n).map Q) := by
  obtain ⟨cs, h1, h2, h3, h4⟩ := h.top
  refine ⟨by simp; omega, some ⟨B, 0, none⟩, n, by simp, by simp, fun h0 => ⟨B, 0, rfl, lt_of_block h1, fun i hi => ?_⟩⟩
  have hi' : i < n := by simpa using hi
  obtain ⟨A, l, c, e, hnn⟩ := h3 i hi'
  refine ⟨_, ?_, by simpa [List.getD_eq_getElem?_getD, hi'] using hnn⟩
  rw [cell_of_row w B _ cs _ (0, 0) h1, Nat.zero_add]
  exact e
end
end Go.Proofs.Ytfkepkdfpjaniaa
