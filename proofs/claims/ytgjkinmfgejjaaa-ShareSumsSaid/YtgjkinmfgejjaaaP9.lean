/-
  Package poly: Weights.
-/
import Derived.Test.YtgjkinmfgejjaaaP6
import Derived.Test.YtgjkinmfgejjaaaInvOk
import Derived.RegionTactic
import Derived.ChangeAlike
namespace Go.Proofs.Ytgjkinmfgejjaaa
open Go.RowKit
set_option linter.unusedVariables false

namespace M
def aboveAt (p : Nat) (xs : List Nat) (t i : Nat) : Nat := distK p t xs i xs.length
def belowAt (p : Nat) (xs : List Nat) (i : Nat) : Nat := distK p (xs.getD i 0) xs i xs.length
def weights (p : Nat) (xs : List Nat) (t : Nat) : List Nat := tabM xs.length fun i => aboveAt p xs t i * pw p (belowAt p xs i) (p - 2) % p
theorem below_zero {p : Nat} (hi : isP p = true) {xs : List Nat} (hw : within p xs = true) : (∀ i, i < xs.length → belowAt p xs i ≠ 0) ↔ xs.Nodup := by
  constructor
  · intro h
    apply Diff.nodup
    intro i j hij hj e
    apply h i (by omega)
    unfold belowAt
    rw [distK_zero hi (within_mem hw (by omega)) hw i _ (Nat.le_refl _)]
    exact ⟨j, hj, by omega, e.symm⟩
  · intro hn i hil h0
    unfold belowAt at h0
    rw [distK_zero hi (within_mem hw hil) hw i _ (Nat.le_refl _)] at h0
    obtain ⟨j, h1, h2, h3⟩ := h0
    exact h2 (getD_inj_of_nodup hn h1 hil h3)
theorem tabM_len (n : Nat) (F : Nat → Nat) : (tabM n F).length = n := by simp [tabM]
theorem within_tab {p n : Nat} {F : Nat → Nat} (h : ∀ i, i < n → F i < p) : within p (tabM n F) = true := within_of fun i hi => by
  rw [tabM_len] at hi
  rw [tabM_get, if_pos hi]; exact h i hi
end M

theorem rep_row1 {w : World} {n : Nat} {rep : List Value} (h : rep = List.replicate n (Value.int .u64 0)) (G : Nat → Nat) : Rw ((w.alloc (.cells rep.toArray 22)).alloc (.cells rep.toArray 22)).drew w.heap.size n (someOf G 0) := by
  intro i hi
  have h1 : ((w.alloc (.cells rep.toArray 22)).alloc (.cells rep.toArray 22)).drew.heap[w.heap.size]? = some (.cells rep.toArray 22 (0, 0)) := (Below.heap_alloc (w.alloc (.cells rep.toArray 22)) (.cells rep.toArray 22) w.heap.size (by simp)).trans (World.alloc_heap_new w _)
  refine ⟨?_, frozen_of_row _ _ i _ _ h1⟩
  rw [cell_of_row _ _ i _ _ (0, 0) h1, h]
  simp [someOf, hi]
theorem rep_row2 {w : World} {n : Nat} {rep : List Value} (h : rep = List.replicate n (Value.int .u64 0)) (G : Nat → Nat) : Rw ((w.alloc (.cells rep.toArray 22)).alloc (.cells rep.toArray 22)).drew (w.heap.size + 1) n (someOf G 0) := by
  intro i hi
  have h1 : ((w.alloc (.cells rep.toArray 22)).alloc (.cells rep.toArray 22)).drew.heap[w.heap.size + 1]? = some (.cells rep.toArray 22 (0, 0)) := by
    have := World.alloc_heap_new (w.alloc (.cells rep.toArray 22)) (.cells rep.toArray 22)
    rwa [World.size_alloc] at this
  refine ⟨?_, frozen_of_row _ _ i _ _ h1⟩
  rw [cell_of_row _ _ i _ _ (0, 0) h1, h]
  simp [someOf, hi]
theorem nums_of_cells {w : World} {B n : Nat} {zs : List Nat} {F : Nat → Nat} (hc : ∀ i, i < zs.length → w.cell? ⟨B, i, none⟩ = some (.int .u64 (F i : Nat))) (hB : B < w.heap.size) (hn : n ≤ 17592186043904) (hF : ∀ i, i < n → F i < 18446744073709551616) (hl : zs.length = n := by simp [M.tabM]) : Nums w (.slice (some ⟨B, 0, none⟩) n n) (M.tabM n F) := by
  refine ⟨fun x hx => ?_, by rw [tab_len]; exact hn, .inr ⟨B, 0, n, by rw [tab_len], by rw [tab_len]; exact Nat.le_refl _, hB, fun i hi => ?_⟩⟩
  · unfold M.tabM at hx
    obtain ⟨i, hi, rfl⟩ := List.mem_map.1 hx
    exact hF i (List.mem_range.1 hi)
  · rw [tab_len] at hi
    rw [tab_get F hi, Nat.zero_add]
    exact hc i (by omega)

/-- what Weights answers where its arguments are in order -/
def WeightsEnd (w : World) (p : Nat) (xs : List Nat) (t : Nat) (e : Ending) (w' : World) : Prop :=
  Below w.heap.size w w' ∧ ((xs.Nodup ∧ ∃ v, e = .returned (.tuple #[v, .int .i64 0]) ∧ Nums w' v (M.weights p xs t)) ∨ (¬ xs.Nodup ∧ e = .returned (.tuple #[.slice none 0 0, .int .i64 6])))

end Go.Proofs.Ytgjkinmfgejjaaa
