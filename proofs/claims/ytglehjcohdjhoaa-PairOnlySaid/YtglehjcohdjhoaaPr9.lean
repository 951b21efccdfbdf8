/-
  The reference of package pair: Make.
-/
import Derived.Test.YtglehjcohdjhoaaPr8
import Derived.Test.YtglehjcohdjhoaaDrw6
namespace Go.Proofs.Ytglehjcohdjhoaa
open Go.RowKit
set_option linter.unusedVariables false
set_option maxRecDepth 100000

namespace M
/-- where the coefficient (i, k) lies in the list -/
def tpos (n i k : Nat) : Nat := if i ≤ k then triR n i + (k - i) else triR n k + (i - k)
theorem tpos_sym (n i k : Nat) : tpos n i k = tpos n k i := by
  unfold tpos
  rcases Nat.lt_trichotomy i k with h | rfl | h
  · rw [if_pos (by omega), if_neg (by omega)]
  · rfl
  · rw [if_neg (by omega), if_pos (by omega)]
theorem triF_pos (n : Nat) (l : List Nat) (i k : Nat) : triF n l i k = l.getD (tpos n i k) 0 := by
  unfold triF tpos
  split <;> rfl
theorem tri_inj {n i k i' k' : Nat} (h1 : i ≤ k) (h2 : k < n) (h3 : i' ≤ k') (h4 : k' < n) (e : triR n i + (k - i) = triR n i' + (k' - i')) : i = i' ∧ k = k' := by
  rcases Nat.lt_trichotomy i i' with h | rfl | h
  · have := triR_mono (n := n) (show i + 1 ≤ i' by omega)
    rw [show triR n (i + 1) = triR n i + (n - i) from rfl] at this
    omega
  · exact ⟨rfl, by omega⟩
  · have := triR_mono (n := n) (show i' + 1 ≤ i by omega)
    rw [show triR n (i' + 1) = triR n i' + (n - i') from rfl] at this
    omega
theorem tpos_inj {n i k i' k' : Nat} (h1 : i ≤ k) (h2 : k < n) (h3 : i' < n) (h4 : k' < n) (e : tpos n i' k' = triR n i + (k - i)) : (i' = i ∧ k' = k) ∨ (i' = k ∧ k' = i) := by
  unfold tpos at e
  split at e
  · rename_i h
    have := tri_inj h h4 h1 h2 e
    omega
  · rename_i h
    have := tri_inj (n := n) (i := k') (k := i') (by omega) h3 h1 h2 e
    omega
theorem tpos_lt {n i k : Nat} (hi : i < n) (hk : k < n) : tpos n i k < triR n n := by
  unfold tpos
  split
  · have := triR_mono (n := n) (show i + 1 ≤ n by omega)
    rw [show triR n (i + 1) = triR n i + (n - i) from rfl] at this
    omega
  · have := triR_mono (n := n) (show k + 1 ≤ n by omega)
    rw [show triR n (k + 1) = triR n k + (n - k) from rfl] at this
    omega
/-- the first a numbers are laid -/
def fillK (n : Nat) (l : List Nat) (a i k : Nat) : Nat := if tpos n i k < a then l.getD (tpos n i k) 0 else 0
theorem fillK_zero (n : Nat) (l : List Nat) (i k : Nat) : fillK n l 0 i k = 0 := by unfold fillK; rw [if_neg (by omega)]
theorem fillK_full {n : Nat} (l : List Nat) {i k : Nat} (hi : i < n) (hk : k < n) : fillK n l (triR n n) i k = triF n l i k := by
  unfold fillK
  rw [if_pos (tpos_lt hi hk), triF_pos]
theorem fillK_step {n : Nat} (l : List Nat) {i k : Nat} (h1 : i ≤ k) (h2 : k < n) {i' k' : Nat} (h3 : i' < n) (h4 : k' < n) :
    fillK n l (triR n i + (k - i) + 1) i' k' = if i' = k ∧ k' = i then l.getD (triR n i + (k - i)) 0 else if i' = i ∧ k' = k then l.getD (triR n i + (k - i)) 0 else fillK n l (triR n i + (k - i)) i' k' := by
  have ha : tpos n i k = triR n i + (k - i) := by unfold tpos; rw [if_pos h1]
  unfold fillK
  by_cases e : tpos n i' k' = triR n i + (k - i)
  · rw [e, if_pos (by omega)]
    rcases tpos_inj h1 h2 h3 h4 e with h | h
    · rw [if_pos h]
      split <;> rfl
    · rw [if_pos h]
  · have n1 : ¬ (i' = k ∧ k' = i) := fun h => e (by rw [h.1, h.2, tpos_sym, ha])
    have n2 : ¬ (i' = i ∧ k' = k) := fun h => e (by rw [h.1, h.2, ha])
    rw [if_neg n1, if_neg n2]
    by_cases e2 : tpos n i' k' < triR n i + (k - i)
    · rw [if_pos (by omega), if_pos e2]
    · rw [if_neg (by omega), if_neg e2]
theorem psize_tri {T : Nat} (hT : T ≤ 3) : psize T = ((triR (T + 1) (T + 1) - 1 : Nat) : Int) := by
  rcases (by omega : T = 0 ∨ T = 1 ∨ T = 2 ∨ T = 3) with rfl | rfl | rfl | rfl <;> rfl
end M

/-- a matrix of zeros under construction: k of its n rows are laid -/
structure Lay (w : World) (base B n k : Nat) (G : Nat → Nat) : Prop where
  baseB : base ≤ B
  top : ∃ cs, w.heap[B]? = some (.cells cs 30 (0, 0)) ∧ cs.size = n ∧ (∀ i, i < k → cs[i]? = some (.slice (some ⟨G i, 0, none⟩) n n)) ∧ ∀ i, k ≤ i → i < n → cs[i]? = some (.slice none 0 0)
  row : ∀ i, i < k → Row w (G i) n fun _ => 0
  baseG : ∀ i, i < k → base ≤ G i
  inj : ∀ i j, i < k → j < k → G i = G j → i = j
theorem Lay.cell {w : World} {base B n k : Nat} {G : Nat → Nat} (h : Lay w base B n k G) (hk : k < n) : w.cell? ⟨B, k, none⟩ = some (.slice none 0 0) := by
  obtain ⟨cs, h1, _, _, h4⟩ := h.top; rw [cell_of_row w B k cs _ (0, 0) h1]; exact h4 k (Nat.le_refl _) hk
theorem Lay.free {w : World} {base B n k : Nat} {G : Nat → Nat} (h : Lay w base B n k G) (j : Nat) : w.frozen? ⟨B, j, none⟩ = false := by
  obtain ⟨cs, h1, _⟩ := h.top; exact frozen_of_row w B j cs _ h1
theorem Lay.lt {w : World} {base B n k : Nat} {G : Nat → Nat} (h : Lay w base B n k G) : B < w.heap.size := by obtain ⟨cs, h1, _⟩ := h.top; exact lt_of_block h1
/-- one row more -/
theorem Lay.push {w : World} {base B n k : Nat} {G : Nat → Nat} (h : Lay w base B n k G) (hk : k < n) (hb : base ≤ w.heap.size) {cs : Array Value} (hr : ∀ W : World, Row (W.alloc (.cells cs 22)) W.heap.size n fun _ => 0) :
    Lay ((w.setCell ⟨B, k, none⟩ (.slice (some ⟨w.heap.size, 0, none⟩) n n)).alloc (.cells cs 22)) base B n (k + 1) fun i => if i = k then w.heap.size else G i := by
  have hB := h.lt
  obtain ⟨ds, h1, h2, h3, h4⟩ := h.top
  have hsz : (w.setCell ⟨B, k, none⟩ (.slice (some ⟨w.heap.size, 0, none⟩) n n)).heap.size = w.heap.size := by simp
  have hne : ∀ i, i < k → G i ≠ B := by
    intro i hi e
    obtain ⟨es, e1, _⟩ := h.row i hi
    rw [e, h1] at e1
    simp at e1
  have hrow : ∀ i, i < k → Row ((w.setCell ⟨B, k, none⟩ (.slice (some ⟨w.heap.size, 0, none⟩) n n)).alloc (.cells cs 22)) (G i) n fun _ => 0 := fun i hi => ((h.row i hi).other (hne i hi) _).alloc _
  have hr2 := hr (w.setCell ⟨B, k, none⟩ (.slice (some ⟨w.heap.size, 0, none⟩) n n))
  rw [hsz] at hr2
  refine ⟨h.baseB, ⟨_, (Below.heap_alloc _ _ B (by rw [hsz]; exact hB)).trans (heap_setCell_same w B k ds _ _ h1), by simpa using h2, fun i hi => ?_, fun i hi hin => ?_⟩, fun i hi => ?_, fun i hi => ?_, fun i j hi hj e => ?_⟩
  · by_cases e : i = k
    · subst e; rw [Array.getElem?_setIfInBounds_self_of_lt (by omega)]; simp
    · rw [Array.getElem?_setIfInBounds_ne (Ne.symm e), h3 i (by omega)]; simp [e]
  · rw [Array.getElem?_setIfInBounds_ne (by omega), h4 i (by omega) hin]
  · by_cases e : i = k
    · subst e; simp only [if_true]; exact hr2
    · simp only [if_neg e]; exact hrow i (by omega)
  · by_cases e : i = k
    · simp only [if_pos e]; exact hb
    · simp only [if_neg e]; exact h.baseG i (by omega)
  · by_cases e1 : i = k <;> by_cases e2 : j = k
    · omega
    · simp only [if_pos e1, if_neg e2] at e
      have := (h.row j (by omega)).lt
      omega
    · simp only [if_neg e1, if_pos e2] at e
      have := (h.row i (by omega)).lt
      omega
    · simp only [if_neg e1, if_neg e2] at e
      exact h.inj i j (by omega) (by omega) e
theorem Lay.done {w : World} {base B n : Nat} {G : Nat → Nat} (h : Lay w base B n n G) : MatO w base B n n G (fun _ => n) fun _ _ => 0 := by
  obtain ⟨ds, h1, h2, h3, _⟩ := h.top
  exact ⟨h.baseB, ⟨ds, h1, h3⟩, h.row, fun i hi => ⟨h.baseG i hi, Nat.le_refl _⟩, h.inj⟩
/-- one number is stored -/
theorem MatO.put {w : World} {base B R C : Nat} {G Cp : Nat → Nat} {F : Nat → Nat → Nat} (h : MatO w base B R C G Cp F) {i j : Nat} (hi : i < R) (hj : j < C) (x : Nat) :
    MatO (w.setCell ⟨G i, j, none⟩ (.int .u64 (x : Nat))) base B R C G Cp fun a b => if a = i ∧ b = j then x else F a b := by
  have hr := (h.row i hi).set hj x
  refine (h.setRow hi (grown_set ⟨rfl, rfl, rfl, Nat.le_refl _, fun k _ _ => rfl⟩ _) hr).congr fun a ha b hb => ?_
  by_cases e : a = i
  · subst e
    rw [if_pos rfl]
    by_cases e2 : b = j
    · rw [if_pos e2, if_pos ⟨rfl, e2⟩]
    · rw [if_neg e2, if_neg (fun h => e2 h.2)]
  · rw [if_neg e, if_neg (fun h => e h.1)]
end Go.Proofs.Ytglehjcohdjhoaa
