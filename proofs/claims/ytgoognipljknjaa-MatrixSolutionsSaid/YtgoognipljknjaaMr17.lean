/-
  Package matrix: transposed, Mul.
-/
import Derived.Test.YtgoognipljknjaaMr16
namespace Go.Proofs.Ytgoognipljknjaa
open Go.RowKit
set_option linter.unusedVariables false

namespace M
/-- the first n elements of column j -/
def col (m : List (List Nat)) (j n : Nat) : List Nat := tabM n fun i => el m i j
theorem col_succ (m : List (List Nat)) (j n : Nat) : col m j (n + 1) = col m j n ++ [el m n j] := by simp [col, tabM, List.range_succ]
theorem col_len (m : List (List Nat)) (j n : Nat) : (col m j n).length = n := tabM_len _ _
/-- the columns as rows -/
def tr (m : List (List Nat)) (R K : Nat) : List (List Nat) := tabMM K R fun j i => el m i j
theorem tr_row {m : List (List Nat)} {R K j : Nat} (h : j < K) : (tr m R K).getD j [] = col m j R := by unfold tr; rw [tabMM_at _ _ h]; rfl
theorem tr_rows {p : Nat} {m : List (List Nat)} {R K : Nat} (h : Ok p m R K) : Rows p (tr m R K) K R :=
  ⟨tabMM_len _ _ _, h.K64, h.R64, fun j hj => by rw [tr_row hj, col_len], fun j hj => by rw [tr_row hj]; exact within_tabM fun i hi => h.el_lt hi hj⟩
end M

/-- columns under construction -/
structure TrS (w : World) (base Bc K : Nat) (V : Nat → Value) (n : Nat → Nat) (m : List (List Nat)) : Prop where
  top : ∃ cs, w.heap[Bc]? = some (.cells cs 24 (0, 0)) ∧ cs.size = K ∧ ∀ j, j < K → cs[j]? = some (V j)
  own : ∀ j, j < K → w.ownsRow base 22 1 (V j) (n j) (vals (M.col m j (n j)))
  sep : ∀ i j, i < K → j < K → i ≠ j → (V i).ownBlock = none ∨ (V i).ownBlock ≠ (V j).ownBlock
theorem TrS.cell {w : World} {base Bc K : Nat} {V : Nat → Value} {n : Nat → Nat} {m : List (List Nat)} (h : TrS w base Bc K V n m) {j : Nat} (hj : j < K) : w.cell? ⟨Bc, j, none⟩ = some (V j) := by
  obtain ⟨cs, h1, _, h2⟩ := h.top; rw [cell_of_row w Bc j cs _ (0, 0) h1]; exact h2 j hj
theorem TrS.free {w : World} {base Bc K : Nat} {V : Nat → Value} {n : Nat → Nat} {m : List (List Nat)} (h : TrS w base Bc K V n m) (j : Nat) : w.frozen? ⟨Bc, j, none⟩ = false := by
  obtain ⟨cs, h1, _, h2⟩ := h.top; exact frozen_of_row w Bc j cs _ h1
theorem TrS.ne {w : World} {base Bc K : Nat} {V : Nat → Value} {n : Nat → Nat} {m : List (List Nat)} (h : TrS w base Bc K V n m) {j : Nat} (hj : j < K) : (V j).ownBlock ≠ some Bc := by
  obtain ⟨cs, h1, _, h2⟩ := h.top; exact own_ne (h.own j hj) h1 (by decide)
/-- one more number in column k -/
theorem TrS.push {w w' : World} {base Bc K : Nat} {V : Nat → Value} {n : Nat → Nat} {m : List (List Nat)} (h : TrS w base Bc K V n m) {k g c : Nat} (hk : k < K)
    (hown : w'.ownsRow base 22 1 (.slice (some ⟨g, 0, none⟩) (n k + 1) c) (n k + 1) (vals (M.col m k (n k + 1)))) (hgr : w.grownBy w' (V k).ownBlock) (hat : (V k).ownBlock = some g ∨ w.heap.size ≤ g) (hB : Bc < w.heap.size) :
    TrS (w'.setCell ⟨Bc, k, none⟩ (.slice (some ⟨g, 0, none⟩) (n k + 1) c)) base Bc K (fun j => if j = k then .slice (some ⟨g, 0, none⟩) (n k + 1) c else V j) (fun j => if j = k then n k + 1 else n j) m := by
  obtain ⟨cs, h1, h2, h3⟩ := h.top
  have h1' : w'.heap[Bc]? = some (.cells cs 24 (0, 0)) := (hgr.block Bc hB (Ne.symm (h.ne hk))).trans h1
  have hgB : g ≠ Bc := by
    intro e
    rcases hat with e2 | e2
    · exact h.ne hk (e2.trans (by rw [e]))
    · omega
  have hoth : ∀ j, j < K → j ≠ k → (V j).ownBlock = none ∨ (V j).ownBlock ≠ some g := fun j hj hjk => by
    rcases hat with e2 | e2
    · rw [← e2]; exact h.sep j k hj hk hjk
    · right
      intro e
      have := ((h.own j hj).lt g e).2
      omega
  refine ⟨⟨_, heap_setCell_same w' Bc k cs _ _ h1', by simpa using h2, fun j hj => ?_⟩, fun j hj => ?_, fun i j hi hj hij => ?_⟩
  · by_cases e : j = k
    · subst e; rw [Array.getElem?_setIfInBounds_self_of_lt (by omega)]; simp
    · rw [Array.getElem?_setIfInBounds_ne (Ne.symm e), h3 j hj]; simp [e]
  · by_cases e : j = k
    · subst e; simp only [if_true]; exact ownsRow_setCell_other hown (by simp [Value.ownBlock]; omega) _
    · simp only [if_neg e]; exact ownsRow_setCell_other ((h.own j hj).kept hgr (h.sep j k hj hk e)) (h.ne hj) _
  · by_cases e1 : i = k <;> by_cases e2 : j = k
    · omega
    · simp only [if_pos e1, if_neg e2]
      right
      rcases hoth j hj e2 with e | e
      · rw [e]; simp [Value.ownBlock]
      · intro e3; exact e e3.symm
    · simp only [if_neg e1, if_pos e2]
      exact hoth i hi e1
    · simp only [if_neg e1, if_neg e2]
      exact h.sep i j hi hj hij

end Go.Proofs.Ytgoognipljknjaa
