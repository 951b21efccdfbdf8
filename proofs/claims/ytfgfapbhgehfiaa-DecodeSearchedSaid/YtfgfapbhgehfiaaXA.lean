/-
  Fld, Give, Same3, Ref3, Mem3, Mr1, Mr2, Mr3, App3 (joined).
-/
import Derived.Test.YtfgfapbhgehfiaaLA
import Derived.Test.YtfgfapbhgehfiaaLB
import Derived.Test.YtfgfapbhgehfiaaMA
import Derived.Test.YtfgfapbhgehfiaaLD
import Derived.Test.YtfgfapbhgehfiaaMC
import Derived.Test.YtfgfapbhgehfiaaRA
import Derived.ArgAppend
import Derived.OwnWalk
import Derived.BigQuiet
import Derived.Deep.QuietTactic
import Derived.Deep.Draws
import Derived.Laws.OwnMore
import Derived.Laws.Rows
import Derived.Deep.AppendLies
import Derived.OneCell
import Derived.LoopTactic
import Derived.Outline
import Derived.RegionTactic
import Derived.ChangeAlike
import Derived.Deep.RegionLaw
import Derived.StillTailTactics
import Derived.Laws.AppendOwnNone
namespace Go.Proofs.Ytfgfapbhgehfiaa
open Go.RowKit
set_option linter.unusedVariables false


namespace M
end M

end Go.Proofs.Ytfgfapbhgehfiaa
namespace Go.Proofs.Ytfgfapbhgehfiaa
open Go.RowKit
set_option linter.unusedVariables false


end Go.Proofs.Ytfgfapbhgehfiaa
namespace Go.Proofs.Ytfgfapbhgehfiaa
open Go.RowKit
set_option linter.unusedVariables false
set_option maxRecDepth 100000

end Go.Proofs.Ytfgfapbhgehfiaa
namespace Go.Proofs.Ytfgfapbhgehfiaa
open Go.RowKit
set_option linter.unusedVariables false
set_option maxRecDepth 100000

end Go.Proofs.Ytfgfapbhgehfiaa
namespace Go.Proofs.Ytfgfapbhgehfiaa
open Go.RowKit
set_option linter.unusedVariables false
set_option maxRecDepth 100000

/-- what lies below block B still reads as it did -/
theorem Nums.at3 {w0 w w' : World} {B : Nat} {v : Value} {zs : List Nat} (h : Nums w0 v zs) (hw : w0.heap.size ≤ B) (hb : Below B w w') (h1 : Below w0.heap.size w0 w) : Nums w' v zs :=
  h.below (h1.trans (hb.mono hw))

namespace M
theorem tabM_len (n : Nat) (F : Nat → Nat) : (tabM n F).length = n := by simp [tabM]
theorem tabM_at {n : Nat} (F : Nat → Nat) {i : Nat} (h : i < n) : (tabM n F).getD i 0 = F i := by rw [tabM_get, if_pos h]
theorem tabM_congr {n : Nat} {F G : Nat → Nat} (h : ∀ i, i < n → F i = G i) : tabM n F = tabM n G := by
  unfold tabM; exact List.map_congr_left fun i hi => h i (List.mem_range.1 hi)
theorem within_tabM {p n : Nat} {F : Nat → Nat} (h : ∀ i, i < n → F i < p) : within p (tabM n F) = true := by
  unfold within tabM
  rw [List.all_eq_true]
  intro x hx
  obtain ⟨i, hi, rfl⟩ := List.mem_map.1 hx
  simpa using h i (List.mem_range.1 hi)
theorem tabM_of {l : List Nat} {n : Nat} (h : l.length = n) : tabM n (fun i => l.getD i 0) = l := by
  subst h
  apply List.ext_getElem
  · simp [tabM]
  · intro i h1 h2
    simp [tabM, List.getD_eq_getElem?_getD, h2]
def tabMM (R C : Nat) (F : Nat → Nat → Nat) : List (List Nat) := (List.range R).map fun i => tabM C (F i)
theorem tabMM_len (R C : Nat) (F : Nat → Nat → Nat) : (tabMM R C F).length = R := by simp [tabMM]
theorem tabMM_at {R : Nat} (C : Nat) (F : Nat → Nat → Nat) {i : Nat} (h : i < R) : (tabMM R C F).getD i [] = tabM C (F i) := by simp [tabMM, List.getD_eq_getElem?_getD, h]
theorem tabMM_congr {R C : Nat} {F G : Nat → Nat → Nat} (h : ∀ i, i < R → ∀ j, j < C → F i j = G i j) : tabMM R C F = tabMM R C G := by
  unfold tabMM; exact List.map_congr_left fun i hi => tabM_congr fun j hj => h i (List.mem_range.1 hi) j hj
/-- the element of row i and column j -/
def el (m : List (List Nat)) (i j : Nat) : Nat := (m.getD i []).getD j 0
theorem tabMM_el {R C : Nat} (F : Nat → Nat → Nat) {i j : Nat} (hi : i < R) (hj : j < C) : el (tabMM R C F) i j = F i j := by unfold el; rw [tabMM_at C F hi, tabM_at _ hj]
end M

/-! ### A row that is known whole -/
def Row (w : World) (g C : Nat) (F : Nat → Nat) : Prop := ∃ cs, w.heap[g]? = some (.cells cs 22 (0, 0)) ∧ ∀ j, j < C → cs[j]? = some (.int .u64 (F j : Nat))
section
variable {w w' : World} {g C : Nat} {F F' : Nat → Nat}
theorem Row.lt (h : Row w g C F) : g < w.heap.size := by obtain ⟨cs, h, _⟩ := h; exact lt_of_block h
theorem Row.cell (h : Row w g C F) {j : Nat} (hj : j < C) : w.cell? ⟨g, j, none⟩ = some (.int .u64 (F j : Nat)) := by
  obtain ⟨cs, h1, h2⟩ := h; rw [cell_of_row w g j cs _ (0, 0) h1]; exact h2 j hj
theorem Row.free (h : Row w g C F) (j : Nat) : w.frozen? ⟨g, j, none⟩ = false := by obtain ⟨cs, h1, h2⟩ := h; exact frozen_of_row w g j cs _ h1
theorem Row.same (h : Row w g C F) (e : w'.heap[g]? = w.heap[g]?) : Row w' g C F := by obtain ⟨cs, h1, h2⟩ := h; exact ⟨cs, e.trans h1, h2⟩
theorem Row.congr (h : Row w g C F) (e : ∀ j, j < C → F j = F' j) : Row w g C F' := by obtain ⟨cs, h1, h2⟩ := h; exact ⟨cs, h1, fun j hj => by rw [← e j hj]; exact h2 j hj⟩
theorem Row.set (h : Row w g C F) {j : Nat} (hj : j < C) (x : Nat) : Row (w.setCell ⟨g, j, none⟩ (.int .u64 (x : Nat))) g C (fun i => if i = j then x else F i) := by
  obtain ⟨cs, h1, h2⟩ := h
  refine ⟨cs.setIfInBounds j (.int .u64 (x : Nat)), heap_setCell_same w g j cs _ _ h1, fun i hi => ?_⟩
  have hjs : j < cs.size := (Array.getElem?_eq_some_iff.1 (h2 j hj)).1
  dsimp only
  by_cases e : i = j
  · subst e; rw [if_pos rfl, Array.getElem?_setIfInBounds_self_of_lt hjs]
  · rw [if_neg e, Array.getElem?_setIfInBounds_ne (Ne.symm e)]; exact h2 i hi
theorem Row.other (h : Row w g C F) {p : Addr} (hp : g ≠ p.block) (u : Value) : Row (w.setCell p u) g C F := h.same (Below.heap_setCell w p u g hp)
theorem Row.alloc (h : Row w g C F) (o : Obj) : Row (w.alloc o) g C F := h.same (Below.heap_alloc w o g h.lt)
theorem Row.below {B : Nat} (h : Row w g C F) (hb : Below B w w') (hg : g < B) : Row w' g C F := h.same (hb.block g hg)
theorem Row.grown {row : Option Nat} (h : Row w g C F) (hb : w.grownBy w' row) (hg : some g ≠ row) : Row w' g C F := h.same (hb.block g h.lt hg)
theorem Row.nums (h : Row w g C F) {n cap : Nat} (hn : n ≤ C) (hc : n ≤ cap) (hC : C ≤ 17592186043904) (hF : ∀ j, j < C → F j < 18446744073709551616) : Nums w (.slice (some ⟨g, 0, none⟩) n cap) (M.tabM n F) := by
  refine ⟨fun x hx => ?_, by rw [M.tabM_len]; omega, .inr ⟨g, 0, cap, by rw [M.tabM_len], by rw [M.tabM_len]; exact hc, h.lt, fun i hi => ?_⟩⟩
  · unfold M.tabM at hx
    obtain ⟨i, hi, rfl⟩ := List.mem_map.1 hx
    exact hF i (by have := List.mem_range.1 hi; omega)
  · rw [M.tabM_len] at hi
    rw [M.tabM_at F hi, Nat.zero_add]
    exact h.cell (by omega)
/-- a part of a row, as a slice that begins at off -/
theorem Row.part (h : Row w g C F) {off n cap : Nat} (hn : off + n ≤ C) (hc : n ≤ cap) (hC : C ≤ 17592186043904) (hF : ∀ j, j < C → F j < 18446744073709551616) : Nums w (.slice (some ⟨g, off, none⟩) n cap) (M.tabM n fun j => F (off + j)) := by
  refine ⟨fun x hx => ?_, by rw [M.tabM_len]; omega, .inr ⟨g, off, cap, by rw [M.tabM_len], by rw [M.tabM_len]; exact hc, h.lt, fun i hi => ?_⟩⟩
  · unfold M.tabM at hx
    obtain ⟨i, hi, rfl⟩ := List.mem_map.1 hx
    exact hF _ (by have := List.mem_range.1 hi; omega)
  · rw [M.tabM_len] at hi
    rw [M.tabM_at _ hi]
    exact h.cell (by omega)
end
/-- a row of the call's own, as a row known whole -/
theorem row_of_owns {w : World} {base g cap n : Nat} {zs : List Nat} (h : w.ownsRow base 22 1 (.slice (some ⟨g, 0, none⟩) n cap) n (zs.map fun (z : Nat) => Value.int .u64 z)) : base ≤ g ∧ n ≤ cap ∧ zs.length = n ∧ Row w g n (fun j => zs.getD j 0) := by
  have hlen : zs.length = n := by have := h.1; simpa using this
  rcases h.2 with ⟨h0, _⟩ | ⟨g', cap', cur, hv, hg, hh, hc, hm, hsz, hx⟩
  · cases h0
  · simp only [Value.slice.injEq, Option.some.injEq, Addr.mk.injEq, and_true, true_and] at hv
    obtain ⟨rfl, rfl⟩ := hv
    refine ⟨hg, hc, hlen, cur, hh, fun j hj => ?_⟩
    have e : cur[j]? = (cur.toList.take (n * 1))[j]? := by rw [List.getElem?_take, if_pos (by omega)]; simp
    rw [e, hx]
    simp [List.getD_eq_getElem?_getD, show j < zs.length by omega]

/-! ### A slice of slices that reads as rows of numbers -/
def Mat (w : World) (v : Value) (m : List (List Nat)) : Prop :=
  m.length ≤ 17592186043904 ∧ ∃ A cap, v = .slice A m.length cap ∧ m.length ≤ cap ∧ (0 < m.length → ∃ b off, A = some ⟨b, off, none⟩ ∧ b < w.heap.size ∧ ∀ i, i < m.length → ∃ u, w.cell? ⟨b, off + i, none⟩ = some u ∧ Nums w u (m.getD i []))
theorem Mat.below {w w' : World} {v : Value} {m : List (List Nat)} (h : Mat w v m) (hb : Below w.heap.size w w') : Mat w' v m := by
  obtain ⟨h1, A, cap, h2, h3, h4⟩ := h
  refine ⟨h1, A, cap, h2, h3, fun h0 => ?_⟩
  obtain ⟨b, off, e, hlt, hc⟩ := h4 h0
  refine ⟨b, off, e, Nat.lt_of_lt_of_le hlt hb.size, fun i hi => ?_⟩
  obtain ⟨u, hu, hn⟩ := hc i hi
  exact ⟨u, (hb.cell (p := ⟨b, off + i, none⟩) hlt).trans hu, hn.below hb⟩
theorem Mat.at {w0 w w' : World} {B : Nat} {v : Value} {m : List (List Nat)} (h : Mat w0 v m) (hw : w0.heap.size ≤ B) (h1 : Below w0.heap.size w0 w) (hb : Below B w w') : Mat w' v m :=
  h.below (h1.trans (hb.mono hw))
theorem mat_nil (w : World) : Mat w (.slice none 0 0) [] := ⟨by simp, none, 0, rfl, by simp, fun h => absurd h (by simp)⟩

/-! ### A matrix of the call's own: R rows of C numbers, each in a block of its own -/
structure MatO (w : World) (base B R C : Nat) (G Cp : Nat → Nat) (F : Nat → Nat → Nat) : Prop where
  baseB : base ≤ B
  top : ∃ cs, w.heap[B]? = some (.cells cs 31 (0, 0)) ∧ ∀ i, i < R → cs[i]? = some (.slice (some ⟨G i, 0, none⟩) C (Cp i))
  row : ∀ i, i < R → Row w (G i) C (F i)
  baseG : ∀ i, i < R → base ≤ G i ∧ C ≤ Cp i
  inj : ∀ i j, i < R → j < R → G i = G j → i = j
section
variable {w w' : World} {base B R C : Nat} {G Cp : Nat → Nat} {F F' : Nat → Nat → Nat}
theorem MatO.lt (h : MatO w base B R C G Cp F) : B < w.heap.size := by obtain ⟨cs, h, _⟩ := h.top; exact lt_of_block h
theorem MatO.cell (h : MatO w base B R C G Cp F) {i : Nat} (hi : i < R) : w.cell? ⟨B, i, none⟩ = some (.slice (some ⟨G i, 0, none⟩) C (Cp i)) := by
  obtain ⟨cs, h1, h2⟩ := h.top; rw [cell_of_row w B i cs _ (0, 0) h1]; exact h2 i hi
theorem MatO.free (h : MatO w base B R C G Cp F) (i : Nat) : w.frozen? ⟨B, i, none⟩ = false := by obtain ⟨cs, h1, h2⟩ := h.top; exact frozen_of_row w B i cs _ h1
theorem MatO.ne (h : MatO w base B R C G Cp F) {i : Nat} (hi : i < R) : G i ≠ B := by
  obtain ⟨cs, h1, _⟩ := h.top
  obtain ⟨ds, h2, _⟩ := h.row i hi
  intro e
  rw [e, h1] at h2
  simp at h2
theorem MatO.congr (h : MatO w base B R C G Cp F) (e : ∀ i, i < R → ∀ j, j < C → F i j = F' i j) : MatO w base B R C G Cp F' :=
  ⟨h.baseB, h.top, fun i hi => (h.row i hi).congr (e i hi), h.baseG, h.inj⟩
/-- no block of the matrix has turned -/
theorem MatO.same (h : MatO w base B R C G Cp F) (e : ∀ g, g = B ∨ (∃ i, i < R ∧ g = G i) → w'.heap[g]? = w.heap[g]?) : MatO w' base B R C G Cp F := by
  obtain ⟨cs, h1, h2⟩ := h.top
  exact ⟨h.baseB, ⟨cs, (e B (.inl rfl)).trans h1, h2⟩, fun i hi => (h.row i hi).same (e (G i) (.inr ⟨i, hi, rfl⟩)), h.baseG, h.inj⟩
theorem MatO.heap (h : MatO w base B R C G Cp F) (e : w'.heap = w.heap) : MatO w' base B R C G Cp F := h.same fun g _ => by rw [e]
theorem MatO.alloc (h : MatO w base B R C G Cp F) (o : Obj) : MatO (w.alloc o) base B R C G Cp F := h.same fun g hg => by
  rcases hg with rfl | ⟨i, hi, rfl⟩
  · exact Below.heap_alloc w o _ h.lt
  · exact Below.heap_alloc w o _ (h.row i hi).lt
theorem MatO.grown (h : MatO w base B R C G Cp F) {row : Option Nat} (hg : w.grownBy w' row) (hB : some B ≠ row) (hG : ∀ i, i < R → some (G i) ≠ row) : MatO w' base B R C G Cp F := h.same fun g hg' => by
  rcases hg' with rfl | ⟨i, hi, rfl⟩
  · exact hg.block _ h.lt hB
  · exact hg.block _ (h.row i hi).lt (hG i hi)
/-- a store elsewhere -/
theorem MatO.far (h : MatO w base B R C G Cp F) {p : Addr} (hB : B ≠ p.block) (hG : ∀ i, i < R → G i ≠ p.block) (u : Value) : MatO (w.setCell p u) base B R C G Cp F := h.same fun g hg' => by
  rcases hg' with rfl | ⟨i, hi, rfl⟩
  · exact Below.heap_setCell w p u _ hB
  · exact Below.heap_setCell w p u _ (hG i hi)
theorem MatO.below (h : MatO w base B R C G Cp F) {b : Nat} (hb : Below b w w') (hw : w.heap.size ≤ b) : MatO w' base B R C G Cp F := h.same fun g hg' => by
  rcases hg' with rfl | ⟨i, hi, rfl⟩
  · exact hb.block _ (by have := h.lt; omega)
  · exact hb.block _ (by have := (h.row i hi).lt; omega)
/-- row r has turned, and nothing else that was there -/
theorem MatO.setRow (h : MatO w base B R C G Cp F) {r : Nat} (hr : r < R) {F1 : Nat → Nat} (hg : w.grownBy w' (some (G r))) (hrow : Row w' (G r) C F1) : MatO w' base B R C G Cp (fun i => if i = r then F1 else F i) := by
  obtain ⟨cs, h1, h2⟩ := h.top
  refine ⟨h.baseB, ⟨cs, (hg.block B h.lt (by have := h.ne hr; simp; omega)).trans h1, h2⟩, fun i hi => ?_, h.baseG, h.inj⟩
  by_cases e : i = r
  · subst e; simpa using hrow
  · have hne : G i ≠ G r := fun e2 => e (h.inj i r hi hr e2)
    have := (h.row i hi).grown hg (by simp; omega)
    simpa [e] using this
theorem MatO.mat (h : MatO w base B R C G Cp F) {cap : Nat} (hc : R ≤ cap) (hR : R ≤ 1000) (hC : C ≤ 1000) (hF : ∀ i, i < R → ∀ j, j < C → F i j < 18446744073709551616) : Mat w (.slice (some ⟨B, 0, none⟩) R cap) (M.tabMM R C F) := by
  refine ⟨by rw [M.tabMM_len]; omega, _, cap, by rw [M.tabMM_len], by rw [M.tabMM_len]; exact hc, fun _ => ⟨B, 0, rfl, h.lt, fun i hi => ?_⟩⟩
  rw [M.tabMM_len] at hi
  rw [M.tabMM_at C F hi, Nat.zero_add]
  exact ⟨_, h.cell hi, (h.row i hi).nums (Nat.le_refl _) (h.baseG i hi).2 (by omega) (hF i hi)⟩
/-- the two rows are exchanged -/
theorem MatO.swap (h : MatO w base B R C G Cp F) {s t : Nat} (hs : s < R) (ht : t < R) :
    MatO ((w.setCell ⟨B, s, none⟩ (.slice (some ⟨G t, 0, none⟩) C (Cp t))).setCell ⟨B, t, none⟩ (.slice (some ⟨G s, 0, none⟩) C (Cp s))) base B R C
      (fun i => if i = t then G s else if i = s then G t else G i) (fun i => if i = t then Cp s else if i = s then Cp t else Cp i) (fun i => if i = t then F s else if i = s then F t else F i) := by
  obtain ⟨cs, h1, h2⟩ := h.top
  have hk : ∀ g, g ≠ B → ((w.setCell ⟨B, s, none⟩ (.slice (some ⟨G t, 0, none⟩) C (Cp t))).setCell ⟨B, t, none⟩ (.slice (some ⟨G s, 0, none⟩) C (Cp s))).heap[g]? = w.heap[g]? := fun g hg =>
    (Below.heap_setCell _ _ _ _ hg).trans (Below.heap_setCell _ _ _ _ hg)
  have hss : s < cs.size := (Array.getElem?_eq_some_iff.1 (h2 s hs)).1
  have hts : t < cs.size := (Array.getElem?_eq_some_iff.1 (h2 t ht)).1
  refine ⟨h.baseB, ⟨_, heap_setCell_same _ B t _ _ _ (heap_setCell_same w B s cs _ _ h1), fun i hi => ?_⟩, fun i hi => ?_, fun i hi => ?_, fun i j hi hj e => ?_⟩
  · by_cases e1 : i = t
    · subst e1; rw [Array.getElem?_setIfInBounds_self_of_lt (by simpa using hts)]; simp
    · rw [Array.getElem?_setIfInBounds_ne (Ne.symm e1)]
      by_cases e2 : i = s
      · subst e2; rw [Array.getElem?_setIfInBounds_self_of_lt hss]; simp [e1]
      · rw [Array.getElem?_setIfInBounds_ne (Ne.symm e2), h2 i hi]; simp [e1, e2]
  · by_cases e1 : i = t
    · subst e1; simp only [if_true]; exact (h.row s hs).same (hk _ (h.ne hs))
    · by_cases e2 : i = s
      · subst e2; simp only [if_neg e1, if_true]; exact (h.row t ht).same (hk _ (h.ne ht))
      · simp only [if_neg e1, if_neg e2]; exact (h.row i hi).same (hk _ (h.ne hi))
  · split
    · exact h.baseG s hs
    · split
      · exact h.baseG t ht
      · exact h.baseG i hi
  · have hs' : ∀ i, i < R → ∃ i', i' < R ∧ (if i = t then G s else if i = s then G t else G i) = G i' ∧ ((i = t ∧ i' = s) ∨ (i ≠ t ∧ i = s ∧ i' = t) ∨ (i ≠ t ∧ i ≠ s ∧ i' = i)) := fun i hi => by
      by_cases e1 : i = t
      · exact ⟨s, hs, by rw [if_pos e1], .inl ⟨e1, rfl⟩⟩
      · by_cases e2 : i = s
        · exact ⟨t, ht, by rw [if_neg e1, if_pos e2], .inr (.inl ⟨e1, e2, rfl⟩)⟩
        · exact ⟨i, hi, by rw [if_neg e1, if_neg e2], .inr (.inr ⟨e1, e2, rfl⟩)⟩
    obtain ⟨i', hi', ei, ci⟩ := hs' i hi
    obtain ⟨j', hj', ej, cj⟩ := hs' j hj
    rw [ei, ej] at e
    have := h.inj i' j' hi' hj' e
    omega
end
end Go.Proofs.Ytfgfapbhgehfiaa
namespace Go.Proofs.Ytfgfapbhgehfiaa
open Go.RowKit
set_option linter.unusedVariables false
set_option maxRecDepth 100000

theorem grown_set {w w' : World} {g j : Nat} (h : w.grownBy w' (some g)) (u : Value) : w.grownBy (w'.setCell ⟨g, j, none⟩ u) (some g) :=
  ⟨h.os, h.tape, h.output, by simpa [World.setCell] using h.size, fun k hk hne => (Below.heap_setCell _ _ _ _ (by simp at hne ⊢; omega)).trans (h.block k hk hne)⟩

set_option maxHeartbeats 1000000 in
theorem scale_any (p k g off n cap C : Nat) (F : Nat → Nat) (w : World) (hp : p ≤ 65537) (hk : k < p) (hF : ∀ j, j < C → F j < p) (hn : off + n = C) (hC : C ≤ 1000) (h : Row w g C F) :
    Calls Try.prog 99 #[.int .u64 p, .slice (some ⟨g, off, none⟩) n cap, .int .u64 k] w fun e w' => e = .returned (.tuple #[]) ∧ w.grownBy w' (some g) ∧ Row w' g C (fun j => if off ≤ j then F j * k % p else F j) := by
  have HR := Lib.hid h
  have HF := Lib.hid hF
  have HN := Lib.hid hn
  have hn1 : off + n ≤ C := by omega
  clear h hF hn
  go_enter Try.func99, Try.ntmps99
  go_wp2_with fail
  go_loopw [10] (fun ti wr => ∃ t : Nat, t ≤ n ∧ ti = .int .i64 t ∧ w.grownBy wr (some g) ∧ Row wr g C (fun j => if off ≤ j ∧ j < off + t then F j * k % p else F j)) (fun ti _ => n - (intOf ti).toNat)
  case atStart => exact ⟨0, by omega, rfl, World.grownBy.refl _ _, HR.out.congr fun j _ => by rw [if_neg (by omega)]⟩
  case round =>
    obtain ⟨t, ht, rfl, hg, hr⟩ := hrel
    have HG := Lib.hid hg
    have HRW := Lib.hid hr
    clear hg hr
    by_cases hlt : t < n
    · have hc := HRW.out.cell (j := off + t) (by omega)
      have hf := HRW.out.free (off + t)
      rw [if_neg (by omega)] at hc
      have hx := HF.out (off + t) (by omega)
      have hs := HRW.out.set (j := off + t) (by omega) (F (off + t) * k % p)
      obtain ⟨x, ex⟩ : ∃ x, x = F (off + t) := ⟨_, rfl⟩
      rw [← ex] at hc hx
      obtain ⟨m1, m2⟩ := mul_le hp hx hk
      have e1 : (x : Int) * k % p = ((x * k % p : Nat) : Int) := by rw [Int.natCast_emod, Int.natCast_mul]
      have hs2 := hs.congr (F' := fun j => if off ≤ j ∧ j < off + (t + 1) then F j * k % p else F j) (fun j hj => by
        by_cases e : j = off + t
        · subst e; rw [if_pos rfl, if_pos (by omega)]
        · rw [if_neg e]
          by_cases e2 : off ≤ j ∧ j < off + t
          · rw [if_pos e2, if_pos (by omega)]
          · rw [if_neg e2, if_neg (by omega)])
      rw [← ex] at hs2
      have HE := Lib.hid e1
      have HS := Lib.hid hs2
      clear hs hs2 ex e1
      go_wp2_with fail
      go_roundw
      case rel => exact ⟨t + 1, by omega, by go_num, by rw [HE.out]; exact grown_set HG.out _, by rw [HE.out]; exact HS.out⟩
      case measure => simp [intOf]; omega
    · obtain rfl : t = n := by omega
      go_wp2_with fail
      go_end0
      exact ⟨rfl, HG.out, HRW.out.congr fun j hj => by
        by_cases e : off ≤ j
        · rw [if_pos e, if_pos ⟨e, by have := HN.out; omega⟩]
        · rw [if_neg e, if_neg (by omega)]⟩

set_option maxHeartbeats 1000000 in
theorem addTimes_any (p k g g2 off n cap cap2 C : Nat) (F F2 : Nat → Nat) (w : World) (hp : p ≤ 65537) (hk : k ≤ p) (hF : ∀ j, j < C → F j < p) (hF2 : ∀ j, j < C → F2 j < p) (hn : off + n = C) (hC : C ≤ 1000) (hg : g ≠ g2) (h : Row w g C F) (h2 : Row w g2 C F2) :
    Calls Try.prog 100 #[.int .u64 p, .slice (some ⟨g, off, none⟩) n cap, .int .u64 k, .slice (some ⟨g2, off, none⟩) n cap2] w fun e w' => e = .returned (.tuple #[]) ∧ w.grownBy w' (some g) ∧ Row w' g C (fun j => if off ≤ j then (F j + k * F2 j) % p else F j) := by
  have HR := Lib.hid h
  have HR2 := Lib.hid h2
  have HF := Lib.hid hF
  have HF2 := Lib.hid hF2
  have HN := Lib.hid hn
  have hn1 : off + n ≤ C := by omega
  clear h h2 hF hF2 hn
  go_enter Try.func100, Try.ntmps100
  go_wp2_with fail
  go_loopw [12] (fun ti wr => ∃ t : Nat, t ≤ n ∧ ti = .int .i64 t ∧ w.grownBy wr (some g) ∧ Row wr g C (fun j => if off ≤ j ∧ j < off + t then (F j + k * F2 j) % p else F j)) (fun ti _ => n - (intOf ti).toNat)
  case atStart => exact ⟨0, by omega, rfl, World.grownBy.refl _ _, HR.out.congr fun j _ => by rw [if_neg (by omega)]⟩
  case round =>
    obtain ⟨t, ht, rfl, hg1, hr⟩ := hrel
    have HG := Lib.hid hg1
    have HRW := Lib.hid hr
    clear hg1 hr
    by_cases hlt : t < n
    · have hc := HRW.out.cell (j := off + t) (by omega)
      have hf := HRW.out.free (off + t)
      have hc2 := (HR2.out.grown HG.out (by simp; omega)).cell (j := off + t) (by omega)
      rw [if_neg (by omega)] at hc
      have hx := HF.out (off + t) (by omega)
      have hy := HF2.out (off + t) (by omega)
      have hs := HRW.out.set (j := off + t) (by omega) ((F (off + t) + k * F2 (off + t)) % p)
      obtain ⟨x, ex⟩ : ∃ x, x = F (off + t) := ⟨_, rfl⟩
      obtain ⟨y, ey⟩ : ∃ y, y = F2 (off + t) := ⟨_, rfl⟩
      rw [← ex] at hc hx
      rw [← ey] at hc2 hy
      have m1 : (k : Int) * y ≤ 4295098369 := by
        have : k * y ≤ 65537 * 65537 := Nat.mul_le_mul (by omega) (by omega)
        omega
      have m2 : (0 : Int) ≤ (k : Int) * y := Int.mul_nonneg (by omega) (by omega)
      have e1 : ((x : Int) + k * y) % p = (((x + k * y) % p : Nat) : Int) := by rw [Int.natCast_emod, Int.natCast_add, Int.natCast_mul]
      have hs2 := hs.congr (F' := fun j => if off ≤ j ∧ j < off + (t + 1) then (F j + k * F2 j) % p else F j) (fun j hj => by
        by_cases e : j = off + t
        · subst e; rw [if_pos rfl, if_pos (by omega)]
        · rw [if_neg e]
          by_cases e2 : off ≤ j ∧ j < off + t
          · rw [if_pos e2, if_pos (by omega)]
          · rw [if_neg e2, if_neg (by omega)])
      rw [← ex, ← ey] at hs2
      have HE := Lib.hid e1
      have HS := Lib.hid hs2
      clear hs hs2 ex ey e1
      go_wp2_with fail
      go_roundw
      case rel => exact ⟨t + 1, by omega, by go_num, by rw [HE.out]; exact grown_set HG.out _, by rw [HE.out]; exact HS.out⟩
      case measure => simp [intOf]; omega
    · obtain rfl : t = n := by omega
      go_wp2_with fail
      go_end0
      exact ⟨rfl, HG.out, HRW.out.congr fun j hj => by
        by_cases e : off ≤ j
        · rw [if_pos e, if_pos ⟨e, by have := HN.out; omega⟩]
        · rw [if_neg e, if_neg (by omega)]⟩
end Go.Proofs.Ytfgfapbhgehfiaa
namespace Go.Proofs.Ytfgfapbhgehfiaa
open Go.RowKit
set_option linter.unusedVariables false
set_option maxRecDepth 100000

set_option maxHeartbeats 400000 in
theorem nonzero_any (g C cap col b : Nat) (F : Nat → Nat) (w : World) (hC : C ≤ 1000) (hcol : col < C) (h : Row w g C F) (hb : w.cell? ⟨b, 0, none⟩ = some (.int .i64 (col : Nat))) {r : Bool} (hr : decide (F col ≠ 0) = r) :
    Calls Try.prog 98 #[.slice (some ⟨g, 0, none⟩) C cap, .pointer (some ⟨b, 0, none⟩)] w fun e w' => e = .returned (.bool r) ∧ w = w' := by
  have hc := h.cell hcol
  obtain ⟨x, ex⟩ : ∃ x, x = F col := ⟨_, rfl⟩
  rw [← ex] at hc hr
  have HR := Lib.hid hr
  clear h hr ex
  go_enter Try.func98, Try.ntmps98
  go_wp2_with fail
  go_ret
  exact ⟨ret_bool (by rw [← HR.out, Bool.eq_iff_iff]; simp), rfl⟩

set_option maxHeartbeats 1000000 in
theorem idxRows_any (base B top R C col b cap : Nat) (A : Option Addr) (G Cp : Nat → Nat) (F : Nat → Nat → Nat) (w : World) (hR : R ≤ 1000) (hC : C ≤ 1000) (hcol : col < C) (hA : top < R → A = some ⟨B, top, none⟩)
    (h : MatO w base B R C G Cp F) (hb : w.cell? ⟨b, 0, none⟩ = some (.int .i64 (col : Nat))) {r : Nat} (hr : M.First F col top R r) {x : Int} (hx : x = if r < R then ((r - top : Nat) : Int) else -1) :
    Calls Try.prog 97 #[.slice A (R - top) cap, .func (.func 98) #[] #[.pointer (some ⟨b, 0, none⟩)]] w fun e w' => e = .returned (.int .i64 x) ∧ w = w' := by
  have HM := Lib.hid h
  have HA := Lib.hid hA
  have HX := Lib.hid hx
  have HR := Lib.hid hr
  obtain ⟨r1, r2, _, _⟩ := hr
  obtain ⟨n, en⟩ : ∃ n, n = R - top := ⟨_, rfl⟩
  rw [← en]
  have hn : n ≤ 1000 := by omega
  have HN := Lib.hid en
  clear h hA hx r1 r2 en
  go_enter Try.func97, Try.ntmps97
  go_wp2_with fail
  go_loop [8] (fun t => ∃ k : Nat, k ≤ n ∧ t = .int .i64 k ∧ ∀ i, i < k → F (top + i) col = 0) (fun t => n - (intOf t).toNat)
  case atStart => exact ⟨0, by omega, rfl, fun i hi => absurd hi (by omega)⟩
  case round =>
    obtain ⟨k, hk, rfl, hz⟩ := hrel
    have HZ := Lib.hid hz
    clear hz
    by_cases hlt : k < n
    · have hk2 : top + k < R := by have := HN.out; omega
      obtain rfl := HA.out (by omega)
      have hc := HM.out.cell hk2
      by_cases h0 : F (top + k) col = 0
      · have HC := Lib.hid (nonzero_any (G (top + k)) C (Cp (top + k)) col b (F (top + k)) w hC hcol (HM.out.row _ hk2) hb (r := false) (by simp [h0]))
        have H0 := Lib.hid h0
        clear h0
        go_wp2_with fail
        refine HC.out.mono ?_
        rintro e w' ⟨rfl, rfl⟩
        go_wp2_with fail
        go_round
        case rel => exact ⟨k + 1, by omega, by go_num, fun i hi => by
          by_cases e : i = k
          · rw [e]; exact H0.out
          · exact HZ.out i (by omega)⟩
        case measure => simp [intOf]; omega
      · have HC := Lib.hid (nonzero_any (G (top + k)) C (Cp (top + k)) col b (F (top + k)) w hC hcol (HM.out.row _ hk2) hb (r := true) (by simp [h0]))
        have H0 := Lib.hid h0
        clear h0
        go_wp2_with fail
        refine HC.out.mono ?_
        rintro e w' ⟨rfl, rfl⟩
        go_wp2_with fail
        go_ret
        have hF : M.First F col top R (top + k) := ⟨by omega, by omega, fun i h1 h2 => by have := HZ.out (i - top) (by omega); rwa [show top + (i - top) = i by omega] at this, fun _ => H0.out⟩
        have e := HR.out.unique hF
        exact ⟨ret1 (by rw [HX.out, e, if_pos hk2]; omega), rfl⟩
    · obtain rfl : k = n := by omega
      go_wp2_with fail
      go_ret
      have hF : M.First F col top R R := by
        obtain ⟨r1, r2, _, _⟩ := HR.out
        exact ⟨by omega, by omega, fun i h1 h2 => by have := HZ.out (i - top) (by have := HN.out; omega); rwa [show top + (i - top) = i by omega] at this, fun h => absurd h (by omega)⟩
      have e := HR.out.unique hF
      exact ⟨ret1 (by rw [HX.out, e, if_neg (by omega)]), rfl⟩
end Go.Proofs.Ytfgfapbhgehfiaa
namespace Go.Proofs.Ytfgfapbhgehfiaa
open Go.RowKit
set_option linter.unusedVariables false
set_option maxRecDepth 100000

namespace M
theorem add_sub_eq {p x c t : Nat} (hp : 0 < p) (hc : c ≤ p) : (x + (p - c) * t) % p = (x + p - c * t % p) % p := by
  apply eqm_lt (p := p)
  · have h1 := eqm_natmod p (x + (p - c) * t)
    have h2 := sub_mod_eqm (p := p) (x := x) (y := c * t) hp
    have e : ((x + (p - c) * t : Nat) : Int) = (x : Int) - (c * t : Nat) + p * t := by
      rw [Int.natCast_add, Int.natCast_mul, Int.natCast_mul, Int.natCast_sub hc]; grind
    rw [e] at h1
    refine h1.trans (Eqm.trans ⟨t, rfl⟩ h2.symm)
  · exact Nat.mod_lt _ hp
  · exact Nat.mod_lt _ hp
def elimS (p : Nat) (m : Mx) (l col : Nat) : Mx := fun i j => if i = l then m l j * pw p (m l col) (p - 2) % p else (m i j + p - m i col * (m l j * pw p (m l col) (p - 2) % p) % p) % p
theorem elimF_S (p : Nat) (m : Mx) (top r col : Nat) : elimF p m top r col = elimS p (swp m top r) top col := by
  funext i j; unfold elimF elimS; rw [swp_top]
theorem elimS_row {p : Nat} (m : Mx) (l col j : Nat) : elimS p m l col l j = m l j * pw p (m l col) (p - 2) % p := by unfold elimS; rw [if_pos rfl]
theorem elimS_none {p : Nat} (hp : 0 < p) {m : Mx} {l col i j : Nat} (h : m i col = 0) (hi : i ≠ l) (hs : m i j < p) : elimS p m l col i j = m i j := by
  unfold elimS; rw [if_neg hi, h, Nat.zero_mul, Nat.zero_mod, Nat.sub_zero, Nat.add_mod_right, Nat.mod_eq_of_lt hs]
theorem elimS_left {p : Nat} (hp : 0 < p) {m : Mx} {l col i j : Nat} (h : m l j = 0) (hi : i ≠ l) (hs : m i j < p) : elimS p m l col i j = m i j := by
  unfold elimS; rw [if_neg hi, h, Nat.zero_mul, Nat.zero_mod, Nat.mul_zero, Nat.zero_mod, Nat.sub_zero, Nat.add_mod_right, Nat.mod_eq_of_lt hs]
theorem elimS_some {p : Nat} (hp : 0 < p) {m : Mx} {l col i j : Nat} (hi : i ≠ l) (hs : m i col ≤ p) : (m i j + (p - m i col) * (m l j * pw p (m l col) (p - 2) % p)) % p = elimS p m l col i j := by
  rw [add_sub_eq hp hs]; unfold elimS; rw [if_neg hi]
/-- the state behind the exchange of the rows -/
def Rd.swapped (s : Rd) (p r : Nat) : Rd := ⟨swp s.m s.lead.length r, s.lead, if r = s.lead.length then s.d else p - s.d⟩
theorem swapped_same (s : Rd) (p r : Nat) (h : r = s.lead.length) : s.swapped p r = s := by
  unfold Rd.swapped; rw [if_pos h, h, swp_self]
theorem rstep_swapped {p R col : Nat} {s : Rd} (h : s.at_ R col < R) : rstep p R s col = ⟨elimS p (s.swapped p (s.at_ R col)).m s.lead.length col, s.lead ++ [col], (s.swapped p (s.at_ R col)).d * (s.swapped p (s.at_ R col)).m s.lead.length col % p⟩ := by
  rw [rstep_some h, elimF_S]
  unfold Rd.swapped
  dsimp only
  rw [swp_top]
end M

def ints (l : List Nat) : List Value := l.map fun (z : Nat) => Value.int .i64 z
theorem own_ne {w : World} {base : Nat} {e t : TypeId} {size n g : Nat} {v : Value} {xs : List Value} {cs : Array Value} (h : w.ownsRow base e size v n xs) (hg : w.heap[g]? = some (.cells cs t (0, 0))) (hne : e ≠ t) : v.ownBlock ≠ some g := by
  rcases h.2 with ⟨rfl, _⟩ | ⟨g', cap, cur, rfl, _, hh, _⟩
  · simp [Value.ownBlock]
  · intro he
    have : g' = g := by simpa [Value.ownBlock] using he
    subst this
    rw [hg] at hh
    injection hh with hh
    injection hh with _ ht
    exact hne ht.symm

theorem infoI64 : (Try.prog.info? 3).map (fun i => (i.zero, i.size, i.bytes)) = some (some (.int .i64 0), 1, 8) := by kernel_rfl
theorem ints_snoc (l : List Nat) (x : Nat) : ints (l ++ [x]) = ints l ++ [.int .i64 (x : Nat)] := by simp [ints]
/-- a reduction in block D: what addPivot finds and leaves -/
structure RedO (w : World) (base D B R C cap : Nat) (G Cp : Nat → Nat) (vp : Value) (s : M.Rd) : Prop where
  blk : w.heap[D]? = some (.cells #[.slice (some ⟨B, 0, none⟩) R cap, vp, .int .u64 (s.d : Nat)] 110 (0, 0))
  mat : MatO w base B R C G Cp s.m
  piv : w.ownsRow base 3 1 vp s.lead.length (ints s.lead)
  baseD : base ≤ D
  cap : R ≤ cap
section
variable {w w' : World} {base D B R C cap : Nat} {G Cp : Nat → Nat} {vp : Value} {s : M.Rd}
theorem RedO.neB (h : RedO w base D B R C cap G Cp vp s) : D ≠ B := by
  obtain ⟨cs, h1, _⟩ := h.mat.top
  intro e
  have := h.blk
  rw [e, h1] at this
  simp at this
theorem RedO.neG (h : RedO w base D B R C cap G Cp vp s) {i : Nat} (hi : i < R) : D ≠ G i := by
  obtain ⟨cs, h1, _⟩ := h.mat.row i hi
  intro e
  have := h.blk
  rw [e, h1] at this
  simp at this
theorem RedO.pD (h : RedO w base D B R C cap G Cp vp s) : vp.ownBlock ≠ some D := own_ne h.piv h.blk (by decide)
theorem RedO.pB (h : RedO w base D B R C cap G Cp vp s) : vp.ownBlock ≠ some B := by obtain ⟨cs, h1, _⟩ := h.mat.top; exact own_ne h.piv h1 (by decide)
theorem RedO.pG (h : RedO w base D B R C cap G Cp vp s) {i : Nat} (hi : i < R) : vp.ownBlock ≠ some (G i) := by obtain ⟨cs, h1, _⟩ := h.mat.row i hi; exact own_ne h.piv h1 (by decide)
theorem RedO.lt (h : RedO w base D B R C cap G Cp vp s) : D < w.heap.size := lt_of_block h.blk
theorem RedO.heap (h : RedO w base D B R C cap G Cp vp s) (e : w'.heap = w.heap) : RedO w' base D B R C cap G Cp vp s :=
  ⟨by rw [e]; exact h.blk, h.mat.heap e, by unfold World.ownsRow; rw [e]; exact h.piv, h.baseD, h.cap⟩
theorem RedO.alloc (h : RedO w base D B R C cap G Cp vp s) (o : Obj) : RedO (w.alloc o) base D B R C cap G Cp vp s :=
  ⟨(Below.heap_alloc w o _ h.lt).trans h.blk, h.mat.alloc o, h.piv.alloc o, h.baseD, h.cap⟩
theorem RedO.below (h : RedO w base D B R C cap G Cp vp s) {b : Nat} (hb : Below b w w') (hw : w.heap.size ≤ b) : RedO w' base D B R C cap G Cp vp s := by
  refine ⟨(hb.block D (by have := h.lt; omega)).trans h.blk, h.mat.below hb hw, ?_, h.baseD, h.cap⟩
  refine ⟨h.piv.1, ?_⟩
  rcases h.piv.2 with h2 | ⟨g, c, cur, hv, hg, hh, r⟩
  · exact .inl h2
  · exact .inr ⟨g, c, cur, hv, hg, (hb.block g (by have := lt_of_block hh; omega)).trans hh, r⟩
theorem RedO.setD (h : RedO w base D B R C cap G Cp vp s) (d : Nat) : RedO (w.setCell ⟨D, 2, none⟩ (.int .u64 (d : Nat))) base D B R C cap G Cp vp ⟨s.m, s.lead, d⟩ := by
  refine ⟨?_, h.mat.far (p := ⟨D, 2, none⟩) (Ne.symm h.neB) (fun i hi => Ne.symm (h.neG hi)) _, ownsRow_setCell_other h.piv h.pD _, h.baseD, h.cap⟩
  rw [heap_setCell_same w D 2 _ _ _ h.blk]
  rfl
theorem RedO.setP (h : RedO w base D B R C cap G Cp vp s) {v2 : Value} {l2 : List Nat} (hv : w.ownsRow base 3 1 v2 l2.length (ints l2)) : RedO (w.setCell ⟨D, 1, none⟩ v2) base D B R C cap G Cp v2 ⟨s.m, l2, s.d⟩ := by
  refine ⟨?_, h.mat.far (p := ⟨D, 1, none⟩) (Ne.symm h.neB) (fun i hi => Ne.symm (h.neG hi)) _, ownsRow_setCell_other hv (own_ne hv h.blk (by decide)) _, h.baseD, h.cap⟩
  rw [heap_setCell_same w D 1 _ _ _ h.blk]
  rfl
theorem RedO.grown (h : RedO w base D B R C cap G Cp vp s) {row : Option Nat} (hg : w.grownBy w' row) (hD : some D ≠ row) (hB : some B ≠ row) (hG : ∀ i, i < R → some (G i) ≠ row) (hp : vp.ownBlock = none ∨ vp.ownBlock ≠ row) : RedO w' base D B R C cap G Cp vp s :=
  ⟨(hg.block D h.lt hD).trans h.blk, h.mat.grown hg hB hG, h.piv.kept hg hp, h.baseD, h.cap⟩
theorem RedO.setRow (h : RedO w base D B R C cap G Cp vp s) {r : Nat} (hr : r < R) {F1 : Nat → Nat} (hg : w.grownBy w' (some (G r))) (hrow : Row w' (G r) C F1) : RedO w' base D B R C cap G Cp vp ⟨fun i => if i = r then F1 else s.m i, s.lead, s.d⟩ :=
  ⟨(hg.block D h.lt (by have := h.neG hr; simp; omega)).trans h.blk, h.mat.setRow hr hg hrow, h.piv.kept hg (.inr (h.pG hr)), h.baseD, h.cap⟩
theorem RedO.congr (h : RedO w base D B R C cap G Cp vp s) {m2 : M.Mx} (e : ∀ i, i < R → ∀ j, j < C → s.m i j = m2 i j) : RedO w base D B R C cap G Cp vp ⟨m2, s.lead, s.d⟩ :=
  ⟨h.blk, h.mat.congr e, h.piv, h.baseD, h.cap⟩
theorem RedO.push (h : RedO w base D B R C cap G Cp vp s) (hg : w.grownBy w' vp.ownBlock) {v2 : Value} {l2 : List Nat} (hv : w'.ownsRow base 3 1 v2 l2.length (ints l2)) :
    w'.frozen? ⟨D, 1, none⟩ = false ∧ RedO (w'.setCell ⟨D, 1, none⟩ v2) base D B R C cap G Cp v2 ⟨s.m, l2, s.d⟩ := by
  have hb := (hg.block D h.lt (Ne.symm h.pD)).trans h.blk
  refine ⟨frozen_of_row _ D 1 _ _ hb, ?_, (h.mat.grown hg (Ne.symm h.pB) (fun i hi => Ne.symm (h.pG hi))).far (p := ⟨D, 1, none⟩) (Ne.symm h.neB) (fun i hi => Ne.symm (h.neG hi)) _, ownsRow_setCell_other hv (own_ne hv hb (by decide)) _, h.baseD, h.cap⟩
  rw [heap_setCell_same _ D 1 _ _ _ hb]
  rfl
theorem RedO.swap (h : RedO w base D B R C cap G Cp vp s) {a b : Nat} (ha : a < R) (hb : b < R) : ∃ G' Cp',
    RedO ((w.setCell ⟨B, a, none⟩ (.slice (some ⟨G b, 0, none⟩) C (Cp b))).setCell ⟨B, b, none⟩ (.slice (some ⟨G a, 0, none⟩) C (Cp a))) base D B R C cap G' Cp' vp ⟨fun i => if i = b then s.m a else if i = a then s.m b else s.m i, s.lead, s.d⟩ :=
  ⟨_, _, (Below.heap_setCell _ _ _ _ h.neB).trans ((Below.heap_setCell _ _ _ _ h.neB).trans h.blk), h.mat.swap ha hb, ownsRow_setCell_other (ownsRow_setCell_other h.piv h.pB _) h.pB _, h.baseD, h.cap⟩
theorem RedO.c0 (h : RedO w base D B R C cap G Cp vp s) : w.cell? ⟨D, 0, none⟩ = some (.slice (some ⟨B, 0, none⟩) R cap) := by rw [cell_of_row w D 0 _ _ (0, 0) h.blk]; rfl
theorem RedO.c1 (h : RedO w base D B R C cap G Cp vp s) : w.cell? ⟨D, 1, none⟩ = some vp := by rw [cell_of_row w D 1 _ _ (0, 0) h.blk]; rfl
theorem RedO.c2 (h : RedO w base D B R C cap G Cp vp s) : w.cell? ⟨D, 2, none⟩ = some (.int .u64 (s.d : Nat)) := by rw [cell_of_row w D 2 _ _ (0, 0) h.blk]; rfl
theorem RedO.fr (h : RedO w base D B R C cap G Cp vp s) (i : Nat) : w.frozen? ⟨D, i, none⟩ = false := frozen_of_row w D i _ _ h.blk
theorem RedO.len (h : RedO w base D B R C cap G Cp vp s) : ∃ A c, vp = .slice A s.lead.length c := by
  rcases h.piv.2 with ⟨rfl, h0⟩ | ⟨g, c, cur, rfl, _⟩
  · exact ⟨none, 0, by rw [h0]⟩
  · exact ⟨_, _, rfl⟩
end

def RedEnd (w : World) (base D B R C cap : Nat) (s : M.Rd) (e : Ending) (w' : World) : Prop :=
  e = .returned (.tuple #[]) ∧ Below base w w' ∧ ∃ G Cp vp, RedO w' base D B R C cap G Cp vp s

set_option maxHeartbeats 1000000 in
theorem pivot_none (p base D B R C cap col : Nat) (G Cp : Nat → Nat) (vp : Value) (s : M.Rd) (w : World) (hp : p ≤ 65537) (hR : R ≤ 1000) (hC : C ≤ 1000) (hcol : col < C) (hb : base ≤ w.heap.size) (hlen : s.lead.length ≤ R)
    (h : RedO w base D B R C cap G Cp vp s) (hr : ¬ s.at_ R col < R) :
    Calls Try.prog 91 #[.pointer (some ⟨D, 0, none⟩), .int .u64 p, .int .i64 col] w (RedEnd w base D B R C cap s) := by
  have h1 := h.alloc (.cells #[.int .i64 (col : Nat)] 3)
  have hix := fun A cp hA => idxRows_any base B s.lead.length R C col w.heap.size cp A G Cp s.m (w.alloc (.cells #[.int .i64 (col : Nat)] 3)) hR hC hcol hA h1.mat (by simp) (s.at_first hlen col) rfl
  simp only [if_neg hr] at hix
  have HIX := Lib.hid hix
  have H1 := Lib.hid h1
  have hDl := h.lt
  have c0 := h1.c0
  have c1 := h1.c1
  have hcap := h.cap
  obtain ⟨A, cp, rfl⟩ := h.len
  obtain ⟨l, el⟩ : ∃ l, l = s.lead.length := ⟨_, rfl⟩
  rw [← el] at HIX c1 hlen
  have HB := Lib.hid ((Below.refl base w).alloc hb (.cells #[.int .i64 (col : Nat)] 3))
  clear h h1 hix hr el hb
  go_enter Try.func91, Try.ntmps91
  go_wp2_with fail
  all_goals
    refine (HIX.out _ _ ?_).mono ?_
    · intro hlt; first | rfl | (exfalso; omega)
    rintro e w' ⟨rfl, rfl⟩
    go_wp2_with fail
    go_end0
    exact ⟨rfl, HB.out, G, Cp, _, H1.out⟩
end Go.Proofs.Ytfgfapbhgehfiaa
namespace Go.Proofs.Ytfgfapbhgehfiaa
open Go.RowKit
set_option linter.unusedVariables false
set_option maxRecDepth 100000

theorem vals_app (l m : List Nat) : vals (l ++ m) = vals l ++ vals m := by simp [vals]
theorem vals_len (l : List Nat) : (vals l).length = l.length := by simp [vals]
end Go.Proofs.Ytfgfapbhgehfiaa
