/-
  Fld, Give, Same3, Ref3, Mem3, Mr1, Mr2, Mr3, App3 (joined).
-/
import Derived.Test.YtfkepkdfpjaniaaLA
import Derived.Test.YtfkepkdfpjaniaaLB
import Derived.Test.YtfkepkdfpjaniaaMA
import Derived.Test.YtfkepkdfpjaniaaLD
import Derived.Test.YtfkepkdfpjaniaaMC
import Derived.Test.YtfkepkdfpjaniaaRA
import Derived.ArgAppend
import Derived.OwnWalk
import Derived.BigQuiet
import Derived.Deep.QuietTactic
import Derived.Deep.Draws
import Derived.Laws.OwnMore
import Derived.Laws.Rows
import Derived.Deep.AppendLies
import Derived.OneCell
import Derived.LoopTactic
import Derived.Outline
import Derived.RegionTactic
import Derived.ChangeAlike
import Derived.Deep.RegionLaw
import Derived.StillTailTactics
import Derived.Laws.AppendOwnNone
namespace Go.Proofs.Ytfkepkdfpjaniaa
open Go.RowKit
set_option linter.unusedVariables false


namespace M
end M

end Go.Proofs.Ytfkepkdfpjaniaa
namespace Go.Proofs.Ytfkepkdfpjaniaa
open Go.RowKit
set_option linter.unusedVariables false


end Go.Proofs.Ytfkepkdfpjaniaa
namespace Go.Proofs.Ytfkepkdfpjaniaa
open Go.RowKit
set_option linter.unusedVariables false
set_option maxRecDepth 100000

end Go.Proofs.Ytfkepkdfpjaniaa
namespace Go.Proofs.Ytfkepkdfpjaniaa
open Go.RowKit
set_option linter.unusedVariables false
set_option maxRecDepth 100000

end Go.Proofs.Ytfkepkdfpjaniaa
namespace Go.Proofs.Ytfkepkdfpjaniaa
open Go.RowKit
set_option linter.unusedVariables false
set_option maxRecDepth 100000

/-- what lies below block B still reads as it did -/
theorem Nums.at3 {w0 w w' : World} {B : Nat} {v : Value} {zs : List Nat} (h : Nums w0 v zs) (hw : w0.heap.size ≤ B) (hb : Below B w w') (h1 : Below w0.heap.size w0 w) : Nums w' v zs :=
  h.below (h1.trans (hb.mono hw))

namespace M
theorem tabM_len (n : Nat) (F : Nat → Nat) : (tabM n F).length = n := by simp [tabM]
theorem tabM_at {n : Nat} (F : Nat → Nat) {i : Nat} (h : i < n) : (tabM n F).getD i 0 = F i := by rw [tabM_get, if_pos h]
theorem tabM_congr {n : Nat} {F G : Nat → Nat} (h : ∀ i, i < n → F i = G i) : tabM n F = tabM n G := by
  unfold tabM; exact List.map_congr_left fun i hi => h i (List.mem_range.1 hi)
theorem within_tabM {p n : Nat} {F : Nat → Nat} (h : ∀ i, i < n → F i < p) : within p (tabM n F) = true := by
  unfold within tabM
  rw [List.all_eq_true]
  intro x hx
  obtain ⟨i, hi, rfl⟩ := List.mem_map.1 hx
  simpa using h i (List.mem_range.1 hi)
theorem tabM_of {l : List Nat} {n : Nat} (h : l.length = n) : tabM n (fun i => l.getD i 0) = l := by
  subst h
  apply List.ext_getElem
  · simp [tabM]
  · intro i h1 h2
    simp [tabM, List.getD_eq_getElem?_getD, h2]
def tabMM (R C : Nat) (F : Nat → Nat → Nat) : List (List Nat) := (List.range R).map fun i => tabM C (F i)
theorem tabMM_len (R C : Nat) (F : Nat → Nat → Nat) : (tabMM R C F).length = R := by simp [tabMM]
theorem tabMM_at {R : Nat} (C : Nat) (F : Nat → Nat → Nat) {i : Nat} (h : i < R) : (tabMM R C F).getD i [] = tabM C (F i) := by simp [tabMM, List.getD_eq_getElem?_getD, h]
theorem tabMM_congr {R C : Nat} {F G : Nat → Nat → Nat} (h : ∀ i, i < R → ∀ j, j < C → F i j = G i j) : tabMM R C F = tabMM R C G := by
  unfold tabMM; exact List.map_congr_left fun i hi => tabM_congr fun j hj => h i (List.mem_range.1 hi) j hj
/-- the element of row i and column j -/
def el (m : List (List Nat)) (i j : Nat) : Nat := (m.getD i []).getD j 0
theorem tabMM_el {R C : Nat} (F : Nat → Nat → Nat) {i j : Nat} (hi : i < R) (hj : j < C) : el (tabMM R C F) i j = F i j := by unfold el; rw [tabMM_at C F hi, tabM_at _ hj]
end M

/-! ### A row that is known whole -/
def Row (w : World) (g C : Nat) (F : Nat → Nat) : Prop := ∃ cs, w.heap[g]? = some (.cells cs 22 (0, 0)) ∧ ∀ j, j < C → cs[j]? = some (.int .u64 (F j : Nat))
section
variable {w w' : World} {g C : Nat} {F F' : Nat → Nat}
theorem Row.lt (h : Row w g C F) : g < w.heap.size := by obtain ⟨cs, h, _⟩ := h; exact lt_of_block h
theorem Row.cell (h : Row w g C F) {j : Nat} (hj : j < C) : w.cell? ⟨g, j, none⟩ = some (.int .u64 (F j : Nat)) := by
  obtain ⟨cs, h1, h2⟩ := h; rw [cell_of_row w g j cs _ (0, 0) h1]; exact h2 j hj
theorem Row.free (h : Row w g C F) (j : Nat) : w.frozen? ⟨g, j, none⟩ = false := by obtain ⟨cs, h1, h2⟩ := h; exact frozen_of_row w g j cs _ h1
theorem Row.same (h : Row w g C F) (e : w'.heap[g]? = w.heap[g]?) : Row w' g C F := by obtain ⟨cs, h1, h2⟩ := h; exact ⟨cs, e.trans h1, h2⟩
theorem Row.congr (h : Row w g C F) (e : ∀ j, j < C → F j = F' j) : Row w g C F' := by obtain ⟨cs, h1, h2⟩ := h; exact ⟨cs, h1, fun j hj => by rw [← e j hj]; exact h2 j hj⟩
theorem Row.set (h : Row w g C F) {j : Nat} (hj : j < C) (x : Nat) : Row (w.setCell ⟨g, j, none⟩ (.int .u64 (x : Nat))) g C (fun i => if i = j then x else F i) := by
  obtain ⟨cs, h1, h2⟩ := h
  refine ⟨cs.setIfInBounds j (.int .u64 (x : Nat)), heap_setCell_same w g j cs _ _ h1, fun i hi => ?_⟩
  have hjs : j < cs.size := (Array.getElem?_eq_some_iff.1 (h2 j hj)).1
  dsimp only
  by_cases e : i = j
  · subst e; rw [if_pos rfl, Array.getElem?_setIfInBounds_self_of_lt hjs]
  · rw [if_neg e, Array.getElem?_setIfInBounds_ne (Ne.symm e)]; exact h2 i hi
theorem Row.other (h : Row w g C F) {p : Addr} (hp : g ≠ p.block) (u : Value) : Row (w.setCell p u) g C F := h.same (Below.heap_setCell w p u g hp)
theorem Row.alloc (h : Row w g C F) (o : Obj) : Row (w.alloc o) g C F := h.same (Below.heap_alloc w o g h.lt)
theorem Row.below {B : Nat} (h : Row w g C F) (hb : Below B w w') (hg : g < B) : Row w' g C F := h.same (hb.block g hg)
theorem Row.grown {row : Option Nat} (h : Row w g C F) (hb : w.grownBy w' row) (hg : some g ≠ row) : Row w' g C F := h.same (hb.block g h.lt hg)
theorem Row.nums (h : Row w g C F) {n cap : Nat} (hn : n ≤ C) (hc : n ≤ cap) (hC : C ≤ 17592186043904) (hF : ∀ j, j < C → F j < 18446744073709551616) : Nums w (.slice (some ⟨g, 0, none⟩) n cap) (M.tabM n F) := by
  refine ⟨fun x hx => ?_, by rw [M.tabM_len]; omega, .inr ⟨g, 0, cap, by rw [M.tabM_len], by rw [M.tabM_len]; exact hc, h.lt, fun i hi => ?_⟩⟩
  · unfold M.tabM at hx
    obtain ⟨i, hi, rfl⟩ := List.mem_map.1 hx
    exact hF i (by have := List.mem_range.1 hi; omega)
  · rw [M.tabM_len] at hi
    rw [M.tabM_at F hi, Nat.zero_add]
    exact h.cell (by omega)
/-- a part of a row, as a slice that begins at off -/
theorem Row.part (h : Row w g C F) {off n cap : Nat} (hn : off + n ≤ C) (hc : n ≤ cap) (hC : C ≤ 17592186043904) (hF : ∀ j, j < C → F j < 18446744073709551616) : Nums w (.slice (some ⟨g, off, none⟩) n cap) (M.tabM n fun j => F (off + j)) := by
  refine ⟨fun x hx => ?_, by rw [M.tabM_len]; omega, .inr ⟨g, off, cap, by rw [M.tabM_len], by rw [M.tabM_len]; exact hc, h.lt, fun i hi => ?_⟩⟩
  · unfold M.tabM at hx
    obtain ⟨i, hi, rfl⟩ := List.mem_map.1 hx
    exact hF _ (by have := List.mem_range.1 hi; omega)
  · rw [M.tabM_len] at hi
    rw [M.tabM_at _ hi]
    exact h.cell (by omega)
end
/-- a row of the call's own, as a row known whole -/
theorem row_of_owns {w : World} {base g cap n : Nat} {zs : List Nat} (h : w.ownsRow base 22 1 (.slice (some ⟨g, 0, none⟩) n cap) n (zs.map fun (z : Nat) => Value.int .u64 z)) : base ≤ g ∧ n ≤ cap ∧ zs.length = n ∧ Row w g n (fun j => zs.getD j 0) := by
  have hlen : zs.length = n := by have := h.1; simpa using this
  rcases h.2 with ⟨h0, _⟩ | ⟨g', cap', cur, hv, hg, hh, hc, hm, hsz, hx⟩
  · cases h0
  · simp only [Value.slice.injEq, Option.some.injEq, Addr.mk.injEq, and_true, true_and] at hv
    obtain ⟨rfl, rfl⟩ := hv
    refine ⟨hg, hc, hlen, cur, hh, fun j hj => ?_⟩
    have e : cur[j]? = (cur.toList.take (n * 1))[j]? := by rw [List.getElem?_take, if_pos (by omega)]; simp
    rw [e, hx]
    simp [List.getD_eq_getElem?_getD, show j < zs.length by omega]

/-! ### A slice of slices that reads as rows of numbers -/
def Mat (w : World) (v : Value) (m : List (List Nat)) : Prop :=
  m.length ≤ 17592186043904 ∧ ∃ A cap, v = .slice A m.length cap ∧ m.length ≤ cap ∧ (0 < m.length → ∃ b off, A = some ⟨b, off, none⟩ ∧ b < w.heap.size ∧ ∀ i, i < m.length → ∃ u, w.cell? ⟨b, off + i, none⟩ = some u ∧ Nums w u (m.getD i []))
theorem Mat.below {w w' : World} {v : Value} {m : List (List Nat)} (h : Mat w v m) (hb : Below w.heap.size w w') : Mat w' v m := by
  obtain ⟨h1, A, cap, h2, h3, h4⟩ := h
  refine ⟨h1, A, cap, h2, h3, fun h0 => ?_⟩
  obtain ⟨b, off, e, hlt, hc⟩ := h4 h0
  refine ⟨b, off, e, Nat.lt_of_lt_of_le hlt hb.size, fun i hi => ?_⟩
  obtain ⟨u, hu, hn⟩ := hc i hi
  exact ⟨u, (hb.cell (p := ⟨b, off + i, none⟩) hlt).trans hu, hn.below hb⟩
theorem Mat.at {w0 w w' : World} {B : Nat} {v : Value} {m : List (List Nat)} (h : Mat w0 v m) (hw : w0.heap.size ≤ B) (h1 : Below w0.heap.size w0 w) (hb : Below B w w') : Mat w' v m :=
  h.below (h1.trans (hb.mono hw))
theorem mat_nil (w : World) : Mat w (.slice none 0 0) [] := ⟨by simp, none, 0, rfl, by simp, fun h => absurd h (by simp)⟩

/-! ### A matrix of the call's own: R rows of C numbers, each in a block of its own -/
structure MatO (w : World) (base B R C : Nat) (G Cp : Nat → Nat) (F : Nat → Nat → Nat) : Prop where
  baseB : base ≤ B
  top : ∃ cs, w.heap[B]? = some (.cells cs 31 (0, 0)) ∧ ∀ i, i < R → cs[i]? = some (.slice (some ⟨G i, 0, none⟩) C (Cp i))
  row : ∀ i, i < R → Row w (G i) C (F i)
  baseG : ∀ i, i < R → base ≤ G i ∧ C ≤ Cp i
  inj : ∀ i j, i < R → j < R → G i = G j → i = j
section
variable {w w' : World} {base B R C : Nat} {G Cp : Nat → Nat} {F F' : Nat → Nat → Nat}
theorem MatO.lt (h : MatO w base B R C G Cp F) : B < w.heap.size := by obtain ⟨cs, h, _⟩ := h.top; exact lt_of_block h
theorem MatO.cell (h : MatO w base B R C G Cp F) {i : Nat} (hi : i < R) : w.cell? ⟨B, i, none⟩ = some (.slice (some ⟨G i, 0, none⟩) C (Cp i)) := by
  obtain ⟨cs, h1, h2⟩ := h.top; rw [cell_of_row w B i cs _ (0, 0) h1]; exact h2 i hi
theorem MatO.free (h : MatO w base B R C G Cp F) (i : Nat) : w.frozen? ⟨B, i, none⟩ = false := by obtain ⟨cs, h1, h2⟩ := h.top; exact frozen_of_row w B i cs _ h1
theorem MatO.ne (h : MatO w base B R C G Cp F) {i : Nat} (hi : i < R) : G i ≠ B := by
  obtain ⟨cs, h1, _⟩ := h.top
  obtain ⟨ds, h2, _⟩ := h.row i hi
  intro e
  rw [e, h1] at h2
  simp at h2
theorem MatO.congr (h : MatO w base B R C G Cp F) (e : ∀ i, i < R → ∀ j, j < C → F i j = F' i j) : MatO w base B R C G Cp F' :=
  ⟨h.baseB, h.top, fun i hi => (h.row i hi).congr (e i hi), h.baseG, h.inj⟩
/-- no block of the matrix has turned -/
theorem MatO.same (h : MatO w base B R C G Cp F) (e : ∀ g, g = B ∨ (∃ i, i < R ∧ g = G i) → w'.heap[g]? = w.heap[g]?) : MatO w' base B R C G Cp F := by
  obtain ⟨cs, h1, h2⟩ := h.top
  exact ⟨h.baseB, ⟨cs, (e B (.inl rfl)).trans h1, h2⟩, fun i hi => (h.row i hi).same (e (G i) (.inr ⟨i, hi, rfl⟩)), h.baseG, h.inj⟩
theorem MatO.heap (h : MatO w base B R C G Cp F) (e : w'.heap = w.heap) : MatO w' base B R C G Cp F := h.same fun g _ => by rw [e]
theorem MatO.alloc (h : MatO w base B R C G Cp F) (o : Obj) : MatO (w.alloc o) base B R C G Cp F := h.same fun g hg => by
  rcases hg with rfl | ⟨i, hi, rfl⟩
  · exact Below.heap_alloc w o _ h.lt
  · exact Below.heap_alloc w o _ (h.row i hi).lt
theorem MatO.grown (h : MatO w base B R C G Cp F) {row : Option Nat} (hg : w.grownBy w' row) (hB : some B ≠ row) (hG : ∀ i, i < R → some (G i) ≠ row) : MatO w' base B R C G Cp F := h.same fun g hg' => by
  rcases hg' with rfl | ⟨i, hi, rfl⟩
  · exact hg.block _ h.lt hB
  · exact hg.block _ (h.row i hi).lt (hG i hi)
/-- a store elsewhere -/
theorem MatO.far (h : MatO w base B R C G Cp F) {p : Addr} (hB : B ≠ p.block) (hG : ∀ i, i < R → G i ≠ p.block) (u : Value) : MatO (w.setCell p u) base B R C G Cp F := h.same fun g hg' => by
  rcases hg' with rfl | ⟨i, hi, rfl⟩
  · exact Below.heap_setCell w p u _ hB
  · exact Below.heap_setCell w p u _ (hG i hi)
theorem MatO.below (h : MatO w base B R C G Cp F) {b : Nat} (hb : Below b w w') (hw : w.heap.size ≤ b) : MatO w' base B R C G Cp F := h.same fun g hg' => by
  rcases hg' with rfl | ⟨i, hi, rfl⟩
  · exact hb.block _ (by have := h.lt; omega)
  · exact hb.block _ (by have := (h.row i hi).lt; omega)
/-- row r has turned, and nothing else that was there -/
theorem MatO.setRow (h : MatO w base B R C G Cp F) {r : Nat} (hr : r < R) {F1 : Nat → Nat} (hg : w.grownBy w' (some (G r))) (hrow : Row w' (G r) C F1) : MatO w' base B R C G Cp (fun i => if i = r then F1 else F i) := by
  obtain ⟨cs, h1, h2⟩ := h.top
  refine ⟨h.baseB, ⟨cs, (hg.block B h.lt (by have := h.ne hr; simp; omega)).trans h1, h2⟩, fun i hi => ?_, h.baseG, h.inj⟩
  by_cases e : i = r
  · subst e; simpa using hrow
  · have hne : G i ≠ G r := fun e2 => e (h.inj i r hi hr e2)
    have := (h.row i hi).grown hg (by simp; omega)
    simpa [e] using this
theorem MatO.mat (h : MatO w base B R C G Cp F) {cap : Nat} (hc : R ≤ cap) (hR : R ≤ 1000) (hC : C ≤ 1000) (hF : ∀ i, i < R → ∀ j, j < C → F i j < 18446744073709551616) : Mat w (.slice (some ⟨B, 0, none⟩) R cap) (M.tabMM R C F) := by
  refine ⟨by rw [M.tabMM_len]; omega, _, cap, by rw [M.tabMM_len], by rw [M.tabMM_len]; exact hc, fun _ => ⟨B, 0, rfl, h.lt, fun i hi => ?_⟩⟩
  rw [M.tabMM_len] at hi
  rw [M.tabMM_at C F hi, Nat.zero_add]
  exact ⟨_, h.cell hi, (h.row i hi).nums (Nat.le_refl _) (h.baseG i hi).2 (by omega) (hF i hi)⟩
/-- the two rows are exchanged -/
theorem MatO.swap (h : MatO w base B R C G Cp F) {s t : Nat} (hs : s < R) (ht : t < R) :
    MatO ((w.setCell ⟨B, s, none⟩ (.slice (some ⟨G t, 0, none⟩) C (Cp t))).setCell ⟨B, t, none⟩ (.slice (some ⟨G s, 0, none⟩) C (Cp s))) base B R C
      (fun i => if i = t then G s else if i = s then G t else G i) (fun i => if i = t then Cp s else if i = s then Cp t else Cp i) (fun i => if i = t then F s else if i = s then F t else F i) := by
  obtain ⟨cs, h1, h2⟩ := h.top
  have hk : ∀ g, g ≠ B → ((w.setCell ⟨B, s, none⟩ (.slice (some ⟨G t, 0, none⟩) C (Cp t))).setCell ⟨B, t, none⟩ (.slice (some ⟨G s, 0, none⟩) C (Cp s))).heap[g]? = w.heap[g]? := fun g hg =>
    (Below.heap_setCell _ _ _ _ hg).trans (Below.heap_setCell _ _ _ _ hg)
  have hss : s < cs.size := (Array.getElem?_eq_some_iff.1 (h2 s hs)).1
  have hts : t < cs.size := (Array.getElem?_eq_some_iff.1 (h2 t ht)).1
  refine ⟨h.baseB, ⟨_, heap_setCell_same _ B t _ _ _ (heap_setCell_same w B s cs _ _ h1), fun i hi => ?_⟩, fun i hi => ?_, fun i hi => ?_, fun i j hi hj e => ?_⟩
  · by_cases e1 : i = t
    · subst e1; rw [Array.getElem?_setIfInBounds_self_of_lt (by simpa using hts)]; simp
    · rw [Array.getElem?_setIfInBounds_ne (Ne.symm e1)]
      by_cases e2 : i = s
      · subst e2; rw [Array.getElem?_setIfInBounds_self_of_lt hss]; simp [e1]
      · rw [Array.getElem?_setIfInBounds_ne (Ne.symm e2), h2 i hi]; simp [e1, e2]
  · by_cases e1 : i = t
    · subst e1; simp only [if_true]; exact (h.row s hs).same (hk _ (h.ne hs))
    · by_cases e2 : i = s
      · subst e2; simp only [if_neg e1, if_true]; exact (h.row t ht).same (hk _ (h.ne ht))
      · simp only [if_neg e1, if_neg e2]; exact (h.row i hi).same (hk _ (h.ne hi))
  · split
    · exact h.baseG s hs
    · split
      · exact h.baseG t ht
      · exact h.baseG i hi
  · have hs' : ∀ i, i < R → ∃ i', i' < R ∧ (if i = t then G s else if i = s then G t else G i) = G i' ∧ ((i = t ∧ i' = s) ∨ (i ≠ t ∧ i = s ∧ i' = t) ∨ (i ≠ t ∧ i ≠ s ∧ i' = i)) := fun i hi => by
      by_cases e1 : i = t
      · exact ⟨s, hs, by rw [if_pos e1], .inl ⟨e1, rfl⟩⟩
      · by_cases e2 : i = s
        · exact ⟨t, ht, by rw [if_neg e1, if_pos e2], .inr (.inl ⟨e1, e2, rfl⟩)⟩
        · exact ⟨i, hi, by rw [if_neg e1, if_neg e2], .inr (.inr ⟨e1, e2, rfl⟩)⟩
    obtain ⟨i', hi', ei, ci⟩ := hs' i hi
    obtain ⟨j', hj', ej, cj⟩ := hs' j hj
    rw [ei, ej] at e
    have := h.inj i' j' hi' hj' e
    omega
end
end Go.Proofs.Ytfkepkdfpjaniaa
namespace Go.Proofs.Ytfkepkdfpjaniaa
open Go.RowKit
set_option linter.unusedVariables false
set_option maxRecDepth 100000

theorem grown_set {w w' : World} {g j : Nat} (h : w.grownBy w' (some g)) (u : Value) : w.grownBy (w'.setCell ⟨g, j, none⟩ u) (some g) :=
  ⟨h.os, h.tape, h.output, by simpa [World.setCell] using h.size, fun k hk hne => (Below.heap_setCell _ _ _ _ (by simp at hne ⊢; omega)).trans (h.block k hk hne)⟩

end Go.Proofs.Ytfkepkdfpjaniaa
namespace Go.Proofs.Ytfkepkdfpjaniaa
open Go.RowKit
set_option linter.unusedVariables false
set_option maxRecDepth 100000

end Go.Proofs.Ytfkepkdfpjaniaa
namespace Go.Proofs.Ytfkepkdfpjaniaa
open Go.RowKit
set_option linter.unusedVariables false
set_option maxRecDepth 100000

namespace M
theorem add_sub_eq {p x c t : Nat} (hp : 0 < p) (hc : c ≤ p) : (x + (p - c) * t) % p = (x + p - c * t % p) % p := by
  apply eqm_lt (p := p)
  · have h1 := eqm_natmod p (x + (p - c) * t)
    have h2 := sub_mod_eqm (p := p) (x := x) (y := c * t) hp
    have e : ((x + (p - c) * t : Nat) : Int) = (x : Int) - (c * t : Nat) + p * t := by
      rw [Int.natCast_add, Int.natCast_mul, Int.natCast_mul, Int.natCast_sub hc]; grind
    rw [e] at h1
    refine h1.trans (Eqm.trans ⟨t, rfl⟩ h2.symm)
  · exact Nat.mod_lt _ hp
  · exact Nat.mod_lt _ hp
def elimS (p : Nat) (m : Mx) (l col : Nat) : Mx := fun i j => if i = l then m l j * pw p (m l col) (p - 2) % p else (m i j + p - m i col * (m l j * pw p (m l col) (p - 2) % p) % p) % p
theorem elimF_S (p : Nat) (m : Mx) (top r col : Nat) : elimF p m top r col = elimS p (swp m top r) top col := by
  funext i j; unfold elimF elimS; rw [swp_top]
theorem elimS_row {p : Nat} (m : Mx) (l col j : Nat) : elimS p m l col l j = m l j * pw p (m l col) (p - 2) % p := by unfold elimS; rw [if_pos rfl]
theorem elimS_none {p : Nat} (hp : 0 < p) {m : Mx} {l col i j : Nat} (h : m i col = 0) (hi : i ≠ l) (hs : m i j < p) : elimS p m l col i j = m i j := by
  unfold elimS; rw [if_neg hi, h, Nat.zero_mul, Nat.zero_mod, Nat.sub_zero, Nat.add_mod_right, Nat.mod_eq_of_lt hs]
theorem elimS_left {p : Nat} (hp : 0 < p) {m : Mx} {l col i j : Nat} (h : m l j = 0) (hi : i ≠ l) (hs : m i j < p) : elimS p m l col i j = m i j := by
  unfold elimS; rw [if_neg hi, h, Nat.zero_mul, Nat.zero_mod, Nat.mul_zero, Nat.zero_mod, Nat.sub_zero, Nat.add_mod_right, Nat.mod_eq_of_lt hs]
theorem elimS_some {p : Nat} (hp : 0 < p) {m : Mx} {l col i j : Nat} (hi : i ≠ l) (hs : m i col ≤ p) : (m i j + (p - m i col) * (m l j * pw p (m l col) (p - 2) % p)) % p = elimS p m l col i j := by
  rw [add_sub_eq hp hs]; unfold elimS; rw [if_neg hi]
/-- the state behind the exchange of the rows -/
def Rd.swapped (s : Rd) (p r : Nat) : Rd := ⟨swp s.m s.lead.length r, s.lead, if r = s.lead.length then s.d else p - s.d⟩
theorem swapped_same (s : Rd) (p r : Nat) (h : r = s.lead.length) : s.swapped p r = s := by
  unfold Rd.swapped; rw [if_pos h, h, swp_self]
theorem rstep_swapped {p R col : Nat} {s : Rd} (h : s.at_ R col < R) : rstep p R s col = ⟨elimS p (s.swapped p (s.at_ R col)).m s.lead.length col, s.lead ++ [col], (s.swapped p (s.at_ R col)).d * (s.swapped p (s.at_ R col)).m s.lead.length col % p⟩ := by
  rw [rstep_some h, elimF_S]
  unfold Rd.swapped
  dsimp only
  rw [swp_top]
end M

def ints (l : List Nat) : List Value := l.map fun (z : Nat) => Value.int .i64 z
theorem own_ne {w : World} {base : Nat} {e t : TypeId} {size n g : Nat} {v : Value} {xs : List Value} {cs : Array Value} (h : w.ownsRow base e size v n xs) (hg : w.heap[g]? = some (.cells cs t (0, 0))) (hne : e ≠ t) : v.ownBlock ≠ some g := by
  rcases h.2 with ⟨rfl, _⟩ | ⟨g', cap, cur, rfl, _, hh, _⟩
  · simp [Value.ownBlock]
  · intro he
    have : g' = g := by simpa [Value.ownBlock] using he
    subst this
    rw [hg] at hh
    injection hh with hh
    injection hh with _ ht
    exact hne ht.symm

theorem infoI64 : (Try.prog.info? 3).map (fun i => (i.zero, i.size, i.bytes)) = some (some (.int .i64 0), 1, 8) := by kernel_rfl
theorem ints_snoc (l : List Nat) (x : Nat) : ints (l ++ [x]) = ints l ++ [.int .i64 (x : Nat)] := by simp [ints]
section
variable {w w' : World} {base D B R C cap : Nat} {G Cp : Nat → Nat} {vp : Value} {s : M.Rd}
end

end Go.Proofs.Ytfkepkdfpjaniaa
namespace Go.Proofs.Ytfkepkdfpjaniaa
open Go.RowKit
set_option linter.unusedVariables false
set_option maxRecDepth 100000

theorem vals_app (l m : List Nat) : vals (l ++ m) = vals l ++ vals m := by simp [vals]
theorem vals_len (l : List Nat) : (vals l).length = l.length := by simp [vals]
end Go.Proofs.Ytfkepkdfpjaniaa
