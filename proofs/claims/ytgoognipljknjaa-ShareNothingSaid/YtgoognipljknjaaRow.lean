/-
  A row of numbers that the call made itself, told by a function of the place.
-/
import Derived.Test.YtgoognipljknjaaP1
import Derived.Laws.OwnMore
namespace Go.Proofs.Ytgoognipljknjaa
open Go.RowKit
set_option linter.unusedVariables false

def vals (l : List Nat) : List Value := l.map fun (z : Nat) => Value.int .u64 z
def Rw (w : World) (B n : Nat) (F : Nat → Nat) : Prop := ∀ i, i < n → w.cell? ⟨B, i, none⟩ = some (.int .u64 (F i : Nat)) ∧ w.frozen? ⟨B, i, none⟩ = false
theorem Rw.congr {w : World} {B n : Nat} {F G : Nat → Nat} (h : Rw w B n F) (e : ∀ i, i < n → F i = G i) : Rw w B n G := fun i hi => by rw [← e i hi]; exact h i hi
theorem Rw.set {w : World} {B n : Nat} {F : Nat → Nat} (h : Rw w B n F) {i : Nat} (hi : i < n) (x : Nat) : Rw (w.setCell ⟨B, i, none⟩ (.int .u64 (x : Nat))) B n (fun j => if j = i then x else F j) := by
  intro j hj
  refine ⟨?_, by rw [World.frozen?_setCell]; exact (h j hj).2⟩
  dsimp only
  by_cases e : j = i
  · subst e; rw [if_pos rfl]; exact World.cell?_setCell_same _ _ _ (h j hj).1
  · rw [World.cell?_setCell_other _ _ _ _ (by intro e'; have := congrArg Addr.off e'; simp at this; omega), if_neg e]; exact (h j hj).1
theorem Rw.other {w : World} {B n : Nat} {F : Nat → Nat} (h : Rw w B n F) {b : Nat} (hb : b ≠ B) (i : Nat) (u : Value) : Rw (w.setCell ⟨b, i, none⟩ u) B n F := by
  intro j hj
  refine ⟨?_, by rw [World.frozen?_setCell]; exact (h j hj).2⟩
  rw [World.cell?_setCell_other _ _ _ _ (by intro e'; have := congrArg Addr.block e'; simp at this; omega)]; exact (h j hj).1
theorem Rw.drewN {w : World} {B n : Nat} {F : Nat → Nat} (h : Rw w B n F) (k : Nat) : Rw (w.drewN k) B n F := h
theorem Rw.below {w w' : World} {B n b : Nat} {F : Nat → Nat} (h : Rw w B n F) (hb : Below b w w') (hB : B < b) : Rw w' B n F := fun i hi =>
  ⟨(hb.cell (p := ⟨B, i, none⟩) hB).trans (h i hi).1, (hb.frozen (p := ⟨B, i, none⟩) hB).trans (h i hi).2⟩
theorem Rw.start {w : World} {base B n : Nat} {l : List Value} (h : w.ownsRow base 22 1 (.slice (some ⟨B, 0, none⟩) n n) n l) (hl : l = List.replicate n (.int .u64 0)) : Rw w B n (fun _ => 0) := by
  subst hl
  intro i hi
  exact ⟨(h.cellAt i (by omega)).trans (by simp [hi]), h.frozenAt i⟩
/-- what lies below block B still reads as it did -/
theorem Nums.at {w w' : World} {B : Nat} {v : Value} {zs : List Nat} (h : Nums w v zs) (hw : w.heap.size ≤ B) {w0 : World} (hb : Below B w0 w') (h0 : Nums w0 v zs) : Nums w' v zs := by
  obtain ⟨h1, h2, h3⟩ := h
  obtain ⟨_, _, g3⟩ := h0
  refine ⟨h1, h2, ?_⟩
  rcases h3 with h3 | ⟨b, off, cap, e, hc, hl, hcell⟩
  · exact .inl h3
  · rcases g3 with ⟨a, c, e2, hz, _⟩ | ⟨b2, off2, cap2, e2, hc2, hl2, hcell2⟩
    · subst hz
      rw [e] at e2
      exact .inl ⟨_, _, e, rfl, by simp⟩
    · rw [e] at e2
      simp only [Value.slice.injEq, Option.some.injEq, Addr.mk.injEq, and_true, true_and] at e2
      obtain ⟨⟨rfl, rfl⟩, rfl⟩ := e2
      exact .inr ⟨b, off, cap, e, hc, Nat.lt_of_lt_of_le hl2 hb.size, fun i hi => (hb.cell (p := ⟨b, off + i, none⟩) (Nat.lt_of_lt_of_le hl hw)).trans (hcell2 i hi)⟩

theorem tab_len (n : Nat) (F : Nat → Nat) : (M.tabM n F).length = n := by simp [M.tabM]
theorem tab_get {n : Nat} (F : Nat → Nat) {i : Nat} (h : i < n) : (M.tabM n F).getD i 0 = F i := by simp [M.tabM, List.getD_eq_getElem?_getD, h]
theorem tab_congr {n : Nat} {F G : Nat → Nat} (h : ∀ i, i < n → F i = G i) : M.tabM n F = M.tabM n G := by
  unfold M.tabM; exact List.map_congr_left fun i hi => h i (List.mem_range.1 hi)
theorem Rw.nums {w : World} {B n : Nat} {F : Nat → Nat} (h : Rw w B n F) (hB : B < w.heap.size) (hn : n ≤ 17592186043904) (hF : ∀ i, i < n → F i < 18446744073709551616) : Nums w (.slice (some ⟨B, 0, none⟩) n n) (M.tabM n F) := by
  refine ⟨fun x hx => ?_, by rw [tab_len]; exact hn, .inr ⟨B, 0, n, by rw [tab_len], by rw [tab_len]; exact Nat.le_refl _, hB, fun i hi => ?_⟩⟩
  · unfold M.tabM at hx
    obtain ⟨i, hi, rfl⟩ := List.mem_map.1 hx
    exact hF i (List.mem_range.1 hi)
  · rw [tab_len] at hi
    rw [tab_get F hi, Nat.zero_add]
    exact (h i hi).1
end Go.Proofs.Ytgoognipljknjaa
