/-
  Contracts: field.Inverses.
-/
import Derived.Test.YtgoognipljknjaaCont
import Derived.Test.YtgoognipljknjaaBack
import Derived.Test.YtgoognipljknjaaInvM
import Derived.Laws.OwnMore
namespace Go.Proofs.Ytgoognipljknjaa
open Go.RowKit Go.Shelf
set_option linter.unusedVariables false
attribute [local go_sem] Oper.semAt_some

theorem wpListIn_make_full {F : Fence} {n : Nat} {P : Program} (w : World) {ops : Array Oper} {rest : List Oper} {o : Oper} {a : Act} {Q : Exit → Act → World → Prop}
    (hg : o.guard = none) (l c : Operand) (t : TypeId) (hop : o.op = Op.makeSlice t l c)
    (e : TypeId) (i : TypeInfo) (z : Value) (h1 : P.underlying t = some (.slice e)) (h2 : P.info? e = some i) (h3 : i.zero = some z) (h4 : i.size = 1) (hzc : z.cells = #[z])
    (kl kc : IntKind) (m : Nat) (hl : a.eval l = .int kl m) (hc : a.eval c = .int kc m) (b2 : i.bytes * m ≤ 281474976710656) (b3 : m ≤ 9223372036854775807)
    (hK : ∀ cs : Array Value, cs.toList = List.replicate m z → wpListIn F n P ops Q rest (a.put o.dst (.slice (some ⟨w.heap.size, 0, none⟩) m m)) (w.alloc (.cells cs e))) :
    wpListIn F n P ops Q (o :: rest) a w := by
  refine wpListIn_plain hg fun K hK' => ?_
  have hb' : (i.bytes : Int) * (m : Int) ≤ 281474976710656 := by
    have h : ((i.bytes * m : Nat) : Int) ≤ 281474976710656 := by omega
    rwa [Int.natCast_mul] at h
  have hrun := run_make (P := P) w t e i z h1 h2 h3 kl kc m m (by omega) (Int.le_refl _) hb' (by omega)
  rw [h4, hzc] at hrun
  simp only [Int.toNat_natCast, Nat.mul_one] at hrun
  unfold Oper.wpIn
  refine ⟨?_, ?_⟩
  · simp [Oper.about, hop]
  · rw [Oper.semAt_plain F _ _ (by rw [hop]; intro c hc'; cases hc')]
    simp [execOp, hop, hl, hc, hrun, Result.andThen]
    exact hK' _ _ (hK _ (toList_madeCells_one z m))

theorem cellAl {w : World} {a : Addr} {v : Value} (o : Obj) (h : w.cell? a = some v) : (w.alloc o).cell? a = some v := cell_kept h (World.grownBy_alloc w o none) (by simp)
theorem frozenAl {w : World} {a : Addr} {v : Value} (o : Obj) (h : w.cell? a = some v) (h2 : w.frozen? a = false) : (w.alloc o).frozen? a = false := (frozen_kept h (World.grownBy_alloc w o none) (by simp)).trans h2
/-- where the made row, its length and what it holds lie -/
def St (B n p : Nat) (f : Nat → Nat) (W : World) : Prop :=
  (W.cell? ⟨B, 0, none⟩ = some (.int .u64 p) ∧ W.cell? ⟨B + 2, 0, none⟩ = some (.slice (some ⟨B + 1, 0, none⟩) n n)) ∧ ∀ i, i < n → W.cell? ⟨B + 1, i, none⟩ = some (.int .u64 (f i)) ∧ W.frozen? ⟨B + 1, i, none⟩ = false
theorem St.set {B n p : Nat} {f : Nat → Nat} {W : World} (h : St B n p f W) {i x : Nat} (hi : i < n) : St B n p (fun j => if j = i then x else f j) (W.setCell ⟨B + 1, i, none⟩ (.int .u64 x)) := by
  refine ⟨⟨?_, ?_⟩, fun j hj => ⟨?_, ?_⟩⟩
  · rw [World.cell?_setCell_other _ _ _ _ (by intro e; simp at e)]; exact h.1.1
  · rw [World.cell?_setCell_other _ _ _ _ (by intro e; simp at e)]; exact h.1.2
  · by_cases e : j = i
    · subst e; simpa using World.cell?_setCell_same _ _ _ (h.2 j hj).1
    · rw [World.cell?_setCell_other _ _ _ _ (by intro e'; have := congrArg Addr.off e'; simp at this; omega)]; simpa [e] using (h.2 j hj).1
  · rw [World.frozen?_setCell]; exact (h.2 j hj).2
theorem St.other {B n p b : Nat} {f : Nat → Nat} {W : World} (h : St B n p f W) (hb : B + 2 < b) (i : Nat) (u : Value) : St B n p f (W.setCell ⟨b, i, none⟩ u) := by
  refine ⟨⟨?_, ?_⟩, fun j hj => ⟨?_, ?_⟩⟩
  · rw [World.cell?_setCell_other _ _ _ _ (by intro e; have := congrArg Addr.block e; simp at this; omega)]; exact h.1.1
  · rw [World.cell?_setCell_other _ _ _ _ (by intro e; have := congrArg Addr.block e; simp at this; omega)]; exact h.1.2
  · rw [World.cell?_setCell_other _ _ _ _ (by intro e; have := congrArg Addr.block e; simp at this; omega)]; exact (h.2 j hj).1
  · rw [World.frozen?_setCell]; exact (h.2 j hj).2
theorem St.alloc {B n p : Nat} {f : Nat → Nat} {W : World} (h : St B n p f W) (o : Obj) : St B n p f (W.alloc o) :=
  ⟨⟨cellAl _ h.1.1, cellAl _ h.1.2⟩, fun j hj => ⟨cellAl _ (h.2 j hj).1, frozenAl _ (h.2 j hj).1 (h.2 j hj).2⟩⟩
theorem St.congr {B n p : Nat} {f g : Nat → Nat} {W : World} (h : St B n p f W) (e : ∀ i, i < n → f i = g i) : St B n p g W := ⟨h.1, fun i hi => by rw [← e i hi]; exact h.2 i hi⟩
theorem St.start {w : World} {n p : Nat} {cs : Array Value} (hcs : cs.toList = List.replicate n (.int .u64 0)) (t0 t1 t2 : TypeId) :
    St w.heap.size n p (fun _ => 0) (((w.alloc (.cells #[.int .u64 p] t0)).alloc (.cells cs t1)).alloc (.cells #[.slice (some ⟨w.heap.size + 1, 0, none⟩) n n] t2)) := by
  have b0 := ((Boxed.new w t0 (.int .u64 p)).alloc (.cells cs t1)).alloc (.cells #[.slice (some ⟨w.heap.size + 1, 0, none⟩) n n] t2)
  have b2 := Boxed.new ((w.alloc (.cells #[.int .u64 p] t0)).alloc (.cells cs t1)) t2 (.slice (some ⟨w.heap.size + 1, 0, none⟩) n n)
  have hr := World.alloc_heap_new (w.alloc (.cells #[.int .u64 p] t0)) (.cells cs t1)
  simp only [World.size_alloc] at b2 hr
  have hz : ∀ i, i < n → cs[i]? = some (.int .u64 0) := fun i hi => by rw [← Array.getElem?_toList, hcs]; simp [hi]
  refine ⟨⟨b0.cell, b2.cell⟩, fun i hi => ?_⟩
  have h1 : ((w.alloc (.cells #[.int .u64 p] t0)).alloc (.cells cs t1)).cell? ⟨w.heap.size + 1, i, none⟩ = some (.int .u64 0) := (cell_of_row _ _ i cs t1 (0, 0) hr).trans (hz i hi)
  have h2 : ((w.alloc (.cells #[.int .u64 p] t0)).alloc (.cells cs t1)).frozen? ⟨w.heap.size + 1, i, none⟩ = false := frozen_of_row _ _ i cs t1 hr
  exact ⟨cellAl _ h1, frozenAl _ h1 h2⟩
theorem St.own {B n p : Nat} {f : Nat → Nat} {A W : World} {row : Option Nat} (h : St B n p f A) (hg : A.grownBy W row) (hr : ∀ r, row = some r → ∃ o : Obj, A.heap[r]? = some o ∧ o.isCells = false) : St B n p f W :=
  ⟨⟨cell_kept h.1.1 hg hr, cell_kept h.1.2 hg hr⟩, fun j hj => ⟨cell_kept (h.2 j hj).1 hg hr, (frozen_kept (h.2 j hj).1 hg hr).trans (h.2 j hj).2⟩⟩

theorem nums_slice' {w : World} {v : Value} {zs : List Nat} (h : Nums w v zs) : ∃ a cap, v = .slice a zs.length cap := by
  rcases h.2.2 with ⟨a, cap, rfl, rfl, _⟩ | ⟨b, off, cap, rfl, _⟩
  · exact ⟨_, _, rfl⟩
  · exact ⟨_, _, rfl⟩
theorem Nums.alloc {w : World} {v : Value} {zs : List Nat} (h : Nums w v zs) (o : Obj) : Nums (w.alloc o) v zs := by
  obtain ⟨h1, h2, h3⟩ := h
  refine ⟨h1, h2, ?_⟩
  rcases h3 with h3 | ⟨b, off, cap, e, hc, hl, hcell⟩
  · exact .inl h3
  · exact .inr ⟨b, off, cap, e, hc, by simp; omega, fun i hi => cellAl _ (hcell i hi)⟩
end Go.Proofs.Ytgoognipljknjaa
