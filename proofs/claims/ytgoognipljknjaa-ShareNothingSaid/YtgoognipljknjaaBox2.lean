/-
  An array of two slices in a box of its own, while rows are appended to.
-/
import Derived.Test.YtgoognipljknjaaLaw4a
import Derived.Laws.OwnMore
import Derived.Deep.RegionLaw
namespace Go.Proofs.Ytgoognipljknjaa
open Go.RowKit
set_option linter.unusedVariables false

/-- the box g holds the array cs of two slices -/
structure Box2 (g : Nat) (cs : Array Value) (W : World) : Prop where
  heap : W.heap[g]? = some (.cells cs 89 (0, 0))
  size : cs.size = 2
  sl : ∀ (i : Nat) (v : Value), cs[i]? = some v → ∃ A n c, v = .slice A n c
/-- all blocks below B but g are as they were -/
def But (g B : Nat) (w w' : World) : Prop := w.heap.size ≤ w'.heap.size ∧ ∀ b, b < B → b ≠ g → w'.heap[b]? = w.heap[b]?

section
variable {g : Nat} {cs : Array Value} {W : World}
theorem Box2.cell (h : Box2 g cs W) {i : Nat} {v : Value} (hi : cs[i]? = some v) : W.cell? ⟨g, i, none⟩ = some v := (cell_of_row W g i cs _ _ h.heap).trans hi
theorem Box2.frozen (h : Box2 g cs W) (i : Nat) : W.frozen? ⟨g, i, none⟩ = false := frozen_of_row W g i cs _ h.heap
theorem Box2.below (h : Box2 g cs W) {B : Nat} {W' : World} (hb : Below B W W') (hg : g < B) : Box2 g cs W' := ⟨(hb.block g hg).trans h.heap, h.size, h.sl⟩
theorem Box2.set (h : Box2 g cs W) (i : Nat) (A : Option Addr) (n c : Nat) : Box2 g (cs.setIfInBounds i (.slice A n c)) (W.setCell ⟨g, i, none⟩ (.slice A n c)) := by
  refine ⟨heap_setCell_same W g i cs _ _ h.heap, by simpa using h.size, fun j v hj => ?_⟩
  rw [Array.getElem?_setIfInBounds] at hj
  split at hj
  · split at hj
    · injection hj with e; subst e; exact ⟨_, _, _, rfl⟩
    · cases hj
  · exact h.sl j v hj
theorem Box2.lt (h : Box2 g cs W) : g < W.heap.size := by
  apply Nat.lt_of_not_le
  intro hc
  have := h.heap
  rw [Array.getElem?_eq_none hc] at this
  cases this
theorem Box2.new (w : World) : Box2 w.heap.size #[.slice none 0 0, .slice none 0 0] (w.alloc (.cells #[.slice none 0 0, .slice none 0 0] 89)) :=
  ⟨heap_alloc_new w _, rfl, fun i v h => by
    match i, h with
    | 0, h => injection h with h; exact ⟨_, _, _, h.symm⟩
    | 1, h => injection h with h; exact ⟨_, _, _, h.symm⟩
    | i + 2, h => simp at h⟩
/-- numbers that can be read lie outside the box -/
theorem Box2.off (h : Box2 g cs W) {b off i x : Nat} (hc : W.cell? ⟨b, off + i, none⟩ = some (.int .u64 x)) : b ≠ g := by
  rintro rfl
  rw [cell_of_row W b _ cs _ _ h.heap] at hc
  obtain ⟨A, n, c, e⟩ := h.sl _ _ hc
  cases e
theorem But.refl (g B : Nat) (w : World) : But g B w w := ⟨Nat.le_refl _, fun _ _ _ => rfl⟩
theorem But.below {B : Nat} {w a b : World} (h : But g B w a) (hb : Below B a b) : But g B w b := ⟨Nat.le_trans h.1 hb.size, fun k hk hg => (hb.block k hk).trans (h.2 k hk hg)⟩
theorem But.set {B : Nat} {w a : World} (h : But g B w a) (i : Nat) (u : Value) : But g B w (a.setCell ⟨g, i, none⟩ u) :=
  ⟨Nat.le_trans h.1 (by simp [World.setCell]), fun k hk hg => (Below.heap_setCell a ⟨g, i, none⟩ u k hg).trans (h.2 k hk hg)⟩
theorem Nums.but {W' : World} {v : Value} {zs : List Nat} (hN : Nums W v zs) (h : Box2 g cs W) (hb : But g W.heap.size W W') : Nums W' v zs := by
  obtain ⟨h1, h2, h3⟩ := hN
  refine ⟨h1, h2, ?_⟩
  rcases h3 with h3 | ⟨b, off, cap, e, hc, hl, hcell⟩
  · exact .inl h3
  · refine .inr ⟨b, off, cap, e, hc, Nat.lt_of_lt_of_le hl hb.1, fun i hi => ?_⟩
    have hx := hcell i hi
    exact (World.cell?_of_block (w := W) (hb.2 b hl (h.off hx))).trans hx
end

theorem Kept.c7 {a b c d e f g : Addr} {x y z u v t x2 : Value} {W : World} (h : Kept [(a, x), (b, y), (c, z), (d, u), (e, v), (f, t), (g, x2)] W) :
    W.cell? a = some x ∧ W.cell? b = some y ∧ W.cell? c = some z ∧ W.cell? d = some u ∧ W.cell? e = some v ∧ W.cell? f = some t ∧ W.cell? g = some x2 :=
  ⟨h.of (by simp), h.of (by simp), h.of (by simp), h.of (by simp), h.of (by simp), h.of (by simp), h.of (by simp)⟩
theorem But.cell {g B : Nat} {w w' : World} (h : But g B w w') {p : Addr} (h1 : p.block < B) (h2 : p.block ≠ g) : w'.cell? p = w.cell? p := World.cell?_of_block (w := w) (h.2 p.block h1 h2)

/-- while the row in cell c of the box g grows to the first j of xs, from the world w5 on -/
structure Inn (g c B : Nat) (cs : Array Value) (w5 : World) (xs : List Nat) (j : Nat) (wr : World) : Prop where
  box : ∃ cs' v, Box2 g cs' wr ∧ (∀ i, i ≠ c → cs'[i]? = cs[i]?) ∧ cs'[c]? = some v ∧ wr.ownsRow B 22 1 v j (vals (xs.take j))
  but : But g B w5 wr
theorem Inn.start {g c : Nat} {cs : Array Value} {w5 : World} {xs : List Nat} (hb : Box2 g cs w5) (hc : cs[c]? = some (.slice none 0 0)) : Inn g c w5.heap.size cs w5 xs 0 w5 :=
  ⟨⟨cs, _, hb, fun _ _ => rfl, hc, World.ownsRow_nil _ _ _ _⟩, But.refl _ _ _⟩
theorem own_slice {w : World} {base : Nat} {e : TypeId} {size : Nat} {v : Value} {n : Nat} {xs : List Value} (h : w.ownsRow base e size v n xs) : ∃ A m cp, v = .slice A m cp := by
  rcases h.2 with ⟨e, _⟩ | ⟨_, _, _, e, _⟩
  · exact ⟨_, _, _, e⟩
  · exact ⟨_, _, _, e⟩
theorem Inn.step {g c B j x : Nat} {cs cs' : Array Value} {w5 wr w4 : World} {xs : List Nat} {v v' : Value} (h : Box2 g cs' wr) (ho : ∀ i, i ≠ c → cs'[i]? = cs[i]?) (hbut : But g B w5 wr) (hc : c < 2) (hg : g < B) (hx : vals (xs.take (j + 1)) = vals (xs.take j) ++ vals [x])
    (hown : w4.ownsRow B 22 1 v' (j + 1) (vals (xs.take j) ++ vals [x])) (hb : Below B wr w4) : Inn g c B cs w5 xs (j + 1) (w4.setCell ⟨g, c, none⟩ v') := by
  have h4 := h.below hb hg
  obtain ⟨A, n, cp, rfl⟩ : ∃ A n cp, v' = .slice A n cp := by
    rcases hown.2 with ⟨e, _⟩ | ⟨_, _, _, e, _⟩
    · exact ⟨_, _, _, e⟩
    · exact ⟨_, _, _, e⟩
  refine ⟨⟨cs'.setIfInBounds c (.slice A n cp), .slice A n cp, h4.set c A n cp, fun i hi => ?_, ?_, ?_⟩, (hbut.below hb).set c _⟩
  · rw [Array.getElem?_setIfInBounds, if_neg (fun e => hi e.symm)]; exact ho i hi
  · rw [Array.getElem?_setIfInBounds, if_pos rfl, if_pos (by rw [h.size]; exact hc)]
  · rw [hx]; exact ownsRow_setCell_below hown hg _

/-- the first k of the two rows are there, the others still empty -/
def Got (G : Nat → List Nat) (g k : Nat) (W : World) : Prop := ∃ cs, Box2 g cs W ∧ (∀ i, i < k → ∃ v, cs[i]? = some v ∧ Nums W v (G i)) ∧ ∀ i, k ≤ i → i < 2 → cs[i]? = some (.slice none 0 0)
theorem Got.start {G : Nat → List Nat} {g : Nat} {W : World} (h : Box2 g #[.slice none 0 0, .slice none 0 0] W) : Got G g 0 W :=
  ⟨_, h, fun i hi => absurd hi (by omega), fun i _ hi => by
    match i, hi with
    | 0, _ => rfl
    | 1, _ => rfl⟩
theorem Got.below {G : Nat → List Nat} {g k : Nat} {W W' : World} (h : Got G g k W) (hb : Below W.heap.size W W') : Got G g k W' := by
  obtain ⟨cs, hx, h1, h2⟩ := h
  refine ⟨cs, hx.below hb hx.lt, fun i hi => ?_, h2⟩
  obtain ⟨v, e, hN⟩ := h1 i hi
  exact ⟨v, e, hN.below hb⟩
theorem Got.next {G : Nat → List Nat} {g k : Nat} {cs : Array Value} {w5 wr : World} (h5 : Box2 g cs w5) (h1 : ∀ i, i < k → ∃ v, cs[i]? = some v ∧ Nums w5 v (G i)) (h2 : ∀ i, k ≤ i → i < 2 → cs[i]? = some (.slice none 0 0)) (hk : k < 2)
    (hI : Inn g k w5.heap.size cs w5 (G k) (G k).length wr) (hz : ∀ z ∈ G k, z < 18446744073709551616) (hl : (G k).length ≤ 17592186043904) : Got G g (k + 1) wr := by
  obtain ⟨⟨cs', v, hx, ho, hv, hown⟩, hbut⟩ := hI
  rw [List.take_length] at hown
  refine ⟨cs', hx, fun i hi => ?_, fun i h3 h4 => ?_⟩
  · by_cases e : i = k
    · subst e; exact ⟨v, hv, nums_of_owns hown hz hl⟩
    · obtain ⟨u, eu, hN⟩ := h1 i (by omega)
      exact ⟨u, (ho i e).trans eu, hN.but h5 hbut⟩
  · exact (ho i (by omega)).trans (h2 i (by omega) h4)
theorem Got.done {G : Nat → List Nat} {g : Nat} {W : World} (h : Got G g 2 W) : ∃ v0 v1, W.cell? ⟨g, 0, none⟩ = some v0 ∧ W.cell? ⟨g, 1, none⟩ = some v1 ∧ Nums W v0 (G 0) ∧ Nums W v1 (G 1) := by
  obtain ⟨cs, hx, h1, _⟩ := h
  obtain ⟨v0, e0, n0⟩ := h1 0 (by omega)
  obtain ⟨v1, e1, n1⟩ := h1 1 (by omega)
  exact ⟨v0, v1, hx.cell e0, hx.cell e1, n0, n1⟩
theorem step_append_nums {w : World} {ops : Array Oper} {o : Oper} {a : Act} {K : Act → World → Prop} {Q : Exit → Act → World → Prop} {E : Prop} (hgd : Region.wanted o (yielded ops a.tmps) = true) (s x : Operand)
    (ho : o.op = .call { callee := .builtin .append, args := #[s, x], argTypes := #[24, 24] }) (base : Nat) (v : Value) (n : Nat) (xs : List Value) (hs : a.eval s = v) (hown : w.ownsRow base 22 1 v n xs)
    (vx : Value) (zs : List Nat) (hx : a.eval x = vx) (hN : Nums w vx zs) (hle : n + zs.length ≤ 17592186043904) (hbase : base ≤ w.heap.size)
    (h : ∀ v' w', w'.ownsRow base 22 1 v' (n + zs.length) (xs ++ vals zs) → Below base w w' → K (a.put o.dst v') w') : if Region.wanted o (yielded ops a.tmps) = true then o.wp Try.prog a w K Q else E := by
  obtain ⟨i0, hi0, hz0, hz1, hz2⟩ := info_parts infoU64
  have hlt := hown.lt
  rw [if_pos hgd]
  obtain ⟨h1, h2, h3⟩ := hN
  have go : ∀ (ad : Addr) (c : Nat), vx = .slice (some ad) zs.length c → (∀ j u, (vals zs)[j]? = some u → w.cell? (ad.add j) = some u) → o.wp Try.prog a w K Q := by
    intro ad c hv hc
    refine wp_append_own w s x 24 ho base 22 i0 (.int .u64 0) 1 8 Try.underlying24 hi0 hz0 hz1 hz2 rfl (by decide) v n xs hs hown ad zs.length c (vals zs) (hx.trans hv) (by simp [vals]) hc ?_ ?_ ?_ hbase ?_
    · intro u hu; unfold vals at hu; obtain ⟨z, _, rfl⟩ := List.mem_map.1 hu; rfl
    · unfold maxLen; omega
    · omega
    · intro v' w' hown' hgrow _
      exact h v' w' hown' ((Below.refl _ _).grown hgrow hbase (fun k hk => (hlt k hk).1))
  rcases h3 with ⟨ad, cap, rfl, rfl, hnn⟩ | ⟨b, off, cap, rfl, hc, hb, hcell⟩
  · cases ad with
    | none =>
      obtain rfl := hnn rfl
      have hrun := run_append_owned_none (P := Try.prog) (w := w) base 24 o.type 22 i0 1 Try.underlying24 hi0 v n xs hown
      unfold Oper.wp
      simp [execOp, ho, resolve, invoke, builtin, hs, hx, hrun, Result.andThen]
      exact h v w (by simpa [vals] using hown) (Below.refl _ _)
    | some x => exact go x cap rfl (fun j u hu => by simp [vals] at hu)
  · refine go _ cap rfl (fun j u hu => ?_)
    have hj : j < zs.length := by
      apply Nat.lt_of_not_le; intro hc
      rw [List.getElem?_eq_none (by simp [vals]; omega)] at hu; cases hu
    rw [Addr.add_lit, hcell j hj]
    simp [vals, List.getD_eq_getElem?_getD, hj] at hu ⊢
    exact hu
end Go.Proofs.Ytgoognipljknjaa
