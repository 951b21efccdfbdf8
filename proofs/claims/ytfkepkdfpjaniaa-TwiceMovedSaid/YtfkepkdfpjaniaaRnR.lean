/-
  Rows of one's own that lie anywhere, in a round of a range over a function.
-/
import Derived.Test.YtfkepkdfpjaniaaTrN
import Derived.Test.YtfkepkdfpjaniaaP7r
import Derived.Test.YtfkepkdfpjaniaaTw6
namespace Go.Proofs.Ytfkepkdfpjaniaa
open Go.RowKit Go.Shelf
set_option linter.unusedVariables false
set_option maxRecDepth 100000

section
variable {w w' : World} {base : Nat} {tv : Value} {Qs : List (List Nat)}
/-- another block turns, that is no row of numbers or of slices -/
theorem RowsN.turn {row : Option Nat} (h : RowsN w base tv Qs) (hg : w.grownBy w' row) (hr : ∀ r, row = some r → ∃ o : Obj, w.heap[r]? = some o ∧ o.isCells = false) : RowsN w' base tv Qs := by
  obtain ⟨us, h1, hp, h2⟩ := h.own
  have hne : ∀ g cap cur, tv = .slice (some ⟨g, 0, none⟩) Qs.length cap → w.heap[g]? = some (.cells cur 31 (0, 0)) → some g ≠ row := fun g cap cur e hh e2 => by
    obtain ⟨o, ho, hc⟩ := hr g e2.symm
    rw [hh] at ho; cases ho; cases hc
  rcases h1.2 with ⟨rfl, e⟩ | ⟨g, cap, cur, rfl, hb, hh, hrest⟩
  · exact ⟨us, ⟨h1.1, .inl ⟨rfl, e⟩⟩, fun g cur hg' => by simp [Value.ownBlock] at hg', fun i hi => by omega⟩
  · have hk : w'.heap[g]? = w.heap[g]? := hg.block g (lt_of_block hh) (hne g cap cur rfl hh)
    refine ⟨us, ⟨h1.1, .inr ⟨g, cap, cur, rfl, hb, hk.trans hh, hrest⟩⟩, fun g' cur' hg' hc' => ?_, fun i hi => by obtain ⟨A, l, c, e, hu⟩ := h2 i hi; exact ⟨A, l, c, e, numsTurn7 hu hg hr⟩⟩
    have e : g = g' := by simpa [Value.ownBlock] using hg'
    subst e
    rw [hk] at hc'
    exact hp g cur' rfl hc'
/-- a store into a box of a slice that lies below the base -/
theorem RowsN.set_box {B : Nat} {t : TypeId} {A : Option Addr} {l c : Nat} {u : Value} (h : RowsN w base tv Qs) (hB : w.heap[B]? = some (.cells #[.slice A l c] t (0, 0))) (hlt : B < base) : RowsN (w.setCell ⟨B, 0, none⟩ u) base tv Qs := by
  obtain ⟨us, h1, hp, h2⟩ := h.own
  rcases h1.2 with ⟨rfl, e⟩ | ⟨g, cap, cur, rfl, hb, hh, hrest⟩
  · exact ⟨us, ⟨h1.1, .inl ⟨rfl, e⟩⟩, fun g cur hg' => by simp [Value.ownBlock] at hg', fun i hi => by omega⟩
  · have hk : (w.setCell ⟨B, 0, none⟩ u).heap[g]? = w.heap[g]? := Below.heap_setCell w ⟨B, 0, none⟩ u g (by dsimp only; omega)
    refine ⟨us, ⟨h1.1, .inr ⟨g, cap, cur, rfl, hb, hk.trans hh, hrest⟩⟩, fun g' cur' hg' hc' => ?_, fun i hi => by obtain ⟨A', l', c', e, hu⟩ := h2 i hi; exact ⟨A', l', c', e, nums_set_box hu hB⟩⟩
    have e : g = g' := by simpa [Value.ownBlock] using hg'
    subst e
    rw [hk] at hc'
    exact hp g cur' rfl hc'
/-- a store into a box of an error that lies below the base -/
theorem RowsN.set_errno {B : Nat} {t : TypeId} {x : Int} {u : Value} (h : RowsN w base tv Qs) (hB : w.heap[B]? = some (.cells #[.int .i64 x] t (0, 0))) (hlt : B < base) : RowsN (w.setCell ⟨B, 0, none⟩ u) base tv Qs := by
  obtain ⟨us, h1, hp, h2⟩ := h.own
  rcases h1.2 with ⟨rfl, e⟩ | ⟨g, cap, cur, rfl, hb, hh, hrest⟩
  · exact ⟨us, ⟨h1.1, .inl ⟨rfl, e⟩⟩, fun g cur hg' => by simp [Value.ownBlock] at hg', fun i hi => by omega⟩
  · have hk : (w.setCell ⟨B, 0, none⟩ u).heap[g]? = w.heap[g]? := Below.heap_setCell w ⟨B, 0, none⟩ u g (by dsimp only; omega)
    refine ⟨us, ⟨h1.1, .inr ⟨g, cap, cur, rfl, hb, hk.trans hh, hrest⟩⟩, fun g' cur' hg' hc' => ?_, fun i hi => by obtain ⟨A', l', c', e, hu⟩ := h2 i hi; exact ⟨A', l', c', e, nums_set_errno hu hB⟩⟩
    have e : g = g' := by simpa [Value.ownBlock] using hg'
    subst e
    rw [hk] at hc'
    exact hp g cur' rfl hc'
end
theorem wp_append_rowK {w : World} {o : Oper} {a : Act} {K : Act → World → Prop} {Q : Exit → Act → World → Prop} (s x : Operand)
    (ho : o.op = .call { callee := .builtin .append, args := #[s, x], argTypes := #[25, 25] }) {base X l c : Nat} {A : Option Addr} {tv : Value} {Qs : List (List Nat)} {q : List Nat} (hs : a.eval s = tv)
    (hx : a.eval x = .slice (some ⟨X, 0, none⟩) 1 1) (hX : w.heap[X]? = some (.cells #[.slice A l c] 31 (0, 0))) (hA : RowsN w base tv Qs) (hu : Nums w (.slice A l c) q) (hk : Qs.length ≤ 1000) (hbase : base ≤ w.heap.size)
    (h : ∀ v' w', RowsN w' base v' (Qs ++ [q]) → Below base w w' → (∀ v zs, Nums w v zs → Nums w' v zs) → KeepsOthers w w' → K (a.put o.dst v') w') : o.wp Try.prog a w K Q := by
  obtain ⟨us, h1, hp, h2⟩ := hA.own
  have hul : us.length = Qs.length := by have := h1.1; omega
  obtain ⟨v', w', hr, hown, hgr, hp'⟩ := run_append_rowN w base Qs.length tv us o.type h1 hp X A l c hX hk hbase
  have hN : ∀ v zs, Nums w v zs → Nums w' v zs := fun v zs hv => nums_pure hv h1 hp hgr
  have hlt := h1.lt
  have hko : KeepsOthers w w' := KeepsOthers.of_grownBy hgr (fun j o hj ho => by
    rcases h1.2 with ⟨rfl, _⟩ | ⟨g, cap, cur, rfl, _, hh, _⟩
    · simp [Value.ownBlock] at hj
    · have e : g = j := by simpa [Value.ownBlock] using hj
      subst e
      rw [hh] at ho; cases ho; rfl)
  unfold Oper.wp execOp
  simp only [ho, resolve, invoke, builtin, Sem.run_bind, Sem.run_pure, Result.andThen_ok, List.map_toArray, List.map_cons, List.map_nil, hs, hx, hr]
  refine h v' w' ⟨us ++ [.slice A l c], by simpa using hown, hp', fun i hi => ?_⟩ ((Below.refl base w).grown hgr hbase (fun r hr => (hlt r hr).1)) hN hko
  by_cases e : i = Qs.length
  · subst e
    refine ⟨A, l, c, by rw [List.getElem?_append_right (by omega), hul]; simp, ?_⟩
    have e2 : (Qs ++ [q]).getD Qs.length [] = q := by simp [List.getD_eq_getElem?_getD]
    rw [e2]
    exact hN _ _ hu
  · have hi' : i < Qs.length := by simp at hi; omega
    obtain ⟨A', l', c', ex, hx'⟩ := h2 i hi'
    have e2 : (Qs ++ [q]).getD i [] = Qs.getD i [] := by simp [List.getD_eq_getElem?_getD, List.getElem?_append_left hi']
    rw [e2]
    exact ⟨A', l', c', by rw [List.getElem?_append_left (by omega)]; exact ex, hN _ _ hx'⟩
theorem wpListIn_append_rowK {lr n : Nat} {w : World} {ops : Array Oper} {rest : List Oper} {o : Oper} {a : Act} {Q : Exit → Act → World → Prop} (hgd : o.guard = none) (s x : Operand)
    (ho : o.op = .call { callee := .builtin .append, args := #[s, x], argTypes := #[25, 25] }) {base X l c : Nat} {A : Option Addr} {tv : Value} {Qs : List (List Nat)} {q : List Nat} (hs : a.eval s = tv)
    (hx : a.eval x = .slice (some ⟨X, 0, none⟩) 1 1) (hX : w.heap[X]? = some (.cells #[.slice A l c] 31 (0, 0))) (hA : RowsN w base tv Qs) (hu : Nums w (.slice A l c) q) (hk : Qs.length ≤ 1000) (hbase : base ≤ w.heap.size)
    (h : ∀ v' w', RowsN w' base v' (Qs ++ [q]) → Below base w w' → (∀ v zs, Nums w v zs → Nums w' v zs) → KeepsOthers w w' → wpListIn (Fence.wide.inRound lr) n Try.prog ops Q rest (a.put o.dst v') w') : wpListIn (Fence.wide.inRound lr) n Try.prog ops Q (o :: rest) a w :=
  wpListIn_plain hgd fun _ hK => wpIn_of_wp7 (by rw [ho]; intro c e; cases e) (wp_append_rowK s x ho hs hx hX hA hu hk hbase fun v' w' h2 h3 h4 h5 => hK _ _ (h v' w' h2 h3 h4 h5))
end Go.Proofs.Ytfkepkdfpjaniaa
