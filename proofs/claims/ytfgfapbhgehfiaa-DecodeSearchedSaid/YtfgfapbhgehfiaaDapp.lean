/-
  append(s, y) onto a slice without room.
-/
import Derived.Test.YtfgfapbhgehfiaaLD
import Derived.Test.YtfgfapbhgehfiaaXA
import Derived.Laws.AppendOwn
import Derived.Laws.Rows
import Derived.Deep.AppendLies
namespace Go.Proofs.Ytfgfapbhgehfiaa
open Go.RowKit
set_option linter.unusedVariables false
set_option maxRecDepth 100000

/-- append(s, y) onto a slice without room -/
theorem wp_append_full {w : World} {o : Oper} {a : Act} {K : Act → World → Prop} {Q : Exit → Act → World → Prop} (s x : Operand)
    (ho : o.op = .call { callee := .builtin .append, args := #[s, x], argTypes := #[31, 31] }) {g off k X y : Nat} (olds : List Nat) (hk : olds.length = k) (hs : a.eval s = .slice (some ⟨g, off, none⟩) k k)
    (hold : ∀ j, j < k → w.cell? ⟨g, off + j, none⟩ = some (.int .u64 (olds.getD j 0 : Nat))) (hlt : ∀ z ∈ olds, z < 18446744073709551616) (hx : a.eval x = .slice (some ⟨X, 0, none⟩) 1 1) (hX : w.heap[X]? = some (.cells #[.int .u64 (y : Nat)] 22 (0, 0))) (hy : y < 18446744073709551616) (hn : k ≤ 1000)
    (h : ∀ v' w', Nums w' v' (olds ++ [y]) → Below w.heap.size w w' → K (a.put o.dst v') w') :
    o.wp Try.prog a w K Q := by
  subst hk
  obtain ⟨i0, hi0, hz0, hz1, hz2⟩ := info_parts infoU64
  have hnews : ∀ j u, [Value.int .u64 (y : Nat)][j]? = some u → w.cell? ((⟨X, 0, none⟩ : Addr).add j) = some u := World.news_of_block (cs := #[.int .u64 (y : Nat)]) (fr := (0, 0)) hX
  have hr := run_append_grow (P := Try.prog) w 31 o.type 22 i0 (.int .u64 0) Try.underlying31 hi0 hz0 ⟨g, off, none⟩ olds.length olds.length (vals olds) (by rw [hz1]; simp [vals]) (fun j u hu => by
    have hj : j < olds.length := by have := (List.getElem?_eq_some_iff.1 hu).1; simpa [vals] using this
    rw [Addr.add_lit, hold j hj, ← hu]
    simp [vals, List.getD_eq_getElem?_getD, hj]) ⟨X, 0, none⟩ 1 1 [.int .u64 (y : Nat)] (by rw [hz1]; rfl) hnews (by omega) (by omega) (growslice_fits (by omega) (by rw [hz2]; omega))
  unfold Oper.wp execOp
  simp only [ho, resolve, invoke, builtin, Sem.run_bind, Sem.run_pure, Result.andThen_ok, List.map_toArray, List.map_cons, List.map_nil, hs, hx, hr]
  refine h _ _ ?_ ?_
  · refine ⟨fun z hz => by rcases List.mem_append.1 hz with hz | hz; exact hlt z hz; simp at hz; subst hz; exact hy, by simp; omega, .inr ⟨w.heap.size, 0, grownCap w (olds.length + 1) olds.length 22, by simp, ?_, by simp, fun i hi => ?_⟩⟩
    · have := grownCap_ge w (olds.length + 1) olds.length 22
      simpa using this
    · rw [Nat.zero_add]
      refine (cell_of_row _ w.heap.size i _ _ (0, 0) (heap_alloc_new w.drew _)).trans ?_
      rw [List.length_append, List.length_singleton] at hi
      have e : ((vals olds).toArray ++ #[Value.int .u64 (y : Nat)]) = (vals (olds ++ [y])).toArray := by simp [vals]
      rw [show ([Value.int .u64 (y : Nat)] : List Value).toArray = #[Value.int .u64 (y : Nat)] from rfl, e, Array.getElem?_append_left (by simp [vals]; omega)]
      simp only [List.getElem?_toArray]
      unfold vals
      rw [List.getElem?_map, List.getD_eq_getElem?_getD, List.getElem?_eq_getElem (by simp; omega)]
      rfl
  · exact Below.alloc (Below.refl w.heap.size w).drew (Nat.le_refl _) _

/-- the same in a plain region -/
theorem wpList_append_full {w : World} {ops : Array Oper} {rest : List Oper} {o : Oper} {a : Act} {Q : Exit → Act → World → Prop} (hgd : o.guard = none) (s x : Operand)
    (ho : o.op = .call { callee := .builtin .append, args := #[s, x], argTypes := #[31, 31] }) {g off k X y : Nat} (olds : List Nat) (hk : olds.length = k) (hs : a.eval s = .slice (some ⟨g, off, none⟩) k k)
    (hold : ∀ j, j < k → w.cell? ⟨g, off + j, none⟩ = some (.int .u64 (olds.getD j 0 : Nat))) (hlt : ∀ z ∈ olds, z < 18446744073709551616) (hx : a.eval x = .slice (some ⟨X, 0, none⟩) 1 1) (hX : w.heap[X]? = some (.cells #[.int .u64 (y : Nat)] 22 (0, 0))) (hy : y < 18446744073709551616) (hn : k ≤ 1000)
    (h : ∀ v' w', Nums w' v' (olds ++ [y]) → Below w.heap.size w w' → wpList Try.prog ops Q rest (a.put o.dst v') w') :
    wpList Try.prog ops Q (o :: rest) a w :=
  wpList_plain hgd fun _ hK => wp_append_full s x ho olds hk hs hold hlt hx hX hy hn fun v' w' h1 h2 => hK _ _ (h v' w' h1 h2)
/-- the same at a step of a region that draws -/
theorem step_append_full {w : World} {ops : Array Oper} {o : Oper} {a : Act} {K : Act → World → Prop} {Q : Exit → Act → World → Prop} {E : Prop} (hgd : o.guard = none) (s x : Operand)
    (ho : o.op = .call { callee := .builtin .append, args := #[s, x], argTypes := #[31, 31] }) {g off k X y : Nat} (olds : List Nat) (hk : olds.length = k) (hs : a.eval s = .slice (some ⟨g, off, none⟩) k k)
    (hold : ∀ j, j < k → w.cell? ⟨g, off + j, none⟩ = some (.int .u64 (olds.getD j 0 : Nat))) (hlt : ∀ z ∈ olds, z < 18446744073709551616) (hx : a.eval x = .slice (some ⟨X, 0, none⟩) 1 1) (hX : w.heap[X]? = some (.cells #[.int .u64 (y : Nat)] 22 (0, 0))) (hy : y < 18446744073709551616) (hn : k ≤ 1000)
    (h : ∀ v' w', Nums w' v' (olds ++ [y]) → Below w.heap.size w w' → K (a.put o.dst v') w') :
    if Region.wanted o (yielded ops a.tmps) = true then Oper.wp Try.prog o a w K Q else E := by
  have hw : Region.wanted o (yielded ops a.tmps) = true := by simp [Region.wanted, hgd]
  rw [if_pos hw]
  exact wp_append_full s x ho olds hk hs hold hlt hx hX hy hn h
/-- append(out, y) in whatever world, y of kind i64: what it does -/
theorem wpList_append_intAt {w : World} {ops : Array Oper} {rest : List Oper} {o : Oper} {a : Act} {Q : Exit → Act → World → Prop} (hgd : o.guard = none) (s x : Operand)
    (ho : o.op = .call { callee := .builtin .append, args := #[s, x], argTypes := #[32, 32] }) {base n X y : Nat} {tv : Value} {l : List Value} (hs : a.eval s = tv)
    (hx : a.eval x = .slice (some ⟨X, 0, none⟩) 1 1) (hX : w.heap[X]? = some (.cells #[.int .i64 (y : Nat)] 3 (0, 0))) (hown : w.ownsRow base 3 1 tv n l) (hn : n ≤ 1000) (hbase : base ≤ w.heap.size)
    (h : ∀ v' w', w'.ownsRow base 3 1 v' (n + 1) (l ++ [.int .i64 (y : Nat)]) → w.grownBy w' tv.ownBlock → Below base w w' → wpList Try.prog ops Q rest (a.put o.dst v') w') :
    wpList Try.prog ops Q (o :: rest) a w := by
  obtain ⟨i0, hi0, hz0, hz1, hz2⟩ := info_parts infoI64
  refine wpList_append_own _ hgd s x 32 ho base 3 i0 (.int .i64 0) 1 8 Try.underlying32 hi0 hz0 hz1 hz2 rfl (by decide) tv n _ hs hown ⟨X, 0, none⟩ 1 1 [.int .i64 (y : Nat)] hx rfl ?_ ?_ ?_ ?_ hbase ?_
  · exact World.news_of_block (cs := #[.int .i64 (y : Nat)]) (fr := (0, 0)) hX
  · intro u hu; simp at hu; subst hu; rfl
  · unfold maxLen; omega
  · omega
  · intro v' w' hown' hgr _
    have hlt := hown.lt
    exact h v' w' hown' hgr ((Below.refl base w).grown hgr hbase (fun r hr => (hlt r hr).1))
/-- append(out, y) in whatever world, y of kind u64: what it does -/
theorem wpList_append_numAt {w : World} {ops : Array Oper} {rest : List Oper} {o : Oper} {a : Act} {Q : Exit → Act → World → Prop} (hgd : o.guard = none) (s x : Operand)
    (ho : o.op = .call { callee := .builtin .append, args := #[s, x], argTypes := #[31, 31] }) {base n X y : Nat} {tv : Value} {l : List Value} (hs : a.eval s = tv)
    (hx : a.eval x = .slice (some ⟨X, 0, none⟩) 1 1) (hX : w.heap[X]? = some (.cells #[.int .u64 (y : Nat)] 22 (0, 0))) (hown : w.ownsRow base 22 1 tv n l) (hn : n ≤ 1000) (hbase : base ≤ w.heap.size)
    (h : ∀ v' w', w'.ownsRow base 22 1 v' (n + 1) (l ++ [.int .u64 (y : Nat)]) → w.grownBy w' tv.ownBlock → Below base w w' → wpList Try.prog ops Q rest (a.put o.dst v') w') :
    wpList Try.prog ops Q (o :: rest) a w := by
  obtain ⟨i0, hi0, hz0, hz1, hz2⟩ := info_parts infoU64
  refine wpList_append_own _ hgd s x 31 ho base 22 i0 (.int .u64 0) 1 8 Try.underlying31 hi0 hz0 hz1 hz2 rfl (by decide) tv n _ hs hown ⟨X, 0, none⟩ 1 1 [.int .u64 (y : Nat)] hx rfl ?_ ?_ ?_ ?_ hbase ?_
  · exact World.news_of_block (cs := #[.int .u64 (y : Nat)]) (fr := (0, 0)) hX
  · intro u hu; simp at hu; subst hu; rfl
  · unfold maxLen; omega
  · omega
  · intro v' w' hown' hgr _
    have hlt := hown.lt
    exact h v' w' hown' hgr ((Below.refl base w).grown hgr hbase (fun r hr => (hlt r hr).1))
end Go.Proofs.Ytfgfapbhgehfiaa
