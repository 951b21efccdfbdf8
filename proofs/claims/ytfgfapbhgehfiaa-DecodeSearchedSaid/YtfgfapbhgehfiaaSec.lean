/-
  append of points at a step of a region that draws its order.
-/
import Derived.Test.YtfgfapbhgehfiaaSea
import Derived.Deep.RegionLaw
import Derived.Deep.AppendLies
namespace Go.Proofs.Ytfgfapbhgehfiaa
open Go.RowKit
set_option linter.unusedVariables false
set_option maxRecDepth 100000

theorem ptRow4_odd {cx cy : List Nat} {n j : Nat} {u : Value} (h : (ptRow4 cx cy n)[j]? = some u) : j / 2 < n ∧ (j % 2 = 0 → u = .int .u64 (cx.getD (j / 2) 0 : Nat)) ∧ (j % 2 = 1 → u = .int .u64 (cy.getD (j / 2) 0 : Nat)) := by
  have hj : j < n * 2 := by
    apply Nat.lt_of_not_le
    intro hc
    rw [List.getElem?_eq_none (by rw [ptRow4_len]; omega)] at h
    cases h
  have hi : j / 2 < n := by omega
  obtain ⟨e1, e2⟩ := ptRow4_get cx cy n (j / 2) hi
  refine ⟨hi, fun hm => ?_, fun hm => ?_⟩
  · rw [show j / 2 * 2 = j by omega, h] at e1
    exact Option.some.inj e1
  · rw [show j / 2 * 2 + 1 = j by omega, h] at e2
    exact Option.some.inj e2

theorem step_append_pts {w : World} {ops : Array Oper} {o : Oper} {a : Act} {K : Act → World → Prop} {Q : Exit → Act → World → Prop} {E : Prop} (hgd : o.guard = none) (s x : Operand)
    (ho : o.op = .call { callee := .builtin .append, args := #[s, x], argTypes := #[23, 23] }) {base : Nat} {v vc : Value} {cx cy : List Nat} (hs : a.eval s = v) (hx : a.eval x = vc)
    (hown : w.ownsRow base 64 2 v 0 []) (hc : Pts w vc cx cy) (hnil : cx.length = 0 → vc = .slice none 0 0) (hn : cx.length ≤ 1000) (hbase : base ≤ w.heap.size)
    (h : ∀ v' w', w'.ownsRow base 64 2 v' cx.length (ptRow4 cx cy cx.length) → w.grownBy w' v.ownBlock → Below base w w' → K (a.put o.dst v') w') :
    if Region.wanted o (yielded ops a.tmps) = true then Oper.wp Try.prog o a w K Q else E := by
  obtain ⟨i0, hi0, hz0, hz1, hz2⟩ := info_parts infoPt
  have hw : Region.wanted o (yielded ops a.tmps) = true := by simp [Region.wanted, hgd]
  rw [if_pos hw]
  have hlt := hown.lt
  by_cases h0 : cx.length = 0
  · obtain rfl := hnil h0
    have hrun := run_append_owned_none (P := Try.prog) (w := w) base 23 o.type 64 i0 2 Try.underlying23 hi0 v 0 [] hown
    have h' := h v w (by rw [h0]; exact hown) (World.grownBy.refl _ _) (Below.refl _ _)
    unfold Oper.wp
    simp [execOp, ho, resolve, invoke, builtin, hs, hx, hrun, Result.andThen]
    exact h'
  · obtain ⟨_, _, _, _, A, cap, rfl, hcap, h5⟩ := hc
    obtain ⟨b, off, rfl, hb, hcell⟩ := h5 (by omega)
    refine wp_append_own w s x 23 ho base 64 i0 (.agg #[.int .u64 0, .int .u64 0]) 2 16 Try.underlying23 hi0 hz0 hz1 hz2 rfl (by decide) v 0 [] hs hown ⟨b, off, none⟩ cx.length cap (ptRow4 cx cy cx.length) hx (ptRow4_len _ _ _) ?_ ?_ ?_ ?_ hbase ?_
    · intro j u hu
      obtain ⟨hj, h1, h2⟩ := ptRow4_odd hu
      obtain ⟨c1, c2⟩ := hcell _ hj
      rw [Addr.add_lit]
      rcases Nat.mod_two_eq_zero_or_one j with hm | hm
      · rw [h1 hm, ← c1]
        congr 2
        omega
      · rw [h2 hm, ← c2]
        congr 2
        omega
    · intro u hu
      obtain ⟨j, hj⟩ := List.getElem?_of_mem hu
      obtain ⟨_, h1, h2⟩ := ptRow4_odd hj
      rcases Nat.mod_two_eq_zero_or_one j with hm | hm
      · rw [h1 hm]; rfl
      · rw [h2 hm]; rfl
    · unfold maxLen; omega
    · omega
    · intro v' w' hown' hgr _
      rw [Nat.zero_add, List.nil_append] at hown'
      exact h v' w' hown' hgr ((Below.refl base w).grown hgr hbase (fun r hr => (hlt r hr).1))

theorem step_append_pt {w : World} {ops : Array Oper} {o : Oper} {a : Act} {K : Act → World → Prop} {Q : Exit → Act → World → Prop} {E : Prop} (hgd : o.guard = none) (s x : Operand)
    (ho : o.op = .call { callee := .builtin .append, args := #[s, x], argTypes := #[23, 23] }) {base n X x0 y0 : Nat} {v : Value} {l : List Value} (hs : a.eval s = v)
    (hx : a.eval x = .slice (some ⟨X, 0, none⟩) 1 1) (hX : w.heap[X]? = some (.cells #[.int .u64 (x0 : Nat), .int .u64 (y0 : Nat)] 64 (0, 0))) (hown : w.ownsRow base 64 2 v n l) (hn : n ≤ 1000) (hbase : base ≤ w.heap.size)
    (h : ∀ v' w', w'.ownsRow base 64 2 v' (n + 1) (l ++ [.int .u64 (x0 : Nat), .int .u64 (y0 : Nat)]) → Below base w w' → K (a.put o.dst v') w') :
    if Region.wanted o (yielded ops a.tmps) = true then Oper.wp Try.prog o a w K Q else E := by
  obtain ⟨i0, hi0, hz0, hz1, hz2⟩ := info_parts infoPt
  have hw : Region.wanted o (yielded ops a.tmps) = true := by simp [Region.wanted, hgd]
  rw [if_pos hw]
  have hlt := hown.lt
  refine wp_append_own w s x 23 ho base 64 i0 (.agg #[.int .u64 0, .int .u64 0]) 2 16 Try.underlying23 hi0 hz0 hz1 hz2 rfl (by decide) v n l hs hown ⟨X, 0, none⟩ 1 1 [.int .u64 (x0 : Nat), .int .u64 (y0 : Nat)] hx rfl ?_ ?_ ?_ ?_ hbase ?_
  · exact World.news_of_block (cs := #[.int .u64 (x0 : Nat), .int .u64 (y0 : Nat)]) (fr := (0, 0)) hX
  · intro u hu; simp at hu; rcases hu with rfl | rfl <;> rfl
  · unfold maxLen; omega
  · omega
  · intro v' w' hown' hgr _
    exact h v' w' hown' ((Below.refl base w).grown hgr hbase (fun r hr => (hlt r hr).1))
end Go.Proofs.Ytfgfapbhgehfiaa
