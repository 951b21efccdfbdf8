/-
  append(x, s...), s any slice of numbers that reads as numbers: nil, empty or not.
-/
import Derived.Test.YtgoognipljknjaaMem3
import Derived.Laws.AppendOwnNone
import Derived.RegionTactic
namespace Go.Proofs.Ytgoognipljknjaa
open Go.RowKit
set_option linter.unusedVariables false
set_option maxRecDepth 100000

def vals (l : List Nat) : List Value := l.map fun (z : Nat) => Value.int .u64 z
theorem vals_app (l m : List Nat) : vals (l ++ m) = vals l ++ vals m := by simp [vals]
theorem vals_len (l : List Nat) : (vals l).length = l.length := by simp [vals]
theorem wpList_append_nums {w : World} {ops : Array Oper} {rest : List Oper} {o : Oper} {a : Act} {Q : Exit → Act → World → Prop} (hgd : Region.wanted o (yielded ops a.tmps) = true) (s x : Operand)
    (ho : o.op = .call { callee := .builtin .append, args := #[s, x], argTypes := #[24, 24] }) (base : Nat) (v : Value) (n : Nat) (xs : List Value) (hs : a.eval s = v) (hown : w.ownsRow base 22 1 v n xs)
    (vx : Value) (zs : List Nat) (hx : a.eval x = vx) (hN : Nums w vx zs) (hle : n + zs.length ≤ 17592186043904) (hbase : base ≤ w.heap.size)
    (h : ∀ v' w', w'.ownsRow base 22 1 v' (n + zs.length) (xs ++ vals zs) → Below base w w' → wpList Try.prog ops Q rest (a.put o.dst v') w') : wpList Try.prog ops Q (o :: rest) a w := by
  obtain ⟨i0, hi0, hz0, hz1, hz2⟩ := info_parts infoU64
  have hlt := hown.lt
  unfold wpList
  rw [if_pos hgd]
  refine .inl ?_
  obtain ⟨h1, h2, h3⟩ := hN
  have go : ∀ (ad : Addr) (c : Nat), vx = .slice (some ad) zs.length c → (∀ j u, (vals zs)[j]? = some u → w.cell? (ad.add j) = some u) → o.wp Try.prog a w (wpList Try.prog ops Q rest) Q := by
    intro ad c hv hc
    refine wp_append_own w s x 24 ho base 22 i0 (.int .u64 0) 1 8 Try.underlying24 hi0 hz0 hz1 hz2 rfl (by decide) v n xs hs hown ad zs.length c (vals zs) (hx.trans hv) (by simp [vals]) hc ?_ ?_ ?_ hbase ?_
    · intro u hu; unfold vals at hu; obtain ⟨z, _, rfl⟩ := List.mem_map.1 hu; rfl
    · unfold maxLen; omega
    · omega
    · intro v' w' hown' hgrow _
      exact h v' w' hown' ((Below.refl _ _).grown hgrow hbase (fun k hk => (hlt k hk).1))
  rcases h3 with ⟨ad, cap, rfl, rfl, hnn⟩ | ⟨b, off, cap, rfl, hc, hb, hcell⟩
  · cases ad with
    | none =>
      obtain rfl := hnn rfl
      have hrun := run_append_owned_none (P := Try.prog) (w := w) base 24 o.type 22 i0 1 Try.underlying24 hi0 v n xs hown
      unfold Oper.wp
      simp [execOp, ho, resolve, invoke, builtin, hs, hx, hrun, Result.andThen]
      exact h v w (by simpa [vals] using hown) (Below.refl _ _)
    | some x => exact go x cap rfl (fun j u hu => by simp [vals] at hu)
  · refine go _ cap rfl (fun j u hu => ?_)
    have hj : j < zs.length := by
      apply Nat.lt_of_not_le; intro hc
      rw [List.getElem?_eq_none (by simp [vals]; omega)] at hu; cases hu
    rw [Addr.add_lit, hcell j hj]
    simp [vals, List.getD_eq_getElem?_getD, hj] at hu ⊢
    exact hu

end Go.Proofs.Ytgoognipljknjaa
