/-
  A region that draws its order: an operation ahead of which two quiet ones may come up; append of a slice of numbers at one operation.
-/
import Derived.Test.YtfkepkdfpjaniaaLex
import Derived.Test.YtfkepkdfpjaniaaRA
namespace Go.Proofs.Ytfkepkdfpjaniaa
open Go.RowKit
section
variable {P : Program} {ops : Array Oper} {md : Region.Mode} {Q : Exit → Act → World → Prop} {S : World → Prop}
/-- operation k may wait till the two behind it have come -/
def lateC (md : Region.Mode) (ops : Array Oper) (k : Nat) : Bool :=
  let n := ops.size
  let L0 := lexUp n k
  let L1 := L0.setIfInBounds (k + 1) true
  let L2 := L1.setIfInBounds (k + 2) true
  (Region.ready md ops L0).contains (k + 1) && Region.free md ops L0 (k + 1) && (Region.ready md ops L1).contains (k + 2) && Region.free md ops L1 (k + 2) && (Region.ready md ops L2 == [k]) && (L2.setIfInBounds k true == lexUp n (k + 3))
theorem LexH.late2 {o o1 o2 : Oper} {l : List Oper} {k : Nat} {v1 v2 : Value} {a : Act} {w : World} (hb : lateC md ops k = true)
    (hw1 : Region.wanted o1 (yielded ops a.tmps) = true) (hv1 : ∀ w, S w → (execOp a.eval o1).run P w = .ok (.value v1) w)
    (hw2 : Region.wanted o2 (yielded ops (a.put o1.dst v1).tmps) = true) (hv2 : ∀ w, S w → (execOp (a.put o1.dst v1).eval o2).run P w = .ok (.value v2) w)
    (hw : Region.wanted o (yielded ops ((a.put o1.dst v1).put o2.dst v2).tmps) = true)
    (h : ∀ K : Act → World → Prop, Shut (∀ a w, S w → (S w → LexH P md ops Q S l (k + 3) a w) → K a w) → Oper.wp P o ((a.put o1.dst v1).put o2.dst v2) w K Q) :
    LexH P md ops Q S (o :: o1 :: o2 :: l) k a w := by
  intro hl hs hB hQ hS
  simp only [lateC, Bool.and_eq_true] at hb
  obtain ⟨⟨⟨⟨⟨r1, f1⟩, r2⟩, f2⟩, r0⟩, he⟩ := hb
  have h0 : ops[k]? = some o := by simpa using (hl 0).symm
  have h1 : ops[k + 1]? = some o1 := by simpa using (hl 1).symm
  have h2 : ops[k + 2]? = some o2 := by simpa using (hl 2).symm
  have hl3 : ∀ j, l[j]? = ops[k + 3 + j]? := fun j => by
    have := hl (j + 3)
    simpa [Nat.add_assoc, Nat.add_comm 3 j] using this
  have hB3 : Region.lexFrom md ops l.length (k + 3) (lexUp ops.size (k + 3)) = true := by
    simp only [List.length_cons, Region.lexFrom, Bool.and_eq_true] at hB
    exact hB.2.2.2
  refine wpAnyH_take h1 hs f1 r1 (fun c a w => lex_panic hQ _ _ c a w) (.inl ⟨hw1, hv1⟩) hS ?_
  refine wpAnyH_take h2 hs f2 r2 (fun c a w => lex_panic hQ _ _ c a w) (.inl ⟨hw2, hv2⟩) hS ?_
  refine wpAnyH_ready (eq_of_beq r0) (by simp) (AllReadyH.cons h0 (fun K hK => ?_) AllReadyH.nil)
  rw [if_pos hw]
  refine h K fun a w hS h' => hK.out a w hS fun hS' => ?_
  have h3 := h' hS hl3 hs hB3 hQ hS'
  rw [← eq_of_beq he] at h3
  exact h3
end
/-- append(row, zs...) at one operation -/
theorem wp_append_nums6 {w : World} {o : Oper} {a : Act} {K : Act → World → Prop} {Q : Exit → Act → World → Prop} (s x : Operand)
    (ho : o.op = .call { callee := .builtin .append, args := #[s, x], argTypes := #[31, 31] }) (base : Nat) (v : Value) (n : Nat) (xs : List Value) (hs : a.eval s = v) (hown : w.ownsRow base 22 1 v n xs)
    (vx : Value) (zs : List Nat) (hx : a.eval x = vx) (hN : Nums w vx zs) (hle : n + zs.length ≤ 17592186043904) (hbase : base ≤ w.heap.size)
    (h : ∀ v' w', w'.ownsRow base 22 1 v' (n + zs.length) (xs ++ vals zs) → Below base w w' → K (a.put o.dst v') w') : o.wp Try.prog a w K Q := by
  obtain ⟨i0, hi0, hz0, hz1, hz2⟩ := info_parts infoU64
  have hlt := hown.lt
  obtain ⟨h1, h2, h3⟩ := hN
  have go : ∀ (ad : Addr) (c : Nat), vx = .slice (some ad) zs.length c → (∀ j u, (vals zs)[j]? = some u → w.cell? (ad.add j) = some u) → o.wp Try.prog a w K Q := by
    intro ad c hv hc
    refine wp_append_own w s x 31 ho base 22 i0 (.int .u64 0) 1 8 Try.underlying31 hi0 hz0 hz1 hz2 rfl (by decide) v n xs hs hown ad zs.length c (vals zs) (hx.trans hv) (by simp [vals]) hc ?_ ?_ ?_ hbase ?_
    · intro u hu; unfold vals at hu; obtain ⟨z, _, rfl⟩ := List.mem_map.1 hu; rfl
    · unfold maxLen; omega
    · omega
    · intro v' w' hown' hgrow _
      exact h v' w' hown' ((Below.refl _ _).grown hgrow hbase (fun k hk => (hlt k hk).1))
  rcases h3 with ⟨ad, cap, rfl, rfl, hnn⟩ | ⟨b, off, cap, rfl, hc, hb, hcell⟩
  · cases ad with
    | none =>
      obtain rfl := hnn rfl
      have hrun := run_append_owned_none (P := Try.prog) (w := w) base 31 o.type 22 i0 1 Try.underlying31 hi0 v n xs hown
      unfold Oper.wp
      simp [execOp, ho, resolve, invoke, builtin, hs, hx, hrun, Result.andThen]
      exact h v w (by simpa [vals] using hown) (Below.refl _ _)
    | some x => exact go x cap rfl (fun j u hu => by simp [vals] at hu)
  · refine go _ cap rfl (fun j u hu => ?_)
    have hj : j < zs.length := by
      apply Nat.lt_of_not_le; intro hc
      rw [List.getElem?_eq_none (by simp [vals]; omega)] at hu; cases hu
    rw [Addr.add_lit, hcell j hj]
    simp [vals, List.getD_eq_getElem?_getD, hj] at hu ⊢
    exact hu
end Go.Proofs.Ytfkepkdfpjaniaa
