/-
  The reference of layer 2: Divide.
-/
import Derived.Test.YtafoonhmfieikaaDivRM
import Derived.Test.YtafoonhmfieikaaRef2c
import Derived.Test.YtafoonhmfieikaaApi3
import Derived.Laws.MakeOwn
import Derived.Deep.RegionLaw
import Derived.Deep.AppendLies
namespace Go.Proofs.Ytafoonhmfieikaa
open Go.RowKit
set_option linter.unusedVariables false

theorem vals_zeros (s : Nat) (L : List Nat) : List.replicate s (Value.int .u64 0) ++ vals L = vals (List.replicate s 0 ++ L) := by simp [vals]
theorem owns_zeros (W : World) (base s : Nat) (hb : base ≤ W.heap.size) (hs : s ≤ 1000) : (W.alloc (.cells (madeCells #[Value.int .u64 0] s) 22)).ownsRow base 22 1 (.slice (some ⟨W.heap.size, 0, none⟩) s s) s (List.replicate s (.int .u64 0)) := by
  refine ⟨by simp, .inr ⟨W.heap.size, s, madeCells #[.int .u64 0] s, rfl, hb, World.alloc_heap_new W _, Nat.le_refl _, by unfold maxLen; omega, by rw [size_madeCells, Nat.mul_one], ?_⟩⟩
  rw [Nat.mul_one, toList_madeCells_one, List.take_replicate, Nat.min_self]
theorem cells_vals {W : World} {b o : Nat} {L : List Nat} (h : ∀ i, i < L.length → W.cell? ⟨b, o + i, none⟩ = some (.int .u64 (L.getD i 0 : Nat))) : ∀ j u, (vals L)[j]? = some u → W.cell? ((⟨b, o, none⟩ : Addr).add j) = some u := by
  intro j u hu
  have hj : j < L.length := by
    apply Nat.lt_of_not_le; intro hc
    rw [List.getElem?_eq_none (by simpa [vals] using hc)] at hu; cases hu
  have e : u = .int .u64 (L.getD j 0 : Nat) := by
    simp [vals, List.getD_eq_getElem?_getD, hj] at hu ⊢
    exact hu.symm
  subst e
  rw [Addr.add_lit]
  exact h j hj
theorem vals_one (L : List Nat) : ∀ u ∈ vals L, u.oneCell' = true := by
  intro u hu
  simp [vals] at hu
  obtain ⟨z, _, rfl⟩ := hu
  rfl

/-- a slice that is not in block B, unless it is empty -/
def NotIn (B : Nat) (v : Value) : Prop := ∀ b off n cap, v = .slice (some ⟨b, off, none⟩) n cap → 0 < n → B ≠ b
theorem notIn_of {w : World} {v : Value} {zs : List Nat} (h : Nums w v zs) : NotIn w.heap.size v := by
  intro b off n cap e hn
  obtain ⟨_, _, h3⟩ := h
  rcases h3 with ⟨a, c, e2, _, _⟩ | ⟨b2, off2, c, e2, _, hb, _⟩
  · rw [e] at e2; simp only [Value.slice.injEq] at e2; omega
  · rw [e] at e2
    simp only [Value.slice.injEq, Option.some.injEq, Addr.mk.injEq, and_true] at e2
    have := e2.1.1
    omega
end Go.Proofs.Ytafoonhmfieikaa
