/-
  Merged out of the texts Sa9 Sb9 Sc9 Sd9 Se9.
-/
import Derived.OwnWalk
import Derived.Lib.MinMax
import Derived.Deep.RegionHeld3
import Derived.Test.YtngpedcihajepaaGreatDoorProg
import Derived.WalkKit
import Derived.ProofKit
import Derived.ChangeMaps5
import Derived.WalkSpells
import Derived.WalkLawsBesides
import Derived.Lib.Hide
import Derived.Below
import Derived.Deep.QuietTactic
import Derived.BigQuiet
import Derived.Still
import Derived.Test.YtngpedcihajepaaGreatDoorBa1
import Derived.Test.YtngpedcihajepaaGreatDoorBa2
import Derived.Test.YtngpedcihajepaaGreatDoorBa3
import Derived.Test.YtngpedcihajepaaGreatDoorBa4
import Derived.Test.YtngpedcihajepaaGreatDoorBa5
import Derived.Test.YtngpedcihajepaaGreatDoorBa6
import Derived.Test.YtngpedcihajepaaGreatDoorBa11
namespace Go.Proofs.YtngpedcihajepaaGreatDoor
open Go.RowKit
set_option linter.unusedVariables false
set_option maxRecDepth 100000
theorem own_below9 {w w' : World} {base : Nat} {e : TypeId} {size : Nat} {v : Value} {n : Nat} {xs : List Value} (h : w.ownsRow base e size v n xs) (hb : Below w.heap.size w w') : w'.ownsRow base e size v n xs := by
  obtain ⟨h1, h2⟩ := h
  refine ⟨h1, ?_⟩
  rcases h2 with h2 | ⟨g, cap, cur, hv, hg, hh, r⟩
  · exact .inl h2
  · exact .inr ⟨g, cap, cur, hv, hg, (hb.block g (Array.getElem?_eq_some_iff.1 hh).1).trans hh, r⟩
theorem infoStr : (Tryz.prog.info? 9).map (fun i => (i.zero, i.size, i.bytes)) = some (some (.string ⟨#[]⟩), 1, 16) := by kernel_rfl
theorem infoStr2 : ∃ i, Tryz.prog.info? 9 = some i ∧ i.zero = some (.string ⟨#[]⟩) ∧ i.size = 1 ∧ i.bytes = 16 := by
  have h := infoStr
  cases hq : Tryz.prog.info? 9 with
  | none => rw [hq] at h; cases h
  | some i => rw [hq] at h; simp only [Option.map_some, Option.some.injEq, Prod.mk.injEq] at h; exact ⟨i, rfl, h.1, h.2.1, h.2.2⟩
/-- an own row of strings, made from base on -/
def OwnS (w : World) (base : Nat) (v : Value) (L : List ByteArray) : Prop := w.ownsRow base 9 1 v L.length (L.map Value.string)
theorem OwnS.below {w w' : World} {base : Nat} {v : Value} {L : List ByteArray} (h : OwnS w base v L) (hb : Below w.heap.size w w') : OwnS w' base v L := own_below9 h hb
theorem StrS.below {w w' : World} {v : Value} {L : List ByteArray} (h : StrS w v L) (hb : Below w.heap.size w w') : StrS w' v L := by
  obtain ⟨h1, A, cap, rfl, h2⟩ := h
  refine ⟨h1, A, cap, rfl, fun h0 => ?_⟩
  obtain ⟨b, off, rfl, h3⟩ := h2 h0
  exact ⟨b, off, rfl, fun i hi => (hb.cell (p := ⟨b, _, none⟩) (World.block_lt_of_cell? w _ (h3 i hi))).trans (h3 i hi)⟩
namespace M
/-- texts with a text between -/
def joinW (b : List Nat) : List (List Nat) → List Nat
  | [] => []
  | [x] => x
  | x :: y :: r => x ++ b ++ joinW b (y :: r)
theorem size_app (a b : ByteArray) : (a ++ b).size = a.size + b.size := by
  rw [← bs_len, bs_append, List.length_append, bs_len, bs_len]
end M
end Go.Proofs.YtngpedcihajepaaGreatDoor
namespace Go.Proofs.YtngpedcihajepaaGreatDoor
open Go.RowKit
set_option linter.unusedVariables false
set_option linter.unusedSimpArgs false
set_option maxRecDepth 100000
namespace M
theorem digitsL_lenP : ∀ (k n : Nat), n < 10 ^ (k + 1) → (digitsL n).length ≤ k + 1
  | 0, n, h => by rw [digitsL, if_pos (by simpa using h)]; simp
  | k + 1, n, h => by
    rw [digitsL]
    by_cases h1 : n < 10
    · rw [if_pos h1]; simp
    · rw [if_neg h1, List.length_append]
      have := digitsL_lenP k (n / 10) (by rw [Nat.div_lt_iff_lt_mul (by omega), ← Nat.pow_succ]; exact h)
      simp; omega
theorem digitsL_len20 {n : Nat} (h : n < 18446744073709551616) : (digitsL n).length ≤ 20 := digitsL_lenP 19 n (by omega)
/-- the text of a type -/
def typeT (t : Tree) : List Nat :=
  (if t.num = 2 then [98, 105, 116] else if t.num = 3 then [119, 111, 114, 100, 32] ++ digitsL (t.kids.getD 0 Tree.no).num else [110, 117, 109]) ++
  (if 0 < (t.kids.getD 1 Tree.no).num then [91] ++ digitsL (t.kids.getD 1 Tree.no).num ++ [93] else [])
end M
theorem NodeV.num {w : World} {v : Value} {t : M.Tree} (h : NodeV w v t) : t.num < 18446744073709551616 := by
  obtain ⟨_, _, _, _, ⟨_, h, _⟩, _⟩ := h; exact h
end Go.Proofs.YtngpedcihajepaaGreatDoor
namespace Go.Proofs.YtngpedcihajepaaGreatDoor
open Go.RowKit
set_option linter.unusedVariables false
set_option maxRecDepth 100000
namespace M
/-- the text of an expression, from its kids' texts -/
def exprW (k : Int) (tx : List Nat) (n : Nat) (ks : Int) (s : List (List Nat)) : List Nat :=
  if k = 14 then digitsL n
  else if k = 15 then tx
  else if k = 16 then tx ++ [40] ++ joinW [44, 32] s ++ [41]
  else if k = 18 then [91] ++ joinW [44, 32] s ++ [93]
  else if k = 19 then tx ++ s.getD 0 []
  else if k = 20 then [40] ++ s.getD 0 [] ++ [32] ++ tx ++ [32] ++ s.getD 1 [] ++ [41]
  else if ks = 19 then [40] ++ s.getD 0 [] ++ [41, 91] ++ s.getD 1 [] ++ [93]
  else s.getD 0 [] ++ [91] ++ s.getD 1 [] ++ [93]
mutual
/-- the text of an expression -/
def exprT : Tree → List Nat
  | .node k tx n l => exprW k tx n (l.getD 0 Tree.no).kind (exprTL l)
def exprTL : List Tree → List (List Nat)
  | [] => []
  | t :: r => exprT t :: exprTL r
end
theorem exprTL_map : ∀ l : List Tree, exprTL l = l.map exprT
  | [] => rfl
  | t :: r => by rw [exprTL, exprTL_map r]; rfl
theorem exprT_eq (t : Tree) : exprT t = exprW t.kind t.text t.num (t.kids.getD 0 Tree.no).kind (t.kids.map exprT) := by
  cases t with
  | node k tx n l => rw [exprT, exprTL_map]; rfl
mutual
/-- how long the texts of a tree can be -/
def weight : Tree → Nat
  | .node _ tx _ l => tx.length + 64 + weightL l
def weightL : List Tree → Nat
  | [] => 0
  | t :: r => weight t + weightL r
end
theorem weight_eq (t : Tree) : weight t = t.text.length + 64 + weightL t.kids := by
  cases t with
  | node k tx n l => rw [weight]; rfl
theorem weight_mem {t : Tree} : ∀ {l : List Tree}, t ∈ l → weight t ≤ weightL l
  | a :: r, h => by
    rw [weightL]
    rcases List.mem_cons.1 h with rfl | h
    · omega
    · have := weight_mem h; omega
theorem weight_kid {t k : Tree} (h : k ∈ t.kids) : weight k + t.text.length + 64 ≤ weight t := by
  have := weight_mem h
  rw [weight_eq t]; omega
theorem weight_two : ∀ {l : List Tree}, 2 ≤ l.length → weight (l.getD 0 Tree.no) + weight (l.getD 1 Tree.no) ≤ weightL l
  | a :: b :: r, h => by simp only [weightL, List.getD_cons_zero, List.getD_cons_succ]; omega
theorem joinW_weight (p : Tree → List Nat) : ∀ (l : List Tree), (∀ t, t ∈ l → (p t).length + 8 ≤ weight t) → (joinW [44, 32] (l.map p)).length ≤ weightL l
  | [], _ => by simp [joinW]
  | [a], h => by have := h a (by simp); simp only [List.map_cons, List.map_nil, joinW, weightL]; omega
  | a :: b :: r, h => by
    have ih := joinW_weight p (b :: r) (fun t ht => h t (by simp at ht ⊢; exact .inr ht))
    have := h a (by simp)
    simp only [List.map_cons, joinW, List.length_append] at ih ⊢
    rw [weightL]
    simp only [List.length_cons, List.length_nil]
    omega
/-- what a tree's shape must be for its text to be made -/
def Shape (t : Tree) : Prop := (t.kind = 19 → t.kids.length = 1) ∧ (t.kind ≠ 14 → t.kind ≠ 15 → t.kind ≠ 16 → t.kind ≠ 18 → t.kind ≠ 19 → t.kids.length = 2) ∧ t.num < 18446744073709551616
theorem map_getD {p : Tree → List Nat} {l : List Tree} {i : Nat} (h : i < l.length) : (l.map p).getD i [] = p (l.getD i Tree.no) := by
  rw [List.getD_eq_getElem?_getD, List.getElem?_map, List.getD_eq_getElem?_getD, List.getElem?_eq_getElem h]; rfl
theorem exprW_weight (t : Tree) (hs : Shape t) (h : ∀ u, u ∈ t.kids → (exprT u).length + 8 ≤ weight u) : (exprT t).length + 8 ≤ weight t := by
  have hj := joinW_weight exprT t.kids h
  have hd := digitsL_len20 hs.2.2
  rw [exprT_eq, weight_eq]
  unfold exprW
  by_cases h14 : t.kind = 14
  · rw [if_pos h14]; omega
  rw [if_neg h14]
  by_cases h15 : t.kind = 15
  · rw [if_pos h15]; omega
  rw [if_neg h15]
  by_cases h16 : t.kind = 16
  · rw [if_pos h16]; simp only [List.length_append, List.length_cons, List.length_nil]; omega
  rw [if_neg h16]
  by_cases h18 : t.kind = 18
  · rw [if_pos h18]; simp only [List.length_append, List.length_cons, List.length_nil]; omega
  rw [if_neg h18]
  by_cases h19 : t.kind = 19
  · have hl := hs.1 h19
    have h0 := h (t.kids.getD 0 Tree.no) (kid_mem (by omega))
    have h1 := weight_mem (kid_mem (l := t.kids) (i := 0) (by omega))
    rw [if_pos h19, map_getD (by omega)]; simp only [List.length_append]; omega
  rw [if_neg h19]
  have hl := hs.2.1 h14 h15 h16 h18 h19
  have h0 := h (t.kids.getD 0 Tree.no) (kid_mem (by omega))
  have h1 := h (t.kids.getD 1 Tree.no) (kid_mem (by omega))
  have h2 := weight_two (l := t.kids) (by omega)
  rw [map_getD (by omega), map_getD (by omega)]
  by_cases h20 : t.kind = 20
  · rw [if_pos h20]; simp only [List.length_append, List.length_cons, List.length_nil]; omega
  rw [if_neg h20]
  by_cases hk : (t.kids.getD 0 Tree.no).kind = 19
  · rw [if_pos hk]; simp only [List.length_append, List.length_cons, List.length_nil]; omega
  · rw [if_neg hk]; simp only [List.length_append, List.length_cons, List.length_nil]; omega
end M
end Go.Proofs.YtngpedcihajepaaGreatDoor
namespace Go.Proofs.YtngpedcihajepaaGreatDoor
open Go.RowKit
set_option linter.unusedVariables false
set_option linter.unusedSimpArgs false
set_option maxRecDepth 100000
namespace M
theorem exprF_shape {f : Nat} {t : Tree} (h : exprF (f + 1) t = true) : Shape t ∧ (∀ u, u ∈ t.kids → exprF f u = true) ∧ (t.kind = 14 ∨ t.kind = 15 ∨ t.kind = 16 ∨ t.kind = 17 ∨ t.kind = 18 ∨ t.kind = 19 ∨ t.kind = 20) := by
  rw [exprF] at h
  have nokid : t.kids.length = 0 → ∀ u, u ∈ t.kids → exprF f u = true := fun h u hu => by rw [List.length_eq_zero_iff.1 h] at hu; simp at hu
  unfold Shape
  by_cases h14 : t.kind = 14
  · rw [if_pos h14] at h
    have := of_decide_eq_true h
    exact ⟨⟨fun _ => by omega, fun h => by omega, by omega⟩, nokid this.2.2.2, .inl h14⟩
  rw [if_neg h14] at h
  by_cases h15 : t.kind = 15
  · rw [if_pos h15] at h
    have := of_decide_eq_true h
    exact ⟨⟨fun _ => by omega, fun _ h => by omega, by omega⟩, nokid this.2.2, .inr (.inl h15)⟩
  rw [if_neg h15] at h
  by_cases h16 : t.kind = 16
  · rw [if_pos h16] at h
    have := of_decide_eq_true h
    exact ⟨⟨fun _ => by omega, fun _ _ h => by omega, by omega⟩, List.all_eq_true.1 this.2.2, .inr (.inr (.inl h16))⟩
  rw [if_neg h16] at h
  by_cases h17 : t.kind = 17
  · rw [if_pos h17] at h
    have := of_decide_eq_true h
    exact ⟨⟨fun _ => by omega, fun _ _ _ _ _ => this.2.2.1, by omega⟩, List.all_eq_true.1 this.2.2.2, .inr (.inr (.inr (.inl h17)))⟩
  rw [if_neg h17] at h
  by_cases h18 : t.kind = 18
  · rw [if_pos h18] at h
    have := of_decide_eq_true h
    exact ⟨⟨fun _ => by omega, fun _ _ _ h => by omega, by omega⟩, List.all_eq_true.1 this.2.2.2, .inr (.inr (.inr (.inr (.inl h18))))⟩
  rw [if_neg h18] at h
  by_cases h19 : t.kind = 19
  · rw [if_pos h19] at h
    have := of_decide_eq_true h
    obtain ⟨-, h1, h2, h3⟩ := this
    refine ⟨⟨fun _ => h2, fun _ _ _ _ h => by omega, by omega⟩, fun u hu => ?_, .inr (.inr (.inr (.inr (.inr (.inl h19)))))⟩
    obtain ⟨a, ea⟩ := List.length_eq_one_iff.1 h2
    rw [ea] at hu h3
    rw [List.mem_singleton.1 hu]; exact h3
  rw [if_neg h19] at h
  by_cases h20 : t.kind = 20
  · rw [if_pos h20] at h
    have := of_decide_eq_true h
    exact ⟨⟨fun _ => by omega, fun _ _ _ _ _ => this.2.2.1, by omega⟩, List.all_eq_true.1 this.2.2.2, .inr (.inr (.inr (.inr (.inr (.inr h20)))))⟩
  rw [if_neg h20] at h
  cases h
theorem exprT_weight : ∀ (f : Nat) (t : Tree), exprF f t = true → (exprT t).length + 8 ≤ weight t
  | 0, t, h => by rw [exprF] at h; cases h
  | f + 1, t, h => exprW_weight t (exprF_shape h).1 fun u hu => exprT_weight f u ((exprF_shape h).2.1 u hu)
theorem countL_len : ∀ l : List Tree, l.length ≤ countL l
  | [] => by simp [countL]
  | t :: r => by have := countL_len r; have := count_pos t; rw [countL, List.length_cons]; omega
theorem kids_len (t : Tree) : t.kids.length < count t := by
  cases t with
  | node k tx n l => have := countL_len l; rw [count]; show l.length < _; omega
end M
end Go.Proofs.YtngpedcihajepaaGreatDoor
namespace Go.Proofs.YtngpedcihajepaaGreatDoor
open Go.RowKit
set_option linter.unusedVariables false
set_option linter.unusedSimpArgs false
set_option maxRecDepth 100000
namespace M
def argT (t : Tree) : List Nat := t.text ++ [58, 32] ++ typeT (t.kids.getD 0 Tree.no)
def deepT (l : List (List Nat)) : List (List Nat) := l.map ([32, 32] ++ ·)
/-- the lines of an item, from its kids and the lines of those that are blocks -/
def itemW (k : Int) (tx : List Nat) (n : Nat) (l : List Tree) (b : List (List (List Nat))) : List (List Nat) :=
  if k = 2 then [[105, 110, 32] ++ tx ++ [58, 32] ++ typeT (l.getD 0 Tree.no) ++ [32, 102, 114, 111, 109, 32] ++ digitsL n ++ [59]]
  else if k = 3 then [[108, 101, 116, 32] ++ tx ++ [32, 61, 32] ++ exprT (l.getD 0 Tree.no) ++ [59]]
  else if k = 4 then [tx ++ [32, 61, 32] ++ exprT (l.getD 0 Tree.no) ++ [59]]
  else if k = 5 then [tx ++ [91] ++ exprT (l.getD 0 Tree.no) ++ [93, 32, 61, 32] ++ exprT (l.getD 1 Tree.no) ++ [59]]
  else if k = 6 then [[105, 102, 32] ++ exprT (l.getD 0 Tree.no) ++ [32, 123]] ++ deepT (b.getD 1 []) ++ (if 0 < (l.getD 2 Tree.no).kids.length then [[125, 32, 101, 108, 115, 101, 32, 123]] ++ deepT (b.getD 2 []) else []) ++ [[125]]
  else if k = 7 then [[102, 111, 114, 32] ++ tx ++ [32, 61, 32] ++ exprT (l.getD 0 Tree.no) ++ [32, 116, 111, 32] ++ exprT (l.getD 1 Tree.no) ++ [32, 123]] ++ deepT (b.getD 2 []) ++ [[125]]
  else if k = 8 then [[111, 117, 116, 32] ++ exprT (l.getD 0 Tree.no) ++ [32, 116, 111, 32] ++ (if 1 < l.length then joinW [44, 32] ((l.drop 1).map fun t => digitsL t.num) else [97, 108, 108]) ++ [59]]
  else [[100, 101, 102, 32] ++ tx ++ [40] ++ joinW [44, 32] ((l.take (l.length - 2)).map argT) ++ [41, 32, 123]] ++ deepT (b.getD (l.length - 2) []) ++ [[32, 32, 114, 101, 116, 117, 114, 110, 32] ++ exprT (l.getD (l.length - 1) Tree.no) ++ [59]] ++ [[125]]
mutual
/-- the lines of an item -/
def itemT : Tree → List (List Nat)
  | .node k tx n l => itemW k tx n l (blocksL l)
def blocksL : List Tree → List (List (List Nat))
  | [] => []
  | t :: r => blockT t :: blocksL r
/-- the lines of a block's items -/
def blockT : Tree → List (List Nat)
  | .node _ _ _ l => linesL l
def linesL : List Tree → List (List Nat)
  | [] => []
  | t :: r => itemT t ++ linesL r
end
theorem blocksL_map : ∀ l : List Tree, blocksL l = l.map blockT
  | [] => by rw [blocksL]; rfl
  | t :: r => by rw [blocksL, blocksL_map r]; rfl
theorem itemT_eq (t : Tree) : itemT t = itemW t.kind t.text t.num t.kids (t.kids.map blockT) := by
  cases t with
  | node k tx n l => rw [itemT, blocksL_map]; rfl
theorem blockT_eq (t : Tree) : blockT t = linesL t.kids := by
  cases t with
  | node k tx n l => rw [blockT]; rfl
theorem deepT_len (l : List (List Nat)) : (deepT l).length = l.length := List.length_map _
end M
theorem OwnS.mono {w : World} {base base' : Nat} {v : Value} {L : List ByteArray} (h : OwnS w base v L) (hb : base' ≤ base) : OwnS w base' v L := by
  obtain ⟨h1, h2⟩ := h
  refine ⟨h1, ?_⟩
  rcases h2 with h2 | ⟨g, cap, cur, hv, hg, hh, r⟩
  · exact .inl h2
  · exact .inr ⟨g, cap, cur, hv, Nat.le_trans hb hg, hh, r⟩
end Go.Proofs.YtngpedcihajepaaGreatDoor
