/-
 Merged out of the texts Ma9 Mb9.
-/
import Derived.OwnWalk
import Derived.Deep.RegionHeld3
import Derived.WalkKit
import Derived.ProofKit
import Derived.ChangeMaps5
import Derived.Test.YtngpedcihajepaaGreatDoorProg
import Derived.Still
import Derived.Lib.MinMax
import Derived.WalkSpells
import Derived.WalkLawsBesides
import Derived.Lib.Hide
import Derived.Below
import Derived.Deep.QuietTactic
import Derived.BigQuiet
import Derived.Test.YtngpedcihajepaaGreatDoorBz1
import Derived.Test.YtngpedcihajepaaGreatDoorBz2
import Derived.Test.YtngpedcihajepaaGreatDoorBz3
import Derived.Test.YtngpedcihajepaaGreatDoorBz4
import Derived.Test.YtngpedcihajepaaGreatDoorBz5
import Derived.Test.YtngpedcihajepaaGreatDoorBz6
import Derived.Test.YtngpedcihajepaaGreatDoorBz11
import Derived.Test.YtngpedcihajepaaGreatDoorBz12
import Derived.Test.YtngpedcihajepaaGreatDoorBz13
import Derived.Test.YtngpedcihajepaaGreatDoorSq9
set_option linter.unusedVariables false
set_option linter.unusedSimpArgs false
set_option maxRecDepth 100000
set_option maxHeartbeats 40000000
namespace Go.Proofs.YtngpedcihajepaaGreatDoor.M
theorem itemW_ne (k : Int) (tx : List Nat) (n : Nat) (l : List Tree) (b : List (List (List Nat))) : itemW k tx n l b ≠ [] := by
 unfold itemW
 repeat' split
 all_goals simp
theorem itemT_ne (t : Tree) : itemT t ≠ [] := by rw [itemT_eq]; exact itemW_ne _ _ _ _ _
def sumB : List (List (List Nat)) -> Nat
 | [] => 0
 | x :: r => x.length + sumB r
theorem sumB_get : ∀ (b : List (List (List Nat))) (i : Nat), (b.getD i []).length <= sumB b
 | [], i => by simp
 | x :: r, 0 => by simp only [List.getD_cons_zero, sumB]; omega
 | x :: r, i + 1 => by have := sumB_get r i; simp only [List.getD_cons_succ, sumB]; omega
theorem sumB_two : ∀ (b : List (List (List Nat))) (i j : Nat), i < j -> (b.getD i []).length + (b.getD j []).length <= sumB b
 | [], i, j, h => by simp
 | x :: r, 0, j + 1, h => by have := sumB_get r j; simp only [List.getD_cons_zero, List.getD_cons_succ, sumB]; omega
 | x :: r, i + 1, j + 1, h => by have := sumB_two r i j (by omega); simp only [List.getD_cons_succ, sumB]; omega
theorem itemW_len (k : Int) (tx : List Nat) (n : Nat) (l : List Tree) (b : List (List (List Nat))) : (itemW k tx n l b).length <= 3 + sumB b := by
 have h1 := sumB_two b 1 2 (by omega)
 have h2 := sumB_get b 2
 have h3 := sumB_get b (l.length - 2)
 unfold itemW
 repeat' split
 all_goals simp only [List.length_append, List.length_cons, List.length_nil, deepT_len]
 all_goals omega
mutual
theorem itemT_len : ∀ t : Tree, (itemT t).length <= 3 * count t
 | .node k tx n l => by
  have h1 := itemW_len k tx n l (blocksL l)
  have h2 := blocksL_len l
  rw [itemT, count]
  omega
theorem blocksL_len : ∀ l : List Tree, sumB (blocksL l) <= 3 * countL l
 | [] => by simp [blocksL, sumB]
 | t :: r => by
  have h1 := blockT_len t
  have h2 := blocksL_len r
  rw [blocksL, sumB, countL]
  omega
theorem blockT_len : ∀ t : Tree, (blockT t).length <= 3 * count t
 | .node k tx n l => by
  have := linesL_len l
  rw [blockT, count]
  omega
theorem linesL_len : ∀ l : List Tree, (linesL l).length <= 3 * countL l
 | [] => by simp [linesL]
 | t :: r => by
  have h1 := itemT_len t
  have h2 := linesL_len r
  rw [linesL, countL, List.length_append]
  omega
end
end Go.Proofs.YtngpedcihajepaaGreatDoor.M
namespace Go.Proofs.YtngpedcihajepaaGreatDoor.M
theorem weight_pos (t : Tree) : 64 <= weight t := by rw [weight_eq]; omega
theorem typeT_len47 {u : Tree} (h : typeB u = true) : (typeT u).length <= 47 := by
 have h2 := (of_decide_eq_true h).1.2.2.1
 have hn : ∀ i, i < 2 -> (u.kids.getD i Tree.no).num < 18446744073709551616 := fun i hi => by
  have h3 := (of_decide_eq_true h).1.2.2.2
  have h4 := List.all_eq_true.1 h3 _ (kid_mem (l := u.kids) (i := i) (by omega))
  have := (of_decide_eq_true h4).2.2.1
  omega
 have d0 := digitsL_len20 (hn 0 (by omega))
 have d1 := digitsL_len20 (hn 1 (by omega))
 unfold typeT
 split <;> split <;> (try split) <;> simp only [List.length_append, List.length_cons, List.length_nil] <;> omega
theorem weightL_drop1 : ∀ {l : List Tree}, 0 < l.length -> weight (l.getD 0 Tree.no) + weightL (l.drop 1) = weightL l
 | a :: r, _ => by simp only [weightL, List.getD_cons_zero, List.drop_succ_cons, List.drop_zero]
theorem weightL_take : ∀ (l : List Tree) (k : Nat), weightL (l.take k) <= weightL l
 | [], k => by simp
 | a :: r, 0 => by simp [weightL]
 | a :: r, k + 1 => by have := weightL_take r k; simp only [List.take_succ_cons, weightL]; omega
theorem mapB_getD {l : List Tree} {i : Nat} (h : i < l.length) : (l.map blockT).getD i [] = blockT (l.getD i Tree.no) := by
 rw [List.getD_eq_getElem?_getD, List.getElem?_map, List.getD_eq_getElem?_getD, List.getElem?_eq_getElem h]; rfl
theorem mem_linesL {x : List Nat} : ∀ {l : List Tree}, x ∈ linesL l -> ∃ u, u ∈ l /\ x ∈ itemT u
 | [], h => by simp [linesL] at h
 | a :: r, h => by
  rw [linesL] at h
  rcases List.mem_append.1 h with h | h
  ·exact ⟨a, by simp, h⟩
  ·obtain ⟨u, h1, h2⟩ := mem_linesL h
   exact ⟨u, by simp [h1], h2⟩
theorem block_lines {b : Tree} (h : ∀ u, u ∈ b.kids -> ∀ x, x ∈ itemT u -> x.length + 8 <= weight u) {x : List Nat} (hx : x ∈ blockT b) : x.length + 72 <= weight b := by
 rw [blockT_eq] at hx
 obtain ⟨u, h1, h2⟩ := mem_linesL hx
 have := h u h1 x h2
 have := weight_kid h1
 omega
theorem deep_lines {b : Tree} (h : ∀ u, u ∈ b.kids -> ∀ x, x ∈ itemT u -> x.length + 8 <= weight u) {x : List Nat} (hx : x ∈ deepT (blockT b)) : x.length + 8 <= weight b := by
 obtain ⟨y, hy, rfl⟩ := List.mem_map.1 hx
 have := block_lines h hy
 simp only [List.length_append, List.length_cons, List.length_nil]
 omega
theorem argT_len {u : Tree} (h : argB u = true) : (argT u).length + 8 <= weight u := by
 have h := of_decide_eq_true h
 have h1 := typeT_len47 h.2.2.2.2
 have h2 := weight_mem (kid_mem (l := u.kids) (i := 0) (by omega))
 have h3 := weight_pos (u.kids.getD 0 Tree.no)
 rw [weight_eq]
 unfold argT
 simp only [List.length_append, List.length_cons, List.length_nil]
 omega
theorem itemT_lines : ∀ (f : Nat) (t : Tree), itemF f t = true -> ∀ x, x ∈ itemT t -> x.length + 8 <= weight t
 | 0, t, h => by rw [itemF] at h; cases h
 | f + 1, t, h => by
  have ih := itemT_lines f
  intro x hx
  have hb : ∀ i, i < t.kids.length -> blockB (itemF f) (t.kids.getD i Tree.no) = true -> ∀ x, x ∈ deepT (blockT (t.kids.getD i Tree.no)) -> x.length + 8 <= weight t := fun i hi h x hx => by
   have h1 := List.all_eq_true.1 (of_decide_eq_true h).2.2.2
   have h2 := deep_lines (fun u hu => ih u (h1 u hu)) hx
   have h3 := weight_kid (kid_mem (l := t.kids) hi)
   omega
  have hw := weight_eq t
  rw [itemT_eq] at hx
  unfold itemW at hx
  rw [itemF] at h
  by_cases h2 : t.kind = 2
  ·rw [if_pos h2] at hx h
   have h := of_decide_eq_true h
   have a := typeT_len47 h.2.2.2
   have b := weight_mem (kid_mem (l := t.kids) (i := 0) (by omega))
   have c := weight_pos (t.kids.getD 0 Tree.no)
   have d := digitsL_len20 (n := t.num) (by omega)
   rw [List.mem_singleton.1 hx]
   simp only [List.length_append, List.length_cons, List.length_nil]
   omega
  rw [if_neg h2] at hx h
  by_cases h3 : t.kind = 3
  ·rw [if_pos h3] at hx h
   have h := of_decide_eq_true h
   have a := exprT_weight f _ h.2.2.2
   have b := weight_mem (kid_mem (l := t.kids) (i := 0) (by omega))
   rw [List.mem_singleton.1 hx]
   simp only [List.length_append, List.length_cons, List.length_nil]
   omega
  rw [if_neg h3] at hx h
  by_cases h4 : t.kind = 4
  ·rw [if_pos h4] at hx h
   have h := of_decide_eq_true h
   have a := exprT_weight f _ h.2.2.2
   have b := weight_mem (kid_mem (l := t.kids) (i := 0) (by omega))
   rw [List.mem_singleton.1 hx]
   simp only [List.length_append, List.length_cons, List.length_nil]
   omega
  rw [if_neg h4] at hx h
  by_cases h5 : t.kind = 5
  ·rw [if_pos h5] at hx h
   have h := of_decide_eq_true h
   have hl := List.all_eq_true.1 h.2.2.2
   have a := exprT_weight f _ (hl _ (kid_mem (l := t.kids) (i := 0) (by omega)))
   have a1 := exprT_weight f _ (hl _ (kid_mem (l := t.kids) (i := 1) (by omega)))
   have b := weight_two (l := t.kids) (by omega)
   rw [List.mem_singleton.1 hx]
   simp only [List.length_append, List.length_cons, List.length_nil]
   omega
  rw [if_neg h5] at hx h
  by_cases h6 : t.kind = 6
  ·rw [if_pos h6] at hx h
   have h := of_decide_eq_true h
   have hl := List.all_eq_true.1 h.2.2.2.2
   have hm : ∀ i, 0 < i -> i < 3 -> blockB (itemF f) (t.kids.getD i Tree.no) = true := fun i h0 hi => hl _ (by
    have e : t.kids.getD i Tree.no = (t.kids.drop 1).getD (i - 1) Tree.no := by rw [drop_getD, show 1 + (i - 1) = i by omega]
    rw [e]; exact kid_mem (by rw [List.length_drop]; omega))
   have a := exprT_weight f _ h.2.2.2.1
   have b := weight_mem (kid_mem (l := t.kids) (i := 0) (by omega))
   rw [mapB_getD (by omega), mapB_getD (by omega)] at hx
   simp only [List.mem_append] at hx
   rcases hx with ((hx | hx) | hx) | hx
   ·rw [List.mem_singleton.1 hx]
    simp only [List.length_append, List.length_cons, List.length_nil]
    omega
   ·exact hb 1 (by omega) (hm 1 (by omega) (by omega)) x hx
   ·split at hx
    ·rcases List.mem_append.1 hx with hx | hx
     ·rw [List.mem_singleton.1 hx]; simp only [List.length_cons, List.length_nil]; omega
     ·exact hb 2 (by omega) (hm 2 (by omega) (by omega)) x hx
    ·simp at hx
   ·rw [List.mem_singleton.1 hx]; simp only [List.length_cons, List.length_nil]; omega
  rw [if_neg h6] at hx h
  by_cases h7 : t.kind = 7
  ·rw [if_pos h7] at hx h
   have h := of_decide_eq_true h
   have hl := List.all_eq_true.1 h.2.2.2.1
   have hm : ∀ i, i < 2 -> exprF f (t.kids.getD i Tree.no) = true := fun i hi => hl _ (by
    rw [<- take_getD (l := t.kids) (i := 2) hi]; exact kid_mem (by rw [List.length_take]; omega))
   have a := exprT_weight f _ (hm 0 (by omega))
   have a1 := exprT_weight f _ (hm 1 (by omega))
   have b := weight_two (l := t.kids) (by omega)
   rw [mapB_getD (by omega)] at hx
   simp only [List.mem_append] at hx
   rcases hx with (hx | hx) | hx
   ·rw [List.mem_singleton.1 hx]
    simp only [List.length_append, List.length_cons, List.length_nil]
    omega
   ·exact hb 2 (by omega) h.2.2.2.2 x hx
   ·rw [List.mem_singleton.1 hx]; simp only [List.length_cons, List.length_nil]; omega
  rw [if_neg h7] at hx h
  by_cases h8 : t.kind = 8
  ·rw [if_pos h8] at hx h
   have h := of_decide_eq_true h
   have a := exprT_weight f _ h.2.2.2.1
   have b := weightL_drop1 (l := t.kids) h.2.2.1
   have c := joinW_weight (fun t => digitsL t.num) (t.kids.drop 1) (fun u hu => by
    have h1 := of_decide_eq_true (List.all_eq_true.1 h.2.2.2.2 u hu)
    have h2 := digitsL_len20 (n := u.num) (by omega)
    have h3 := weight_pos u
    show (digitsL u.num).length + 8 <= _
    omega)
   rw [List.mem_singleton.1 hx]
   split <;> simp only [List.length_append, List.length_cons, List.length_nil] <;> omega
  rw [if_neg h8] at hx h
  by_cases h9 : t.kind = 9
  ·rw [if_pos h9] at h
   have h := of_decide_eq_true h
   have a := exprT_weight f _ h.2.2.2.2.2
   have b := weight_mem (kid_mem (l := t.kids) (i := t.kids.length - 1) (by omega))
   have c := joinW_weight argT (t.kids.take (t.kids.length - 2)) (fun u hu => argT_len (List.all_eq_true.1 h.2.2.2.1 u hu))
   have d := weightL_take t.kids (t.kids.length - 2)
   rw [mapB_getD (by omega)] at hx
   simp only [List.mem_append] at hx
   rcases hx with ((hx | hx) | hx) | hx
   ·rw [List.mem_singleton.1 hx]
    simp only [List.length_append, List.length_cons, List.length_nil]
    omega
   ·exact hb _ (by omega) h.2.2.2.2.1 x hx
   ·rw [List.mem_singleton.1 hx]
    simp only [List.length_append, List.length_cons, List.length_nil]
    omega
   ·rw [List.mem_singleton.1 hx]; simp only [List.length_cons, List.length_nil]; omega
  rw [if_neg h9] at h
  cases h
end Go.Proofs.YtngpedcihajepaaGreatDoor.M
