/-
  Merged out of the texts Ha9 Hc9 Hf9 Hb9 Hd9 He9 Hg9 Hh9.
-/
import Derived.WalkKit
import Derived.ProofKit
import Derived.ChangeMaps5
import Derived.Test.YtngpedcihajepaaGreatDoorShelf
import Derived.Shelf.LaysM
import Derived.Shelf.Strconv.Itoa1
import Derived.Shelf.Strconv.Itoa2
import Derived.Lib.Walk
import Derived.Lib.ItoaMem
import Derived.BigCall
import Derived.BigGuard
import Derived.Deep.RegionHeld3
import Derived.Lib.Builder
import Derived.Lib.AppendStr
import Derived.Lib.UnsafeStr
import Derived.Laws.Externs
import Derived.OwnWalk
import Derived.Still
import Derived.Test.YtngpedcihajepaaGreatDoorProg
import Derived.Lib.MakeNoZero
import Derived.Laws.IdiomCopy
import Derived.Laws.BitsLemmas
import Derived.Shelf.Strings.BuilderX
import Derived.Lib.MinMax
import Derived.Deep.LoopGhost
import Derived.WalkSpells
import Derived.WalkLawsBesides
import Derived.Lib.Hide
import Derived.Below
import Derived.Deep.QuietTactic
import Derived.BigQuiet
import Derived.WalkSmall
import Derived.WalkMore
import Derived.Defers
import Derived.Recover
import Derived.Maps.Own
import Derived.Maps.OwnOps
import Derived.Maps.Views
import Derived.Deep.AppendLies
import Derived.Test.YtngpedcihajepaaGreatDoorBa1
import Derived.Test.YtngpedcihajepaaGreatDoorBa2
import Derived.Test.YtngpedcihajepaaGreatDoorBa3
import Derived.Test.YtngpedcihajepaaGreatDoorBa4
import Derived.Test.YtngpedcihajepaaGreatDoorBa5
import Derived.Test.YtngpedcihajepaaGreatDoorBa6
import Derived.Test.YtngpedcihajepaaGreatDoorBa7
import Derived.Test.YtngpedcihajepaaGreatDoorBa8
import Derived.Test.YtngpedcihajepaaGreatDoorBa9
import Derived.Test.YtngpedcihajepaaGreatDoorBa10
import Derived.Test.YtngpedcihajepaaGreatDoorBa11
import Derived.Test.YtngpedcihajepaaGreatDoorBa12
import Derived.Test.YtngpedcihajepaaGreatDoorBa13
import Derived.Test.YtngpedcihajepaaGreatDoorBa14
import Derived.Test.YtngpedcihajepaaGreatDoorBa15
import Derived.Test.YtngpedcihajepaaGreatDoorBa16
import Derived.Test.YtngpedcihajepaaGreatDoorBa17
import Derived.Test.YtngpedcihajepaaGreatDoorBg1
namespace Go.Proofs.YtngpedcihajepaaGreatDoor.M
set_option linter.unusedVariables false
theorem ends_cons {c : Nat} {r : List Nat} (h : nameB c = false) (h2 : c ≠ 61) : Ends (c :: r) := fun d hd => by
  have : c = d := by simpa using hd
  subst this
  exact ⟨h, h2⟩
theorem TN_toks (N : Nat) : ∀ ps : List Pc, (TN N ps).map (fun t => (t.kind, t.text)) = toks ps
  | [] => rfl
  | .g _ :: r => by rw [TN, toks, TN_toks N r]
  | .t k s :: r => by rw [TN, toks, List.map_cons, TN_toks N r]
end Go.Proofs.YtngpedcihajepaaGreatDoor.M
namespace Go.Proofs.YtngpedcihajepaaGreatDoor.M
set_option linter.unusedVariables false
set_option linter.unusedSimpArgs false
theorem exprPL_map : ∀ l : List Tree, exprPL l = l.map exprP
  | [] => rfl
  | t :: r => by rw [exprPL, exprPL_map r]; rfl
theorem exprP_eq (t : Tree) : exprP t = exprPW t.kind t.text t.num (t.kids.getD 0 Tree.no).kind (t.kids.map exprP) := by
  cases t with
  | node k tx n l => rw [exprP, exprPL_map]; rfl
theorem blocksP_map (d : Nat) : ∀ l : List Tree, blocksP d l = l.map (blockP d)
  | [] => by rw [blocksP]; rfl
  | t :: r => by rw [blocksP, blocksP_map d r]; rfl
theorem itemP_eq (d : Nat) (t : Tree) : itemP d t = itemPW d t.kind t.text t.num t.kids (t.kids.map (blockP (d + 1))) := by
  cases t with
  | node k tx n l => rw [itemP, blocksP_map]; rfl
theorem blockP_eq (d : Nat) (t : Tree) : blockP d t = linesP d t.kids := by
  cases t with
  | node k tx n l => rw [blockP]; rfl
/-! ## Each piece ends where it should -/
theorem tok_name {s : List Nat} (h : nameOk s = true) : tokB 1 s = true := by
  unfold nameOk at h
  rw [Bool.and_eq_true] at h
  simp [tokB, h.1]
theorem tok_num {n : Nat} (h : n ≤ 4294967295) : tokB 2 (digitsL n) = true := by
  have := numE_digits n
  rw [if_neg (by omega)] at this
  simp [tokB, this]
theorem ok_b {r : List Pc} {z : List Nat} (h : OkP r z) : OkP (bl :: r) z := ⟨gap_blank (by decide), h⟩
theorem ok_s {c : Nat} {r : List Pc} {z : List Nat} (hc : c ∈ singles ∧ c ≠ 61) (h : OkP r z) : OkP (sg c :: r) z :=
  ⟨by simp [tokB, signB, hc.1], .inl (by simp [selfB, hc.2]), h⟩
theorem ok_n {s : List Nat} {r : List Pc} {z : List Nat} (hs : tokB 1 s = true) (hE : Ends (flat r ++ z)) (h : OkP r z) : OkP (nm s :: r) z := ⟨hs, .inr (.inl hE), h⟩
theorem ok_u {n : Nat} {r : List Pc} {z : List Nat} (hn : n ≤ 4294967295) (hE : Ends (flat r ++ z)) (h : OkP r z) : OkP (nu n :: r) z := ⟨tok_num hn, .inr (.inl hE), h⟩
theorem ok_q {r : List Pc} {z : List Nat} (hE : Ends (flat r ++ z)) (h : OkP r z) : OkP (sg 61 :: r) z := ⟨by decide, .inr (.inl hE), h⟩
theorem e_b {r : List Pc} {z : List Nat} : Ends (flat (bl :: r) ++ z) := by
  rw [flat_cons]; exact ends_cons (by decide) (by decide)
theorem e_s {c : Nat} {r : List Pc} {z : List Nat} (h : nameB c = false) (h2 : c ≠ 61) : Ends (flat (sg c :: r) ++ z) := by
  rw [flat_cons]; exact ends_cons h h2
theorem ok_join : ∀ (l : List (List Pc)), (∀ a ∈ l, OkE a) → OkE (joinP l)
  | [], _ => fun z _ => trivial
  | [a], h => h a (by simp)
  | a :: b :: r, h => fun z hz => by
    have ih := ok_join (b :: r) (fun x hx => h x (List.mem_cons_of_mem _ hx)) z hz
    rw [joinP, List.append_assoc]
    exact (h a (by simp)).app (e_s (by decide) (by decide)) (ok_s (by decide) (ok_b ih))
theorem getD_map_mem {p : Tree → List Pc} {l : List Tree} {i : Nat} (h : i < l.length) : (l.map p).getD i [] = p (l.getD i Tree.no) ∧ l.getD i Tree.no ∈ l := by
  constructor
  · rw [List.getD_eq_getElem?_getD, List.getElem?_map, List.getD_eq_getElem?_getD, List.getElem?_eq_getElem h]; rfl
  · rw [List.getD_eq_getElem?_getD, List.getElem?_eq_getElem h]; exact List.getElem_mem h
theorem op_self {s : List Nat} (h : opB s = true) : tokB 3 s = true ∧ selfB 3 s = true := by
  have h := of_decide_eq_true h
  simp only [signsL, List.mem_cons, List.not_mem_nil, or_false] at h
  rcases h with rfl | rfl | rfl | (rfl | rfl) | (rfl | rfl) | rfl <;> exact ⟨by decide, by decide⟩
theorem ok_expr : ∀ (f : Nat) (t : Tree), exprF f t = true → OkE (exprP t)
  | 0, t, h => by rw [exprF] at h; cases h
  | f + 1, t, h => fun z hz => by
    have ih := ok_expr f
    rw [exprP_eq]
    unfold exprPW
    rw [exprF] at h
    by_cases h14 : t.kind = 14
    · rw [if_pos h14] at h ⊢
      exact ok_u (of_decide_eq_true h).2.2.1 hz trivial
    rw [if_neg h14] at h ⊢
    by_cases h15 : t.kind = 15
    · rw [if_pos h15] at h ⊢
      exact ok_n (tok_name (of_decide_eq_true h).1) hz trivial
    rw [if_neg h15] at h ⊢
    by_cases h16 : t.kind = 16
    · rw [if_pos h16] at h ⊢
      have h := of_decide_eq_true h
      have ht : tokB 1 t.text = true := by
        rcases h.1 with h | h | h | h
        · exact tok_name h
        all_goals (rw [h]; decide)
      have hj : OkE (joinP (t.kids.map exprP)) := ok_join _ fun a ha => by
        obtain ⟨u, hu, rfl⟩ := List.mem_map.1 ha
        exact ih u (List.all_eq_true.1 h.2.2 u hu)
      rw [List.append_assoc]
      exact ok_n ht (e_s (by decide) (by decide)) (ok_s (by decide) (hj.app (e_s (by decide) (by decide)) (ok_s (by decide) trivial)))
    rw [if_neg h16] at h ⊢
    by_cases h18 : t.kind = 18
    · rw [if_pos h18]
      rw [if_neg (by omega), if_pos h18] at h
      have h := of_decide_eq_true h
      have hj : OkE (joinP (t.kids.map exprP)) := ok_join _ fun a ha => by
        obtain ⟨u, hu, rfl⟩ := List.mem_map.1 ha
        exact ih u (List.all_eq_true.1 h.2.2.2 u hu)
      rw [List.append_assoc]
      exact ok_s (by decide) (hj.app (e_s (by decide) (by decide)) (ok_s (by decide) trivial))
    rw [if_neg h18]
    by_cases h19 : t.kind = 19
    · rw [if_pos h19]
      rw [if_neg (by omega), if_neg (by omega), if_pos h19] at h
      have h := of_decide_eq_true h
      rw [(getD_map_mem (p := exprP) (show 0 < t.kids.length by omega)).1]
      refine ⟨?_, .inl ?_, ih _ h.2.2.2 z hz⟩
      · rcases h.1 with h | h <;> rw [h] <;> decide
      · rcases h.1 with h | h <;> rw [h] <;> decide
    rw [if_neg h19]
    by_cases h20 : t.kind = 20
    · rw [if_pos h20]
      rw [if_neg (by omega), if_neg (by omega), if_neg (by omega), if_pos h20] at h
      have h := of_decide_eq_true h
      obtain ⟨e0, m0⟩ := getD_map_mem (p := exprP) (l := t.kids) (i := 0) (by omega)
      obtain ⟨e1, m1⟩ := getD_map_mem (p := exprP) (l := t.kids) (i := 1) (by omega)
      have k0 := ih _ (List.all_eq_true.1 h.2.2.2 _ m0)
      have k1 := ih _ (List.all_eq_true.1 h.2.2.2 _ m1)
      obtain ⟨o1, o2⟩ := op_self h.1
      rw [e0, e1, List.append_assoc, List.append_assoc, List.append_assoc]
      refine ok_s (by decide) (k0.app e_b (ok_b ⟨o1, .inl o2, ok_b (k1.app (e_s (by decide) (by decide)) (ok_s (by decide) trivial))⟩))
    rw [if_neg h20]
    by_cases h17 : t.kind = 17
    · rw [if_pos h17] at h
      have h := of_decide_eq_true h
      obtain ⟨e0, m0⟩ := getD_map_mem (p := exprP) (l := t.kids) (i := 0) (by omega)
      obtain ⟨e1, m1⟩ := getD_map_mem (p := exprP) (l := t.kids) (i := 1) (by omega)
      have k0 := ih _ (List.all_eq_true.1 h.2.2.2 _ m0)
      have k1 := ih _ (List.all_eq_true.1 h.2.2.2 _ m1)
      rw [e0, e1]
      split
      · rw [List.append_assoc, List.append_assoc, List.append_assoc]
        exact ok_s (by decide) (k0.app (e_s (by decide) (by decide)) (ok_s (by decide) (ok_s (by decide) (k1.app (e_s (by decide) (by decide)) (ok_s (by decide) trivial)))))
      · rw [List.append_assoc, List.append_assoc]
        exact k0.app (e_s (by decide) (by decide)) (ok_s (by decide) (k1.app (e_s (by decide) (by decide)) (ok_s (by decide) trivial)))
    rw [if_neg h17, if_neg h18, if_neg h19, if_neg h20] at h
    cases h
theorem num_kid {t : Tree} {i : Nat} (h : t.kids.all numberB = true) (hi : i < t.kids.length) : (t.kids.getD i Tree.no).num ≤ 4294967295 := (of_decide_eq_true (List.all_eq_true.1 h _ (kid_mem hi))).2.2.1
theorem ok_type {t : Tree} (h : typeB t = true) : OkE (typeP t) := fun z hz => by
  have h := of_decide_eq_true h
  have n0 := num_kid h.1.2.2.2 (i := 0) (by omega)
  have n1 := num_kid h.1.2.2.2 (i := 1) (by omega)
  have key : ∀ a : List Pc, OkE a → OkP (a ++ if 0 < (t.kids.getD 1 Tree.no).num then [sg 91, nu (t.kids.getD 1 Tree.no).num, sg 93] else []) z := fun a ha => by
    split
    · exact ha.app (e_s (by decide) (by decide)) (ok_s (by decide) (ok_u n1 (e_s (by decide) (by decide)) (ok_s (by decide) trivial)))
    · rw [List.append_nil]; exact ha z hz
  unfold typeP
  refine key _ fun z hz => ?_
  split
  · exact ok_n (by decide) hz trivial
  split
  · exact ok_n (by decide) e_b (ok_b (ok_u n0 hz trivial))
  · exact ok_n (by decide) hz trivial
theorem ok_arg {t : Tree} (h : argB t = true) : OkE (argP t) := fun z hz => by
  have h := of_decide_eq_true h
  exact ok_n (tok_name h.2.1) (e_s (by decide) (by decide)) (ok_s (by decide) (ok_b (ok_type h.2.2.2.2 z hz)))
theorem ok_line {d : Nat} {ps : List Pc} (h : OkE ps) : OkA (lineP d ps) := fun z => by
  unfold lineP
  rw [List.append_assoc]
  refine ⟨gap_blank ?_, h.app ?_ ⟨gap_blank (by decide), trivial⟩⟩
  · rw [List.all_eq_true]
    intro c hc
    rw [(List.mem_replicate.1 hc).2]; decide
  · rw [flat_cons]; exact ends_cons (by decide) (by decide)
theorem ok_lines {d : Nat} : ∀ {l : List Tree}, (∀ u ∈ l, OkA (itemP d u)) → OkA (linesP d l)
  | [], _ => fun z => by rw [linesP]; trivial
  | a :: r, h => by
    rw [linesP]
    exact (h a (by simp)).app (ok_lines fun u hu => h u (List.mem_cons_of_mem _ hu))
theorem mapB_getP {d : Nat} {l : List Tree} {i : Nat} (h : i < l.length) : (l.map (blockP d)).getD i [] = linesP d (l.getD i Tree.no).kids := by
  rw [← blockP_eq]
  exact (getD_map_mem h).1
theorem ok_item : ∀ (f d : Nat) (t : Tree), itemF f t = true → OkA (itemP d t)
  | 0, d, t, h => by rw [itemF] at h; cases h
  | f + 1, d, t, h => by
    have ih := ok_item f
    have hblk : ∀ i, i < t.kids.length → blockB (itemF f) (t.kids.getD i Tree.no) = true → OkA ((t.kids.map (blockP (d + 1))).getD i []) := fun i hi hb => by
      rw [mapB_getP hi]
      exact ok_lines fun u hu => ih (d + 1) u (List.all_eq_true.1 (of_decide_eq_true hb).2.2.2 u hu)
    rw [itemP_eq]
    unfold itemPW
    rw [itemF] at h
    by_cases h2 : t.kind = 2
    · rw [if_pos h2] at h ⊢
      have h := of_decide_eq_true h
      refine ok_line fun z hz => ?_
      rw [List.append_assoc]
      exact ok_n (by decide) e_b (ok_b (ok_n (tok_name h.1) (e_s (by decide) (by decide)) (ok_s (by decide) (ok_b ((ok_type h.2.2.2).app e_b (ok_b (ok_n (by decide) e_b (ok_b (ok_u h.2.1 (e_s (by decide) (by decide)) (ok_s (by decide) trivial))))))))))
    rw [if_neg h2] at h ⊢
    by_cases h3 : t.kind = 3
    · rw [if_pos h3] at h ⊢
      have h := of_decide_eq_true h
      refine ok_line fun z hz => ?_
      rw [List.append_assoc]
      exact ok_n (by decide) e_b (ok_b (ok_n (tok_name h.1) e_b (ok_b (ok_q e_b (ok_b ((ok_expr f _ h.2.2.2).app (e_s (by decide) (by decide)) (ok_s (by decide) trivial)))))))
    rw [if_neg h3] at h ⊢
    by_cases h4 : t.kind = 4
    · rw [if_pos h4] at h ⊢
      have h := of_decide_eq_true h
      refine ok_line fun z hz => ?_
      rw [List.append_assoc]
      exact ok_n (tok_name h.1) e_b (ok_b (ok_q e_b (ok_b ((ok_expr f _ h.2.2.2).app (e_s (by decide) (by decide)) (ok_s (by decide) trivial)))))
    rw [if_neg h4] at h ⊢
    by_cases h5 : t.kind = 5
    · rw [if_pos h5] at h ⊢
      have h := of_decide_eq_true h
      have hl := List.all_eq_true.1 h.2.2.2
      refine ok_line fun z hz => ?_
      rw [List.append_assoc, List.append_assoc, List.append_assoc]
      exact ok_n (tok_name h.1) (e_s (by decide) (by decide)) (ok_s (by decide) ((ok_expr f _ (hl _ (kid_mem (i := 0) (by omega)))).app (e_s (by decide) (by decide)) (ok_s (by decide) (ok_b (ok_q e_b (ok_b ((ok_expr f _ (hl _ (kid_mem (i := 1) (by omega)))).app (e_s (by decide) (by decide)) (ok_s (by decide) trivial))))))))
    rw [if_neg h5] at h ⊢
    by_cases h6 : t.kind = 6
    · rw [if_pos h6] at h ⊢
      have h := of_decide_eq_true h
      have hl := List.all_eq_true.1 h.2.2.2.2
      have hm : ∀ i, 0 < i → i < 3 → blockB (itemF f) (t.kids.getD i Tree.no) = true := fun i h0 hi => hl _ (by
        have e : t.kids.getD i Tree.no = (t.kids.drop 1).getD (i - 1) Tree.no := by rw [drop_getD, show 1 + (i - 1) = i by omega]
        rw [e]; exact kid_mem (by rw [List.length_drop]; omega))
      refine OkA.app (OkA.app (OkA.app (ok_line fun z hz => ?_) (hblk 1 (by omega) (hm 1 (by omega) (by omega)))) ?_) (ok_line fun z hz => ok_s (by decide) trivial)
      · rw [List.append_assoc]
        exact ok_n (by decide) e_b (ok_b ((ok_expr f _ h.2.2.2.1).app e_b (ok_b (ok_s (by decide) trivial))))
      · split
        · exact OkA.app (ok_line fun z hz => ok_s (by decide) (ok_b (ok_n (by decide) e_b (ok_b (ok_s (by decide) trivial))))) (hblk 2 (by omega) (hm 2 (by omega) (by omega)))
        · exact fun z => trivial
    rw [if_neg h6] at h ⊢
    by_cases h7 : t.kind = 7
    · rw [if_pos h7] at h ⊢
      have h := of_decide_eq_true h
      have hl := List.all_eq_true.1 h.2.2.2.1
      have hm : ∀ i, i < 2 → exprF f (t.kids.getD i Tree.no) = true := fun i hi => hl _ (by
        rw [← take_getD (l := t.kids) (i := 2) hi]; exact kid_mem (by rw [List.length_take]; omega))
      refine OkA.app (OkA.app (ok_line fun z hz => ?_) (hblk 2 (by omega) h.2.2.2.2)) (ok_line fun z hz => ok_s (by decide) trivial)
      rw [List.append_assoc, List.append_assoc, List.append_assoc]
      exact ok_n (by decide) e_b (ok_b (ok_n (tok_name h.1) e_b (ok_b (ok_q e_b (ok_b ((ok_expr f _ (hm 0 (by omega))).app e_b (ok_b (ok_n (by decide) e_b (ok_b ((ok_expr f _ (hm 1 (by omega))).app e_b (ok_b (ok_s (by decide) trivial))))))))))))
    rw [if_neg h7] at h ⊢
    by_cases h8 : t.kind = 8
    · rw [if_pos h8] at h ⊢
      have h := of_decide_eq_true h
      refine ok_line fun z hz => ?_
      rw [List.append_assoc, List.append_assoc, List.append_assoc]
      have hj : OkE (if 1 < t.kids.length then joinP ((t.kids.drop 1).map fun t => [nu t.num]) else [nm [97, 108, 108]]) := fun z hz => by
        split
        · refine ok_join _ (fun a ha => ?_) z hz
          obtain ⟨u, hu, rfl⟩ := List.mem_map.1 ha
          exact fun z hz => ok_u (of_decide_eq_true (List.all_eq_true.1 h.2.2.2.2 u hu)).2.2.1 hz trivial
        · exact ok_n (by decide) hz trivial
      exact ok_n (by decide) e_b (ok_b ((ok_expr f _ h.2.2.2.1).app e_b (ok_b (ok_n (by decide) e_b (ok_b (hj.app (e_s (by decide) (by decide)) (ok_s (by decide) trivial)))))))
    rw [if_neg h8] at h ⊢
    by_cases h9 : t.kind = 9
    · rw [if_pos h9] at h
      have h := of_decide_eq_true h
      refine OkA.app (OkA.app (OkA.app (ok_line fun z hz => ?_) (hblk _ (by omega) h.2.2.2.2.1)) (ok_line fun z hz => ?_)) (ok_line fun z hz => ok_s (by decide) trivial)
      · rw [List.append_assoc]
        have hj : OkE (joinP ((t.kids.take (t.kids.length - 2)).map argP)) := ok_join _ fun a ha => by
          obtain ⟨u, hu, rfl⟩ := List.mem_map.1 ha
          exact ok_arg (List.all_eq_true.1 h.2.2.2.1 u hu)
        exact ok_n (by decide) e_b (ok_b (ok_n (tok_name h.1) (e_s (by decide) (by decide)) (ok_s (by decide) (hj.app (e_s (by decide) (by decide)) (ok_s (by decide) (ok_b (ok_s (by decide) trivial)))))))
      · rw [List.append_assoc]
        exact ok_n (by decide) e_b (ok_b ((ok_expr f _ h.2.2.2.2.2).app (e_s (by decide) (by decide)) (ok_s (by decide) trivial)))
    rw [if_neg h9] at h
    cases h
end Go.Proofs.YtngpedcihajepaaGreatDoor.M
namespace Go.Proofs.YtngpedcihajepaaGreatDoor.M
set_option linter.unusedVariables false
set_option linter.unusedSimpArgs false
theorem g_number {n : Nat} (h : n ≤ 4294967295) : exprG (numberT n) := by
  refine exprG.up (fun u hu => by cases hu) fun c _ => ?_
  rw [exprF, if_pos (show (numberT n).kind = 14 from rfl)]
  exact decide_eq_true ⟨rfl, rfl, h, rfl⟩
theorem g_name {s : List Nat} (h : nameOk s = true) : exprG (.node 15 s 0 []) := by
  refine exprG.up (fun u hu => by cases hu) fun c _ => ?_
  rw [exprF, if_neg (show ¬ (Tree.node 15 _ _ _).kind = 14 from (by decide : ¬ (15 : Int) = 14)), if_pos (show (Tree.node 15 _ _ _).kind = 15 from rfl)]
  exact decide_eq_true ⟨h, rfl, rfl⟩
theorem g_call {s : List Nat} {l : List Tree} (h : nameOk s = true ∨ s = [110, 117, 109] ∨ s = [98, 105, 116] ∨ s = [119, 111, 114, 100]) (hl : ∀ u ∈ l, exprG u) : exprG (.node 16 s 0 l) := by
  refine exprG.up hl fun c hc => ?_
  rw [exprF, if_neg (show ¬ (Tree.node 16 _ _ _).kind = 14 from (by decide : ¬ (16 : Int) = 14)), if_neg (show ¬ (Tree.node 16 _ _ _).kind = 15 from (by decide : ¬ (16 : Int) = 15)), if_pos (show (Tree.node 16 _ _ _).kind = 16 from rfl)]
  exact decide_eq_true ⟨h, rfl, List.all_eq_true.2 hc⟩
theorem g_item {a b : Tree} (ha : exprG a) (hb : exprG b) : exprG (.node 17 [] 0 [a, b]) := by
  refine exprG.up (fun u hu => ?_) fun c hc => ?_
  · rcases List.mem_cons.1 hu with rfl | hu
    · exact ha
    · rw [List.mem_singleton.1 hu]; exact hb
  · rw [exprF, if_neg (show ¬ (Tree.node 17 _ _ _).kind = 14 from (by decide : ¬ (17 : Int) = 14)), if_neg (show ¬ (Tree.node 17 _ _ _).kind = 15 from (by decide : ¬ (17 : Int) = 15)), if_neg (show ¬ (Tree.node 17 _ _ _).kind = 16 from (by decide : ¬ (17 : Int) = 16)), if_pos (show (Tree.node 17 _ _ _).kind = 17 from rfl)]
    exact decide_eq_true ⟨rfl, rfl, rfl, List.all_eq_true.2 hc⟩
theorem g_list {l : List Tree} (h : 0 < l.length) (hl : ∀ u ∈ l, exprG u) : exprG (.node 18 [] 0 l) := by
  refine exprG.up hl fun c hc => ?_
  rw [exprF, if_neg (show ¬ (Tree.node 18 _ _ _).kind = 14 from (by decide : ¬ (18 : Int) = 14)), if_neg (show ¬ (Tree.node 18 _ _ _).kind = 15 from (by decide : ¬ (18 : Int) = 15)), if_neg (show ¬ (Tree.node 18 _ _ _).kind = 16 from (by decide : ¬ (18 : Int) = 16)), if_neg (show ¬ (Tree.node 18 _ _ _).kind = 17 from (by decide : ¬ (18 : Int) = 17)), if_pos (show (Tree.node 18 _ _ _).kind = 18 from rfl)]
  exact decide_eq_true ⟨rfl, rfl, h, List.all_eq_true.2 hc⟩
theorem g_unary {s : List Nat} {a : Tree} (h : s = [33] ∨ s = [45]) (ha : exprG a) : exprG (.node 19 s 0 [a]) := by
  refine exprG.up (fun u hu => by rw [List.mem_singleton.1 hu]; exact ha) fun c hc => ?_
  rw [exprF, if_neg (show ¬ (Tree.node 19 _ _ _).kind = 14 from (by decide : ¬ (19 : Int) = 14)), if_neg (show ¬ (Tree.node 19 _ _ _).kind = 15 from (by decide : ¬ (19 : Int) = 15)), if_neg (show ¬ (Tree.node 19 _ _ _).kind = 16 from (by decide : ¬ (19 : Int) = 16)), if_neg (show ¬ (Tree.node 19 _ _ _).kind = 17 from (by decide : ¬ (19 : Int) = 17)), if_neg (show ¬ (Tree.node 19 _ _ _).kind = 18 from (by decide : ¬ (19 : Int) = 18)), if_pos (show (Tree.node 19 _ _ _).kind = 19 from rfl)]
  exact decide_eq_true ⟨h, rfl, rfl, hc a (by simp [Tree.kids])⟩
theorem g_binary {s : List Nat} {a b : Tree} (h : opB s = true) (ha : exprG a) (hb : exprG b) : exprG (.node 20 s 0 [a, b]) := by
  refine exprG.up (fun u hu => ?_) fun c hc => ?_
  · rcases List.mem_cons.1 hu with rfl | hu
    · exact ha
    · rw [List.mem_singleton.1 hu]; exact hb
  · rw [exprF, if_neg (show ¬ (Tree.node 20 _ _ _).kind = 14 from (by decide : ¬ (20 : Int) = 14)), if_neg (show ¬ (Tree.node 20 _ _ _).kind = 15 from (by decide : ¬ (20 : Int) = 15)), if_neg (show ¬ (Tree.node 20 _ _ _).kind = 16 from (by decide : ¬ (20 : Int) = 16)), if_neg (show ¬ (Tree.node 20 _ _ _).kind = 17 from (by decide : ¬ (20 : Int) = 17)), if_neg (show ¬ (Tree.node 20 _ _ _).kind = 18 from (by decide : ¬ (20 : Int) = 18)), if_neg (show ¬ (Tree.node 20 _ _ _).kind = 19 from (by decide : ¬ (20 : Int) = 19)), if_pos (show (Tree.node 20 _ _ _).kind = 20 from rfl)]
    exact decide_eq_true ⟨h, rfl, rfl, List.all_eq_true.2 hc⟩

/-! ## The parsers of tokens -/
theorem take_gd {s : List Nat} {l : List Tok} (h : Tks l) : Gd (fun _ => True) (take s l) := by
  unfold take; exact .ite (fun _ => ⟨trivial, h.tail⟩) fun _ => trivial
theorem nameS_ok {l : List Tok} (h : Tks l) (hn : nameS l = true) : nameOk (headT l) = true := by
  cases l with
  | nil => cases hn
  | cons t r =>
    have hn : (decide (t.kind = 1) && !wordB t.text) = true := hn
    rw [Bool.and_eq_true, decide_eq_true_eq] at hn
    have ht := h t (by simp)
    rcases tok_cases ht with ⟨_, hk⟩ | ⟨hk, _⟩ | ⟨hk, _⟩
    · show (isName t.text && !wordB t.text) = true
      rw [hk, hn.2]; rfl
    · rw [hn.1] at hk; exact absurd hk (by decide)
    · rw [hn.1] at hk; exact absurd hk (by decide)
theorem name_gd {l : List Tok} (h : Tks l) : Gd (fun s => nameOk s = true) (pName l) := by
  unfold pName; exact .ite (fun hn => ⟨nameS_ok h hn, h.tail⟩) fun _ => trivial
theorem number_gd {l : List Tok} (h : Tks l) : Gd (fun n => n ≤ 4294967295) (pNumber l) := by
  cases l with
  | nil => trivial
  | cons t r =>
    show Gd _ (if t.kind = 2 then Res.ok (numV t.text) r else .bad (t :: r))
    refine .ite (fun hk => ⟨?_, fun u hu => h u (List.mem_cons_of_mem _ hu)⟩) fun _ => trivial
    unfold numV
    split
    · rename_i he
      unfold numE at he
      split at he
      · cases he
      · split at he
        · cases he
        · split at he
          · cases he
          · omega
    · omega
theorem nb_ok {n : Nat} (h : n ≤ 4294967295) : numberB (numberT n) = true := decide_eq_true ⟨rfl, rfl, h, rfl⟩
theorem arr_gd {k n : Nat} (hk : k = 3 ∨ (k = 1 ∨ k = 2) ∧ n = 0) (hn : n ≤ 4294967295) {l : List Tok} (h : Tks l) : Gd (fun t => typeB t = true) (pArr k n l) := by
  have key : ∀ m, m ≤ 4294967295 → typeB (.node 11 [] k [numberT n, numberT m]) = true := fun m hm => decide_eq_true ⟨⟨rfl, rfl, rfl, by
    show ([numberT n, numberT m].all numberB) = true
    rw [List.all_cons, List.all_cons, nb_ok hn, nb_ok hm]; rfl⟩, by
    rcases hk with hk | ⟨hk, hz⟩
    · exact .inl hk
    · exact .inr ⟨hk, hz⟩⟩
  unfold pArr
  exact .ite (fun _ => (number_gd h.tail).bind fun m r hm hr => (take_gd hr).bind fun _ r _ hr => ⟨key m hm, hr⟩) fun _ => ⟨key 0 (by omega), h⟩
theorem typ_gd {l : List Tok} (h : Tks l) : Gd (fun t => typeB t = true) (pTyp l) := by
  unfold pTyp
  exact .ite (fun _ => arr_gd (.inr ⟨.inl rfl, rfl⟩) (by omega) h.tail) fun _ => .ite (fun _ => arr_gd (.inr ⟨.inr rfl, rfl⟩) (by omega) h.tail) fun _ => (take_gd h).bind fun _ r _ hr => (number_gd hr).bind fun n r hn hr => arr_gd (.inl rfl) hn hr
theorem arg_gd {l : List Tok} (h : Tks l) : Gd (fun t => argB t = true) (pArg l) :=
  (name_gd h).bind fun s r hs hr => (take_gd hr).bind fun _ r _ hr => (typ_gd hr).bind fun t r ht hr => ⟨decide_eq_true ⟨rfl, hs, rfl, rfl, ht⟩, hr⟩
theorem to_gd {l : List Tok} (h : Tks l) : Gd (fun t => toB t = true) (pTo l) := (number_gd h).bind fun n r hn hr => ⟨decide_eq_true ⟨rfl, rfl, hn, rfl⟩, hr⟩
section
variable {p : List Tok → Res Tree} {P : Tree → Prop} (hp : ∀ l, Tks l → Gd P (p l))
include hp
theorem sep_gd : ∀ (c : Nat) (a : List Tree) (l : List Tok), (∀ u ∈ a, P u) → 0 < a.length → Tks l → Gd (fun a => (∀ u ∈ a, P u) ∧ 0 < a.length) (pSep p c a l)
  | 0, a, l, _, _, _ => trivial
  | c + 1, a, l, ha, h0, h => by
    rw [pSep]
    refine .ite (fun _ => (hp _ h.tail).bind fun n r hn hr => sep_gd c (a ++ [n]) r (fun u hu => ?_) (by simp) hr) fun _ => ⟨⟨ha, h0⟩, h⟩
    rcases List.mem_append.1 hu with hu | hu
    · exact ha u hu
    · rw [List.mem_singleton.1 hu]; exact hn
theorem list_gd (c : Nat) {l : List Tok} (h : Tks l) : Gd (fun a => (∀ u ∈ a, P u) ∧ 0 < a.length) (pList p c l) :=
  (hp _ h).bind fun n r hn hr => sep_gd hp c [n] r (fun u hu => by rw [List.mem_singleton.1 hu]; exact hn) (by simp) hr
theorem args_gd (c : Nat) {l : List Tok} (h : Tks l) : Gd (fun a => ∀ u ∈ a, P u) (pArgs p c l) := by
  unfold pArgs
  exact .ite (fun _ => ⟨fun u hu => (by cases hu), h.tail⟩) fun _ => (list_gd hp c h).bind fun a r ha hr => (take_gd hr).bind fun _ r _ hr => ⟨ha.1, hr⟩
end
section
variable {p : List Tok → Res Tree} (hp : ∀ l, Tks l → Gd exprG (p l))
include hp
theorem loop_gd (k : Nat) : ∀ (c : Nat) (n : Tree) (l : List Tok), exprG n → Tks l → Gd exprG (pLoop p k c n l)
  | 0, n, l, _, _ => trivial
  | c + 1, n, l, hn, h => by
    rw [pLoop]
    cases hs : signAt k l with
    | none => exact ⟨hn, h⟩
    | some s =>
      dsimp only
      have ho : opB s = true := by
        cases l with
        | nil => cases hs
        | cons t r =>
          unfold signAt at hs
          dsimp only at hs
          split at hs
          · rename_i h2
            injection hs with hs
            subst hs
            refine decide_eq_true ?_
            have h2 := h2.2
            rcases k with _ | _ | _ | _ | _ | k
            · exact .inl h2
            · exact .inr (.inl h2)
            · exact .inr (.inr (.inl h2))
            · exact .inr (.inr (.inr (.inl h2)))
            · exact .inr (.inr (.inr (.inr (.inl h2))))
            · exact .inr (.inr (.inr (.inr (.inr h2))))
          · cases hs
      exact (hp _ h.tail).bind fun m r hm hr => .ite (fun _ => ⟨g_binary ho hn hm, hr⟩) fun _ => loop_gd k c _ r (g_binary ho hn hm) hr
theorem index_gd : ∀ (c : Nat) (n : Tree) (l : List Tok), exprG n → Tks l → Gd exprG (pIndex p c n l)
  | 0, n, l, _, _ => trivial
  | c + 1, n, l, hn, h => by
    rw [pIndex]
    exact .ite (fun _ => (hp _ h.tail).bind fun i r hi hr => (take_gd hr).bind fun _ r _ hr => index_gd c _ r (g_item hn hi) hr) fun _ => ⟨hn, h⟩
theorem primary_gd (c : Nat) {l : List Tok} (h : Tks l) : Gd exprG (pPrimary p c l) := by
  unfold pPrimary
  refine .ite (fun _ => (hp _ h.tail).bind fun n r hn hr => (take_gd hr).bind fun _ r _ hr => ⟨hn, hr⟩) fun _ => .ite (fun _ => (list_gd hp c h.tail).bind fun k r hk hr => (take_gd hr).bind fun _ r _ hr => ⟨g_list hk.2 hk.1, hr⟩) fun _ => .ite (fun ht => (take_gd h.tail).bind fun _ r _ hr => (args_gd hp c hr).bind fun k r hk hr => ⟨g_call (.inr ?_) hk, hr⟩) fun _ => .ite (fun hn => .ite (fun _ => (args_gd hp c h.tail.tail).bind fun k r hk hr => ⟨g_call (.inl (nameS_ok h hn)) hk, hr⟩) fun _ => ⟨g_name (nameS_ok h hn), h.tail⟩) fun _ => (number_gd h).bind fun n r hn hr => ⟨g_number hn, hr⟩
  cases l with
  | nil => cases ht
  | cons t r =>
    simp only [typedS, isS, Bool.or_eq_true, Bool.and_eq_true, decide_eq_true_eq] at ht
    rcases ht with (ht | ht) | ht
    · exact .inl ht.2
    · exact .inr (.inl ht.2)
    · exact .inr (.inr ht.2)
theorem indexed_gd (c : Nat) {l : List Tok} (h : Tks l) : Gd exprG (pIndexed p c l) := (primary_gd hp c h).bind fun n r hn hr => index_gd hp c n r hn hr
end
theorem expr_gd : ∀ f : Nat, (∀ k l, Tks l → Gd exprG (pLevel f k l)) ∧ (∀ l, Tks l → Gd exprG (pUnary f l))
  | 0 => ⟨fun k l _ => by rw [pLevel]; trivial, fun l _ => by rw [pUnary]; trivial⟩
  | f + 1 => by
    obtain ⟨h1, h2⟩ := expr_gd f
    constructor
    · intro k l h
      rw [pLevel]
      exact .ite (fun _ => h2 l h) fun _ => (h1 _ _ h).bind fun n r hn hr => loop_gd (h1 _) _ _ _ _ hn hr
    · intro l h
      rw [pUnary]
      exact .ite (fun _ => (h2 _ h.tail).bind fun n r hn hr => ⟨g_unary (.inl rfl) hn, hr⟩) fun _ => .ite (fun _ => (h2 _ h.tail).bind fun n r hn hr => ⟨g_unary (.inr rfl) hn, hr⟩) fun _ => indexed_gd (h1 0) _ h

section
variable {p it : List Tok → Res Tree} (hp : ∀ l, Tks l → Gd exprG (p l)) (hi : ∀ l, Tks l → Gd itemG (it l))
include hp
theorem val_gd {l : List Tok} (h : Tks l) : Gd exprG (pVal p l) := (take_gd h).bind fun _ r _ hr => (hp _ hr).bind fun e r he hr => (take_gd hr).bind fun _ r _ hr => ⟨he, hr⟩
theorem let_gd {l : List Tok} (h : Tks l) : Gd itemG (pLet p l) := (name_gd h).bind fun s r hs hr => (val_gd hp hr).bind fun e r he hr => ⟨itemG.up fun c hc _ => by
  rw [itemF, if_neg (show ¬ (Tree.node 3 _ _ _).kind = 2 from (by decide : ¬ (3 : Int) = 2)), if_pos (show (Tree.node 3 _ _ _).kind = 3 from rfl)]
  exact decide_eq_true ⟨hs, rfl, rfl, hc e (by simp [Tree.kids]) he⟩, hr⟩
theorem set_gd {l : List Tok} (h : Tks l) : Gd itemG (pSet p l) := (name_gd h).bind fun s r hs hr => .ite (fun _ => (hp _ hr.tail).bind fun i r hi hr => (take_gd hr).bind fun _ r _ hr => (val_gd hp hr).bind fun e r he hr => ⟨itemG.up fun c hc _ => by
    rw [itemF, if_neg (show ¬ (Tree.node 5 _ _ _).kind = 2 from (by decide : ¬ (5 : Int) = 2)), if_neg (show ¬ (Tree.node 5 _ _ _).kind = 3 from (by decide : ¬ (5 : Int) = 3)), if_neg (show ¬ (Tree.node 5 _ _ _).kind = 4 from (by decide : ¬ (5 : Int) = 4)), if_pos (show (Tree.node 5 _ _ _).kind = 5 from rfl)]
    refine decide_eq_true ⟨hs, rfl, rfl, List.all_eq_true.2 fun u hu => hc u hu ?_⟩
    rcases List.mem_cons.1 hu with rfl | hu
    · exact hi
    · rw [List.mem_singleton.1 hu]; exact he, hr⟩) fun _ => (val_gd hp hr).bind fun e r he hr => ⟨itemG.up fun c hc _ => by
  rw [itemF, if_neg (show ¬ (Tree.node 4 _ _ _).kind = 2 from (by decide : ¬ (4 : Int) = 2)), if_neg (show ¬ (Tree.node 4 _ _ _).kind = 3 from (by decide : ¬ (4 : Int) = 3)), if_pos (show (Tree.node 4 _ _ _).kind = 4 from rfl)]
  exact decide_eq_true ⟨hs, rfl, rfl, hc e (by simp [Tree.kids]) he⟩, hr⟩
theorem out_gd (c : Nat) {l : List Tok} (h : Tks l) : Gd itemG (pOut p c l) := by
  refine (hp _ h).bind fun n r hn hr => (take_gd hr).bind fun _ r _ hr => Gd.bind (P := fun k => ∀ u ∈ k, toB u = true) ?_ fun k r hk hr => (take_gd hr).bind fun _ r _ hr => ⟨itemG.up fun c hc _ => ?_, hr⟩
  · exact .ite (fun _ => ⟨fun u hu => (by cases hu), hr.tail⟩) fun _ => by
      have := list_gd (fun l h => to_gd h) c hr
      cases hx : pList pTo c r with
      | ok a q => rw [hx] at this; exact ⟨this.1.1, this.2⟩
      | bad q => trivial
      | out => trivial
  · rw [itemF, if_neg (show ¬ (Tree.node 8 _ _ _).kind = 2 from (by decide : ¬ (8 : Int) = 2)), if_neg (show ¬ (Tree.node 8 _ _ _).kind = 3 from (by decide : ¬ (8 : Int) = 3)), if_neg (show ¬ (Tree.node 8 _ _ _).kind = 4 from (by decide : ¬ (8 : Int) = 4)), if_neg (show ¬ (Tree.node 8 _ _ _).kind = 5 from (by decide : ¬ (8 : Int) = 5)), if_neg (show ¬ (Tree.node 8 _ _ _).kind = 6 from (by decide : ¬ (8 : Int) = 6)), if_neg (show ¬ (Tree.node 8 _ _ _).kind = 7 from (by decide : ¬ (8 : Int) = 7)), if_pos (show (Tree.node 8 _ _ _).kind = 8 from rfl)]
    exact decide_eq_true ⟨rfl, rfl, by simp [Tree.kids], hc n (by simp [Tree.kids]) hn, List.all_eq_true.2 hk⟩
include hi
omit hp in
theorem items_gd : ∀ (c : Nat) (a : List Tree) (l : List Tok), (∀ u ∈ a, itemG u) → Tks l → Gd (fun a => ∀ u ∈ a, itemG u) (pItems it c a l)
  | 0, a, l, _, _ => trivial
  | c + 1, a, l, ha, h => by
    rw [pItems]
    refine .ite (fun _ => (hi _ h).bind fun n r hn hr => items_gd c (a ++ [n]) r (fun u hu => ?_) hr) fun _ => ⟨ha, h⟩
    rcases List.mem_append.1 hu with hu | hu
    · exact ha u hu
    · rw [List.mem_singleton.1 hu]; exact hn
omit hp in
theorem block_gd (c : Nat) {l : List Tok} (h : Tks l) : Gd (fun b => b.kind = 10 ∧ b.text = [] ∧ b.num = 0 ∧ ∀ u ∈ b.kids, itemG u) (pBlock it c l) :=
  (take_gd h).bind fun _ r _ hr => (items_gd hi c [] r (fun u hu => (by cases hu)) hr).bind fun k r hk hr => (take_gd hr).bind fun _ r _ hr => ⟨⟨rfl, rfl, rfl, hk⟩, hr⟩
theorem if_gd (c : Nat) {l : List Tok} (h : Tks l) : Gd itemG (pIf p it c l) := by
  have key : ∀ e b o, exprG e → (b.kind = 10 ∧ b.text = [] ∧ b.num = 0 ∧ ∀ u ∈ b.kids, itemG u) → (o.kind = 10 ∧ o.text = [] ∧ o.num = 0 ∧ ∀ u ∈ o.kids, itemG u) → itemG (.node 6 [] 0 [e, b, o]) := fun e b o he hb ho => itemG.up fun c hc hd => by
    rw [itemF, if_neg (show ¬ (Tree.node 6 _ _ _).kind = 2 from (by decide : ¬ (6 : Int) = 2)), if_neg (show ¬ (Tree.node 6 _ _ _).kind = 3 from (by decide : ¬ (6 : Int) = 3)), if_neg (show ¬ (Tree.node 6 _ _ _).kind = 4 from (by decide : ¬ (6 : Int) = 4)), if_neg (show ¬ (Tree.node 6 _ _ _).kind = 5 from (by decide : ¬ (6 : Int) = 5)), if_pos (show (Tree.node 6 _ _ _).kind = 6 from rfl)]
    refine decide_eq_true ⟨rfl, rfl, rfl, hc e (by simp [Tree.kids]) he, ?_⟩
    show ([b, o].all (blockB (itemF c))) = true
    rw [List.all_cons, List.all_cons, hd b (by simp [Tree.kids]) hb, hd o (by simp [Tree.kids]) ho]; rfl
  exact (hp _ h).bind fun e r he hr => (block_gd hi c hr).bind fun b r hb hr => .ite (fun _ => (block_gd hi c hr.tail).bind fun o r ho hr => ⟨key e b o he hb ho, hr⟩) fun _ => ⟨key e b _ he hb ⟨rfl, rfl, rfl, fun u hu => (by cases hu)⟩, hr⟩
theorem for_gd (c : Nat) {l : List Tok} (h : Tks l) : Gd itemG (pFor p it c l) :=
  (name_gd h).bind fun s r hs hr => (take_gd hr).bind fun _ r _ hr => (hp _ hr).bind fun a r ha hr => (take_gd hr).bind fun _ r _ hr => (hp _ hr).bind fun b r hb hr => (block_gd hi c hr).bind fun o r ho hr => ⟨itemG.up fun c hc hd => by
    rw [itemF, if_neg (show ¬ (Tree.node 7 _ _ _).kind = 2 from (by decide : ¬ (7 : Int) = 2)), if_neg (show ¬ (Tree.node 7 _ _ _).kind = 3 from (by decide : ¬ (7 : Int) = 3)), if_neg (show ¬ (Tree.node 7 _ _ _).kind = 4 from (by decide : ¬ (7 : Int) = 4)), if_neg (show ¬ (Tree.node 7 _ _ _).kind = 5 from (by decide : ¬ (7 : Int) = 5)), if_neg (show ¬ (Tree.node 7 _ _ _).kind = 6 from (by decide : ¬ (7 : Int) = 6)), if_pos (show (Tree.node 7 _ _ _).kind = 7 from rfl)]
    refine decide_eq_true ⟨hs, rfl, rfl, ?_, hd o (by simp [Tree.kids]) ho⟩
    show ([a, b].all (exprF c)) = true
    rw [List.all_cons, List.all_cons, hc a (by simp [Tree.kids]) ha, hc b (by simp [Tree.kids]) hb]; rfl, hr⟩
theorem def_gd (c : Nat) {l : List Tok} (h : Tks l) : Gd itemG (pDef p it c l) :=
  (name_gd h).bind fun s r hs hr => (take_gd hr).bind fun _ r _ hr => (args_gd (fun l h => arg_gd h) c hr).bind fun k r hk hr => (take_gd hr).bind fun _ r _ hr => (items_gd hi c [] r (fun u hu => (by cases hu)) hr).bind fun b r hb hr => (take_gd hr).bind fun _ r _ hr => (hp _ hr).bind fun e r he hr => (take_gd hr).bind fun _ r _ hr => (take_gd hr).bind fun _ r _ hr => ⟨itemG.up fun c hc hd => by
    have hl : (k ++ [Tree.node 10 [] 0 b, e]).length = k.length + 2 := by simp
    have e1 : (k ++ [Tree.node 10 [] 0 b, e]).getD k.length Tree.no = .node 10 [] 0 b := by simp
    have e2 : (k ++ [Tree.node 10 [] 0 b, e]).getD (k.length + 1) Tree.no = e := by simp
    rw [itemF, if_neg (show ¬ (Tree.node 9 _ _ _).kind = 2 from (by decide : ¬ (9 : Int) = 2)), if_neg (show ¬ (Tree.node 9 _ _ _).kind = 3 from (by decide : ¬ (9 : Int) = 3)), if_neg (show ¬ (Tree.node 9 _ _ _).kind = 4 from (by decide : ¬ (9 : Int) = 4)), if_neg (show ¬ (Tree.node 9 _ _ _).kind = 5 from (by decide : ¬ (9 : Int) = 5)), if_neg (show ¬ (Tree.node 9 _ _ _).kind = 6 from (by decide : ¬ (9 : Int) = 6)), if_neg (show ¬ (Tree.node 9 _ _ _).kind = 7 from (by decide : ¬ (9 : Int) = 7)), if_neg (show ¬ (Tree.node 9 _ _ _).kind = 8 from (by decide : ¬ (9 : Int) = 8)), if_pos (show (Tree.node 9 _ _ _).kind = 9 from rfl)]
    refine decide_eq_true ⟨hs, rfl, ?_, ?_, ?_, ?_⟩
    · show 1 < (k ++ [Tree.node 10 [] 0 b, e]).length
      rw [hl]; omega
    · show ((k ++ [Tree.node 10 [] 0 b, e]).take ((k ++ [Tree.node 10 [] 0 b, e]).length - 2)).all argB = true
      rw [hl, show k.length + 2 - 2 = k.length by omega, List.take_left]
      exact List.all_eq_true.2 hk
    · show blockB (itemF c) ((k ++ [Tree.node 10 [] 0 b, e]).getD ((k ++ [Tree.node 10 [] 0 b, e]).length - 2) Tree.no) = true
      rw [hl, show k.length + 2 - 2 = k.length by omega, e1]
      exact hd _ (by simp [Tree.kids]) ⟨rfl, rfl, rfl, hb⟩
    · show exprF c ((k ++ [Tree.node 10 [] 0 b, e]).getD ((k ++ [Tree.node 10 [] 0 b, e]).length - 1) Tree.no) = true
      rw [hl, show k.length + 2 - 1 = k.length + 1 by omega, e2]
      exact hc e (by simp [Tree.kids]) he, hr⟩
end
theorem in_gd {l : List Tok} (h : Tks l) : Gd itemG (pIn l) :=
  (name_gd h).bind fun s r hs hr => (take_gd hr).bind fun _ r _ hr => (typ_gd hr).bind fun t r ht hr => (take_gd hr).bind fun _ r _ hr => (number_gd hr).bind fun n r hn hr => (take_gd hr).bind fun _ r _ hr => ⟨itemG.up fun c _ _ => by
    rw [itemF, if_pos (show (Tree.node 2 _ _ _).kind = 2 from rfl)]
    exact decide_eq_true ⟨hs, hn, rfl, ht⟩, hr⟩
theorem item_gd : ∀ (f : Nat) (l : List Tok), Tks l → Gd itemG (pItem f l)
  | 0, l, _ => trivial
  | f + 1, l, h => by
    have h1 := (expr_gd f).1 0
    have h2 := item_gd f
    rw [pItem]
    exact .ite (fun _ => in_gd h.tail) fun _ => .ite (fun _ => let_gd h1 h.tail) fun _ => .ite (fun _ => if_gd h1 h2 _ h.tail) fun _ => .ite (fun _ => for_gd h1 h2 _ h.tail) fun _ => .ite (fun _ => out_gd h1 _ h.tail) fun _ => .ite (fun _ => def_gd h1 h2 _ h.tail) fun _ => set_gd h1 h
theorem program_gd {f : Nat} {l : List Tok} {t : Tree} {r : List Tok} (h : Tks l) (e : pProgram f l = .ok t r) : t.kind = 1 ∧ t.text = [] ∧ t.num = 0 ∧ t.kids.all (itemF (count t)) = true := by
  have := (items_gd (item_gd f) f [] l (fun u hu => (by cases hu)) h).bind (Q := fun t : Tree => t.kind = 1 ∧ t.text = [] ∧ t.num = 0 ∧ t.kids.all (itemF (count t)) = true) (f := fun k r => match r with | [] => .ok (.node 1 [] 0 k) [] | _ => .bad r) (fun k r hk hr => by
    cases r with
    | nil => exact ⟨⟨rfl, rfl, rfl, List.all_eq_true.2 fun u hu => itemF_le (hk u hu) (Nat.le_of_lt (count_kid hu))⟩, hr⟩
    | cons a b => trivial)
  have e' : (pItems (pItem f) f [] l).bind (fun k r => match r with | [] => .ok (.node 1 [] 0 k) [] | _ => .bad r) = .ok t r := e
  rw [e'] at this
  exact this.1
end Go.Proofs.YtngpedcihajepaaGreatDoor.M
namespace Go.Proofs.YtngpedcihajepaaGreatDoor.M
set_option linter.unusedVariables false
def er (t : Tok) : Tok := ⟨t.kind, t.text, 0⟩
def Res.er {α : Type} : Res α → Res α
  | .ok a r => .ok a (r.map M.er)
  | .bad r => .bad (r.map M.er)
  | .out => .out
theorem isS_er (s : List Nat) (l : List Tok) : isS s (l.map er) = isS s l := by cases l <;> rfl
theorem nameS_er (l : List Tok) : nameS (l.map er) = nameS l := by cases l <;> rfl
theorem headT_er (l : List Tok) : headT (l.map er) = headT l := by cases l <;> rfl
theorem tail_er (l : List Tok) : (l.map er).tail = l.tail.map er := by cases l <;> rfl
theorem signAt_er (k : Nat) (l : List Tok) : signAt k (l.map er) = signAt k l := by cases l <;> rfl
theorem typedS_er (l : List Tok) : typedS (l.map er) = typedS l := by simp only [typedS, isS_er]
theorem itemS_er (l : List Tok) : itemS (l.map er) = itemS l := by simp only [itemS, isS_er, nameS_er]
theorem bind_er {α β : Type} {x y : Res α} {f g : α → List Tok → Res β} (hx : y = x.er) (h : ∀ a r, g a (r.map er) = (f a r).er) : y.bind g = (x.bind f).er := by
  subst hx
  cases x with
  | ok a r => exact h a r
  | bad r => rfl
  | out => rfl
theorem take_er (s : List Nat) (l : List Tok) : take s (l.map er) = (take s l).er := by
  unfold take; rw [isS_er]; split
  · rw [tail_er]; rfl
  · rfl
theorem name_er (l : List Tok) : pName (l.map er) = (pName l).er := by
  unfold pName; rw [nameS_er, headT_er]; split
  · rw [tail_er]; rfl
  · rfl
theorem number_er (l : List Tok) : pNumber (l.map er) = (pNumber l).er := by
  cases l with
  | nil => rfl
  | cons t r =>
    show (if t.kind = 2 then _ else _) = Res.er (if t.kind = 2 then _ else _)
    split <;> rfl
theorem arr_er (k n : Nat) (l : List Tok) : pArr k n (l.map er) = (pArr k n l).er := by
  unfold pArr; rw [isS_er]; split
  · rw [tail_er]; exact bind_er (number_er _) fun m r => bind_er (take_er _ _) fun _ r => rfl
  · rfl
theorem typ_er (l : List Tok) : pTyp (l.map er) = (pTyp l).er := by
  unfold pTyp; rw [isS_er, isS_er]; split
  · rw [tail_er]; exact arr_er _ _ _
  · split
    · rw [tail_er]; exact arr_er _ _ _
    · exact bind_er (take_er _ _) fun _ r => bind_er (number_er _) fun n r => arr_er _ _ _
section
variable {p : List Tok → Res Tree} (hp : ∀ l, p (l.map er) = (p l).er)
include hp
theorem sep_er : ∀ (c : Nat) (a : List Tree) (l : List Tok), pSep p c a (l.map er) = (pSep p c a l).er
  | 0, a, l => rfl
  | c + 1, a, l => by
    rw [pSep, pSep, isS_er]; split
    · rw [tail_er]; exact bind_er (hp _) fun n r => sep_er c _ r
    · rfl
theorem list_er (c : Nat) (l : List Tok) : pList p c (l.map er) = (pList p c l).er := bind_er (hp _) fun n r => sep_er hp c _ r
theorem args_er (c : Nat) (l : List Tok) : pArgs p c (l.map er) = (pArgs p c l).er := by
  unfold pArgs; rw [isS_er]; split
  · rw [tail_er]; rfl
  · exact bind_er (list_er hp _ _) fun a r => bind_er (take_er _ _) fun _ r => rfl
theorem loop_er (k : Nat) : ∀ (c : Nat) (n : Tree) (l : List Tok), pLoop p k c n (l.map er) = (pLoop p k c n l).er
  | 0, n, l => rfl
  | c + 1, n, l => by
    rw [pLoop, pLoop, signAt_er]
    cases signAt k l with
    | none => rfl
    | some s =>
      dsimp only
      rw [tail_er]
      refine bind_er (hp _) fun m r => ?_
      split
      · rfl
      · exact loop_er k c _ r
theorem index_er : ∀ (c : Nat) (n : Tree) (l : List Tok), pIndex p c n (l.map er) = (pIndex p c n l).er
  | 0, n, l => rfl
  | c + 1, n, l => by
    rw [pIndex, pIndex, isS_er]; split
    · rw [tail_er]; exact bind_er (hp _) fun i r => bind_er (take_er _ _) fun _ r => index_er c _ r
    · rfl
theorem primary_er (c : Nat) (l : List Tok) : pPrimary p c (l.map er) = (pPrimary p c l).er := by
  unfold pPrimary
  simp only [isS_er, typedS_er, nameS_er, headT_er, tail_er]
  split
  · exact bind_er (hp _) fun n r => bind_er (take_er _ _) fun _ r => rfl
  split
  · exact bind_er (list_er hp _ _) fun n r => bind_er (take_er _ _) fun _ r => rfl
  split
  · exact bind_er (take_er _ _) fun _ r => bind_er (args_er hp _ _) fun k r => rfl
  split
  · split
    · exact bind_er (args_er hp _ _) fun k r => rfl
    · rfl
  · exact bind_er (number_er _) fun n r => rfl
theorem indexed_er (c : Nat) (l : List Tok) : pIndexed p c (l.map er) = (pIndexed p c l).er := bind_er (primary_er hp _ _) fun n r => index_er hp _ _ _
theorem val_er (l : List Tok) : pVal p (l.map er) = (pVal p l).er := bind_er (take_er _ _) fun _ r => bind_er (hp _) fun e r => bind_er (take_er _ _) fun _ r => rfl
theorem let_er (l : List Tok) : pLet p (l.map er) = (pLet p l).er := bind_er (name_er _) fun s r => bind_er (val_er hp _) fun e r => rfl
theorem set_er (l : List Tok) : pSet p (l.map er) = (pSet p l).er := by
  refine bind_er (name_er _) fun s r => ?_
  rw [isS_er]; split
  · rw [tail_er]; exact bind_er (hp _) fun i r => bind_er (take_er _ _) fun _ r => bind_er (val_er hp _) fun e r => rfl
  · exact bind_er (val_er hp _) fun e r => rfl
end
theorem expr_er : ∀ f : Nat, (∀ k l, pLevel f k (l.map er) = (pLevel f k l).er) ∧ (∀ l, pUnary f (l.map er) = (pUnary f l).er)
  | 0 => ⟨fun k l => by rw [pLevel, pLevel]; rfl, fun l => by rw [pUnary, pUnary]; rfl⟩
  | f + 1 => by
    obtain ⟨h1, h2⟩ := expr_er f
    constructor
    · intro k l
      rw [pLevel, pLevel]
      split
      · exact h2 l
      · exact bind_er (h1 _ _) fun n r => loop_er (h1 _) _ _ _ _
    · intro l
      rw [pUnary, pUnary, isS_er, isS_er]
      split
      · rw [tail_er]; exact bind_er (h2 _) fun n r => rfl
      split
      · rw [tail_er]; exact bind_er (h2 _) fun n r => rfl
      · exact indexed_er (h1 0) _ _
theorem arg_er (l : List Tok) : pArg (l.map er) = (pArg l).er := bind_er (name_er _) fun s r => bind_er (take_er _ _) fun _ r => bind_er (typ_er _) fun t r => rfl
theorem to_er (l : List Tok) : pTo (l.map er) = (pTo l).er := bind_er (number_er _) fun n r => rfl
theorem in_er (l : List Tok) : pIn (l.map er) = (pIn l).er := bind_er (name_er _) fun s r => bind_er (take_er _ _) fun _ r => bind_er (typ_er _) fun t r => bind_er (take_er _ _) fun _ r => bind_er (number_er _) fun n r => bind_er (take_er _ _) fun _ r => rfl
section
variable {p it : List Tok → Res Tree} (hp : ∀ l, p (l.map er) = (p l).er) (hi : ∀ l, it (l.map er) = (it l).er)
include hp
theorem out_er (c : Nat) (l : List Tok) : pOut p c (l.map er) = (pOut p c l).er := by
  refine bind_er (hp _) fun n r => bind_er (take_er _ _) fun _ r => bind_er (x := (if isS [97, 108, 108] r = true then .ok [] r.tail else pList pTo c r)) ?_ fun k r => bind_er (take_er _ _) fun _ r => rfl
  rw [isS_er]; split
  · rw [tail_er]; rfl
  · exact list_er to_er _ _
include hi
omit hp in
theorem items_er : ∀ (c : Nat) (a : List Tree) (l : List Tok), pItems it c a (l.map er) = (pItems it c a l).er
  | 0, a, l => rfl
  | c + 1, a, l => by
    rw [pItems, pItems, itemS_er]; split
    · exact bind_er (hi _) fun n r => items_er c _ r
    · rfl
omit hp in
theorem block_er (c : Nat) (l : List Tok) : pBlock it c (l.map er) = (pBlock it c l).er := bind_er (take_er _ _) fun _ r => bind_er (items_er hi _ _ _) fun k r => bind_er (take_er _ _) fun _ r => rfl
theorem if_er (c : Nat) (l : List Tok) : pIf p it c (l.map er) = (pIf p it c l).er := by
  refine bind_er (hp _) fun e r => bind_er (block_er hi _ _) fun b r => ?_
  rw [isS_er]; split
  · rw [tail_er]; exact bind_er (block_er hi _ _) fun o r => rfl
  · rfl
theorem for_er (c : Nat) (l : List Tok) : pFor p it c (l.map er) = (pFor p it c l).er :=
  bind_er (name_er _) fun s r => bind_er (take_er _ _) fun _ r => bind_er (hp _) fun a r => bind_er (take_er _ _) fun _ r => bind_er (hp _) fun b r => bind_er (block_er hi _ _) fun o r => rfl
theorem def_er (c : Nat) (l : List Tok) : pDef p it c (l.map er) = (pDef p it c l).er :=
  bind_er (name_er _) fun s r => bind_er (take_er _ _) fun _ r => bind_er (args_er arg_er _ _) fun k r => bind_er (take_er _ _) fun _ r => bind_er (items_er hi _ _ _) fun b r => bind_er (take_er _ _) fun _ r => bind_er (hp _) fun e r => bind_er (take_er _ _) fun _ r => bind_er (take_er _ _) fun _ r => rfl
end
theorem item_er : ∀ (f : Nat) (l : List Tok), pItem f (l.map er) = (pItem f l).er
  | 0, l => rfl
  | f + 1, l => by
    have h1 := (expr_er f).1 0
    have h2 := item_er f
    rw [pItem, pItem]
    simp only [isS_er, tail_er]
    split
    · exact in_er _
    split
    · exact let_er h1 _
    split
    · exact if_er h1 h2 _ _
    split
    · exact for_er h1 h2 _ _
    split
    · exact out_er h1 _ _
    split
    · exact def_er h1 h2 _ _
    · exact set_er h1 _
theorem program_er (f : Nat) (l : List Tok) : pProgram f (l.map er) = (pProgram f l).er := by
  refine bind_er (items_er (item_er f) _ _ _) fun k r => ?_
  cases r <;> rfl

/-! ## More fuel -/
def Up {α : Type} (x y : Res α) : Prop := x = .out ∨ x = y
theorem Up.refl {α : Type} (x : Res α) : Up x x := .inr rfl
theorem Up.bind {α β : Type} {x y : Res α} {f g : α → List Tok → Res β} (h : Up x y) (hf : ∀ a r, Up (f a r) (g a r)) : Up (x.bind f) (y.bind g) := by
  rcases h with rfl | rfl
  · exact .inl rfl
  · cases x with
    | ok a r => exact hf a r
    | bad r => exact .inr rfl
    | out => exact .inl rfl
theorem Up.ite {α : Type} {c : Prop} [Decidable c] {x x' y y' : Res α} (hx : Up x x') (hy : Up y y') : Up (if c then x else y) (if c then x' else y') := by
  split
  · exact hx
  · exact hy
section
variable {p q : List Tok → Res Tree} (hp : ∀ l, Up (p l) (q l))
include hp
theorem sep_up : ∀ {c d : Nat}, c ≤ d → ∀ (a : List Tree) (l : List Tok), Up (pSep p c a l) (pSep q d a l)
  | 0, d, _, a, l => .inl rfl
  | c + 1, 0, h, a, l => by omega
  | c + 1, d + 1, h, a, l => by
    rw [pSep, pSep]
    exact .ite (.bind (hp _) fun n r => sep_up (by omega) _ _) (.refl _)
theorem list_up {c d : Nat} (h : c ≤ d) (l : List Tok) : Up (pList p c l) (pList q d l) := .bind (hp _) fun n r => sep_up hp h _ _
theorem args_up {c d : Nat} (h : c ≤ d) (l : List Tok) : Up (pArgs p c l) (pArgs q d l) := by
  unfold pArgs
  exact .ite (.refl _) (.bind (list_up hp h _) fun _ _ => .refl _)
theorem loop_up (k : Nat) : ∀ {c d : Nat}, c ≤ d → ∀ (n : Tree) (l : List Tok), Up (pLoop p k c n l) (pLoop q k d n l)
  | 0, d, _, n, l => .inl rfl
  | c + 1, 0, h, n, l => by omega
  | c + 1, d + 1, h, n, l => by
    rw [pLoop, pLoop]
    cases signAt k l with
    | none => exact .refl _
    | some s => exact .bind (hp _) fun m r => .ite (.refl _) (loop_up k (by omega) _ _)
theorem index_up : ∀ {c d : Nat}, c ≤ d → ∀ (n : Tree) (l : List Tok), Up (pIndex p c n l) (pIndex q d n l)
  | 0, d, _, n, l => .inl rfl
  | c + 1, 0, h, n, l => by omega
  | c + 1, d + 1, h, n, l => by
    rw [pIndex, pIndex]
    exact .ite (.bind (hp _) fun i r => .bind (.refl _) fun _ r => index_up (by omega) _ _) (.refl _)
theorem primary_up {c d : Nat} (h : c ≤ d) (l : List Tok) : Up (pPrimary p c l) (pPrimary q d l) := by
  unfold pPrimary
  exact .ite (.bind (hp _) fun _ _ => .refl _) (.ite (.bind (list_up hp h _) fun _ _ => .refl _) (.ite (.bind (.refl _) fun _ _ => .bind (args_up hp h _) fun _ _ => .refl _) (.ite (.ite (.bind (args_up hp h _) fun _ _ => .refl _) (.refl _)) (.refl _))))
theorem indexed_up {c d : Nat} (h : c ≤ d) (l : List Tok) : Up (pIndexed p c l) (pIndexed q d l) := .bind (primary_up hp h _) fun _ _ => index_up hp h _ _
theorem val_up (l : List Tok) : Up (pVal p l) (pVal q l) := .bind (.refl _) fun _ _ => .bind (hp _) fun _ _ => .refl _
theorem let_up (l : List Tok) : Up (pLet p l) (pLet q l) := .bind (.refl _) fun _ _ => .bind (val_up hp _) fun _ _ => .refl _
theorem set_up (l : List Tok) : Up (pSet p l) (pSet q l) := .bind (.refl _) fun _ _ => .ite (.bind (hp _) fun _ _ => .bind (.refl _) fun _ _ => .bind (val_up hp _) fun _ _ => .refl _) (.bind (val_up hp _) fun _ _ => .refl _)
theorem out_up {c d : Nat} (h : c ≤ d) (l : List Tok) : Up (pOut p c l) (pOut q d l) := .bind (hp _) fun _ _ => .bind (.refl _) fun _ _ => .bind (.ite (.refl _) (list_up (fun _ => .refl _) h _)) fun _ _ => .refl _
end
theorem expr_up : ∀ {f g : Nat}, f ≤ g → (∀ k l, Up (pLevel f k l) (pLevel g k l)) ∧ (∀ l, Up (pUnary f l) (pUnary g l))
  | 0, g, _ => ⟨fun k l => by rw [pLevel]; exact .inl rfl, fun l => by rw [pUnary]; exact .inl rfl⟩
  | f + 1, 0, h => by omega
  | f + 1, g + 1, h => by
    obtain ⟨h1, h2⟩ := expr_up (f := f) (g := g) (by omega)
    constructor
    · intro k l
      rw [pLevel, pLevel]
      exact .ite (h2 l) (.bind (h1 _ _) fun n r => loop_up (h1 _) _ (by omega) _ _)
    · intro l
      rw [pUnary, pUnary]
      exact .ite (.bind (h2 _) fun _ _ => .refl _) (.ite (.bind (h2 _) fun _ _ => .refl _) (indexed_up (h1 0) (by omega) _))
section
variable {p q it jt : List Tok → Res Tree} (hp : ∀ l, Up (p l) (q l)) (hi : ∀ l, Up (it l) (jt l))
include hi
theorem items_up : ∀ {c d : Nat}, c ≤ d → ∀ (a : List Tree) (l : List Tok), Up (pItems it c a l) (pItems jt d a l)
  | 0, d, _, a, l => .inl rfl
  | c + 1, 0, h, a, l => by omega
  | c + 1, d + 1, h, a, l => by
    rw [pItems, pItems]
    exact .ite (.bind (hi _) fun n r => items_up (by omega) _ _) (.refl _)
theorem block_up {c d : Nat} (h : c ≤ d) (l : List Tok) : Up (pBlock it c l) (pBlock jt d l) := .bind (.refl _) fun _ _ => .bind (items_up hi h _ _) fun _ _ => .refl _
include hp
theorem if_up {c d : Nat} (h : c ≤ d) (l : List Tok) : Up (pIf p it c l) (pIf q jt d l) := .bind (hp _) fun _ _ => .bind (block_up hi h _) fun _ _ => .ite (.bind (block_up hi h _) fun _ _ => .refl _) (.refl _)
theorem for_up {c d : Nat} (h : c ≤ d) (l : List Tok) : Up (pFor p it c l) (pFor q jt d l) := .bind (.refl _) fun _ _ => .bind (.refl _) fun _ _ => .bind (hp _) fun _ _ => .bind (.refl _) fun _ _ => .bind (hp _) fun _ _ => .bind (block_up hi h _) fun _ _ => .refl _
theorem def_up {c d : Nat} (h : c ≤ d) (l : List Tok) : Up (pDef p it c l) (pDef q jt d l) := .bind (.refl _) fun _ _ => .bind (.refl _) fun _ _ => .bind (args_up (fun _ => .refl _) h _) fun _ _ => .bind (.refl _) fun _ _ => .bind (items_up hi h _ _) fun _ _ => .bind (.refl _) fun _ _ => .bind (hp _) fun _ _ => .refl _
end
theorem item_up : ∀ {f g : Nat}, f ≤ g → ∀ l, Up (pItem f l) (pItem g l)
  | 0, g, _, l => .inl rfl
  | f + 1, 0, h, l => by omega
  | f + 1, g + 1, h, l => by
    have h1 := (expr_up (f := f) (g := g) (by omega)).1 0
    have h2 := item_up (f := f) (g := g) (by omega)
    rw [pItem, pItem]
    exact .ite (.refl _) (.ite (let_up h1 _) (.ite (if_up h1 h2 (by omega) _) (.ite (for_up h1 h2 (by omega) _) (.ite (out_up h1 (by omega) _) (.ite (def_up h1 h2 (by omega) _) (set_up h1 _))))))
theorem program_up {f g : Nat} (h : f ≤ g) (l : List Tok) : Up (pProgram f l) (pProgram g l) := .bind (items_up (item_up h) h _ _) fun _ _ => .refl _
/-- what some fuel reads, the fuel of as many tokens reads -/
theorem program_of {f : Nat} {l : List Tok} {t : Tree} {r : List Tok} (h : pProgram f l = .ok t r) : pProgram (fuel l.length) l = .ok t r := by
  rcases Nat.le_total f (fuel l.length) with hl | hl
  · rcases program_up hl l with e | e
    · rw [h] at e; cases e
    · rw [← e, h]
  · rcases program_up hl l with e | e
    · exact absurd e (program_fin l)
    · rw [e, h]
end Go.Proofs.YtngpedcihajepaaGreatDoor.M
namespace Go.Proofs.YtngpedcihajepaaGreatDoor.M
set_option linter.unusedVariables false
set_option linter.unusedSimpArgs false
/-- the tokens of pieces -/
def T : List Pc → List Tok
  | [] => []
  | .g _ :: r => T r
  | .t k s :: r => ⟨k, s, 0⟩ :: T r
theorem T_app : ∀ (a b : List Pc), T (a ++ b) = T a ++ T b
  | [], b => rfl
  | .g _ :: r, b => by rw [List.cons_append, T, T, T_app r b]
  | .t k s :: r, b => by rw [List.cons_append, T, T, T_app r b]; rfl
theorem T_er : ∀ {ts : List Tok} {ps : List Pc}, ts.map (fun t => (t.kind, t.text)) = toks ps → ts.map er = T ps
  | ts, .g _ :: r, h => by rw [T]; rw [toks] at h; exact T_er h
  | [], [], h => rfl
  | [], .t k s :: r, h => by cases h
  | t :: ts, [], h => by cases h
  | t :: ts, .t k s :: r, h => by
    rw [toks, List.map_cons, List.cons.injEq] at h
    rw [T, List.map_cons, T_er h.2]
    obtain ⟨h1, h2⟩ := Prod.mk.inj h.1
    rw [er, h1, h2]
/-- from some fuel on -/
def Ev (P : Nat → Prop) : Prop := ∃ f0, ∀ f, f0 ≤ f → P f
theorem Ev.of {P : Nat → Prop} (h : ∀ f, P f) : Ev P := ⟨0, fun f _ => h f⟩
theorem Ev.and {P Q : Nat → Prop} (h : Ev P) (k : Ev Q) : Ev fun f => P f ∧ Q f := by
  obtain ⟨a, h⟩ := h
  obtain ⟨b, k⟩ := k
  exact ⟨max a b, fun f hf => ⟨h f (by omega), k f (by omega)⟩⟩
theorem Ev.imp {P Q : Nat → Prop} (h : Ev P) (k : ∀ f, P f → Q f) : Ev Q := by
  obtain ⟨a, h⟩ := h
  exact ⟨a, fun f hf => k f (h f hf)⟩
/-- one step more -/
theorem Ev.succ {P Q : Nat → Prop} (h : Ev P) (k : ∀ f, P f → Q (f + 1)) : Ev Q := by
  obtain ⟨a, h⟩ := h
  refine ⟨a + 1, fun f hf => ?_⟩
  obtain ⟨g, rfl⟩ : ∃ g, f = g + 1 := ⟨f - 1, by omega⟩
  exact k g (h g (by omega))
theorem Ev.ge (n : Nat) : Ev fun f => n ≤ f := ⟨n, fun f h => h⟩
theorem Ev.all {P : Tree → Nat → Prop} : ∀ {l : List Tree}, (∀ u ∈ l, Ev (P u)) → Ev fun f => ∀ u ∈ l, P u f
  | [], _ => ⟨0, fun f _ u hu => by cases hu⟩
  | a :: r, h => ((h a (by simp)).and (Ev.all fun u hu => h u (List.mem_cons_of_mem _ hu))).imp fun f hf u hu => by
    rcases List.mem_cons.1 hu with rfl | hu
    · exact hf.1
    · exact hf.2 u hu
theorem isS_cons (s : List Nat) (k : Int) (t : List Nat) (a : Nat) (r : List Tok) : isS s (⟨k, t, a⟩ :: r) = (decide (k ≠ 2) && decide (t = s)) := rfl
/-- what may follow an expression that is operated upon -/
def Stop0 (r : List Tok) : Prop := isS [91] r = false ∧ isS [40] r = false
/-- what may follow an expression -/
def Stop (r : List Tok) : Prop := Stop0 r ∧ ∀ k, signAt k r = none
theorem signAt_none {k : Nat} {c : Int} {s : List Nat} {a : Nat} {r : List Tok} (h : opB s = false) : signAt k (⟨c, s, a⟩ :: r) = none := by
  show (if c ≠ 2 ∧ s ∈ signsL k then some s else none) = none
  rw [if_neg]
  rintro ⟨_, h2⟩
  have := of_decide_eq_false h
  apply this
  rcases k with _ | _ | _ | _ | _ | k
  · exact .inl h2
  · exact .inr (.inl h2)
  · exact .inr (.inr (.inl h2))
  · exact .inr (.inr (.inr (.inl h2)))
  · exact .inr (.inr (.inr (.inr (.inl h2))))
  · exact .inr (.inr (.inr (.inr (.inr h2))))
theorem stop_t {k : Int} {s : List Nat} {a : Nat} {r : List Tok} (h : opB s = false) (h1 : s ≠ [91]) (h2 : s ≠ [40]) : Stop (⟨k, s, a⟩ :: r) :=
  ⟨⟨by rw [isS_cons, decide_eq_false h1, Bool.and_false], by rw [isS_cons, decide_eq_false h2, Bool.and_false]⟩, fun k => signAt_none h⟩
theorem name_ne {s : List Nat} (h : nameOk s = true) {c : Nat} {r : List Nat} (hc : letterB c = false) : s ≠ c :: r := by
  rintro rfl
  unfold nameOk at h
  rw [Bool.and_eq_true] at h
  have := (isName_facts h.1).2.2.1
  rw [List.getD_cons_zero, hc] at this
  cases this
theorem name_nw {s w : List Nat} (h : nameOk s = true) (hw : wordB w = true) : s ≠ w := by
  rintro rfl
  unfold nameOk at h
  rw [hw] at h
  simp at h
theorem isS_ne {s : List Nat} {k : Int} {t : List Nat} {a : Nat} {r : List Tok} (h : t ≠ s) : isS s (⟨k, t, a⟩ :: r) = false := by rw [isS_cons, decide_eq_false h, Bool.and_false]
theorem isS_two {s : List Nat} {t : List Nat} {a : Nat} {r : List Tok} : isS s (⟨2, t, a⟩ :: r) = false := rfl
theorem isS_eq {s : List Nat} {k : Int} {a : Nat} {r : List Tok} (hk : k ≠ 2) : isS s (⟨k, s, a⟩ :: r) = true := by rw [isS_cons, decide_eq_true hk, decide_eq_true rfl]; rfl
theorem take_eq {s : List Nat} {k : Int} {a : Nat} {r : List Tok} (hk : k ≠ 2) : take s (⟨k, s, a⟩ :: r) = .ok () r := by
  unfold take; rw [if_pos (isS_eq hk)]; rfl
theorem pNumber_eq {n a : Nat} {r : List Tok} (hn : n ≤ 4294967295) : pNumber (⟨2, digitsL n, a⟩ :: r) = .ok n r := by
  show (if (2 : Int) = 2 then Res.ok (numV (digitsL n)) r else Res.bad (⟨2, digitsL n, a⟩ :: r)) = _
  rw [if_pos rfl, numV_digits, if_neg (by omega)]
theorem nameS_eq {s : List Nat} {a : Nat} {r : List Tok} (h : nameOk s = true) : nameS (⟨1, s, a⟩ :: r) = true := by
  unfold nameOk at h
  rw [Bool.and_eq_true] at h
  show (decide ((1 : Int) = 1) && !wordB s) = true
  rw [h.2]; rfl
theorem pName_eq {s : List Nat} {a : Nat} {r : List Tok} (h : nameOk s = true) : pName (⟨1, s, a⟩ :: r) = .ok s r := by
  unfold pName; rw [if_pos (nameS_eq h)]; rfl
/-- elements that are separated by commas -/
theorem list_back {p : List Tok → Res Tree} {q : Tree → List Pc} {S : List Tok → Prop} (hS : ∀ r, S (⟨3, [44], 0⟩ :: r)) {rest : List Tok} (hr : S rest) (h44 : isS [44] rest = false) :
    ∀ (ks : List Tree) (c : Nat) (acc : List Tree), ks ≠ [] → ks.length ≤ c → (∀ u ∈ ks, ∀ r, S r → p (T (q u) ++ r) = .ok u r) → ((p (T (joinP (ks.map q)) ++ rest)).bind fun n r => pSep p c (acc ++ [n]) r) = .ok (acc ++ ks) rest
  | [], c, acc, h, _, _ => absurd rfl h
  | [t], c, acc, _, hc, hp => by
    obtain ⟨c, rfl⟩ : ∃ d, c = d + 1 := ⟨c - 1, by simp at hc; omega⟩
    show (p (T (q t) ++ rest)).bind _ = _
    rw [hp t (by simp) rest hr, Res.bind_ok, pSep, if_neg (by rw [h44]; decide)]
  | t :: u :: r, c, acc, _, hc, hp => by
    obtain ⟨c, rfl⟩ : ∃ d, c = d + 1 := ⟨c - 1, by simp at hc; omega⟩
    have ih := list_back hS hr h44 (u :: r) c (acc ++ [t]) (by simp) (by simp at hc ⊢; omega) (fun x hx => hp x (List.mem_cons_of_mem _ hx))
    have e : T (joinP ((t :: u :: r).map q)) ++ rest = T (q t) ++ (⟨3, [44], 0⟩ :: (T (joinP ((u :: r).map q)) ++ rest)) := by
      show T (q t ++ [sg 44, bl] ++ joinP (q u :: r.map q)) ++ rest = _
      rw [T_app, T_app, List.append_assoc, List.append_assoc]
      rfl
    rw [e, hp t (by simp) _ (hS _), Res.bind_ok, pSep, if_pos (isS_eq (by decide)), List.tail_cons, ih, List.append_assoc]
    rfl
theorem args_back {p : List Tok → Res Tree} {q : Tree → List Pc} {S : List Tok → Prop} (hS : ∀ r, S (⟨3, [44], 0⟩ :: r)) (hS2 : ∀ r, S (⟨3, [41], 0⟩ :: r)) {rest : List Tok} {ks : List Tree} {c : Nat} (hc : ks.length ≤ c) (hp : ∀ u ∈ ks, ∀ r, S r → p (T (q u) ++ r) = .ok u r) (h41 : ∀ u ∈ ks, ∀ r, isS [41] (T (q u) ++ r) = false) : pArgs p c (T (joinP (ks.map q)) ++ (⟨3, [41], 0⟩ :: rest)) = .ok ks rest := by
  unfold pArgs
  cases ks with
  | nil =>
    show (if isS [41] (⟨3, [41], 0⟩ :: rest) = true then _ else _) = _
    rw [if_pos (isS_eq (by decide))]; rfl
  | cons t r =>
    have h := list_back (p := p) (q := q) hS (hS2 rest) (isS_ne (by decide)) (t :: r) c [] (by simp) hc hp
    have e : isS [41] (T (joinP ((t :: r).map q)) ++ (⟨3, [41], 0⟩ :: rest)) = false := by
      cases r with
      | nil => exact h41 t (by simp) _
      | cons u r =>
        show isS [41] (T (q t ++ [sg 44, bl] ++ joinP (q u :: r.map q)) ++ _) = false
        rw [T_app, T_app, List.append_assoc, List.append_assoc]
        exact h41 t (by simp) _
    rw [e, if_neg (by decide)]
    unfold pList
    rw [List.nil_append] at h
    rw [show ((p (T (joinP ((t :: r).map q)) ++ (⟨3, [41], 0⟩ :: rest))).bind fun n r => pSep p c [n] r) = .ok (t :: r) (⟨3, [41], 0⟩ :: rest) from h, Res.bind_ok, take_eq (by decide), Res.bind_ok]
/-- the first token of an expression -/
def Heads (t : Tree) (ps : List Pc) : Prop := ∃ (k : Int) (s : List Nat) (r : List Tok), T ps = ⟨k, s, 0⟩ :: r ∧ (k = 2 ∨ (k = 1 ∧ (nameOk s = true ∨ s = [110, 117, 109] ∨ s = [98, 105, 116] ∨ s = [119, 111, 114, 100])) ∨ s = [40] ∨ s = [91] ∨ (t.kind = 19 ∧ (s = [33] ∨ s = [45])))
theorem head_expr : ∀ (f : Nat) (t : Tree), exprF f t = true → Heads t (exprP t)
  | 0, t, h => by rw [exprF] at h; cases h
  | f + 1, t, h => by
    have ih := head_expr f
    rw [exprP_eq]
    unfold exprPW
    rw [exprF] at h
    by_cases h14 : t.kind = 14
    · rw [if_pos h14]; exact ⟨_, _, _, rfl, .inl rfl⟩
    rw [if_neg h14] at h ⊢
    by_cases h15 : t.kind = 15
    · rw [if_pos h15] at h ⊢; exact ⟨_, _, _, rfl, .inr (.inl ⟨rfl, .inl (of_decide_eq_true h).1⟩)⟩
    rw [if_neg h15] at h ⊢
    by_cases h16 : t.kind = 16
    · rw [if_pos h16] at h ⊢; exact ⟨_, _, _, rfl, .inr (.inl ⟨rfl, (of_decide_eq_true h).1⟩)⟩
    rw [if_neg h16] at h ⊢
    by_cases h18 : t.kind = 18
    · rw [if_pos h18]; exact ⟨_, _, _, rfl, .inr (.inr (.inr (.inl rfl)))⟩
    rw [if_neg h18]
    by_cases h19 : t.kind = 19
    · rw [if_pos h19]
      rw [if_neg (by omega), if_neg (by omega), if_pos h19] at h
      exact ⟨_, _, _, rfl, .inr (.inr (.inr (.inr ⟨h19, (of_decide_eq_true h).1⟩)))⟩
    rw [if_neg h19]
    by_cases h20 : t.kind = 20
    · rw [if_pos h20]; exact ⟨_, _, _, rfl, .inr (.inr (.inl rfl))⟩
    rw [if_neg h20]
    by_cases h17 : t.kind = 17
    · rw [if_pos h17] at h
      have h := of_decide_eq_true h
      obtain ⟨e0, m0⟩ := getD_map_mem (p := exprP) (l := t.kids) (i := 0) (by omega)
      split
      · exact ⟨_, _, _, rfl, .inr (.inr (.inl rfl))⟩
      · rename_i hk
        obtain ⟨k, s, r, e, hh⟩ := ih _ (List.all_eq_true.1 h.2.2.2 _ m0)
        refine ⟨k, s, r ++ T [sg 91] ++ T ((t.kids.map exprP).getD 1 []) ++ T [sg 93], by rw [e0, T_app, T_app, T_app, e]; rfl, ?_⟩
        rcases hh with hh | hh | hh | hh | hh
        · exact .inl hh
        · exact .inr (.inl hh)
        · exact .inr (.inr (.inl hh))
        · exact .inr (.inr (.inr (.inl hh)))
        · exact absurd hh.1 hk
    rw [if_neg h17, if_neg h18, if_neg h19, if_neg h20] at h
    cases h
/-- a sign that begins no expression -/
theorem head_not {t : Tree} {ps : List Pc} (h : Heads t ps) {c : Nat} (hc : letterB c = false) (h1 : c ≠ 40) (h2 : c ≠ 91) (h3 : t.kind = 19 → c ≠ 33 ∧ c ≠ 45) (r : List Tok) : isS [c] (T ps ++ r) = false := by
  obtain ⟨k, s, r', e, hh⟩ := h
  rw [e, List.cons_append]
  rcases hh with rfl | ⟨rfl, hn | rfl | rfl | rfl⟩ | rfl | rfl | ⟨hk, rfl | rfl⟩
  · exact isS_two
  · exact isS_ne (name_ne hn hc)
  · exact isS_ne (by simp)
  · exact isS_ne (by simp)
  · exact isS_ne (by simp)
  · exact isS_ne (by simp; omega)
  · exact isS_ne (by simp; omega)
  · exact isS_ne (by have := h3 hk; simp; omega)
  · exact isS_ne (by have := h3 hk; simp; omega)
/-- from a unary to a level -/
theorem level_back {X : List Tok} {t : Tree} (hU : Ev fun f => ∀ rest, Stop0 rest → pUnary f (X ++ rest) = .ok t rest) : ∀ j, j ≤ 6 → Ev fun f => ∀ rest, Stop0 rest → (∀ k, 6 - j ≤ k → k ≤ 5 → signAt k rest = none) → pLevel f (6 - j) (X ++ rest) = .ok t rest
  | 0, _ => hU.succ fun f h rest h0 _ => by rw [pLevel, if_pos (by decide)]; exact h rest h0
  | j + 1, hj => ((level_back hU j (by omega)).and (Ev.ge 1)).succ fun f h rest h0 hs => by
    obtain ⟨g, rfl⟩ : ∃ g, f = g + 1 := ⟨f - 1, by have := h.2; omega⟩
    rw [pLevel, if_neg (by omega), show 6 - (j + 1) + 1 = 6 - j by omega, h.1 rest h0 (fun k hk => hs k (by omega)), Res.bind_ok, pLoop, hs _ (Nat.le_refl _) (by omega)]
/-- p reads the expression t -/
def Parses (p : List Tok → Res Tree) (t : Tree) : Prop := ∀ rest, Stop rest → p (T (exprP t) ++ rest) = .ok t rest
/-- what is to be shown of an expression -/
def BackU (t : Tree) : Prop := Ev fun f => ∀ rest, Stop0 rest → pUnary f (T (exprP t) ++ rest) = .ok t rest
def BackI (t : Tree) : Prop := ∃ d m, d < m ∧ Ev fun f => ∀ c, m ≤ c → ∀ rest, isS [40] rest = false → pIndexed (pLevel f 0) c (T (exprP t) ++ rest) = pIndex (pLevel f 0) (c - d) t rest
theorem BackU.parses {t : Tree} (h : BackU t) : Ev fun f => Parses (pLevel f 0) t := (level_back h 6 (by omega)).imp fun f h rest hr => h rest hr.1 fun k _ _ => hr.2 k
theorem BackI.unary {f : Nat} {t : Tree} (h : BackI t) (hf : exprF f t = true) (hk : t.kind ≠ 19) : BackU t := by
  obtain ⟨d, m, hdm, h⟩ := h
  have hh := head_expr f t hf
  refine (h.and (Ev.ge (m + 1))).succ fun f ⟨h, hf⟩ rest h0 => ?_
  rw [pUnary, if_neg (by rw [head_not hh (by decide) (by decide) (by decide) (fun e => absurd e hk)]; decide), if_neg (by rw [head_not hh (by decide) (by decide) (by decide) (fun e => absurd e hk)]; decide), h f (by omega) rest h0.2]
  obtain ⟨g, eg⟩ : ∃ g, f - d = g + 1 := ⟨f - d - 1, by omega⟩
  rw [eg, pIndex, if_neg (by rw [h0.1]; decide)]
/-- from a primary -/
theorem BackI.prim {t : Tree} (m : Nat) (h : Ev fun f => ∀ c, m ≤ c → ∀ rest, isS [40] rest = false → pPrimary (pLevel f 0) c (T (exprP t) ++ rest) = .ok t rest) : BackI t :=
  ⟨0, m + 1, by omega, h.imp fun f h c hc rest h0 => by unfold pIndexed; rw [h c (by omega) rest h0, Res.bind_ok, Nat.sub_zero]⟩
theorem level_of_sign {s : List Nat} (h : opB s = true) : ∃ kk, kk ≤ 5 ∧ s ∈ signsL kk ∧ ∀ j, kk < j → j ≤ 5 → s ∉ signsL j := by
  have h := of_decide_eq_true h
  rcases h with h | h | h | h | h | h
  · refine ⟨0, by omega, h, fun j hj hj5 => ?_⟩
    simp only [signsL, List.mem_cons, List.not_mem_nil, or_false] at h
    subst h
    rcases j with _ | _ | _ | _ | _ | j <;> simp [signsL] at hj hj5 ⊢
  · refine ⟨1, by omega, h, fun j hj hj5 => ?_⟩
    simp only [signsL, List.mem_cons, List.not_mem_nil, or_false] at h
    subst h
    rcases j with _ | _ | _ | _ | _ | j <;> simp [signsL] at hj hj5 ⊢
  · refine ⟨2, by omega, h, fun j hj hj5 => ?_⟩
    simp only [signsL, List.mem_cons, List.not_mem_nil, or_false] at h
    subst h
    rcases j with _ | _ | _ | _ | _ | j <;> simp [signsL] at hj hj5 ⊢
  · refine ⟨3, by omega, h, fun j hj hj5 => ?_⟩
    simp only [signsL, List.mem_cons, List.not_mem_nil, or_false] at h
    rcases h with rfl | rfl <;> rcases j with _ | _ | _ | _ | _ | j <;> simp [signsL] at hj hj5 ⊢
  · refine ⟨4, by omega, h, fun j hj hj5 => ?_⟩
    simp only [signsL, List.mem_cons, List.not_mem_nil, or_false] at h
    rcases h with rfl | rfl <;> rcases j with _ | _ | _ | _ | _ | j <;> simp [signsL] at hj hj5 ⊢
  · exact ⟨5, by omega, h, fun j hj hj5 => absurd hj (by omega)⟩
theorem signAt_of {k : Nat} {s : List Nat} {r : List Tok} (h : s ∈ signsL k) : signAt k (⟨3, s, 0⟩ :: r) = some s := by
  show (if (3 : Int) ≠ 2 ∧ s ∈ signsL k then some s else none) = some s
  rw [if_pos ⟨by decide, h⟩]
theorem signAt_not {k : Nat} {s : List Nat} {r : List Tok} (h : s ∉ signsL k) : signAt k (⟨3, s, 0⟩ :: r) = none := by
  show (if (3 : Int) ≠ 2 ∧ s ∈ signsL k then some s else none) = none
  rw [if_neg fun e => h e.2]
theorem op_stop {s : List Nat} (h : opB s = true) (r : List Tok) : Stop0 (⟨3, s, 0⟩ :: r) := by
  have h := of_decide_eq_true h
  simp only [signsL, List.mem_cons, List.not_mem_nil, or_false] at h
  rcases h with rfl | rfl | rfl | (rfl | rfl) | (rfl | rfl) | rfl <;> exact ⟨rfl, rfl⟩
/-- two operands and their operator, in parentheses -/
theorem binary_back {a b : Tree} {s : List Nat} (ha : BackU a) (hb : BackU b) (hs : opB s = true) : Ev fun f => ∀ rest, pLevel f 0 (T (exprP a) ++ ⟨3, s, 0⟩ :: (T (exprP b) ++ ⟨3, [41], 0⟩ :: rest)) = .ok (.node 20 s 0 [a, b]) (⟨3, [41], 0⟩ :: rest) := by
  obtain ⟨kk, hk5, hmem, hnot⟩ := level_of_sign hs
  have hst : ∀ r : List Tok, Stop (⟨3, [41], 0⟩ :: r) := fun r => stop_t (by decide) (by decide) (by decide)
  have key : ∀ i, i ≤ kk → Ev fun f => ∀ rest, pLevel f (kk - i) (T (exprP a) ++ ⟨3, s, 0⟩ :: (T (exprP b) ++ ⟨3, [41], 0⟩ :: rest)) = .ok (.node 20 s 0 [a, b]) (⟨3, [41], 0⟩ :: rest) := by
    intro i
    induction i with
    | zero =>
      intro _
      have la := level_back ha (5 - kk) (by omega)
      have lb := level_back hb (5 - kk) (by omega)
      rw [show 6 - (5 - kk) = kk + 1 by omega] at la lb
      refine ((la.and lb).and (Ev.ge 2)).succ fun f ⟨⟨la, lb⟩, hf⟩ rest => ?_
      obtain ⟨g, rfl⟩ : ∃ g, f = g + 1 + 1 := ⟨f - 2, by omega⟩
      rw [Nat.sub_zero, pLevel, if_neg (by omega), la _ (op_stop hs _) (fun j hj hj5 => signAt_not (hnot j (by omega) hj5)), Res.bind_ok, pLoop, signAt_of hmem]
      dsimp only
      rw [List.tail_cons, lb _ (hst rest).1 (fun j _ _ => (hst rest).2 j), Res.bind_ok]
      split
      · rfl
      · rw [pLoop, (hst rest).2]
    | succ i ih =>
      intro hi
      refine ((ih (by omega)).and (Ev.ge 1)).succ fun f ⟨h, hf⟩ rest => ?_
      obtain ⟨g, rfl⟩ : ∃ g, f = g + 1 := ⟨f - 1, by omega⟩
      rw [pLevel, if_neg (by omega), show kk - (i + 1) + 1 = kk - i by omega, h rest, Res.bind_ok, pLoop, (hst rest).2]
  have := key kk (Nat.le_refl _)
  rw [Nat.sub_self] at this
  exact this
theorem stop_comma (r : List Tok) : Stop (⟨3, [44], 0⟩ :: r) := stop_t (by decide) (by decide) (by decide)
theorem stop_close (r : List Tok) : Stop (⟨3, [41], 0⟩ :: r) := stop_t (by decide) (by decide) (by decide)
theorem stop_sq (r : List Tok) : Stop (⟨3, [93], 0⟩ :: r) := stop_t (by decide) (by decide) (by decide)
theorem tree_eq {t : Tree} {k : Int} {s : List Nat} {n : Nat} {l : List Tree} (h1 : t.kind = k) (h2 : t.text = s) (h3 : t.num = n) (h4 : t.kids = l) : t = .node k s n l := by
  cases t; simp only [Tree.kind, Tree.text, Tree.num, Tree.kids] at h1 h2 h3 h4; subst h1 h2 h3 h4; rfl
theorem kids_two {l : List Tree} (h : l.length = 2) : l = [l.getD 0 Tree.no, l.getD 1 Tree.no] := by
  match l, h with
  | [a, b], _ => rfl
theorem kids_one {l : List Tree} (h : l.length = 1) : l = [l.getD 0 Tree.no] := by
  match l, h with
  | [a], _ => rfl
theorem kids_three {l : List Tree} (h : l.length = 3) : l = [l.getD 0 Tree.no, l.getD 1 Tree.no, l.getD 2 Tree.no] := by
  match l, h with
  | [a, b, c], _ => rfl
end Go.Proofs.YtngpedcihajepaaGreatDoor.M
namespace Go.Proofs.YtngpedcihajepaaGreatDoor.M
set_option linter.unusedVariables false
set_option linter.unusedSimpArgs false
theorem number_tree {u : Tree} (h : numberB u = true) : u = numberT u.num := by
  have h := of_decide_eq_true h
  exact tree_eq h.1 h.2.1 rfl (List.length_eq_zero_iff.1 h.2.2.2)
theorem index_step {p : List Tok → Res Tree} {a b : Tree} (hb : Parses p b) (c : Nat) (rest : List Tok) : pIndex p (c + 1) a (⟨3, [91], 0⟩ :: (T (exprP b) ++ ⟨3, [93], 0⟩ :: rest)) = pIndex p c (.node 17 [] 0 [a, b]) rest := by
  rw [pIndex, if_pos (isS_eq (by decide)), List.tail_cons, hb _ (stop_sq rest), Res.bind_ok, take_eq (by decide), Res.bind_ok]
theorem typedS_not {s : List Nat} {a : Nat} {r : List Tok} (h : nameOk s = true) : typedS (⟨1, s, a⟩ :: r) = false := by
  unfold typedS
  rw [isS_ne (name_nw h (by decide)), isS_ne (name_nw h (by decide)), isS_ne (name_nw h (by decide))]; rfl
theorem back_expr : ∀ (f : Nat) (t : Tree), exprF f t = true → BackU t ∧ (t.kind ≠ 19 → BackI t)
  | 0, t, h => by rw [exprF] at h; cases h
  | f + 1, t, h => by
    have ih := back_expr f
    have hfull := h
    have fin : (t.kind ≠ 19 → BackI t) → t.kind ≠ 19 → BackU t ∧ (t.kind ≠ 19 → BackI t) := fun h1 h2 => ⟨(h1 h2).unary hfull h2, h1⟩
    have eP := exprP_eq t
    unfold exprPW at eP
    rw [exprF] at h
    by_cases h14 : t.kind = 14
    · rw [if_pos h14] at h eP
      refine fin (fun _ => BackI.prim 0 (Ev.of fun f c _ rest h0 => ?_)) (by omega)
      have hn := (of_decide_eq_true h).2.2.1
      rw [eP]
      show pPrimary _ _ (⟨2, digitsL t.num, 0⟩ :: rest) = _
      unfold pPrimary
      rw [if_neg (by rw [isS_two]; decide), if_neg (by rw [isS_two]; decide), if_neg (by simp [typedS, isS_two]), if_neg (by simp [nameS]), pNumber_eq hn, Res.bind_ok, ← number_tree h]
    rw [if_neg h14] at h eP
    by_cases h15 : t.kind = 15
    · rw [if_pos h15] at h eP
      refine fin (fun _ => BackI.prim 0 (Ev.of fun f c _ rest h0 => ?_)) (by omega)
      have h := of_decide_eq_true h
      rw [eP]
      show pPrimary _ _ (⟨1, t.text, 0⟩ :: rest) = _
      unfold pPrimary
      rw [if_neg (by rw [isS_ne (name_ne h.1 (by decide))]; decide), if_neg (by rw [isS_ne (name_ne h.1 (by decide))]; decide), if_neg (by rw [typedS_not h.1]; decide), if_pos (nameS_eq h.1), List.tail_cons, if_neg (by rw [h0]; decide)]
      rw [tree_eq (t := t) h15 rfl h.2.1 (List.length_eq_zero_iff.1 h.2.2)]; rfl
    rw [if_neg h15] at h eP
    by_cases h16 : t.kind = 16
    · rw [if_pos h16] at h eP
      have h := of_decide_eq_true h
      have hk : ∀ u ∈ t.kids, exprF f u = true := List.all_eq_true.1 h.2.2
      refine fin (fun _ => BackI.prim t.kids.length ((Ev.all fun u hu => (ih u (hk u hu)).1.parses).imp fun f hp c hc rest h0 => ?_)) (by omega)
      have hA : pArgs (pLevel f 0) c (T (joinP (t.kids.map exprP)) ++ (⟨3, [41], 0⟩ :: rest)) = .ok t.kids rest := args_back (S := Stop) stop_comma stop_close hc (fun u hu r hr => hp u hu r hr) (fun u hu r => head_not (head_expr _ _ (hk u hu)) (by decide) (by decide) (by decide) (fun _ => by decide) r)
      have e : T (exprP t) ++ rest = ⟨1, t.text, 0⟩ :: ⟨3, [40], 0⟩ :: (T (joinP (t.kids.map exprP)) ++ (⟨3, [41], 0⟩ :: rest)) := by
        rw [eP, T_app, T_app, List.append_assoc, List.append_assoc]; rfl
      have et : t = .node 16 t.text 0 t.kids := tree_eq h16 rfl h.2.1 rfl
      rw [e]
      unfold pPrimary
      by_cases hn : nameOk t.text = true
      · rw [if_neg (by rw [isS_ne (name_ne hn (by decide))]; decide), if_neg (by rw [isS_ne (name_ne hn (by decide))]; decide), if_neg (by rw [typedS_not hn]; decide), if_pos (nameS_eq hn), List.tail_cons, if_pos (isS_eq (by decide)), List.tail_cons, hA, Res.bind_ok]
        exact congrArg (Res.ok · rest) et.symm
      · have h3 : t.text = [110, 117, 109] ∨ t.text = [98, 105, 116] ∨ t.text = [119, 111, 114, 100] := h.1.resolve_left hn
        have ht : typedS (⟨1, t.text, 0⟩ :: ⟨3, [40], 0⟩ :: (T (joinP (t.kids.map exprP)) ++ (⟨3, [41], 0⟩ :: rest))) = true := by
          unfold typedS
          rw [isS_cons, isS_cons, isS_cons]
          rcases h3 with h3 | h3 | h3 <;> rw [h3] <;> rfl
        have n40 : t.text ≠ [40] := by rcases h3 with h3 | h3 | h3 <;> rw [h3] <;> decide
        have n91 : t.text ≠ [91] := by rcases h3 with h3 | h3 | h3 <;> rw [h3] <;> decide
        rw [if_neg (by rw [isS_ne n40]; decide), if_neg (by rw [isS_ne n91]; decide), if_pos ht, List.tail_cons, take_eq (by decide), Res.bind_ok, hA, Res.bind_ok]
        exact congrArg (Res.ok · rest) et.symm
    rw [if_neg h16] at h eP
    by_cases h18 : t.kind = 18
    · rw [if_pos h18] at eP
      rw [if_neg (by omega), if_pos h18] at h
      have h := of_decide_eq_true h
      have hk : ∀ u ∈ t.kids, exprF f u = true := List.all_eq_true.1 h.2.2.2
      refine fin (fun _ => BackI.prim t.kids.length ((Ev.all fun u hu => (ih u (hk u hu)).1.parses).imp fun f hp c hc rest h0 => ?_)) (by omega)
      have hL := list_back (p := pLevel f 0) (q := exprP) (S := Stop) stop_comma (stop_sq rest) (isS_ne (by decide)) t.kids c [] (fun e => by rw [e] at h; simp at h) hc (fun u hu r hr => hp u hu r hr)
      rw [List.nil_append] at hL
      have e : T (exprP t) ++ rest = ⟨3, [91], 0⟩ :: (T (joinP (t.kids.map exprP)) ++ (⟨3, [93], 0⟩ :: rest)) := by
        rw [eP, T_app, T_app, List.append_assoc, List.append_assoc]; rfl
      rw [e]
      unfold pPrimary
      rw [if_neg (by rw [isS_ne (by decide)]; decide), if_pos (isS_eq (by decide)), List.tail_cons]
      unfold pList
      rw [show ((pLevel f 0 (T (joinP (t.kids.map exprP)) ++ (⟨3, [93], 0⟩ :: rest))).bind fun n r => pSep (pLevel f 0) c [n] r) = .ok t.kids (⟨3, [93], 0⟩ :: rest) from hL, Res.bind_ok, take_eq (by decide), Res.bind_ok]
      exact congrArg (Res.ok · rest) (tree_eq h18 h.1 h.2.1 rfl).symm
    rw [if_neg h18] at eP
    by_cases h19 : t.kind = 19
    · rw [if_pos h19] at eP
      rw [if_neg (by omega), if_neg (by omega), if_pos h19] at h
      have h := of_decide_eq_true h
      refine ⟨?_, fun e => absurd h19 e⟩
      rw [(getD_map_mem (p := exprP) (show 0 < t.kids.length by omega)).1] at eP
      have hu := (ih _ h.2.2.2).1
      have et : t = .node 19 t.text 0 [t.kids.getD 0 Tree.no] := tree_eq h19 rfl h.2.1 (kids_one h.2.2.1)
      have e : ∀ rest, T (exprP t) ++ rest = ⟨3, t.text, 0⟩ :: (T (exprP (t.kids.getD 0 Tree.no)) ++ rest) := fun rest => by
        rw [eP, T_app, List.append_assoc]; rfl
      refine Ev.succ hu fun f hu rest h0 => ?_
      rw [e]
      rcases h.1 with hs | hs
      · rw [hs] at et ⊢
        rw [pUnary, if_pos (isS_eq (by decide)), List.tail_cons, hu rest h0, Res.bind_ok]
        exact congrArg (Res.ok · rest) et.symm
      · rw [hs] at et ⊢
        rw [pUnary, if_neg (by rw [isS_ne (by decide)]; decide), if_pos (isS_eq (by decide)), List.tail_cons, hu rest h0, Res.bind_ok]
        exact congrArg (Res.ok · rest) et.symm
    rw [if_neg h19] at eP
    by_cases h20 : t.kind = 20
    · rw [if_pos h20] at eP
      rw [if_neg (by omega), if_neg (by omega), if_neg (by omega), if_pos h20] at h
      have h := of_decide_eq_true h
      obtain ⟨e0, m0⟩ := getD_map_mem (p := exprP) (l := t.kids) (i := 0) (by omega)
      obtain ⟨e1, m1⟩ := getD_map_mem (p := exprP) (l := t.kids) (i := 1) (by omega)
      have k0 := (ih _ (List.all_eq_true.1 h.2.2.2 _ m0)).1
      have k1 := (ih _ (List.all_eq_true.1 h.2.2.2 _ m1)).1
      rw [e0, e1] at eP
      refine fin (fun _ => BackI.prim 0 ((binary_back k0 k1 h.1).imp fun f hb c hc rest h0 => ?_)) (by omega)
      have e : T (exprP t) ++ rest = ⟨3, [40], 0⟩ :: (T (exprP (t.kids.getD 0 Tree.no)) ++ ⟨3, t.text, 0⟩ :: (T (exprP (t.kids.getD 1 Tree.no)) ++ ⟨3, [41], 0⟩ :: rest)) := by
        rw [eP, T_app, T_app, T_app, T_app, List.append_assoc, List.append_assoc, List.append_assoc, List.append_assoc]; rfl
      rw [e]
      unfold pPrimary
      rw [if_pos (isS_eq (by decide)), List.tail_cons, hb rest, Res.bind_ok, take_eq (by decide), Res.bind_ok]
      exact congrArg (Res.ok · rest) (tree_eq h20 rfl h.2.1 (kids_two h.2.2.1)).symm
    rw [if_neg h20] at eP
    by_cases h17 : t.kind = 17
    · rw [if_pos h17] at h
      have h := of_decide_eq_true h
      obtain ⟨e0, m0⟩ := getD_map_mem (p := exprP) (l := t.kids) (i := 0) (by omega)
      obtain ⟨e1, m1⟩ := getD_map_mem (p := exprP) (l := t.kids) (i := 1) (by omega)
      have k0 := ih _ (List.all_eq_true.1 h.2.2.2 _ m0)
      have k1 := ih _ (List.all_eq_true.1 h.2.2.2 _ m1)
      rw [e0, e1] at eP
      have et : t = .node 17 [] 0 [t.kids.getD 0 Tree.no, t.kids.getD 1 Tree.no] := tree_eq h17 h.1 h.2.1 (kids_two h.2.2.1)
      refine fin (fun _ => ?_) (by omega)
      by_cases hk : (t.kids.getD 0 Tree.no).kind = 19
      · rw [if_pos hk] at eP
        refine ⟨1, 2, by omega, (k0.1.parses.and k1.1.parses).imp fun f ⟨p0, p1⟩ c hc rest h0 => ?_⟩
        obtain ⟨c, rfl⟩ : ∃ d, c = d + 1 := ⟨c - 1, by omega⟩
        have e : T (exprP t) ++ rest = ⟨3, [40], 0⟩ :: (T (exprP (t.kids.getD 0 Tree.no)) ++ ⟨3, [41], 0⟩ :: ⟨3, [91], 0⟩ :: (T (exprP (t.kids.getD 1 Tree.no)) ++ ⟨3, [93], 0⟩ :: rest)) := by
          rw [eP, T_app, T_app, T_app, T_app, List.append_assoc, List.append_assoc, List.append_assoc, List.append_assoc]; rfl
        rw [e]
        unfold pIndexed pPrimary
        rw [if_pos (isS_eq (by decide)), List.tail_cons, p0 _ (stop_close _), Res.bind_ok, take_eq (by decide), Res.bind_ok, Res.bind_ok, index_step p1, ← et]
        rfl
      · rw [if_neg hk] at eP
        obtain ⟨d, m, hdm, hi⟩ := k0.2 hk
        refine ⟨d + 1, m + 1, by omega, (hi.and k1.1.parses).imp fun f ⟨hi, p1⟩ c hc rest h0 => ?_⟩
        have e : T (exprP t) ++ rest = T (exprP (t.kids.getD 0 Tree.no)) ++ ⟨3, [91], 0⟩ :: (T (exprP (t.kids.getD 1 Tree.no)) ++ ⟨3, [93], 0⟩ :: rest) := by
          rw [eP, T_app, T_app, T_app, List.append_assoc, List.append_assoc, List.append_assoc]; rfl
        rw [e, hi c (by omega) _ (isS_ne (by decide)), show c - d = c - (d + 1) + 1 by omega, index_step p1, ← et]
    rw [if_neg h17, if_neg h18, if_neg h19, if_neg h20] at h
    cases h
theorem back_parses {f : Nat} {t : Tree} (h : exprF f t = true) : Ev fun f => Parses (pLevel f 0) t := (back_expr f t h).1.parses

/-! ## Types, parameters, recipients -/
theorem arr_back {k n m : Nat} (hm : m ≤ 4294967295) {rest : List Tok} (h : isS [91] rest = false) : pArr k n (T (if 0 < m then [sg 91, nu m, sg 93] else []) ++ rest) = .ok (.node 11 [] k [numberT n, numberT m]) rest := by
  unfold pArr
  by_cases h0 : 0 < m
  · rw [if_pos h0]
    show (if isS [91] (⟨3, [91], 0⟩ :: ⟨2, digitsL m, 0⟩ :: ⟨3, [93], 0⟩ :: rest) = true then _ else _) = _
    rw [if_pos (isS_eq (by decide)), show T [sg 91, nu m, sg 93] ++ rest = ⟨3, [91], 0⟩ :: ⟨2, digitsL m, 0⟩ :: ⟨3, [93], 0⟩ :: rest from rfl, List.tail_cons, pNumber_eq hm, Res.bind_ok, take_eq (by decide), Res.bind_ok]
  · obtain rfl : m = 0 := by omega
    rw [if_neg h0]
    show (if isS [91] rest = true then _ else Res.ok _ rest) = _
    rw [if_neg (by rw [h]; decide)]
theorem type_back {t : Tree} (h : typeB t = true) {rest : List Tok} (hr : isS [91] rest = false) : pTyp (T (typeP t) ++ rest) = .ok t rest := by
  have h := of_decide_eq_true h
  have n0 := num_kid h.1.2.2.2 (i := 0) (by omega)
  have n1 := num_kid h.1.2.2.2 (i := 1) (by omega)
  have b0 := number_tree (List.all_eq_true.1 h.1.2.2.2 _ (kid_mem (i := 0) (by omega)))
  have b1 := number_tree (List.all_eq_true.1 h.1.2.2.2 _ (kid_mem (i := 1) (by omega)))
  have et : ∀ k : Nat, t.num = k → t = .node 11 [] k [numberT (t.kids.getD 0 Tree.no).num, numberT (t.kids.getD 1 Tree.no).num] := fun k hk => tree_eq h.1.1 h.1.2.1 hk (by rw [← b0, ← b1]; exact kids_two h.1.2.2.1)
  have ha := fun k n => arr_back (k := k) (n := n) n1 hr
  unfold typeP
  rw [T_app, List.append_assoc]
  generalize T (if 0 < (t.kids.getD 1 Tree.no).num then [sg 91, nu (t.kids.getD 1 Tree.no).num, sg 93] else []) ++ rest = X at ha
  unfold pTyp
  by_cases h2 : t.num = 2
  · have hz : (t.kids.getD 0 Tree.no).num = 0 := by
      rcases h.2 with h | h
      · omega
      · exact h.2
    rw [if_pos h2]
    show (if isS [110, 117, 109] (⟨1, [98, 105, 116], 0⟩ :: X) = true then _ else _) = _
    rw [if_neg (by rw [isS_ne (by decide)]; decide), show T [nm [98, 105, 116]] ++ X = ⟨1, [98, 105, 116], 0⟩ :: X from rfl, if_pos (isS_eq (by decide)), List.tail_cons, ha, et 2 h2, hz]; rfl
  rw [if_neg h2]
  by_cases h3 : t.num = 3
  · rw [if_pos h3, show T [nm [119, 111, 114, 100], bl, nu (t.kids.getD 0 Tree.no).num] ++ X = ⟨1, [119, 111, 114, 100], 0⟩ :: ⟨2, digitsL (t.kids.getD 0 Tree.no).num, 0⟩ :: X from rfl, if_neg (by rw [isS_ne (by decide)]; decide), if_neg (by rw [isS_ne (by decide)]; decide), take_eq (by decide), Res.bind_ok, pNumber_eq n0, Res.bind_ok, ha]
    exact congrArg (Res.ok · rest) (et 3 h3).symm
  · have h1 : t.num = 1 := by
      rcases h.2 with h | ⟨h | h, _⟩ <;> omega
    have hz : (t.kids.getD 0 Tree.no).num = 0 := by
      rcases h.2 with h | h
      · omega
      · exact h.2
    rw [if_neg h3, show T [nm [110, 117, 109]] ++ X = ⟨1, [110, 117, 109], 0⟩ :: X from rfl, if_pos (isS_eq (by decide)), List.tail_cons, ha]
    have := et 1 h1
    rw [hz] at this
    exact congrArg (Res.ok · rest) this.symm
theorem arg_back {t : Tree} (h : argB t = true) {rest : List Tok} (hr : isS [91] rest = false) : pArg (T (argP t) ++ rest) = .ok t rest := by
  have h := of_decide_eq_true h
  unfold argP pArg
  rw [T_app, List.append_assoc, show T [nm t.text, sg 58, bl] ++ (T (typeP (t.kids.getD 0 Tree.no)) ++ rest) = ⟨1, t.text, 0⟩ :: ⟨3, [58], 0⟩ :: (T (typeP (t.kids.getD 0 Tree.no)) ++ rest) from rfl, pName_eq h.2.1, Res.bind_ok, take_eq (by decide), Res.bind_ok, type_back h.2.2.2.2 hr, Res.bind_ok]
  exact congrArg (Res.ok · rest) (tree_eq h.1 rfl h.2.2.1 (kids_one h.2.2.2.1)).symm
theorem to_back {t : Tree} (h : toB t = true) {rest : List Tok} : pTo (T [nu t.num] ++ rest) = .ok t rest := by
  have h := of_decide_eq_true h
  unfold pTo
  rw [show T [nu t.num] ++ rest = ⟨2, digitsL t.num, 0⟩ :: rest from rfl, pNumber_eq h.2.2.1, Res.bind_ok]
  exact congrArg (Res.ok · rest) (tree_eq h.1 h.2.1 rfl (List.length_eq_zero_iff.1 h.2.2.2)).symm

/-! ## Items -/
theorem T_line (d : Nat) (ps : List Pc) : T (lineP d ps) = T ps := by
  unfold lineP
  rw [T_app, T_app]
  show [] ++ T ps ++ [] = T ps
  simp
def NoElse (r : List Tok) : Prop := isS [101, 108, 115, 101] r = false
def HeadI (l : List Tok) : Prop := ∃ (s : List Nat) (r : List Tok), l = ⟨1, s, 0⟩ :: r ∧ (s = [105, 110] ∨ s = [108, 101, 116] ∨ s = [105, 102] ∨ s = [102, 111, 114] ∨ s = [111, 117, 116] ∨ s = [100, 101, 102] ∨ nameOk s = true)
theorem HeadI.app {l : List Tok} (h : HeadI l) (r : List Tok) : HeadI (l ++ r) := by
  obtain ⟨s, q, rfl, h⟩ := h
  exact ⟨s, q ++ r, rfl, h⟩
theorem HeadI.starts {l : List Tok} (h : HeadI l) : itemS l = true := by
  obtain ⟨s, q, rfl, h⟩ := h
  unfold itemS
  simp only [isS_cons]
  rcases h with rfl | rfl | rfl | rfl | rfl | rfl | h
  all_goals first | rfl | (rw [nameS_eq h]; simp)
theorem HeadI.noElse {l : List Tok} (h : HeadI l) : NoElse l := by
  obtain ⟨s, q, rfl, h⟩ := h
  rcases h with rfl | rfl | rfl | rfl | rfl | rfl | h
  all_goals first | exact isS_ne (by decide) | exact isS_ne (name_nw h (by decide))
theorem head_item {f d : Nat} {t : Tree} (h : itemF f t = true) : HeadI (T (itemP d t)) := by
  cases f with
  | zero => rw [itemF] at h; cases h
  | succ f =>
    rw [itemP_eq]
    unfold itemPW
    rw [itemF] at h
    by_cases h2 : t.kind = 2
    · rw [if_pos h2, T_line]; exact ⟨_, _, rfl, .inl rfl⟩
    rw [if_neg h2] at h ⊢
    by_cases h3 : t.kind = 3
    · rw [if_pos h3, T_line]; exact ⟨_, _, rfl, .inr (.inl rfl)⟩
    rw [if_neg h3] at h ⊢
    by_cases h4 : t.kind = 4
    · rw [if_pos h4] at h ⊢
      rw [T_line]; exact ⟨_, _, rfl, .inr (.inr (.inr (.inr (.inr (.inr (of_decide_eq_true h).1)))))⟩
    rw [if_neg h4] at h ⊢
    by_cases h5 : t.kind = 5
    · rw [if_pos h5] at h ⊢
      rw [T_line]; exact ⟨_, _, rfl, .inr (.inr (.inr (.inr (.inr (.inr (of_decide_eq_true h).1)))))⟩
    rw [if_neg h5] at h ⊢
    by_cases h6 : t.kind = 6
    · rw [if_pos h6, T_app, T_app, T_app, T_line]; exact ⟨_, _, rfl, .inr (.inr (.inl rfl))⟩
    rw [if_neg h6] at h ⊢
    by_cases h7 : t.kind = 7
    · rw [if_pos h7, T_app, T_app, T_line]; exact ⟨_, _, rfl, .inr (.inr (.inr (.inl rfl)))⟩
    rw [if_neg h7] at h ⊢
    by_cases h8 : t.kind = 8
    · rw [if_pos h8, T_line]; exact ⟨_, _, rfl, .inr (.inr (.inr (.inr (.inl rfl))))⟩
    rw [if_neg h8] at h ⊢
    rw [T_app, T_app, T_app, T_line]; exact ⟨_, _, rfl, .inr (.inr (.inr (.inr (.inr (.inl rfl)))))⟩
theorem lines_back {it : List Tok → Res Tree} {d : Nat} {rest : List Tok} (hr : NoElse rest) (hs : itemS rest = false) : ∀ (ks : List Tree) (c : Nat) (acc : List Tree), ks.length < c → (∀ u ∈ ks, ∀ r, NoElse r → it (T (itemP d u) ++ r) = .ok u r) → (∀ u ∈ ks, HeadI (T (itemP d u))) → pItems it c acc (T (linesP d ks) ++ rest) = .ok (acc ++ ks) rest
  | [], c, acc, hc, _, _ => by
    obtain ⟨c, rfl⟩ : ∃ d, c = d + 1 := ⟨c - 1, by omega⟩
    rw [linesP, T, List.nil_append, pItems, if_neg (by rw [hs]; decide), List.append_nil]
  | a :: r, c, acc, hc, hi, hh => by
    obtain ⟨c, rfl⟩ : ∃ d, c = d + 1 := ⟨c - 1, by omega⟩
    have ih := lines_back hr hs r c (acc ++ [a]) (by simp at hc; omega) (fun u hu => hi u (List.mem_cons_of_mem _ hu)) (fun u hu => hh u (List.mem_cons_of_mem _ hu))
    have hne : NoElse (T (linesP d r) ++ rest) := by
      cases r with
      | nil => rw [linesP]; exact hr
      | cons b r =>
        rw [linesP, T_app, List.append_assoc]
        exact ((hh b (by simp)).app _).noElse
    rw [linesP, T_app, List.append_assoc, pItems, if_pos ((hh a (by simp)).app _).starts, hi a (by simp) _ hne, Res.bind_ok, ih, List.append_assoc]
    rfl
theorem block_back {it : List Tok → Res Tree} {d c : Nat} {b : Tree} (hb : b.kind = 10 ∧ b.text = [] ∧ b.num = 0) (hc : b.kids.length < c) (hi : ∀ u ∈ b.kids, ∀ r, NoElse r → it (T (itemP d u) ++ r) = .ok u r) (hh : ∀ u ∈ b.kids, HeadI (T (itemP d u))) (rest : List Tok) : pBlock it c (⟨3, [123], 0⟩ :: (T (linesP d b.kids) ++ ⟨3, [125], 0⟩ :: rest)) = .ok b rest := by
  unfold pBlock
  rw [take_eq (by decide), Res.bind_ok, lines_back (show NoElse (⟨3, [125], 0⟩ :: rest) from rfl) rfl b.kids c [] hc hi hh, Res.bind_ok, take_eq (by decide), Res.bind_ok, List.nil_append]
  exact congrArg (Res.ok · rest) (tree_eq hb.1 hb.2.1 hb.2.2 rfl).symm
theorem val_back {p : List Tok → Res Tree} {e : Tree} (h : Parses p e) (rest : List Tok) : pVal p (⟨3, [61], 0⟩ :: (T (exprP e) ++ ⟨3, [59], 0⟩ :: rest)) = .ok e rest := by
  unfold pVal
  rw [take_eq (by decide), Res.bind_ok, h _ (stop_t (by decide) (by decide) (by decide)), Res.bind_ok, take_eq (by decide), Res.bind_ok]
/-- what is to be shown of an item -/
def BackT (d : Nat) (t : Tree) : Prop := Ev fun f => ∀ rest, NoElse rest → pItem f (T (itemP d t) ++ rest) = .ok t rest
theorem item_name {f : Nat} {s : List Nat} {a : Nat} {r : List Tok} (h : nameOk s = true) : pItem (f + 1) (⟨1, s, a⟩ :: r) = pSet (pLevel f 0) (⟨1, s, a⟩ :: r) := by
  rw [pItem]
  simp only [isS_ne (name_nw h (show wordB [105, 110] = true by decide)), isS_ne (name_nw h (show wordB [108, 101, 116] = true by decide)), isS_ne (name_nw h (show wordB [105, 102] = true by decide)), isS_ne (name_nw h (show wordB [102, 111, 114] = true by decide)), isS_ne (name_nw h (show wordB [111, 117, 116] = true by decide)), isS_ne (name_nw h (show wordB [100, 101, 102] = true by decide))]
  rfl
theorem back_item : ∀ (f : Nat) (t : Tree), itemF f t = true → ∀ d, BackT d t
  | 0, t, h => by rw [itemF] at h; cases h
  | f + 1, t, h => fun d => by
    have ih := back_item f
    have hblk : ∀ b, blockB (itemF f) b = true → Ev fun g => ∀ c, b.kids.length < c → ∀ rest, pBlock (pItem g) c (⟨3, [123], 0⟩ :: (T (linesP (d + 1) b.kids) ++ ⟨3, [125], 0⟩ :: rest)) = .ok b rest := fun b hb => by
      have hb := of_decide_eq_true hb
      have hk := List.all_eq_true.1 hb.2.2.2
      exact (Ev.all fun u hu => ih u (hk u hu) (d + 1)).imp fun g hg c hc rest => block_back ⟨hb.1, hb.2.1, hb.2.2.1⟩ hc hg (fun u hu => head_item (hk u hu)) rest
    have eP := itemP_eq d t
    unfold itemPW at eP
    unfold BackT
    rw [itemF] at h
    by_cases h2 : t.kind = 2
    · rw [if_pos h2] at h eP
      have h := of_decide_eq_true h
      refine (Ev.of (P := fun _ => True) fun _ => trivial).succ fun f _ rest _ => ?_
      have e : T (itemP d t) ++ rest = ⟨1, [105, 110], 0⟩ :: ⟨1, t.text, 0⟩ :: ⟨3, [58], 0⟩ :: (T (typeP (t.kids.getD 0 Tree.no)) ++ ⟨1, [102, 114, 111, 109], 0⟩ :: ⟨2, digitsL t.num, 0⟩ :: ⟨3, [59], 0⟩ :: rest) := by
        rw [eP, T_line, T_app, T_app, List.append_assoc, List.append_assoc]; rfl
      rw [e, pItem, if_pos (isS_eq (by decide)), List.tail_cons]
      unfold pIn
      rw [pName_eq h.1, Res.bind_ok, take_eq (by decide), Res.bind_ok, type_back h.2.2.2 (isS_ne (by decide)), Res.bind_ok, take_eq (by decide), Res.bind_ok, pNumber_eq h.2.1, Res.bind_ok, take_eq (by decide), Res.bind_ok]
      exact congrArg (Res.ok · rest) (tree_eq h2 rfl rfl (kids_one h.2.2.1)).symm
    rw [if_neg h2] at h eP
    by_cases h3 : t.kind = 3
    · rw [if_pos h3] at h eP
      have h := of_decide_eq_true h
      refine (back_parses h.2.2.2).succ fun f hp rest _ => ?_
      have e : T (itemP d t) ++ rest = ⟨1, [108, 101, 116], 0⟩ :: ⟨1, t.text, 0⟩ :: ⟨3, [61], 0⟩ :: (T (exprP (t.kids.getD 0 Tree.no)) ++ ⟨3, [59], 0⟩ :: rest) := by
        rw [eP, T_line, T_app, T_app, List.append_assoc, List.append_assoc]; rfl
      rw [e, pItem, if_neg (by rw [isS_ne (by decide)]; decide), if_pos (isS_eq (by decide)), List.tail_cons]
      unfold pLet
      rw [pName_eq h.1, Res.bind_ok, val_back hp, Res.bind_ok]
      exact congrArg (Res.ok · rest) (tree_eq h3 rfl h.2.1 (kids_one h.2.2.1)).symm
    rw [if_neg h3] at h eP
    by_cases h4 : t.kind = 4
    · rw [if_pos h4] at h eP
      have h := of_decide_eq_true h
      refine (back_parses h.2.2.2).succ fun f hp rest _ => ?_
      have e : T (itemP d t) ++ rest = ⟨1, t.text, 0⟩ :: ⟨3, [61], 0⟩ :: (T (exprP (t.kids.getD 0 Tree.no)) ++ ⟨3, [59], 0⟩ :: rest) := by
        rw [eP, T_line, T_app, T_app, List.append_assoc, List.append_assoc]; rfl
      rw [e, item_name h.1]
      unfold pSet
      rw [pName_eq h.1, Res.bind_ok, if_neg (by rw [isS_ne (by decide)]; decide), val_back hp, Res.bind_ok]
      exact congrArg (Res.ok · rest) (tree_eq h4 rfl h.2.1 (kids_one h.2.2.1)).symm
    rw [if_neg h4] at h eP
    by_cases h5 : t.kind = 5
    · rw [if_pos h5] at h eP
      have h := of_decide_eq_true h
      have hl := List.all_eq_true.1 h.2.2.2
      refine ((back_parses (hl _ (kid_mem (i := 0) (by omega)))).and (back_parses (hl _ (kid_mem (i := 1) (by omega))))).succ fun f ⟨p0, p1⟩ rest _ => ?_
      have e : T (itemP d t) ++ rest = ⟨1, t.text, 0⟩ :: ⟨3, [91], 0⟩ :: (T (exprP (t.kids.getD 0 Tree.no)) ++ ⟨3, [93], 0⟩ :: ⟨3, [61], 0⟩ :: (T (exprP (t.kids.getD 1 Tree.no)) ++ ⟨3, [59], 0⟩ :: rest)) := by
        rw [eP, T_line, T_app, T_app, T_app, T_app, List.append_assoc, List.append_assoc, List.append_assoc, List.append_assoc]; rfl
      rw [e, item_name h.1]
      unfold pSet
      rw [pName_eq h.1, Res.bind_ok, if_pos (isS_eq (by decide)), List.tail_cons, p0 _ (stop_sq _), Res.bind_ok, take_eq (by decide), Res.bind_ok, val_back p1, Res.bind_ok]
      exact congrArg (Res.ok · rest) (tree_eq h5 rfl h.2.1 (kids_two h.2.2.1)).symm
    rw [if_neg h5] at h eP
    by_cases h6 : t.kind = 6
    · rw [if_pos h6] at h eP
      have h := of_decide_eq_true h
      have hl := List.all_eq_true.1 h.2.2.2.2
      have hm : ∀ i, 0 < i → i < 3 → blockB (itemF f) (t.kids.getD i Tree.no) = true := fun i h0 hi => hl _ (by
        have e : t.kids.getD i Tree.no = (t.kids.drop 1).getD (i - 1) Tree.no := by rw [drop_getD, show 1 + (i - 1) = i by omega]
        rw [e]; exact kid_mem (by rw [List.length_drop]; omega))
      have m2 := of_decide_eq_true (hm 2 (by omega) (by omega))
      have et : t = .node 6 [] 0 [t.kids.getD 0 Tree.no, t.kids.getD 1 Tree.no, t.kids.getD 2 Tree.no] := tree_eq h6 h.1 h.2.1 (kids_three h.2.2.1)
      rw [mapB_getP (by omega), mapB_getP (by omega)] at eP
      refine ((((back_parses h.2.2.2.1).and (hblk _ (hm 1 (by omega) (by omega)))).and (hblk _ (hm 2 (by omega) (by omega)))).and (Ev.ge ((t.kids.getD 1 Tree.no).kids.length + (t.kids.getD 2 Tree.no).kids.length + 1))).succ fun f ⟨⟨⟨p0, b1⟩, b2⟩, hf⟩ rest hr => ?_
      by_cases h0 : 0 < (t.kids.getD 2 Tree.no).kids.length
      · rw [if_pos h0] at eP
        have e : T (itemP d t) ++ rest = ⟨1, [105, 102], 0⟩ :: (T (exprP (t.kids.getD 0 Tree.no)) ++ ⟨3, [123], 0⟩ :: (T (linesP (d + 1) (t.kids.getD 1 Tree.no).kids) ++ ⟨3, [125], 0⟩ :: ⟨1, [101, 108, 115, 101], 0⟩ :: ⟨3, [123], 0⟩ :: (T (linesP (d + 1) (t.kids.getD 2 Tree.no).kids) ++ ⟨3, [125], 0⟩ :: rest))) := by
          rw [eP, T_app, T_app, T_app, T_line, T_line, T_app, T_app, T_app, T_line]
          simp only [List.append_assoc]
          rfl
        rw [e, pItem, if_neg (by rw [isS_ne (by decide)]; decide), if_neg (by rw [isS_ne (by decide)]; decide), if_pos (isS_eq (by decide)), List.tail_cons]
        unfold pIf
        rw [p0 _ (stop_t (by decide) (by decide) (by decide)), Res.bind_ok, b1 _ (by omega), Res.bind_ok, if_pos (isS_eq (by decide)), List.tail_cons, b2 _ (by omega), Res.bind_ok]
        exact congrArg (Res.ok · rest) et.symm
      · rw [if_neg h0] at eP
        have e2 : t.kids.getD 2 Tree.no = .node 10 [] 0 [] := tree_eq m2.1 m2.2.1 m2.2.2.1 (List.length_eq_zero_iff.1 (by omega))
        have e : T (itemP d t) ++ rest = ⟨1, [105, 102], 0⟩ :: (T (exprP (t.kids.getD 0 Tree.no)) ++ ⟨3, [123], 0⟩ :: (T (linesP (d + 1) (t.kids.getD 1 Tree.no).kids) ++ ⟨3, [125], 0⟩ :: rest)) := by
          rw [eP, T_app, T_app, T_app, T_line, T_line, T_app, T_app]
          simp only [List.append_assoc]
          rfl
        rw [e, pItem, if_neg (by rw [isS_ne (by decide)]; decide), if_neg (by rw [isS_ne (by decide)]; decide), if_pos (isS_eq (by decide)), List.tail_cons]
        unfold pIf
        rw [p0 _ (stop_t (by decide) (by decide) (by decide)), Res.bind_ok, b1 _ (by omega), Res.bind_ok, if_neg (by rw [show isS [101, 108, 115, 101] rest = false from hr]; decide), ← e2]
        exact congrArg (Res.ok · rest) et.symm
    rw [if_neg h6] at h eP
    by_cases h7 : t.kind = 7
    · rw [if_pos h7] at h eP
      have h := of_decide_eq_true h
      have hl := List.all_eq_true.1 h.2.2.2.1
      have hm : ∀ i, i < 2 → exprF f (t.kids.getD i Tree.no) = true := fun i hi => hl _ (by
        rw [← take_getD (l := t.kids) (i := 2) hi]; exact kid_mem (by rw [List.length_take]; omega))
      rw [mapB_getP (by omega)] at eP
      refine ((((back_parses (hm 0 (by omega))).and (back_parses (hm 1 (by omega)))).and (hblk _ h.2.2.2.2)).and (Ev.ge ((t.kids.getD 2 Tree.no).kids.length + 1))).succ fun f ⟨⟨⟨p0, p1⟩, b2⟩, hf⟩ rest hr => ?_
      have e : T (itemP d t) ++ rest = ⟨1, [102, 111, 114], 0⟩ :: ⟨1, t.text, 0⟩ :: ⟨3, [61], 0⟩ :: (T (exprP (t.kids.getD 0 Tree.no)) ++ ⟨1, [116, 111], 0⟩ :: (T (exprP (t.kids.getD 1 Tree.no)) ++ ⟨3, [123], 0⟩ :: (T (linesP (d + 1) (t.kids.getD 2 Tree.no).kids) ++ ⟨3, [125], 0⟩ :: rest))) := by
        rw [eP, T_app, T_app, T_line, T_line, T_app, T_app, T_app, T_app]
        simp only [List.append_assoc]
        rfl
      rw [e, pItem, if_neg (by rw [isS_ne (by decide)]; decide), if_neg (by rw [isS_ne (by decide)]; decide), if_neg (by rw [isS_ne (by decide)]; decide), if_pos (isS_eq (by decide)), List.tail_cons]
      unfold pFor
      rw [pName_eq h.1, Res.bind_ok, take_eq (by decide), Res.bind_ok, p0 _ (stop_t (by decide) (by decide) (by decide)), Res.bind_ok, take_eq (by decide), Res.bind_ok, p1 _ (stop_t (by decide) (by decide) (by decide)), Res.bind_ok, b2 _ (by omega), Res.bind_ok]
      exact congrArg (Res.ok · rest) (tree_eq h7 rfl h.2.1 (kids_three h.2.2.1)).symm
    rw [if_neg h7] at h eP
    by_cases h8 : t.kind = 8
    · rw [if_pos h8] at h eP
      have h := of_decide_eq_true h
      have hl := List.all_eq_true.1 h.2.2.2.2
      have hkk : t.kids = t.kids.getD 0 Tree.no :: t.kids.drop 1 := by
        rcases hk : t.kids with _ | ⟨a, r⟩
        · rw [hk] at h; exact absurd h.2.2.1 (by simp)
        · rfl
      have et : t = .node 8 [] 0 (t.kids.getD 0 Tree.no :: t.kids.drop 1) := tree_eq h8 h.1 h.2.1 hkk
      refine ((back_parses h.2.2.2.1).and (Ev.ge (t.kids.length + 1))).succ fun f ⟨p0, hf⟩ rest hr => ?_
      by_cases h1 : 1 < t.kids.length
      · rw [if_pos h1] at eP
        have e : T (itemP d t) ++ rest = ⟨1, [111, 117, 116], 0⟩ :: (T (exprP (t.kids.getD 0 Tree.no)) ++ ⟨1, [116, 111], 0⟩ :: (T (joinP ((t.kids.drop 1).map fun t => [nu t.num])) ++ ⟨3, [59], 0⟩ :: rest)) := by
          rw [eP, T_line, T_app, T_app, T_app, T_app]
          simp only [List.append_assoc]
          rfl
        have hL := list_back (p := pTo) (q := fun t => [nu t.num]) (S := fun _ => True) (fun _ => trivial) (rest := ⟨3, [59], 0⟩ :: rest) trivial (isS_ne (by decide)) (t.kids.drop 1) f [] (fun e => by have := congrArg List.length e; rw [List.length_drop] at this; simp at this; omega) (by rw [List.length_drop]; omega) (fun u hu r _ => to_back (hl u hu))
        rw [List.nil_append] at hL
        have h97 : isS [97, 108, 108] (T (joinP ((t.kids.drop 1).map fun t => [nu t.num])) ++ ⟨3, [59], 0⟩ :: rest) = false := by
          rcases hd : t.kids.drop 1 with _ | ⟨a, _ | ⟨b, r⟩⟩
          · rfl
          · rfl
          · rfl
        rw [e, pItem, if_neg (by rw [isS_ne (by decide)]; decide), if_neg (by rw [isS_ne (by decide)]; decide), if_neg (by rw [isS_ne (by decide)]; decide), if_neg (by rw [isS_ne (by decide)]; decide), if_pos (isS_eq (by decide)), List.tail_cons]
        unfold pOut
        rw [p0 _ (stop_t (by decide) (by decide) (by decide)), Res.bind_ok, take_eq (by decide), Res.bind_ok, if_neg (by rw [h97]; decide)]
        unfold pList
        rw [show ((pTo (T (joinP ((t.kids.drop 1).map fun t => [nu t.num])) ++ ⟨3, [59], 0⟩ :: rest)).bind fun n r => pSep pTo f [n] r) = .ok (t.kids.drop 1) (⟨3, [59], 0⟩ :: rest) from hL, Res.bind_ok, take_eq (by decide), Res.bind_ok]
        exact congrArg (Res.ok · rest) et.symm
      · rw [if_neg h1] at eP
        have e : T (itemP d t) ++ rest = ⟨1, [111, 117, 116], 0⟩ :: (T (exprP (t.kids.getD 0 Tree.no)) ++ ⟨1, [116, 111], 0⟩ :: ⟨1, [97, 108, 108], 0⟩ :: ⟨3, [59], 0⟩ :: rest) := by
          rw [eP, T_line, T_app, T_app, T_app, T_app]
          simp only [List.append_assoc]
          rfl
        have hd : t.kids.drop 1 = [] := List.drop_eq_nil_of_le (by omega)
        rw [hd] at et
        rw [e, pItem, if_neg (by rw [isS_ne (by decide)]; decide), if_neg (by rw [isS_ne (by decide)]; decide), if_neg (by rw [isS_ne (by decide)]; decide), if_neg (by rw [isS_ne (by decide)]; decide), if_pos (isS_eq (by decide)), List.tail_cons]
        unfold pOut
        rw [p0 _ (stop_t (by decide) (by decide) (by decide)), Res.bind_ok, take_eq (by decide), Res.bind_ok, if_pos (isS_eq (by decide)), List.tail_cons, Res.bind_ok, take_eq (by decide), Res.bind_ok]
        exact congrArg (Res.ok · rest) et.symm
    rw [if_neg h8] at h eP
    by_cases h9 : t.kind = 9
    · rw [if_pos h9] at h
      have h := of_decide_eq_true h
      have ha := List.all_eq_true.1 h.2.2.2.1
      have hb := of_decide_eq_true h.2.2.2.2.1
      rw [mapB_getP (by omega)] at eP
      have hkk : t.kids = t.kids.take (t.kids.length - 2) ++ [t.kids.getD (t.kids.length - 2) Tree.no, t.kids.getD (t.kids.length - 1) Tree.no] := by
        conv => lhs; rw [← List.take_append_drop (t.kids.length - 2) t.kids]
        congr 1
        have hl : (t.kids.drop (t.kids.length - 2)).length = 2 := by rw [List.length_drop]; omega
        rw [kids_two hl, drop_getD, drop_getD, Nat.add_zero, show t.kids.length - 2 + 1 = t.kids.length - 1 by omega]
      have hbk := List.all_eq_true.1 hb.2.2.2
      have eb : t.kids.getD (t.kids.length - 2) Tree.no = .node 10 [] 0 (t.kids.getD (t.kids.length - 2) Tree.no).kids := tree_eq hb.1 hb.2.1 hb.2.2.1 rfl
      have et : t = .node 9 t.text 0 (t.kids.take (t.kids.length - 2) ++ [.node 10 [] 0 (t.kids.getD (t.kids.length - 2) Tree.no).kids, t.kids.getD (t.kids.length - 1) Tree.no]) := tree_eq h9 rfl h.2.1 (by rw [← eb]; exact hkk)
      refine (((back_parses h.2.2.2.2.2).and (Ev.all fun u hu => ih u (hbk u hu) (d + 1))).and (Ev.ge (t.kids.length + (t.kids.getD (t.kids.length - 2) Tree.no).kids.length + 1))).succ fun f ⟨⟨p0, hi⟩, hf⟩ rest hr => ?_
      have e : T (itemP d t) ++ rest = ⟨1, [100, 101, 102], 0⟩ :: ⟨1, t.text, 0⟩ :: ⟨3, [40], 0⟩ :: (T (joinP ((t.kids.take (t.kids.length - 2)).map argP)) ++ ⟨3, [41], 0⟩ :: ⟨3, [123], 0⟩ :: (T (linesP (d + 1) (t.kids.getD (t.kids.length - 2) Tree.no).kids) ++ ⟨1, [114, 101, 116, 117, 114, 110], 0⟩ :: (T (exprP (t.kids.getD (t.kids.length - 1) Tree.no)) ++ ⟨3, [59], 0⟩ :: ⟨3, [125], 0⟩ :: rest))) := by
        rw [eP, T_app, T_app, T_app, T_line, T_line, T_line, T_app, T_app, T_app, T_app]
        simp only [List.append_assoc]
        rfl
      have hA : pArgs pArg f (T (joinP ((t.kids.take (t.kids.length - 2)).map argP)) ++ (⟨3, [41], 0⟩ :: ⟨3, [123], 0⟩ :: (T (linesP (d + 1) (t.kids.getD (t.kids.length - 2) Tree.no).kids) ++ ⟨1, [114, 101, 116, 117, 114, 110], 0⟩ :: (T (exprP (t.kids.getD (t.kids.length - 1) Tree.no)) ++ ⟨3, [59], 0⟩ :: ⟨3, [125], 0⟩ :: rest)))) = .ok (t.kids.take (t.kids.length - 2)) _ :=
        args_back (S := fun r => isS [91] r = false) (fun r => isS_ne (by decide)) (fun r => isS_ne (by decide)) (by rw [List.length_take]; omega) (fun u hu r hr => arg_back (ha u hu) hr) (fun u hu r => by
          have h1 := (of_decide_eq_true (ha u hu)).2.1
          show isS [41] (⟨1, u.text, 0⟩ :: _) = false
          exact isS_ne (name_ne h1 (by decide)))
      rw [e, pItem, if_neg (by rw [isS_ne (by decide)]; decide), if_neg (by rw [isS_ne (by decide)]; decide), if_neg (by rw [isS_ne (by decide)]; decide), if_neg (by rw [isS_ne (by decide)]; decide), if_neg (by rw [isS_ne (by decide)]; decide), if_pos (isS_eq (by decide)), List.tail_cons]
      unfold pDef
      rw [pName_eq h.1, Res.bind_ok, take_eq (by decide), Res.bind_ok, hA, Res.bind_ok, take_eq (by decide), Res.bind_ok, lines_back (show NoElse (⟨1, [114, 101, 116, 117, 114, 110], 0⟩ :: _) from rfl) rfl _ f [] (by omega) hi (fun u hu => head_item (hbk u hu)), Res.bind_ok, take_eq (by decide), Res.bind_ok, p0 _ (stop_t (by decide) (by decide) (by decide)), Res.bind_ok, take_eq (by decide), Res.bind_ok, take_eq (by decide), Res.bind_ok, List.nil_append]
      exact congrArg (Res.ok · rest) et.symm
    rw [if_neg h9] at h
    cases h
/-- the tokens of a program's text are parsed as the program -/
theorem back_program {f : Nat} {t : Tree} (hk : t.kind = 1) (ht : t.text = []) (hn : t.num = 0) (h : t.kids.all (itemF f) = true) : Ev fun f => pProgram f (T (linesP 0 t.kids)) = .ok t [] := by
  have h := List.all_eq_true.1 h
  refine ((Ev.all fun u hu => back_item f u (h u hu) 0).and (Ev.ge (t.kids.length + 1))).imp fun f ⟨hi, hf⟩ => ?_
  unfold pProgram
  have := lines_back (it := pItem f) (d := 0) (rest := []) rfl rfl t.kids f [] (by omega) hi (fun u hu => head_item (h u hu))
  rw [List.append_nil] at this
  rw [this, Res.bind_ok, List.nil_append]
  exact congrArg (Res.ok · []) (tree_eq hk ht hn rfl).symm
end Go.Proofs.YtngpedcihajepaaGreatDoor.M
namespace Go.Proofs.YtngpedcihajepaaGreatDoor.M
set_option linter.unusedVariables false
set_option linter.unusedSimpArgs false
def opnB (c : Nat) : Bool := decide (c = 40 ∨ c = 91 ∨ c = 123)
def clsB (c : Nat) : Bool := decide (c = 41 ∨ c = 93 ∨ c = 125)
/-- from depth n the bytes lead to depth e, at most m deep, and never close what is not open -/
inductive Hi : Nat → List Nat → Nat → Nat → Prop
  | nil {n : Nat} : Hi n [] n n
  | opn {n e m c : Nat} {r : List Nat} : opnB c = true → Hi (n + 1) r e m → Hi n (c :: r) e m
  | cls {n e m c : Nat} {r : List Nat} : clsB c = true → Hi n r e m → Hi (n + 1) (c :: r) e (max (n + 1) m)
  | oth {n e m c : Nat} {r : List Nat} : opnB c = false → clsB c = false → Hi n r e m → Hi n (c :: r) e m
theorem Hi.le {n e m : Nat} {l : List Nat} (h : Hi n l e m) : n ≤ m ∧ e ≤ m := by
  induction h with
  | nil => exact ⟨Nat.le_refl _, Nat.le_refl _⟩
  | opn _ _ ih => exact ⟨by omega, ih.2⟩
  | cls _ _ ih => exact ⟨by omega, by omega⟩
  | oth _ _ _ ih => exact ih
theorem Hi.app {n k e m1 m2 : Nat} {a b : List Nat} (h : Hi n a k m1) (h2 : Hi k b e m2) : Hi n (a ++ b) e (max m1 m2) := by
  induction h with
  | nil => have := h2.le; rw [Nat.max_eq_right this.1]; exact h2
  | opn hc _ ih => exact .opn hc (ih h2)
  | cls hc _ ih => rw [Nat.max_assoc]; exact .cls hc (ih h2)
  | oth h1 h3 _ ih => exact .oth h1 h3 (ih h2)
theorem Hi.plain {n : Nat} : ∀ {l : List Nat}, (∀ c ∈ l, opnB c = false ∧ clsB c = false) → Hi n l n n
  | [], _ => .nil
  | c :: r, h => .oth (h c (by simp)).1 (h c (by simp)).2 (Hi.plain fun d hd => h d (List.mem_cons_of_mem _ hd))
/-- closed, and h deep -/
def Bal (l : List Nat) (h : Nat) : Prop := ∀ n, Hi n l n (n + h)
theorem Bal.plain {l : List Nat} (h : ∀ c ∈ l, opnB c = false ∧ clsB c = false) : Bal l 0 := fun n => Hi.plain h
theorem Bal.app {a b : List Nat} {h k : Nat} (ha : Bal a h) (hb : Bal b k) : Bal (a ++ b) (max h k) := fun n => by
  have := (ha n).app (hb n)
  rw [show max (n + h) (n + k) = n + max h k by omega] at this
  exact this
theorem Bal.brk {a : List Nat} {h o c : Nat} (ho : opnB o = true) (hc : clsB c = true) (ha : Bal a h) : Bal (o :: (a ++ [c])) (h + 1) := fun n => by
  have h1 : Hi (n + 1) (a ++ [c]) n (max (n + 1 + h) (max (n + 1) n)) := (ha (n + 1)).app (.cls hc .nil)
  rw [show max (n + 1 + h) (max (n + 1) n) = n + (h + 1) by omega] at h1
  exact .opn ho h1
def BalE (l : List Nat) : Prop := ∃ h, Bal l h
theorem BalE.app {a b : List Nat} (ha : BalE a) (hb : BalE b) : BalE (a ++ b) := ha.elim fun _ ha => hb.elim fun _ hb => ⟨_, ha.app hb⟩
theorem BalE.brk {a : List Nat} {o c : Nat} (ho : opnB o = true) (hc : clsB c = true) (ha : BalE a) : BalE ([o] ++ a ++ [c]) := ha.elim fun _ ha => ⟨_, by simpa using ha.brk ho hc⟩
theorem BalE.plain {l : List Nat} (h : l.all (fun c => !opnB c && !clsB c) = true) : BalE l := ⟨0, Bal.plain fun c hc => by
  have := List.all_eq_true.1 h c hc
  simp only [Bool.and_eq_true, Bool.not_eq_true'] at this
  exact this⟩
theorem name_plain {l : List Nat} (h : l.all nameB = true) : ∀ c ∈ l, opnB c = false ∧ clsB c = false := fun c hc => by
  have := List.all_eq_true.1 h c hc
  unfold nameB letterB digitB at this
  simp only [Bool.or_eq_true, decide_eq_true_eq, beq_iff_eq] at this
  unfold opnB clsB
  rw [decide_eq_false_iff_not, decide_eq_false_iff_not]
  omega
theorem digit_plain {l : List Nat} (h : l.all digitB = true) : ∀ c ∈ l, opnB c = false ∧ clsB c = false := fun c hc => by
  have := List.all_eq_true.1 h c hc
  unfold digitB at this
  rw [decide_eq_true_eq] at this
  unfold opnB clsB
  rw [decide_eq_false_iff_not, decide_eq_false_iff_not]
  omega
theorem bal_name {s : List Nat} (h : nameOk s = true) : BalE s := by
  unfold nameOk at h
  rw [Bool.and_eq_true] at h
  exact ⟨0, Bal.plain (name_plain (isName_facts h.1).2.2.2)⟩
theorem bal_digits (n : Nat) : BalE (digitsL n) := ⟨0, Bal.plain (digit_plain (digitsL_all n))⟩
theorem bal_join : ∀ (l : List (List Nat)), (∀ a ∈ l, BalE a) → BalE (joinW [44, 32] l)
  | [], _ => .plain rfl
  | [a], h => h a (by simp)
  | a :: b :: r, h => by
    have ih := bal_join (b :: r) fun x hx => h x (List.mem_cons_of_mem _ hx)
    rw [joinW]
    exact ((h a (by simp)).app (.plain (by decide))).app ih
theorem getD_map_T {p : Tree → List Nat} {l : List Tree} {i : Nat} (h : i < l.length) : (l.map p).getD i [] = p (l.getD i Tree.no) ∧ l.getD i Tree.no ∈ l :=
  ⟨map_getD h, kid_mem h⟩
theorem bal_expr : ∀ (f : Nat) (t : Tree), exprF f t = true → BalE (exprT t)
  | 0, t, h => by rw [exprF] at h; cases h
  | f + 1, t, h => by
    have ih := bal_expr f
    rw [exprT_eq]
    unfold exprW
    rw [exprF] at h
    by_cases h14 : t.kind = 14
    · rw [if_pos h14]; exact bal_digits _
    rw [if_neg h14] at h ⊢
    by_cases h15 : t.kind = 15
    · rw [if_pos h15] at h ⊢; exact bal_name (of_decide_eq_true h).1
    rw [if_neg h15] at h ⊢
    by_cases h16 : t.kind = 16
    · rw [if_pos h16] at h ⊢
      have h := of_decide_eq_true h
      have ht : BalE t.text := by
        rcases h.1 with h | h | h | h
        · exact bal_name h
        all_goals (rw [h]; exact .plain (by decide))
      have hj : BalE (joinW [44, 32] (t.kids.map exprT)) := bal_join _ fun a ha => by
        obtain ⟨u, hu, rfl⟩ := List.mem_map.1 ha
        exact ih u (List.all_eq_true.1 h.2.2 u hu)
      have := ht.app (hj.brk (o := 40) (c := 41) (by decide) (by decide))
      simpa only [List.append_assoc] using this
    rw [if_neg h16] at h ⊢
    by_cases h18 : t.kind = 18
    · rw [if_pos h18]
      rw [if_neg (by omega), if_pos h18] at h
      have h := of_decide_eq_true h
      have hj : BalE (joinW [44, 32] (t.kids.map exprT)) := bal_join _ fun a ha => by
        obtain ⟨u, hu, rfl⟩ := List.mem_map.1 ha
        exact ih u (List.all_eq_true.1 h.2.2.2 u hu)
      exact hj.brk (by decide) (by decide)
    rw [if_neg h18]
    by_cases h19 : t.kind = 19
    · rw [if_pos h19]
      rw [if_neg (by omega), if_neg (by omega), if_pos h19] at h
      have h := of_decide_eq_true h
      rw [(getD_map_T (p := exprT) (show 0 < t.kids.length by omega)).1]
      refine BalE.app ?_ (ih _ h.2.2.2)
      rcases h.1 with h | h <;> (rw [h]; exact .plain (by decide))
    rw [if_neg h19]
    by_cases h20 : t.kind = 20
    · rw [if_pos h20]
      rw [if_neg (by omega), if_neg (by omega), if_neg (by omega), if_pos h20] at h
      have h := of_decide_eq_true h
      obtain ⟨e0, m0⟩ := getD_map_T (p := exprT) (l := t.kids) (i := 0) (by omega)
      obtain ⟨e1, m1⟩ := getD_map_T (p := exprT) (l := t.kids) (i := 1) (by omega)
      have k0 := ih _ (List.all_eq_true.1 h.2.2.2 _ m0)
      have k1 := ih _ (List.all_eq_true.1 h.2.2.2 _ m1)
      have ht : BalE t.text := by
        have := of_decide_eq_true h.1
        simp only [signsL, List.mem_cons, List.not_mem_nil, or_false] at this
        rcases this with h | h | h | (h | h) | (h | h) | h <;> (rw [h]; exact .plain (by decide))
      rw [e0, e1]
      have := (k0.app ((BalE.plain (l := [32]) (by decide)).app (ht.app ((BalE.plain (l := [32]) (by decide)).app k1)))).brk (o := 40) (c := 41) (by decide) (by decide)
      simpa only [List.append_assoc] using this
    rw [if_neg h20]
    by_cases h17 : t.kind = 17
    · rw [if_pos h17] at h
      have h := of_decide_eq_true h
      obtain ⟨e0, m0⟩ := getD_map_T (p := exprT) (l := t.kids) (i := 0) (by omega)
      obtain ⟨e1, m1⟩ := getD_map_T (p := exprT) (l := t.kids) (i := 1) (by omega)
      have k0 := ih _ (List.all_eq_true.1 h.2.2.2 _ m0)
      have k1 := ih _ (List.all_eq_true.1 h.2.2.2 _ m1)
      rw [e0, e1]
      split
      · have := (k0.brk (o := 40) (c := 41) (by decide) (by decide)).app (k1.brk (o := 91) (c := 93) (by decide) (by decide))
        simpa only [List.append_assoc, List.cons_append, List.nil_append] using this
      · have := k0.app (k1.brk (o := 91) (c := 93) (by decide) (by decide))
        simpa only [List.append_assoc] using this
    rw [if_neg h17, if_neg h18, if_neg h19, if_neg h20] at h
    cases h
theorem bal_type (t : Tree) : BalE (typeT t) := by
  unfold typeT
  refine BalE.app ?_ ?_
  · split
    · exact .plain (by decide)
    split
    · exact (BalE.plain (by decide)).app (bal_digits _)
    · exact .plain (by decide)
  · split
    · exact (bal_digits _).brk (by decide) (by decide)
    · exact .plain (by decide)
theorem bal_arg {t : Tree} (h : argB t = true) : BalE (argT t) := ((bal_name (of_decide_eq_true h).2.1).app (.plain (by decide))).app (bal_type _)
theorem bal_rep (n : Nat) : BalE (List.replicate n 32) := ⟨0, Bal.plain fun c hc => by rw [(List.mem_replicate.1 hc).2]; decide⟩
theorem bal_line {d : Nat} {q : List Nat} (h : BalE q) : BalE (lineN d q) := ((bal_rep _).app h).app (.plain (by decide))
theorem bal_lines {d : Nat} : ∀ {l : List Tree}, (∀ u ∈ l, BalE (textL d (itemT u))) → BalE (textL d (linesL l))
  | [], _ => .plain rfl
  | a :: r, h => by
    rw [linesL, textL_app]
    exact (h a (by simp)).app (bal_lines fun u hu => h u (List.mem_cons_of_mem _ hu))
/-- a head line, a block, a line that closes it -/
theorem bal_block {d : Nat} {q body : List Nat} {tail : List Nat} (hq : BalE q) (hb : BalE body) (ht : BalE tail) : BalE (lineN d (q ++ [32, 123]) ++ body ++ (List.replicate (2 * d) 32 ++ [125]) ++ tail) := by
  have := (((bal_rep (2 * d)).app (hq.app (BalE.plain (l := [32]) (by decide)))).app ((((BalE.plain (l := [10]) (by decide)).app hb).app (bal_rep (2 * d))).brk (o := 123) (c := 125) (by decide) (by decide))).app ht
  simpa only [lineN, List.append_assoc, List.cons_append, List.nil_append] using this
theorem bal_item : ∀ (f d : Nat) (t : Tree), itemF f t = true → BalE (textL d (itemT t))
  | 0, d, t, h => by rw [itemF] at h; cases h
  | f + 1, d, t, h => by
    have ih := bal_item f
    have hB : ∀ i, i < t.kids.length → blockB (itemF f) (t.kids.getD i Tree.no) = true → BalE (textL (d + 1) ((t.kids.map blockT).getD i [])) := fun i hi hb => by
      rw [mapB_getD hi, blockT_eq]
      exact bal_lines fun u hu => ih (d + 1) u (List.all_eq_true.1 (of_decide_eq_true hb).2.2.2 u hu)
    rw [itemT_eq]
    unfold itemW
    rw [itemF] at h
    by_cases h2 : t.kind = 2
    · rw [if_pos h2] at h ⊢
      rw [textL_one]
      exact bal_line ((((((BalE.plain (by decide)).app (bal_name (of_decide_eq_true h).1)).app (.plain (by decide))).app (bal_type _)).app (.plain (by decide))).app (bal_digits _) |>.app (.plain (by decide)))
    rw [if_neg h2] at h ⊢
    by_cases h3 : t.kind = 3
    · rw [if_pos h3] at h ⊢
      have h := of_decide_eq_true h
      rw [textL_one]
      exact bal_line (((((BalE.plain (by decide)).app (bal_name h.1)).app (.plain (by decide))).app (bal_expr f _ h.2.2.2)).app (.plain (by decide)))
    rw [if_neg h3] at h ⊢
    by_cases h4 : t.kind = 4
    · rw [if_pos h4] at h ⊢
      have h := of_decide_eq_true h
      rw [textL_one]
      exact bal_line ((((bal_name h.1).app (.plain (by decide))).app (bal_expr f _ h.2.2.2)).app (.plain (by decide)))
    rw [if_neg h4] at h ⊢
    by_cases h5 : t.kind = 5
    · rw [if_pos h5] at h ⊢
      have h := of_decide_eq_true h
      have hl := List.all_eq_true.1 h.2.2.2
      rw [textL_one]
      have := (bal_name h.1).app (((bal_expr f _ (hl _ (kid_mem (i := 0) (by omega)))).brk (o := 91) (c := 93) (by decide) (by decide)).app ((BalE.plain (l := [32, 61, 32]) (by decide)).app ((bal_expr f _ (hl _ (kid_mem (i := 1) (by omega)))).app (BalE.plain (l := [59]) (by decide)))))
      exact bal_line (by simpa only [List.append_assoc, List.cons_append, List.nil_append] using this)
    rw [if_neg h5] at h ⊢
    by_cases h6 : t.kind = 6
    · rw [if_pos h6] at h ⊢
      have h := of_decide_eq_true h
      have hl := List.all_eq_true.1 h.2.2.2.2
      have hm : ∀ i, 0 < i → i < 3 → blockB (itemF f) (t.kids.getD i Tree.no) = true := fun i h0 hi => hl _ (by
        have e : t.kids.getD i Tree.no = (t.kids.drop 1).getD (i - 1) Tree.no := by rw [drop_getD, show 1 + (i - 1) = i by omega]
        rw [e]; exact kid_mem (by rw [List.length_drop]; omega))
      have k0 := bal_expr f _ h.2.2.2.1
      have b1 := hB 1 (by omega) (hm 1 (by omega) (by omega))
      have b2 := hB 2 (by omega) (hm 2 (by omega) (by omega))
      have q0 : BalE ([105, 102, 32] ++ exprT (t.kids.getD 0 Tree.no)) := (BalE.plain (by decide)).app k0
      rw [textL_app, textL_app, textL_app, textL_one, textL_one, textL_deep]
      split
      · rw [textL_app, textL_one, textL_deep]
        have h1 := (((BalE.plain (l := [10]) (by decide)).app b2).app (bal_rep (2 * d))).brk (o := 123) (c := 125) (by decide) (by decide)
        have := bal_block (d := d) q0 b1 ((BalE.plain (l := [32, 101, 108, 115, 101, 32]) (by decide)).app (h1.app (BalE.plain (l := [10]) (by decide))))
        simpa only [lineN, List.append_assoc, List.cons_append, List.nil_append] using this
      · have := bal_block (d := d) q0 b1 (BalE.plain (l := [10]) (by decide))
        simpa only [lineN, textL_nil, List.append_assoc, List.cons_append, List.nil_append] using this
    rw [if_neg h6] at h ⊢
    by_cases h7 : t.kind = 7
    · rw [if_pos h7] at h ⊢
      have h := of_decide_eq_true h
      have hl := List.all_eq_true.1 h.2.2.2.1
      have hm : ∀ i, i < 2 → exprF f (t.kids.getD i Tree.no) = true := fun i hi => hl _ (by
        rw [← take_getD (l := t.kids) (i := 2) hi]; exact kid_mem (by rw [List.length_take]; omega))
      have q0 : BalE ([102, 111, 114, 32] ++ t.text ++ [32, 61, 32] ++ exprT (t.kids.getD 0 Tree.no) ++ [32, 116, 111, 32] ++ exprT (t.kids.getD 1 Tree.no)) := (((((BalE.plain (by decide)).app (bal_name h.1)).app (.plain (by decide))).app (bal_expr f _ (hm 0 (by omega)))).app (.plain (by decide))).app (bal_expr f _ (hm 1 (by omega)))
      have := bal_block (d := d) q0 (hB 2 (by omega) h.2.2.2.2) (BalE.plain (l := [10]) (by decide))
      rw [textL_app, textL_app, textL_one, textL_one, textL_deep]
      simpa only [lineN, List.append_assoc, List.cons_append, List.nil_append] using this
    rw [if_neg h7] at h ⊢
    by_cases h8 : t.kind = 8
    · rw [if_pos h8] at h ⊢
      have h := of_decide_eq_true h
      rw [textL_one]
      refine bal_line (((((BalE.plain (by decide)).app (bal_expr f _ h.2.2.2.1)).app (.plain (by decide))).app ?_).app (.plain (by decide)))
      split
      · refine bal_join _ fun a ha => ?_
        obtain ⟨u, hu, rfl⟩ := List.mem_map.1 ha
        exact bal_digits _
      · exact .plain (by decide)
    rw [if_neg h8] at h ⊢
    by_cases h9 : t.kind = 9
    · rw [if_pos h9] at h
      have h := of_decide_eq_true h
      have hj : BalE (joinW [44, 32] ((t.kids.take (t.kids.length - 2)).map argT)) := bal_join _ fun a ha => by
        obtain ⟨u, hu, rfl⟩ := List.mem_map.1 ha
        exact bal_arg (List.all_eq_true.1 h.2.2.2.1 u hu)
      have q0 := (BalE.plain (l := [100, 101, 102, 32]) (by decide)).app ((bal_name h.1).app (hj.brk (o := 40) (c := 41) (by decide) (by decide)))
      have q1 : BalE ([114, 101, 116, 117, 114, 110, 32] ++ exprT (t.kids.getD (t.kids.length - 1) Tree.no) ++ [59]) := ((BalE.plain (by decide)).app (bal_expr f _ h.2.2.2.2.2)).app (.plain (by decide))
      have := bal_block (d := d) q0 ((hB _ (by omega) h.2.2.2.2.1).app (bal_line (d := d + 1) q1)) (BalE.plain (l := [10]) (by decide))
      rw [textL_app, textL_app, textL_app, textL_one, textL_one, textL_one, textL_deep]
      have e := lineN_deep d ([114, 101, 116, 117, 114, 110, 32] ++ exprT (t.kids.getD (t.kids.length - 1) Tree.no) ++ [59])
      simp only [List.append_assoc, List.cons_append, List.nil_append] at e
      simp only [List.append_assoc, List.cons_append, List.nil_append]
      rw [e]
      simpa only [lineN, List.append_assoc, List.cons_append, List.nil_append] using this
    rw [if_neg h9] at h
    cases h
theorem bal_prog {f : Nat} {t : Tree} (h : t.kids.all (itemF f) = true) : BalE (progT t) := bal_lines fun u hu => bal_item f 0 u (List.all_eq_true.1 h u hu)

/-! ## What open tells -/
def stepI (n : Int) (c : Nat) : Int := if opnB c = true then n + 1 else if clsB c = true then n - 1 else n
/-- how many brackets are open at most -/
def openI : Int → Int → List Nat → Int
  | _, most, [] => most
  | n, most, c :: r => openI (stepI n c) (max most (stepI n c)) r
theorem opn_not_cls {c : Nat} (h : opnB c = true) : clsB c = false := by
  unfold opnB at h; unfold clsB
  rw [decide_eq_true_eq] at h
  rw [decide_eq_false_iff_not]; omega
theorem openI_of {n e m : Nat} {l : List Nat} (h : Hi n l e m) : ∀ mo : Int, (n : Int) ≤ mo → openI n mo l = max mo m := by
  induction h with
  | nil => intro mo hm; rw [openI]; omega
  | opn hc h ih =>
    rename_i n _ _ _ _
    intro mo hm
    have := h.le
    rw [openI, stepI, if_pos hc]
    have e := ih (max mo ((n : Int) + 1)) (by push_cast; omega)
    push_cast at e
    rw [e]; omega
  | cls hc h ih =>
    rename_i n _ _ c _
    intro mo hm
    have hno : ¬ opnB c = true := fun h => by rw [opn_not_cls h] at hc; cases hc
    rw [openI, stepI, if_neg hno, if_pos hc]
    have e := ih (max mo (n : Int)) (by omega)
    rw [show (((n + 1 : Nat) : Int) - 1) = (n : Int) by omega, e]; push_cast; omega
  | oth h1 h2 h ih =>
    intro mo hm
    rw [openI, stepI, if_neg (by rw [h1]; decide), if_neg (by rw [h2]; decide), Int.max_eq_left hm]
    exact ih mo hm
theorem openI_bal {l : List Nat} {h : Nat} (hb : Bal l h) : openI 0 0 l = (h : Int) := by
  have := openI_of (hb 0) 0 (Int.le_refl _)
  rw [show ((0 : Nat) : Int) = 0 from rfl] at this
  rw [this]; omega

/-! ## Tokens and bytes -/
/-- a gap holds no bracket -/
def PlainG : List Pc → Prop
  | [] => True
  | .g l :: r => (∀ c ∈ l, opnB c = false ∧ clsB c = false) ∧ PlainG r
  | .t _ _ :: r => PlainG r
theorem Hi.split {n e m : Nat} : ∀ {a b : List Nat}, Hi n (a ++ b) e m → (∀ c ∈ a, opnB c = false ∧ clsB c = false) → Hi n b e m
  | [], b, h, _ => h
  | c :: a, b, h, hp => by
    have hc := hp c (by simp)
    have hp' : ∀ c ∈ a, opnB c = false ∧ clsB c = false := fun d hd => hp d (List.mem_cons_of_mem _ hd)
    rw [List.cons_append] at h
    cases h with
    | opn h1 h2 => rw [hc.1] at h1; cases h1
    | cls h1 h2 => rw [hc.2] at h1; cases h1
    | oth _ _ h2 => exact h2.split hp'
theorem tok_plain {k : Int} {s : List Nat} (h : tokB k s = true) : (∀ c ∈ s, opnB c = false ∧ clsB c = false) ∨ ∃ c, s = [c] := by
  rcases tok_cases h with ⟨rfl, hk⟩ | ⟨rfl, hk⟩ | ⟨rfl, hk⟩
  · exact .inl (name_plain (isName_facts hk).2.2.2)
  · exact .inl (digit_plain (numE_zero hk).2.1)
  · rcases sign_cases hk with rfl | ⟨c, rfl, _⟩
    · exact .inl (by decide)
    · exact .inr ⟨c, rfl⟩
theorem step_plain {s : List Nat} (n : Nat) (h : ∀ c ∈ s, opnB c = false ∧ clsB c = false) : stepO n s = n := by
  have hne : ∀ c, (opnB c = true ∨ clsB c = true) → s ≠ [c] := fun c hc e => by
    have := h c (by rw [e]; simp)
    rw [this.1, this.2] at hc
    rcases hc with hc | hc <;> cases hc
  unfold stepO
  rw [if_neg (fun e => by rcases e with e | e | e <;> exact hne _ (by decide) e), if_neg (fun e => by rcases e with e | e | e <;> exact hne _ (by decide) e)]
theorem step_one (n c : Nat) : stepO n [c] = if opnB c = true then n + 1 else if clsB c = true then n - 1 else n := by
  unfold stepO opnB clsB
  simp only [List.cons.injEq, and_true, decide_eq_true_eq]
theorem open_pieces (N : Nat) : ∀ (ps : List Pc) {z : List Nat} {n e m : Nat}, OkP ps z → PlainG ps → Hi n (flat ps) e m → n ≤ 200 → (m ≤ 200 → openAt n (TN N ps) = none) ∧ (200 < m → ∃ q, openAt n (TN N ps) = some q)
  | [], z, n, e, m, _, _, h, hn => by
    rw [flat_nil] at h
    cases h
    exact ⟨fun _ => rfl, fun h => by omega⟩
  | .g l :: r, z, n, e, m, ho, hg, h, hn => by
    rw [flat_cons] at h
    exact open_pieces N r ho.2 hg.2 (h.split hg.1) hn
  | .t k s :: r, z, n, e, m, ho, hg, h, hn => by
    rw [flat_cons] at h
    have h : Hi n (s ++ flat r) e m := h
    rw [TN, openAt]
    rcases tok_plain ho.1 with hp | ⟨c, rfl⟩
    · rw [step_plain n hp, if_neg (by omega)]
      exact open_pieces N r ho.2.2 hg (h.split hp) hn
    · rw [step_one]
      rw [List.singleton_append] at h
      cases h with
      | opn h1 h2 =>
        rw [if_pos h1]
        have hle := h2.le
        by_cases h200 : 200 < n + 1
        · rw [if_pos h200]
          exact ⟨fun h => by omega, fun _ => ⟨_, rfl⟩⟩
        · rw [if_neg h200]
          exact open_pieces N r ho.2.2 hg h2 (by omega)
      | cls h1 h2 =>
        rename_i n' m'
        have hno : ¬ opnB c = true := fun h => by rw [opn_not_cls h] at h1; cases h1
        rw [if_neg hno, if_pos h1, show n' + 1 - 1 = n' by omega, if_neg (by omega)]
        obtain ⟨a, b⟩ := open_pieces N r ho.2.2 hg h2 (by omega)
        exact ⟨fun h => a (by omega), fun h => b (by omega)⟩
      | oth h1 h3 h2 =>
        rw [if_neg (show ¬ opnB c = true by rw [h1]; decide), if_neg (show ¬ clsB c = true by rw [h3]; decide), if_neg (by omega)]
        exact open_pieces N r ho.2.2 hg h2 hn
end Go.Proofs.YtngpedcihajepaaGreatDoor.M
namespace Go.Proofs.YtngpedcihajepaaGreatDoor
namespace M
set_option linter.unusedVariables false
set_option linter.unusedSimpArgs false
theorem PlainG.app : ∀ {a b : List Pc}, PlainG a → PlainG b → PlainG (a ++ b)
  | [], b, _, h => h
  | .g l :: r, b, h, h2 => ⟨h.1, PlainG.app h.2 h2⟩
  | .t k s :: r, b, h, h2 => PlainG.app (a := r) h h2
theorem plain_bl {r : List Pc} (h : PlainG r) : PlainG (bl :: r) := ⟨by decide, h⟩
theorem plain_getD {s : List (List Pc)} (h : ∀ a ∈ s, PlainG a) (i : Nat) : PlainG (s.getD i []) := by
  rw [List.getD_eq_getElem?_getD]
  cases e : s[i]? with
  | none => trivial
  | some a => exact h a (List.mem_of_getElem? e)
theorem plain_join : ∀ {s : List (List Pc)}, (∀ a ∈ s, PlainG a) → PlainG (joinP s)
  | [], _ => trivial
  | [a], h => h a (by simp)
  | a :: b :: r, h => by
    have ih := plain_join (s := b :: r) fun x hx => h x (List.mem_cons_of_mem _ hx)
    rw [joinP]
    exact PlainG.app (PlainG.app (h a (by simp)) (show PlainG (sg 44 :: bl :: []) from plain_bl trivial)) ih
theorem plain_exprPW (k : Int) (tx : List Nat) (n : Nat) (ks : Int) (s : List (List Pc)) (h : ∀ a ∈ s, PlainG a) : PlainG (exprPW k tx n ks s) := by
  have t0 : ∀ k s, PlainG [Pc.t k s] := fun _ _ => trivial
  unfold exprPW
  split
  · trivial
  split
  · trivial
  split
  · exact PlainG.app (PlainG.app (show PlainG [nm tx, sg 40] from trivial) (plain_join h)) (t0 _ _)
  split
  · exact PlainG.app (PlainG.app (t0 _ _) (plain_join h)) (t0 _ _)
  split
  · exact PlainG.app (t0 _ _) (plain_getD h 0)
  split
  · exact PlainG.app (PlainG.app (PlainG.app (PlainG.app (t0 _ _) (plain_getD h 0)) (show PlainG (bl :: .t 3 tx :: bl :: []) from plain_bl (plain_bl (r := []) trivial))) (plain_getD h 1)) (t0 _ _)
  split
  · exact PlainG.app (PlainG.app (PlainG.app (PlainG.app (t0 _ _) (plain_getD h 0)) (show PlainG [sg 41, sg 91] from trivial)) (plain_getD h 1)) (t0 _ _)
  · exact PlainG.app (PlainG.app (PlainG.app (plain_getD h 0) (t0 _ _)) (plain_getD h 1)) (t0 _ _)
mutual
theorem plain_exprP : ∀ t : Tree, PlainG (exprP t)
  | .node k tx n l => by rw [exprP]; exact plain_exprPW _ _ _ _ _ (plain_exprPL l)
theorem plain_exprPL : ∀ (l : List Tree), ∀ a ∈ exprPL l, PlainG a
  | [], a, h => by rw [exprPL] at h; cases h
  | t :: r, a, h => by
    rw [exprPL] at h
    rcases List.mem_cons.1 h with rfl | h
    · exact plain_exprP t
    · exact plain_exprPL r a h
end
theorem plain_typeP (t : Tree) : PlainG (typeP t) := by
  unfold typeP
  refine PlainG.app ?_ ?_
  · split
    · trivial
    split
    · show PlainG (bl :: nu _ :: []); exact plain_bl trivial
    · trivial
  · split <;> trivial
theorem plain_argP (t : Tree) : PlainG (argP t) := PlainG.app (show PlainG (bl :: []) from plain_bl trivial) (plain_typeP _)
theorem plain_line {d : Nat} {ps : List Pc} (h : PlainG ps) : PlainG (lineP d ps) := PlainG.app (PlainG.app (show PlainG [.g _] from ⟨fun c hc => by rw [(List.mem_replicate.1 hc).2]; decide, trivial⟩) h) (show PlainG [.g [10]] from ⟨by decide, trivial⟩)
theorem plain_itemPW (d : Nat) (k : Int) (tx : List Nat) (n : Nat) (l : List Tree) (b : List (List Pc)) (h : ∀ i, PlainG (b.getD i [])) : PlainG (itemPW d k tx n l b) := by
  have hj : PlainG (joinP ((l.drop 1).map fun t => [nu t.num])) := plain_join fun a ha => by
    obtain ⟨u, _, rfl⟩ := List.mem_map.1 ha
    trivial
  have ha : PlainG (joinP ((l.take (l.length - 2)).map argP)) := plain_join fun a ha => by
    obtain ⟨u, _, rfl⟩ := List.mem_map.1 ha
    exact plain_argP u
  unfold itemPW
  split
  · exact plain_line (PlainG.app (PlainG.app (by simp [PlainG, nm, bl, sg, nu, opnB, clsB]) (plain_typeP _)) (by simp [PlainG, nm, bl, sg, nu, opnB, clsB]))
  split
  · exact plain_line (PlainG.app (PlainG.app (by simp [PlainG, nm, bl, sg, nu, opnB, clsB]) (plain_exprP _)) (by simp [PlainG, nm, bl, sg, nu, opnB, clsB]))
  split
  · exact plain_line (PlainG.app (PlainG.app (by simp [PlainG, nm, bl, sg, nu, opnB, clsB]) (plain_exprP _)) (by simp [PlainG, nm, bl, sg, nu, opnB, clsB]))
  split
  · exact plain_line (PlainG.app (PlainG.app (PlainG.app (PlainG.app (by simp [PlainG, nm, bl, sg, nu, opnB, clsB]) (plain_exprP _)) (by simp [PlainG, nm, bl, sg, nu, opnB, clsB])) (plain_exprP _)) (by simp [PlainG, nm, bl, sg, nu, opnB, clsB]))
  split
  · refine PlainG.app (PlainG.app (PlainG.app (plain_line (PlainG.app (PlainG.app (by simp [PlainG, nm, bl, sg, nu, opnB, clsB]) (plain_exprP _)) (by simp [PlainG, nm, bl, sg, nu, opnB, clsB]))) (h 1)) ?_) (plain_line (by simp [PlainG, nm, bl, sg, nu, opnB, clsB]))
    split
    · exact PlainG.app (plain_line (by simp [PlainG, nm, bl, sg, nu, opnB, clsB])) (h 2)
    · trivial
  split
  · exact PlainG.app (PlainG.app (plain_line (PlainG.app (PlainG.app (PlainG.app (PlainG.app (by simp [PlainG, nm, bl, sg, nu, opnB, clsB]) (plain_exprP _)) (by simp [PlainG, nm, bl, sg, nu, opnB, clsB])) (plain_exprP _)) (by simp [PlainG, nm, bl, sg, nu, opnB, clsB]))) (h 2)) (plain_line (by simp [PlainG, nm, bl, sg, nu, opnB, clsB]))
  split
  · refine plain_line (PlainG.app (PlainG.app (PlainG.app (PlainG.app (by simp [PlainG, nm, bl, sg, nu, opnB, clsB]) (plain_exprP _)) (by simp [PlainG, nm, bl, sg, nu, opnB, clsB])) ?_) (by simp [PlainG, nm, bl, sg, nu, opnB, clsB]))
    split
    · exact hj
    · trivial
  · exact PlainG.app (PlainG.app (PlainG.app (plain_line (PlainG.app (PlainG.app (by simp [PlainG, nm, bl, sg, nu, opnB, clsB]) ha) (by simp [PlainG, nm, bl, sg, nu, opnB, clsB]))) (h _)) (plain_line (PlainG.app (PlainG.app (by simp [PlainG, nm, bl, sg, nu, opnB, clsB]) (plain_exprP _)) (by simp [PlainG, nm, bl, sg, nu, opnB, clsB])))) (plain_line (by simp [PlainG, nm, bl, sg, nu, opnB, clsB]))
mutual
theorem plain_itemP : ∀ (d : Nat) (t : Tree), PlainG (itemP d t)
  | d, .node k tx n l => by rw [itemP]; exact plain_itemPW _ _ _ _ _ _ (plain_blocksP (d + 1) l)
theorem plain_blocksP : ∀ (d : Nat) (l : List Tree) (i : Nat), PlainG ((blocksP d l).getD i [])
  | d, [], i => by rw [blocksP]; trivial
  | d, t :: r, 0 => by rw [blocksP, List.getD_cons_zero]; exact plain_blockP d t
  | d, t :: r, i + 1 => by rw [blocksP, List.getD_cons_succ]; exact plain_blocksP d r i
theorem plain_blockP : ∀ (d : Nat) (t : Tree), PlainG (blockP d t)
  | d, .node _ _ _ l => by rw [blockP]; exact plain_linesP d l
theorem plain_linesP : ∀ (d : Nat) (l : List Tree), PlainG (linesP d l)
  | d, [] => by rw [linesP]; trivial
  | d, t :: r => by rw [linesP]; exact PlainG.app (plain_itemP d t) (plain_linesP d r)
end
/-- of pieces whose tokens are a program -/
theorem parseR_pieces (N : Nat) {ps : List Pc} {t : Tree} (hb : Ev fun f => pProgram f (T ps) = .ok t []) (ho : openAt 0 (TN N ps) = none) (hs : sizeE t = 0) : parseR N (TN N ps) = (t, 0, 0) := by
  obtain ⟨f0, hb⟩ := hb
  have e1 := program_of (hb f0 (Nat.le_refl _))
  have hT : (TN N ps).map er = T ps := T_er (TN_toks N ps)
  have hl : (TN N ps).length = (T ps).length := by rw [← hT, List.length_map]
  have e2 := program_er (fuel (TN N ps).length) (TN N ps)
  rw [hT, hl, e1] at e2
  unfold parseR
  rw [ho]
  dsimp only
  rw [hl]
  cases x : pProgram (fuel (T ps).length) (TN N ps) with
  | ok t' r =>
    rw [x] at e2
    simp only [Res.er, Res.ok.injEq] at e2
    obtain ⟨rfl, _⟩ := e2
    dsimp only
    rw [if_pos hs]
  | bad r => rw [x] at e2; cases e2
  | out => rw [x] at e2; cases e2
theorem check_zero {t : Tree} (h : checkE t = 0) : t.kind = 1 ∧ t.text = [] ∧ t.num = 0 ∧ t.kids.all (itemF (count t)) = true ∧ count t ≤ 20000 ∧ deep t ≤ 60 := by
  unfold checkE at h
  split at h
  · rename_i h1
    split at h
    · cases h
    · exact ⟨h1.1, h1.2.1, h1.2.2.1, h1.2.2.2, by omega, by omega⟩
  · cases h
theorem check_of {t : Tree} (h1 : t.kind = 1) (h2 : t.text = []) (h3 : t.num = 0) (h4 : t.kids.all (itemF (count t)) = true) (h5 : sizeE t = 0) : checkE t = 0 := by
  unfold checkE
  rw [if_pos ⟨h1, h2, h3, h4⟩]
  exact h5
end M
open M in
/-- the text of a program is parsed as the program -/
theorem parse_prog {t : M.Tree} (hc : checkE t = 0) (hl : (progT t).length ≤ 20000) : ∃ h : Nat, Bal (progT t) h ∧ (h ≤ 200 → ParseIs (progT t) t 0 0) ∧ (200 < h → ∃ q, ParseIs (progT t) Tree.no q 3) := by
  obtain ⟨h1, h2, h3, h4, h5, h6⟩ := check_zero hc
  obtain ⟨h, hb⟩ := bal_prog h4
  have hf : flat (linesP 0 t.kids) = progT t := flat_linesP 0 t.kids
  have ho : OkP (linesP 0 t.kids) [] := ok_lines (fun u hu => ok_item _ 0 u (List.all_eq_true.1 h4 u hu)) []
  have hr : Reads (progT t).length (skipL (progT t)) (TN (progT t).length (linesP 0 t.kids)) 0 0 := by
    have := reads_at (progT t).length _ ho
    rw [hf] at this
    exact this
  have hi := hb 0
  rw [← hf] at hi
  have hop := open_pieces (progT t).length (linesP 0 t.kids) ho (plain_linesP 0 t.kids) hi (by omega)
  rw [Nat.zero_add] at hop
  refine ⟨h, hb, fun h200 => ⟨_, 0, 0, .inr ⟨hl, hr⟩, ?_⟩, fun h200 => ?_⟩
  · rw [if_pos rfl, parseR_pieces _ (back_program h1 h2 h3 h4) (hop.1 h200) (by unfold sizeE; rw [if_neg (by omega)])]
  · obtain ⟨q, hq⟩ := hop.2 h200
    refine ⟨q, _, 0, 0, .inr ⟨hl, hr⟩, ?_⟩
    rw [if_pos rfl]
    unfold parseR
    rw [hq]
/-- what Parse answers is a program -/
theorem ParseIs.check {L : List Nat} {t : M.Tree} {a : Nat} (h : ParseIs L t a 0) : M.checkE t = 0 := by
  obtain ⟨ts, p, e, hr, h⟩ := h
  split at h
  · rename_i he
    subst he
    rcases hr with ⟨_, _, _, he⟩ | ⟨_, hr⟩
    · cases he
    · unfold M.parseR at h
      split at h
      · simp at h
      · split at h
        · rename_i t' r hp
          split at h
          · rename_i hs
            simp only [Prod.mk.injEq] at h
            obtain ⟨rfl, _, _⟩ := h
            obtain ⟨h1, h2, h3, h4⟩ := M.program_gd hr.toks hp
            exact M.check_of h1 h2 h3 h4 hs
          · rename_i hs
            simp only [Prod.mk.injEq] at h
            exact absurd h.2.2.symm hs
        · simp at h
        · rename_i hp
          exact absurd hp (M.program_fin ts)
  · rename_i he
    simp only [Prod.mk.injEq] at h
    exact absurd h.2.2.symm he
/-- where Parse answers an error, it answers no tree -/
theorem ParseIs.none {L : List Nat} {t : M.Tree} {a : Nat} {E : Int} (h : ParseIs L t a E) (hE : E ≠ 0) : t = M.Tree.no := by
  obtain ⟨ts, p, e, hr, h⟩ := h
  split at h
  · unfold M.parseR at h
    split at h
    · simp only [Prod.mk.injEq] at h; exact h.1
    · split at h
      · split at h
        · simp only [Prod.mk.injEq] at h; exact absurd h.2.2 hE
        · simp only [Prod.mk.injEq] at h; exact h.1
      · simp only [Prod.mk.injEq] at h; exact h.1
      · simp only [Prod.mk.injEq] at h; exact h.1
  · simp only [Prod.mk.injEq] at h; exact h.1
end Go.Proofs.YtngpedcihajepaaGreatDoor
