/-
  Merged out of the texts Ha9 Hc9 Hb9 Hd9 He9 Hg9 Hh9 Hi9.
-/
import Derived.WalkKit
import Derived.ProofKit
import Derived.ChangeMaps5
import Derived.Test.YtngpedcihajepaaGreatDoorProg
import Derived.Deep.RegionHeld3
import Derived.Still
import Derived.WalkSpells
import Derived.WalkLawsBesides
import Derived.Lib.Hide
import Derived.Below
import Derived.Deep.QuietTactic
import Derived.BigQuiet
import Derived.Lib.MinMax
import Derived.Test.YtngpedcihajepaaGreatDoorShelf
import Derived.Deep.LoopGhost
import Derived.Shelf.LaysM
import Derived.Shelf.Strconv.Itoa1
import Derived.Shelf.Strconv.Itoa2
import Derived.Lib.Walk
import Derived.Lib.ItoaMem
import Derived.BigCall
import Derived.BigGuard
import Derived.Lib.Builder
import Derived.Lib.AppendStr
import Derived.Lib.UnsafeStr
import Derived.Laws.Externs
import Derived.OwnWalk
import Derived.Lib.MakeNoZero
import Derived.Laws.IdiomCopy
import Derived.Laws.BitsLemmas
import Derived.Shelf.Strings.BuilderX
import Derived.WalkSmall
import Derived.WalkMore
import Derived.Defers
import Derived.Recover
import Derived.Deep.AppendLies
import Derived.Maps.Own
import Derived.Maps.OwnOps
import Derived.Maps.Views
import Derived.Test.YtngpedcihajepaaGreatDoorBa1
import Derived.Test.YtngpedcihajepaaGreatDoorBa2
import Derived.Test.YtngpedcihajepaaGreatDoorBa3
import Derived.Test.YtngpedcihajepaaGreatDoorBa4
import Derived.Test.YtngpedcihajepaaGreatDoorBa5
import Derived.Test.YtngpedcihajepaaGreatDoorBa6
import Derived.Test.YtngpedcihajepaaGreatDoorBa7
import Derived.Test.YtngpedcihajepaaGreatDoorBa8
import Derived.Test.YtngpedcihajepaaGreatDoorBa9
import Derived.Test.YtngpedcihajepaaGreatDoorBa10
import Derived.Test.YtngpedcihajepaaGreatDoorBa11
import Derived.Test.YtngpedcihajepaaGreatDoorBa12
import Derived.Test.YtngpedcihajepaaGreatDoorBa13
import Derived.Test.YtngpedcihajepaaGreatDoorBa14
import Derived.Test.YtngpedcihajepaaGreatDoorBa15
import Derived.Test.YtngpedcihajepaaGreatDoorBa16
import Derived.Test.YtngpedcihajepaaGreatDoorBa17
import Derived.Test.YtngpedcihajepaaGreatDoorBk1
namespace Go.Proofs.YtngpedcihajepaaGreatDoor.M
set_option linter.unusedVariables false
theorem ends_nil : Ends [] := fun c h => by cases h
theorem ends_cons {c : Nat} {r : List Nat} (h : nameB c = false) (h2 : c ≠ 61) : Ends (c :: r) := fun d hd => by
  have : c = d := by simpa using hd
  subst this
  exact ⟨h, h2⟩
theorem TN_toks (N : Nat) : ∀ ps : List Pc, (TN N ps).map (fun t => (t.kind, t.text)) = toks ps
  | [] => rfl
  | .g _ :: r => by rw [TN, toks, TN_toks N r]
  | .t k s :: r => by rw [TN, toks, List.map_cons, TN_toks N r]
end Go.Proofs.YtngpedcihajepaaGreatDoor.M
namespace Go.Proofs.YtngpedcihajepaaGreatDoor.M
set_option linter.unusedVariables false
set_option linter.unusedSimpArgs false
theorem exprPL_map : ∀ l : List Tree, exprPL l = l.map exprP
  | [] => rfl
  | t :: r => by rw [exprPL, exprPL_map r]; rfl
theorem exprP_eq (t : Tree) : exprP t = exprPW t.kind t.text t.num (t.kids.getD 0 Tree.no).kind (t.kids.map exprP) := by
  cases t with
  | node k tx n l => rw [exprP, exprPL_map]; rfl
/-! ## Each piece ends where it should -/
theorem tok_name {s : List Nat} (h : nameOk s = true) : tokB 1 s = true := by
  unfold nameOk at h
  rw [Bool.and_eq_true] at h
  simp [tokB, h.1]
theorem tok_num {n : Nat} (h : n ≤ 4294967295) : tokB 2 (digitsL n) = true := by
  have := numE_digits n
  rw [if_neg (by omega)] at this
  simp [tokB, this]
theorem ok_b {r : List Pc} {z : List Nat} (h : OkP r z) : OkP (bl :: r) z := ⟨gap_blank (by decide), h⟩
theorem ok_s {c : Nat} {r : List Pc} {z : List Nat} (hc : c ∈ singles ∧ c ≠ 61) (h : OkP r z) : OkP (sg c :: r) z :=
  ⟨by simp [tokB, signB, hc.1], .inl (by simp [selfB, hc.2]), h⟩
theorem ok_n {s : List Nat} {r : List Pc} {z : List Nat} (hs : tokB 1 s = true) (hE : Ends (flat r ++ z)) (h : OkP r z) : OkP (nm s :: r) z := ⟨hs, .inr (.inl hE), h⟩
theorem ok_u {n : Nat} {r : List Pc} {z : List Nat} (hn : n ≤ 4294967295) (hE : Ends (flat r ++ z)) (h : OkP r z) : OkP (nu n :: r) z := ⟨tok_num hn, .inr (.inl hE), h⟩
theorem ok_q {r : List Pc} {z : List Nat} (hE : Ends (flat r ++ z)) (h : OkP r z) : OkP (sg 61 :: r) z := ⟨by decide, .inr (.inl hE), h⟩
theorem e_b {r : List Pc} {z : List Nat} : Ends (flat (bl :: r) ++ z) := by
  rw [flat_cons]; exact ends_cons (by decide) (by decide)
theorem e_s {c : Nat} {r : List Pc} {z : List Nat} (h : nameB c = false) (h2 : c ≠ 61) : Ends (flat (sg c :: r) ++ z) := by
  rw [flat_cons]; exact ends_cons h h2
theorem ok_join : ∀ (l : List (List Pc)), (∀ a ∈ l, OkE a) → OkE (joinP l)
  | [], _ => fun z _ => trivial
  | [a], h => h a (by simp)
  | a :: b :: r, h => fun z hz => by
    have ih := ok_join (b :: r) (fun x hx => h x (List.mem_cons_of_mem _ hx)) z hz
    rw [joinP, List.append_assoc]
    exact (h a (by simp)).app (e_s (by decide) (by decide)) (ok_s (by decide) (ok_b ih))
theorem getD_map_mem {p : Tree → List Pc} {l : List Tree} {i : Nat} (h : i < l.length) : (l.map p).getD i [] = p (l.getD i Tree.no) ∧ l.getD i Tree.no ∈ l := by
  constructor
  · rw [List.getD_eq_getElem?_getD, List.getElem?_map, List.getD_eq_getElem?_getD, List.getElem?_eq_getElem h]; rfl
  · rw [List.getD_eq_getElem?_getD, List.getElem?_eq_getElem h]; exact List.getElem_mem h
theorem op_self {s : List Nat} (h : opB s = true) : tokB 3 s = true ∧ selfB 3 s = true := by
  have h := of_decide_eq_true h
  simp only [signsL, List.mem_cons, List.not_mem_nil, or_false] at h
  rcases h with rfl | rfl | rfl | (rfl | rfl) | (rfl | rfl) | rfl <;> exact ⟨by decide, by decide⟩
theorem ok_expr : ∀ (f : Nat) (t : Tree), exprF f t = true → OkE (exprP t)
  | 0, t, h => by rw [exprF] at h; cases h
  | f + 1, t, h => fun z hz => by
    have ih := ok_expr f
    rw [exprP_eq]
    unfold exprPW
    rw [exprF] at h
    by_cases h14 : t.kind = 14
    · rw [if_pos h14] at h ⊢
      exact ok_u (of_decide_eq_true h).2.2.1 hz trivial
    rw [if_neg h14] at h ⊢
    by_cases h15 : t.kind = 15
    · rw [if_pos h15] at h ⊢
      exact ok_n (tok_name (of_decide_eq_true h).1) hz trivial
    rw [if_neg h15] at h ⊢
    by_cases h16 : t.kind = 16
    · rw [if_pos h16] at h ⊢
      have h := of_decide_eq_true h
      have ht : tokB 1 t.text = true := by
        rcases h.1 with h | h | h | h
        · exact tok_name h
        all_goals (rw [h]; decide)
      have hj : OkE (joinP (t.kids.map exprP)) := ok_join _ fun a ha => by
        obtain ⟨u, hu, rfl⟩ := List.mem_map.1 ha
        exact ih u (List.all_eq_true.1 h.2.2 u hu)
      rw [List.append_assoc]
      exact ok_n ht (e_s (by decide) (by decide)) (ok_s (by decide) (hj.app (e_s (by decide) (by decide)) (ok_s (by decide) trivial)))
    rw [if_neg h16] at h ⊢
    by_cases h18 : t.kind = 18
    · rw [if_pos h18]
      rw [if_neg (by omega), if_pos h18] at h
      have h := of_decide_eq_true h
      have hj : OkE (joinP (t.kids.map exprP)) := ok_join _ fun a ha => by
        obtain ⟨u, hu, rfl⟩ := List.mem_map.1 ha
        exact ih u (List.all_eq_true.1 h.2.2.2 u hu)
      rw [List.append_assoc]
      exact ok_s (by decide) (hj.app (e_s (by decide) (by decide)) (ok_s (by decide) trivial))
    rw [if_neg h18]
    by_cases h19 : t.kind = 19
    · rw [if_pos h19]
      rw [if_neg (by omega), if_neg (by omega), if_pos h19] at h
      have h := of_decide_eq_true h
      rw [(getD_map_mem (p := exprP) (show 0 < t.kids.length by omega)).1]
      refine ⟨?_, .inl ?_, ih _ h.2.2.2 z hz⟩
      · rcases h.1 with h | h <;> rw [h] <;> decide
      · rcases h.1 with h | h <;> rw [h] <;> decide
    rw [if_neg h19]
    by_cases h20 : t.kind = 20
    · rw [if_pos h20]
      rw [if_neg (by omega), if_neg (by omega), if_neg (by omega), if_pos h20] at h
      have h := of_decide_eq_true h
      obtain ⟨e0, m0⟩ := getD_map_mem (p := exprP) (l := t.kids) (i := 0) (by omega)
      obtain ⟨e1, m1⟩ := getD_map_mem (p := exprP) (l := t.kids) (i := 1) (by omega)
      have k0 := ih _ (List.all_eq_true.1 h.2.2.2 _ m0)
      have k1 := ih _ (List.all_eq_true.1 h.2.2.2 _ m1)
      obtain ⟨o1, o2⟩ := op_self h.1
      rw [e0, e1, List.append_assoc, List.append_assoc, List.append_assoc]
      refine ok_s (by decide) (k0.app e_b (ok_b ⟨o1, .inl o2, ok_b (k1.app (e_s (by decide) (by decide)) (ok_s (by decide) trivial))⟩))
    rw [if_neg h20]
    by_cases h17 : t.kind = 17
    · rw [if_pos h17] at h
      have h := of_decide_eq_true h
      obtain ⟨e0, m0⟩ := getD_map_mem (p := exprP) (l := t.kids) (i := 0) (by omega)
      obtain ⟨e1, m1⟩ := getD_map_mem (p := exprP) (l := t.kids) (i := 1) (by omega)
      have k0 := ih _ (List.all_eq_true.1 h.2.2.2 _ m0)
      have k1 := ih _ (List.all_eq_true.1 h.2.2.2 _ m1)
      rw [e0, e1]
      split
      · rw [List.append_assoc, List.append_assoc, List.append_assoc]
        exact ok_s (by decide) (k0.app (e_s (by decide) (by decide)) (ok_s (by decide) (ok_s (by decide) (k1.app (e_s (by decide) (by decide)) (ok_s (by decide) trivial)))))
      · rw [List.append_assoc, List.append_assoc]
        exact k0.app (e_s (by decide) (by decide)) (ok_s (by decide) (k1.app (e_s (by decide) (by decide)) (ok_s (by decide) trivial)))
    rw [if_neg h17, if_neg h18, if_neg h19, if_neg h20] at h
    cases h
end Go.Proofs.YtngpedcihajepaaGreatDoor.M
namespace Go.Proofs.YtngpedcihajepaaGreatDoor.M
set_option linter.unusedVariables false
def er (t : Tok) : Tok := ⟨t.kind, t.text, 0⟩
def Res.er {α : Type} : Res α → Res α
  | .ok a r => .ok a (r.map M.er)
  | .bad r => .bad (r.map M.er)
  | .out => .out
theorem isS_er (s : List Nat) (l : List Tok) : isS s (l.map er) = isS s l := by cases l <;> rfl
theorem nameS_er (l : List Tok) : nameS (l.map er) = nameS l := by cases l <;> rfl
theorem headT_er (l : List Tok) : headT (l.map er) = headT l := by cases l <;> rfl
theorem tail_er (l : List Tok) : (l.map er).tail = l.tail.map er := by cases l <;> rfl
theorem signAt_er (k : Nat) (l : List Tok) : signAt k (l.map er) = signAt k l := by cases l <;> rfl
theorem typedS_er (l : List Tok) : typedS (l.map er) = typedS l := by simp only [typedS, isS_er]
theorem itemS_er (l : List Tok) : itemS (l.map er) = itemS l := by simp only [itemS, isS_er, nameS_er]
theorem bind_er {α β : Type} {x y : Res α} {f g : α → List Tok → Res β} (hx : y = x.er) (h : ∀ a r, g a (r.map er) = (f a r).er) : y.bind g = (x.bind f).er := by
  subst hx
  cases x with
  | ok a r => exact h a r
  | bad r => rfl
  | out => rfl
theorem take_er (s : List Nat) (l : List Tok) : take s (l.map er) = (take s l).er := by
  unfold take; rw [isS_er]; split
  · rw [tail_er]; rfl
  · rfl
theorem name_er (l : List Tok) : pName (l.map er) = (pName l).er := by
  unfold pName; rw [nameS_er, headT_er]; split
  · rw [tail_er]; rfl
  · rfl
theorem number_er (l : List Tok) : pNumber (l.map er) = (pNumber l).er := by
  cases l with
  | nil => rfl
  | cons t r =>
    show (if t.kind = 2 then _ else _) = Res.er (if t.kind = 2 then _ else _)
    split <;> rfl
theorem arr_er (k n : Nat) (l : List Tok) : pArr k n (l.map er) = (pArr k n l).er := by
  unfold pArr; rw [isS_er]; split
  · rw [tail_er]; exact bind_er (number_er _) fun m r => bind_er (take_er _ _) fun _ r => rfl
  · rfl
theorem typ_er (l : List Tok) : pTyp (l.map er) = (pTyp l).er := by
  unfold pTyp; rw [isS_er, isS_er]; split
  · rw [tail_er]; exact arr_er _ _ _
  · split
    · rw [tail_er]; exact arr_er _ _ _
    · exact bind_er (take_er _ _) fun _ r => bind_er (number_er _) fun n r => arr_er _ _ _
section
variable {p : List Tok → Res Tree} (hp : ∀ l, p (l.map er) = (p l).er)
include hp
theorem sep_er : ∀ (c : Nat) (a : List Tree) (l : List Tok), pSep p c a (l.map er) = (pSep p c a l).er
  | 0, a, l => rfl
  | c + 1, a, l => by
    rw [pSep, pSep, isS_er]; split
    · rw [tail_er]; exact bind_er (hp _) fun n r => sep_er c _ r
    · rfl
theorem list_er (c : Nat) (l : List Tok) : pList p c (l.map er) = (pList p c l).er := bind_er (hp _) fun n r => sep_er hp c _ r
theorem args_er (c : Nat) (l : List Tok) : pArgs p c (l.map er) = (pArgs p c l).er := by
  unfold pArgs; rw [isS_er]; split
  · rw [tail_er]; rfl
  · exact bind_er (list_er hp _ _) fun a r => bind_er (take_er _ _) fun _ r => rfl
theorem loop_er (k : Nat) : ∀ (c : Nat) (n : Tree) (l : List Tok), pLoop p k c n (l.map er) = (pLoop p k c n l).er
  | 0, n, l => rfl
  | c + 1, n, l => by
    rw [pLoop, pLoop, signAt_er]
    cases signAt k l with
    | none => rfl
    | some s =>
      dsimp only
      rw [tail_er]
      refine bind_er (hp _) fun m r => ?_
      split
      · rfl
      · exact loop_er k c _ r
theorem index_er : ∀ (c : Nat) (n : Tree) (l : List Tok), pIndex p c n (l.map er) = (pIndex p c n l).er
  | 0, n, l => rfl
  | c + 1, n, l => by
    rw [pIndex, pIndex, isS_er]; split
    · rw [tail_er]; exact bind_er (hp _) fun i r => bind_er (take_er _ _) fun _ r => index_er c _ r
    · rfl
theorem primary_er (c : Nat) (l : List Tok) : pPrimary p c (l.map er) = (pPrimary p c l).er := by
  unfold pPrimary
  simp only [isS_er, typedS_er, nameS_er, headT_er, tail_er]
  split
  · exact bind_er (hp _) fun n r => bind_er (take_er _ _) fun _ r => rfl
  split
  · exact bind_er (list_er hp _ _) fun n r => bind_er (take_er _ _) fun _ r => rfl
  split
  · exact bind_er (take_er _ _) fun _ r => bind_er (args_er hp _ _) fun k r => rfl
  split
  · split
    · exact bind_er (args_er hp _ _) fun k r => rfl
    · rfl
  · exact bind_er (number_er _) fun n r => rfl
theorem indexed_er (c : Nat) (l : List Tok) : pIndexed p c (l.map er) = (pIndexed p c l).er := bind_er (primary_er hp _ _) fun n r => index_er hp _ _ _
theorem val_er (l : List Tok) : pVal p (l.map er) = (pVal p l).er := bind_er (take_er _ _) fun _ r => bind_er (hp _) fun e r => bind_er (take_er _ _) fun _ r => rfl
theorem let_er (l : List Tok) : pLet p (l.map er) = (pLet p l).er := bind_er (name_er _) fun s r => bind_er (val_er hp _) fun e r => rfl
theorem set_er (l : List Tok) : pSet p (l.map er) = (pSet p l).er := by
  refine bind_er (name_er _) fun s r => ?_
  rw [isS_er]; split
  · rw [tail_er]; exact bind_er (hp _) fun i r => bind_er (take_er _ _) fun _ r => bind_er (val_er hp _) fun e r => rfl
  · exact bind_er (val_er hp _) fun e r => rfl
end
theorem expr_er : ∀ f : Nat, (∀ k l, pLevel f k (l.map er) = (pLevel f k l).er) ∧ (∀ l, pUnary f (l.map er) = (pUnary f l).er)
  | 0 => ⟨fun k l => by rw [pLevel, pLevel]; rfl, fun l => by rw [pUnary, pUnary]; rfl⟩
  | f + 1 => by
    obtain ⟨h1, h2⟩ := expr_er f
    constructor
    · intro k l
      rw [pLevel, pLevel]
      split
      · exact h2 l
      · exact bind_er (h1 _ _) fun n r => loop_er (h1 _) _ _ _ _
    · intro l
      rw [pUnary, pUnary, isS_er, isS_er]
      split
      · rw [tail_er]; exact bind_er (h2 _) fun n r => rfl
      split
      · rw [tail_er]; exact bind_er (h2 _) fun n r => rfl
      · exact indexed_er (h1 0) _ _
theorem arg_er (l : List Tok) : pArg (l.map er) = (pArg l).er := bind_er (name_er _) fun s r => bind_er (take_er _ _) fun _ r => bind_er (typ_er _) fun t r => rfl
theorem to_er (l : List Tok) : pTo (l.map er) = (pTo l).er := bind_er (number_er _) fun n r => rfl
theorem in_er (l : List Tok) : pIn (l.map er) = (pIn l).er := bind_er (name_er _) fun s r => bind_er (take_er _ _) fun _ r => bind_er (typ_er _) fun t r => bind_er (take_er _ _) fun _ r => bind_er (number_er _) fun n r => bind_er (take_er _ _) fun _ r => rfl
section
variable {p it : List Tok → Res Tree} (hp : ∀ l, p (l.map er) = (p l).er) (hi : ∀ l, it (l.map er) = (it l).er)
include hp
theorem out_er (c : Nat) (l : List Tok) : pOut p c (l.map er) = (pOut p c l).er := by
  refine bind_er (hp _) fun n r => bind_er (take_er _ _) fun _ r => bind_er (x := (if isS [97, 108, 108] r = true then .ok [] r.tail else pList pTo c r)) ?_ fun k r => bind_er (take_er _ _) fun _ r => rfl
  rw [isS_er]; split
  · rw [tail_er]; rfl
  · exact list_er to_er _ _
include hi
omit hp in
theorem items_er : ∀ (c : Nat) (a : List Tree) (l : List Tok), pItems it c a (l.map er) = (pItems it c a l).er
  | 0, a, l => rfl
  | c + 1, a, l => by
    rw [pItems, pItems, itemS_er]; split
    · exact bind_er (hi _) fun n r => items_er c _ r
    · rfl
omit hp in
theorem block_er (c : Nat) (l : List Tok) : pBlock it c (l.map er) = (pBlock it c l).er := bind_er (take_er _ _) fun _ r => bind_er (items_er hi _ _ _) fun k r => bind_er (take_er _ _) fun _ r => rfl
theorem if_er (c : Nat) (l : List Tok) : pIf p it c (l.map er) = (pIf p it c l).er := by
  refine bind_er (hp _) fun e r => bind_er (block_er hi _ _) fun b r => ?_
  rw [isS_er]; split
  · rw [tail_er]; exact bind_er (block_er hi _ _) fun o r => rfl
  · rfl
theorem for_er (c : Nat) (l : List Tok) : pFor p it c (l.map er) = (pFor p it c l).er :=
  bind_er (name_er _) fun s r => bind_er (take_er _ _) fun _ r => bind_er (hp _) fun a r => bind_er (take_er _ _) fun _ r => bind_er (hp _) fun b r => bind_er (block_er hi _ _) fun o r => rfl
theorem def_er (c : Nat) (l : List Tok) : pDef p it c (l.map er) = (pDef p it c l).er :=
  bind_er (name_er _) fun s r => bind_er (take_er _ _) fun _ r => bind_er (args_er arg_er _ _) fun k r => bind_er (take_er _ _) fun _ r => bind_er (items_er hi _ _ _) fun b r => bind_er (take_er _ _) fun _ r => bind_er (hp _) fun e r => bind_er (take_er _ _) fun _ r => bind_er (take_er _ _) fun _ r => rfl
end
theorem item_er : ∀ (f : Nat) (l : List Tok), pItem f (l.map er) = (pItem f l).er
  | 0, l => rfl
  | f + 1, l => by
    have h1 := (expr_er f).1 0
    have h2 := item_er f
    rw [pItem, pItem]
    simp only [isS_er, tail_er]
    split
    · exact in_er _
    split
    · exact let_er h1 _
    split
    · exact if_er h1 h2 _ _
    split
    · exact for_er h1 h2 _ _
    split
    · exact out_er h1 _ _
    split
    · exact def_er h1 h2 _ _
    · exact set_er h1 _
theorem program_er (f : Nat) (l : List Tok) : pProgram f (l.map er) = (pProgram f l).er := by
  refine bind_er (items_er (item_er f) _ _ _) fun k r => ?_
  cases r <;> rfl

/-! ## More fuel -/
def Up {α : Type} (x y : Res α) : Prop := x = .out ∨ x = y
theorem Up.refl {α : Type} (x : Res α) : Up x x := .inr rfl
theorem Up.bind {α β : Type} {x y : Res α} {f g : α → List Tok → Res β} (h : Up x y) (hf : ∀ a r, Up (f a r) (g a r)) : Up (x.bind f) (y.bind g) := by
  rcases h with rfl | rfl
  · exact .inl rfl
  · cases x with
    | ok a r => exact hf a r
    | bad r => exact .inr rfl
    | out => exact .inl rfl
theorem Up.ite {α : Type} {c : Prop} [Decidable c] {x x' y y' : Res α} (hx : Up x x') (hy : Up y y') : Up (if c then x else y) (if c then x' else y') := by
  split
  · exact hx
  · exact hy
section
variable {p q : List Tok → Res Tree} (hp : ∀ l, Up (p l) (q l))
include hp
theorem sep_up : ∀ {c d : Nat}, c ≤ d → ∀ (a : List Tree) (l : List Tok), Up (pSep p c a l) (pSep q d a l)
  | 0, d, _, a, l => .inl rfl
  | c + 1, 0, h, a, l => by omega
  | c + 1, d + 1, h, a, l => by
    rw [pSep, pSep]
    exact .ite (.bind (hp _) fun n r => sep_up (by omega) _ _) (.refl _)
theorem list_up {c d : Nat} (h : c ≤ d) (l : List Tok) : Up (pList p c l) (pList q d l) := .bind (hp _) fun n r => sep_up hp h _ _
theorem args_up {c d : Nat} (h : c ≤ d) (l : List Tok) : Up (pArgs p c l) (pArgs q d l) := by
  unfold pArgs
  exact .ite (.refl _) (.bind (list_up hp h _) fun _ _ => .refl _)
theorem loop_up (k : Nat) : ∀ {c d : Nat}, c ≤ d → ∀ (n : Tree) (l : List Tok), Up (pLoop p k c n l) (pLoop q k d n l)
  | 0, d, _, n, l => .inl rfl
  | c + 1, 0, h, n, l => by omega
  | c + 1, d + 1, h, n, l => by
    rw [pLoop, pLoop]
    cases signAt k l with
    | none => exact .refl _
    | some s => exact .bind (hp _) fun m r => .ite (.refl _) (loop_up k (by omega) _ _)
theorem index_up : ∀ {c d : Nat}, c ≤ d → ∀ (n : Tree) (l : List Tok), Up (pIndex p c n l) (pIndex q d n l)
  | 0, d, _, n, l => .inl rfl
  | c + 1, 0, h, n, l => by omega
  | c + 1, d + 1, h, n, l => by
    rw [pIndex, pIndex]
    exact .ite (.bind (hp _) fun i r => .bind (.refl _) fun _ r => index_up (by omega) _ _) (.refl _)
theorem primary_up {c d : Nat} (h : c ≤ d) (l : List Tok) : Up (pPrimary p c l) (pPrimary q d l) := by
  unfold pPrimary
  exact .ite (.bind (hp _) fun _ _ => .refl _) (.ite (.bind (list_up hp h _) fun _ _ => .refl _) (.ite (.bind (.refl _) fun _ _ => .bind (args_up hp h _) fun _ _ => .refl _) (.ite (.ite (.bind (args_up hp h _) fun _ _ => .refl _) (.refl _)) (.refl _))))
theorem indexed_up {c d : Nat} (h : c ≤ d) (l : List Tok) : Up (pIndexed p c l) (pIndexed q d l) := .bind (primary_up hp h _) fun _ _ => index_up hp h _ _
theorem val_up (l : List Tok) : Up (pVal p l) (pVal q l) := .bind (.refl _) fun _ _ => .bind (hp _) fun _ _ => .refl _
theorem let_up (l : List Tok) : Up (pLet p l) (pLet q l) := .bind (.refl _) fun _ _ => .bind (val_up hp _) fun _ _ => .refl _
theorem set_up (l : List Tok) : Up (pSet p l) (pSet q l) := .bind (.refl _) fun _ _ => .ite (.bind (hp _) fun _ _ => .bind (.refl _) fun _ _ => .bind (val_up hp _) fun _ _ => .refl _) (.bind (val_up hp _) fun _ _ => .refl _)
theorem out_up {c d : Nat} (h : c ≤ d) (l : List Tok) : Up (pOut p c l) (pOut q d l) := .bind (hp _) fun _ _ => .bind (.refl _) fun _ _ => .bind (.ite (.refl _) (list_up (fun _ => .refl _) h _)) fun _ _ => .refl _
end
theorem expr_up : ∀ {f g : Nat}, f ≤ g → (∀ k l, Up (pLevel f k l) (pLevel g k l)) ∧ (∀ l, Up (pUnary f l) (pUnary g l))
  | 0, g, _ => ⟨fun k l => by rw [pLevel]; exact .inl rfl, fun l => by rw [pUnary]; exact .inl rfl⟩
  | f + 1, 0, h => by omega
  | f + 1, g + 1, h => by
    obtain ⟨h1, h2⟩ := expr_up (f := f) (g := g) (by omega)
    constructor
    · intro k l
      rw [pLevel, pLevel]
      exact .ite (h2 l) (.bind (h1 _ _) fun n r => loop_up (h1 _) _ (by omega) _ _)
    · intro l
      rw [pUnary, pUnary]
      exact .ite (.bind (h2 _) fun _ _ => .refl _) (.ite (.bind (h2 _) fun _ _ => .refl _) (indexed_up (h1 0) (by omega) _))
section
variable {p q it jt : List Tok → Res Tree} (hp : ∀ l, Up (p l) (q l)) (hi : ∀ l, Up (it l) (jt l))
include hi
theorem items_up : ∀ {c d : Nat}, c ≤ d → ∀ (a : List Tree) (l : List Tok), Up (pItems it c a l) (pItems jt d a l)
  | 0, d, _, a, l => .inl rfl
  | c + 1, 0, h, a, l => by omega
  | c + 1, d + 1, h, a, l => by
    rw [pItems, pItems]
    exact .ite (.bind (hi _) fun n r => items_up (by omega) _ _) (.refl _)
theorem block_up {c d : Nat} (h : c ≤ d) (l : List Tok) : Up (pBlock it c l) (pBlock jt d l) := .bind (.refl _) fun _ _ => .bind (items_up hi h _ _) fun _ _ => .refl _
include hp
theorem if_up {c d : Nat} (h : c ≤ d) (l : List Tok) : Up (pIf p it c l) (pIf q jt d l) := .bind (hp _) fun _ _ => .bind (block_up hi h _) fun _ _ => .ite (.bind (block_up hi h _) fun _ _ => .refl _) (.refl _)
theorem for_up {c d : Nat} (h : c ≤ d) (l : List Tok) : Up (pFor p it c l) (pFor q jt d l) := .bind (.refl _) fun _ _ => .bind (.refl _) fun _ _ => .bind (hp _) fun _ _ => .bind (.refl _) fun _ _ => .bind (hp _) fun _ _ => .bind (block_up hi h _) fun _ _ => .refl _
theorem def_up {c d : Nat} (h : c ≤ d) (l : List Tok) : Up (pDef p it c l) (pDef q jt d l) := .bind (.refl _) fun _ _ => .bind (.refl _) fun _ _ => .bind (args_up (fun _ => .refl _) h _) fun _ _ => .bind (.refl _) fun _ _ => .bind (items_up hi h _ _) fun _ _ => .bind (.refl _) fun _ _ => .bind (hp _) fun _ _ => .refl _
end
theorem item_up : ∀ {f g : Nat}, f ≤ g → ∀ l, Up (pItem f l) (pItem g l)
  | 0, g, _, l => .inl rfl
  | f + 1, 0, h, l => by omega
  | f + 1, g + 1, h, l => by
    have h1 := (expr_up (f := f) (g := g) (by omega)).1 0
    have h2 := item_up (f := f) (g := g) (by omega)
    rw [pItem, pItem]
    exact .ite (.refl _) (.ite (let_up h1 _) (.ite (if_up h1 h2 (by omega) _) (.ite (for_up h1 h2 (by omega) _) (.ite (out_up h1 (by omega) _) (.ite (def_up h1 h2 (by omega) _) (set_up h1 _))))))
theorem program_up {f g : Nat} (h : f ≤ g) (l : List Tok) : Up (pProgram f l) (pProgram g l) := .bind (items_up (item_up h) h _ _) fun _ _ => .refl _
/-- what some fuel reads, the fuel of as many tokens reads -/
theorem program_of {f : Nat} {l : List Tok} {t : Tree} {r : List Tok} (h : pProgram f l = .ok t r) : pProgram (fuel l.length) l = .ok t r := by
  rcases Nat.le_total f (fuel l.length) with hl | hl
  · rcases program_up hl l with e | e
    · rw [h] at e; cases e
    · rw [← e, h]
  · rcases program_up hl l with e | e
    · exact absurd e (program_fin l)
    · rw [e, h]
end Go.Proofs.YtngpedcihajepaaGreatDoor.M
namespace Go.Proofs.YtngpedcihajepaaGreatDoor.M
set_option linter.unusedVariables false
set_option linter.unusedSimpArgs false
/-- the tokens of pieces -/
def T : List Pc → List Tok
  | [] => []
  | .g _ :: r => T r
  | .t k s :: r => ⟨k, s, 0⟩ :: T r
theorem T_app : ∀ (a b : List Pc), T (a ++ b) = T a ++ T b
  | [], b => rfl
  | .g _ :: r, b => by rw [List.cons_append, T, T, T_app r b]
  | .t k s :: r, b => by rw [List.cons_append, T, T, T_app r b]; rfl
theorem T_er : ∀ {ts : List Tok} {ps : List Pc}, ts.map (fun t => (t.kind, t.text)) = toks ps → ts.map er = T ps
  | ts, .g _ :: r, h => by rw [T]; rw [toks] at h; exact T_er h
  | [], [], h => rfl
  | [], .t k s :: r, h => by cases h
  | t :: ts, [], h => by cases h
  | t :: ts, .t k s :: r, h => by
    rw [toks, List.map_cons, List.cons.injEq] at h
    rw [T, List.map_cons, T_er h.2]
    obtain ⟨h1, h2⟩ := Prod.mk.inj h.1
    rw [er, h1, h2]
/-- from some fuel on -/
def Ev (P : Nat → Prop) : Prop := ∃ f0, ∀ f, f0 ≤ f → P f
theorem Ev.of {P : Nat → Prop} (h : ∀ f, P f) : Ev P := ⟨0, fun f _ => h f⟩
theorem Ev.and {P Q : Nat → Prop} (h : Ev P) (k : Ev Q) : Ev fun f => P f ∧ Q f := by
  obtain ⟨a, h⟩ := h
  obtain ⟨b, k⟩ := k
  exact ⟨max a b, fun f hf => ⟨h f (by omega), k f (by omega)⟩⟩
theorem Ev.imp {P Q : Nat → Prop} (h : Ev P) (k : ∀ f, P f → Q f) : Ev Q := by
  obtain ⟨a, h⟩ := h
  exact ⟨a, fun f hf => k f (h f hf)⟩
/-- one step more -/
theorem Ev.succ {P Q : Nat → Prop} (h : Ev P) (k : ∀ f, P f → Q (f + 1)) : Ev Q := by
  obtain ⟨a, h⟩ := h
  refine ⟨a + 1, fun f hf => ?_⟩
  obtain ⟨g, rfl⟩ : ∃ g, f = g + 1 := ⟨f - 1, by omega⟩
  exact k g (h g (by omega))
theorem Ev.ge (n : Nat) : Ev fun f => n ≤ f := ⟨n, fun f h => h⟩
theorem Ev.all {P : Tree → Nat → Prop} : ∀ {l : List Tree}, (∀ u ∈ l, Ev (P u)) → Ev fun f => ∀ u ∈ l, P u f
  | [], _ => ⟨0, fun f _ u hu => by cases hu⟩
  | a :: r, h => ((h a (by simp)).and (Ev.all fun u hu => h u (List.mem_cons_of_mem _ hu))).imp fun f hf u hu => by
    rcases List.mem_cons.1 hu with rfl | hu
    · exact hf.1
    · exact hf.2 u hu
theorem isS_cons (s : List Nat) (k : Int) (t : List Nat) (a : Nat) (r : List Tok) : isS s (⟨k, t, a⟩ :: r) = (decide (k ≠ 2) && decide (t = s)) := rfl
/-- what may follow an expression that is operated upon -/
def Stop0 (r : List Tok) : Prop := isS [91] r = false ∧ isS [40] r = false
/-- what may follow an expression -/
def Stop (r : List Tok) : Prop := Stop0 r ∧ ∀ k, signAt k r = none
theorem signAt_none {k : Nat} {c : Int} {s : List Nat} {a : Nat} {r : List Tok} (h : opB s = false) : signAt k (⟨c, s, a⟩ :: r) = none := by
  show (if c ≠ 2 ∧ s ∈ signsL k then some s else none) = none
  rw [if_neg]
  rintro ⟨_, h2⟩
  have := of_decide_eq_false h
  apply this
  rcases k with _ | _ | _ | _ | _ | k
  · exact .inl h2
  · exact .inr (.inl h2)
  · exact .inr (.inr (.inl h2))
  · exact .inr (.inr (.inr (.inl h2)))
  · exact .inr (.inr (.inr (.inr (.inl h2))))
  · exact .inr (.inr (.inr (.inr (.inr h2))))
theorem stop_t {k : Int} {s : List Nat} {a : Nat} {r : List Tok} (h : opB s = false) (h1 : s ≠ [91]) (h2 : s ≠ [40]) : Stop (⟨k, s, a⟩ :: r) :=
  ⟨⟨by rw [isS_cons, decide_eq_false h1, Bool.and_false], by rw [isS_cons, decide_eq_false h2, Bool.and_false]⟩, fun k => signAt_none h⟩
theorem name_ne {s : List Nat} (h : nameOk s = true) {c : Nat} {r : List Nat} (hc : letterB c = false) : s ≠ c :: r := by
  rintro rfl
  unfold nameOk at h
  rw [Bool.and_eq_true] at h
  have := (isName_facts h.1).2.2.1
  rw [List.getD_cons_zero, hc] at this
  cases this
theorem name_nw {s w : List Nat} (h : nameOk s = true) (hw : wordB w = true) : s ≠ w := by
  rintro rfl
  unfold nameOk at h
  rw [hw] at h
  simp at h
theorem isS_ne {s : List Nat} {k : Int} {t : List Nat} {a : Nat} {r : List Tok} (h : t ≠ s) : isS s (⟨k, t, a⟩ :: r) = false := by rw [isS_cons, decide_eq_false h, Bool.and_false]
theorem isS_two {s : List Nat} {t : List Nat} {a : Nat} {r : List Tok} : isS s (⟨2, t, a⟩ :: r) = false := rfl
theorem isS_eq {s : List Nat} {k : Int} {a : Nat} {r : List Tok} (hk : k ≠ 2) : isS s (⟨k, s, a⟩ :: r) = true := by rw [isS_cons, decide_eq_true hk, decide_eq_true rfl]; rfl
theorem take_eq {s : List Nat} {k : Int} {a : Nat} {r : List Tok} (hk : k ≠ 2) : take s (⟨k, s, a⟩ :: r) = .ok () r := by
  unfold take; rw [if_pos (isS_eq hk)]; rfl
theorem pNumber_eq {n a : Nat} {r : List Tok} (hn : n ≤ 4294967295) : pNumber (⟨2, digitsL n, a⟩ :: r) = .ok n r := by
  show (if (2 : Int) = 2 then Res.ok (numV (digitsL n)) r else Res.bad (⟨2, digitsL n, a⟩ :: r)) = _
  rw [if_pos rfl, numV_digits, if_neg (by omega)]
theorem nameS_eq {s : List Nat} {a : Nat} {r : List Tok} (h : nameOk s = true) : nameS (⟨1, s, a⟩ :: r) = true := by
  unfold nameOk at h
  rw [Bool.and_eq_true] at h
  show (decide ((1 : Int) = 1) && !wordB s) = true
  rw [h.2]; rfl
theorem pName_eq {s : List Nat} {a : Nat} {r : List Tok} (h : nameOk s = true) : pName (⟨1, s, a⟩ :: r) = .ok s r := by
  unfold pName; rw [if_pos (nameS_eq h)]; rfl
/-- elements that are separated by commas -/
theorem list_back {p : List Tok → Res Tree} {q : Tree → List Pc} {S : List Tok → Prop} (hS : ∀ r, S (⟨3, [44], 0⟩ :: r)) {rest : List Tok} (hr : S rest) (h44 : isS [44] rest = false) :
    ∀ (ks : List Tree) (c : Nat) (acc : List Tree), ks ≠ [] → ks.length ≤ c → (∀ u ∈ ks, ∀ r, S r → p (T (q u) ++ r) = .ok u r) → ((p (T (joinP (ks.map q)) ++ rest)).bind fun n r => pSep p c (acc ++ [n]) r) = .ok (acc ++ ks) rest
  | [], c, acc, h, _, _ => absurd rfl h
  | [t], c, acc, _, hc, hp => by
    obtain ⟨c, rfl⟩ : ∃ d, c = d + 1 := ⟨c - 1, by simp at hc; omega⟩
    show (p (T (q t) ++ rest)).bind _ = _
    rw [hp t (by simp) rest hr, Res.bind_ok, pSep, if_neg (by rw [h44]; decide)]
  | t :: u :: r, c, acc, _, hc, hp => by
    obtain ⟨c, rfl⟩ : ∃ d, c = d + 1 := ⟨c - 1, by simp at hc; omega⟩
    have ih := list_back hS hr h44 (u :: r) c (acc ++ [t]) (by simp) (by simp at hc ⊢; omega) (fun x hx => hp x (List.mem_cons_of_mem _ hx))
    have e : T (joinP ((t :: u :: r).map q)) ++ rest = T (q t) ++ (⟨3, [44], 0⟩ :: (T (joinP ((u :: r).map q)) ++ rest)) := by
      show T (q t ++ [sg 44, bl] ++ joinP (q u :: r.map q)) ++ rest = _
      rw [T_app, T_app, List.append_assoc, List.append_assoc]
      rfl
    rw [e, hp t (by simp) _ (hS _), Res.bind_ok, pSep, if_pos (isS_eq (by decide)), List.tail_cons, ih, List.append_assoc]
    rfl
theorem args_back {p : List Tok → Res Tree} {q : Tree → List Pc} {S : List Tok → Prop} (hS : ∀ r, S (⟨3, [44], 0⟩ :: r)) (hS2 : ∀ r, S (⟨3, [41], 0⟩ :: r)) {rest : List Tok} {ks : List Tree} {c : Nat} (hc : ks.length ≤ c) (hp : ∀ u ∈ ks, ∀ r, S r → p (T (q u) ++ r) = .ok u r) (h41 : ∀ u ∈ ks, ∀ r, isS [41] (T (q u) ++ r) = false) : pArgs p c (T (joinP (ks.map q)) ++ (⟨3, [41], 0⟩ :: rest)) = .ok ks rest := by
  unfold pArgs
  cases ks with
  | nil =>
    show (if isS [41] (⟨3, [41], 0⟩ :: rest) = true then _ else _) = _
    rw [if_pos (isS_eq (by decide))]; rfl
  | cons t r =>
    have h := list_back (p := p) (q := q) hS (hS2 rest) (isS_ne (by decide)) (t :: r) c [] (by simp) hc hp
    have e : isS [41] (T (joinP ((t :: r).map q)) ++ (⟨3, [41], 0⟩ :: rest)) = false := by
      cases r with
      | nil => exact h41 t (by simp) _
      | cons u r =>
        show isS [41] (T (q t ++ [sg 44, bl] ++ joinP (q u :: r.map q)) ++ _) = false
        rw [T_app, T_app, List.append_assoc, List.append_assoc]
        exact h41 t (by simp) _
    rw [e, if_neg (by decide)]
    unfold pList
    rw [List.nil_append] at h
    rw [show ((p (T (joinP ((t :: r).map q)) ++ (⟨3, [41], 0⟩ :: rest))).bind fun n r => pSep p c [n] r) = .ok (t :: r) (⟨3, [41], 0⟩ :: rest) from h, Res.bind_ok, take_eq (by decide), Res.bind_ok]
/-- the first token of an expression -/
def Heads (t : Tree) (ps : List Pc) : Prop := ∃ (k : Int) (s : List Nat) (r : List Tok), T ps = ⟨k, s, 0⟩ :: r ∧ (k = 2 ∨ (k = 1 ∧ (nameOk s = true ∨ s = [110, 117, 109] ∨ s = [98, 105, 116] ∨ s = [119, 111, 114, 100])) ∨ s = [40] ∨ s = [91] ∨ (t.kind = 19 ∧ (s = [33] ∨ s = [45])))
theorem head_expr : ∀ (f : Nat) (t : Tree), exprF f t = true → Heads t (exprP t)
  | 0, t, h => by rw [exprF] at h; cases h
  | f + 1, t, h => by
    have ih := head_expr f
    rw [exprP_eq]
    unfold exprPW
    rw [exprF] at h
    by_cases h14 : t.kind = 14
    · rw [if_pos h14]; exact ⟨_, _, _, rfl, .inl rfl⟩
    rw [if_neg h14] at h ⊢
    by_cases h15 : t.kind = 15
    · rw [if_pos h15] at h ⊢; exact ⟨_, _, _, rfl, .inr (.inl ⟨rfl, .inl (of_decide_eq_true h).1⟩)⟩
    rw [if_neg h15] at h ⊢
    by_cases h16 : t.kind = 16
    · rw [if_pos h16] at h ⊢; exact ⟨_, _, _, rfl, .inr (.inl ⟨rfl, (of_decide_eq_true h).1⟩)⟩
    rw [if_neg h16] at h ⊢
    by_cases h18 : t.kind = 18
    · rw [if_pos h18]; exact ⟨_, _, _, rfl, .inr (.inr (.inr (.inl rfl)))⟩
    rw [if_neg h18]
    by_cases h19 : t.kind = 19
    · rw [if_pos h19]
      rw [if_neg (by omega), if_neg (by omega), if_pos h19] at h
      exact ⟨_, _, _, rfl, .inr (.inr (.inr (.inr ⟨h19, (of_decide_eq_true h).1⟩)))⟩
    rw [if_neg h19]
    by_cases h20 : t.kind = 20
    · rw [if_pos h20]; exact ⟨_, _, _, rfl, .inr (.inr (.inl rfl))⟩
    rw [if_neg h20]
    by_cases h17 : t.kind = 17
    · rw [if_pos h17] at h
      have h := of_decide_eq_true h
      obtain ⟨e0, m0⟩ := getD_map_mem (p := exprP) (l := t.kids) (i := 0) (by omega)
      split
      · exact ⟨_, _, _, rfl, .inr (.inr (.inl rfl))⟩
      · rename_i hk
        obtain ⟨k, s, r, e, hh⟩ := ih _ (List.all_eq_true.1 h.2.2.2 _ m0)
        refine ⟨k, s, r ++ T [sg 91] ++ T ((t.kids.map exprP).getD 1 []) ++ T [sg 93], by rw [e0, T_app, T_app, T_app, e]; rfl, ?_⟩
        rcases hh with hh | hh | hh | hh | hh
        · exact .inl hh
        · exact .inr (.inl hh)
        · exact .inr (.inr (.inl hh))
        · exact .inr (.inr (.inr (.inl hh)))
        · exact absurd hh.1 hk
    rw [if_neg h17, if_neg h18, if_neg h19, if_neg h20] at h
    cases h
/-- a sign that begins no expression -/
theorem head_not {t : Tree} {ps : List Pc} (h : Heads t ps) {c : Nat} (hc : letterB c = false) (h1 : c ≠ 40) (h2 : c ≠ 91) (h3 : t.kind = 19 → c ≠ 33 ∧ c ≠ 45) (r : List Tok) : isS [c] (T ps ++ r) = false := by
  obtain ⟨k, s, r', e, hh⟩ := h
  rw [e, List.cons_append]
  rcases hh with rfl | ⟨rfl, hn | rfl | rfl | rfl⟩ | rfl | rfl | ⟨hk, rfl | rfl⟩
  · exact isS_two
  · exact isS_ne (name_ne hn hc)
  · exact isS_ne (by simp)
  · exact isS_ne (by simp)
  · exact isS_ne (by simp)
  · exact isS_ne (by simp; omega)
  · exact isS_ne (by simp; omega)
  · exact isS_ne (by have := h3 hk; simp; omega)
  · exact isS_ne (by have := h3 hk; simp; omega)
/-- from a unary to a level -/
theorem level_back {X : List Tok} {t : Tree} (hU : Ev fun f => ∀ rest, Stop0 rest → pUnary f (X ++ rest) = .ok t rest) : ∀ j, j ≤ 6 → Ev fun f => ∀ rest, Stop0 rest → (∀ k, 6 - j ≤ k → k ≤ 5 → signAt k rest = none) → pLevel f (6 - j) (X ++ rest) = .ok t rest
  | 0, _ => hU.succ fun f h rest h0 _ => by rw [pLevel, if_pos (by decide)]; exact h rest h0
  | j + 1, hj => ((level_back hU j (by omega)).and (Ev.ge 1)).succ fun f h rest h0 hs => by
    obtain ⟨g, rfl⟩ : ∃ g, f = g + 1 := ⟨f - 1, by have := h.2; omega⟩
    rw [pLevel, if_neg (by omega), show 6 - (j + 1) + 1 = 6 - j by omega, h.1 rest h0 (fun k hk => hs k (by omega)), Res.bind_ok, pLoop, hs _ (Nat.le_refl _) (by omega)]
/-- p reads the expression t -/
def Parses (p : List Tok → Res Tree) (t : Tree) : Prop := ∀ rest, Stop rest → p (T (exprP t) ++ rest) = .ok t rest
/-- what is to be shown of an expression -/
def BackU (t : Tree) : Prop := Ev fun f => ∀ rest, Stop0 rest → pUnary f (T (exprP t) ++ rest) = .ok t rest
def BackI (t : Tree) : Prop := ∃ d m, d < m ∧ Ev fun f => ∀ c, m ≤ c → ∀ rest, isS [40] rest = false → pIndexed (pLevel f 0) c (T (exprP t) ++ rest) = pIndex (pLevel f 0) (c - d) t rest
theorem BackU.parses {t : Tree} (h : BackU t) : Ev fun f => Parses (pLevel f 0) t := (level_back h 6 (by omega)).imp fun f h rest hr => h rest hr.1 fun k _ _ => hr.2 k
theorem BackI.unary {f : Nat} {t : Tree} (h : BackI t) (hf : exprF f t = true) (hk : t.kind ≠ 19) : BackU t := by
  obtain ⟨d, m, hdm, h⟩ := h
  have hh := head_expr f t hf
  refine (h.and (Ev.ge (m + 1))).succ fun f ⟨h, hf⟩ rest h0 => ?_
  rw [pUnary, if_neg (by rw [head_not hh (by decide) (by decide) (by decide) (fun e => absurd e hk)]; decide), if_neg (by rw [head_not hh (by decide) (by decide) (by decide) (fun e => absurd e hk)]; decide), h f (by omega) rest h0.2]
  obtain ⟨g, eg⟩ : ∃ g, f - d = g + 1 := ⟨f - d - 1, by omega⟩
  rw [eg, pIndex, if_neg (by rw [h0.1]; decide)]
/-- from a primary -/
theorem BackI.prim {t : Tree} (m : Nat) (h : Ev fun f => ∀ c, m ≤ c → ∀ rest, isS [40] rest = false → pPrimary (pLevel f 0) c (T (exprP t) ++ rest) = .ok t rest) : BackI t :=
  ⟨0, m + 1, by omega, h.imp fun f h c hc rest h0 => by unfold pIndexed; rw [h c (by omega) rest h0, Res.bind_ok, Nat.sub_zero]⟩
theorem level_of_sign {s : List Nat} (h : opB s = true) : ∃ kk, kk ≤ 5 ∧ s ∈ signsL kk ∧ ∀ j, kk < j → j ≤ 5 → s ∉ signsL j := by
  have h := of_decide_eq_true h
  rcases h with h | h | h | h | h | h
  · refine ⟨0, by omega, h, fun j hj hj5 => ?_⟩
    simp only [signsL, List.mem_cons, List.not_mem_nil, or_false] at h
    subst h
    rcases j with _ | _ | _ | _ | _ | j <;> simp [signsL] at hj hj5 ⊢
  · refine ⟨1, by omega, h, fun j hj hj5 => ?_⟩
    simp only [signsL, List.mem_cons, List.not_mem_nil, or_false] at h
    subst h
    rcases j with _ | _ | _ | _ | _ | j <;> simp [signsL] at hj hj5 ⊢
  · refine ⟨2, by omega, h, fun j hj hj5 => ?_⟩
    simp only [signsL, List.mem_cons, List.not_mem_nil, or_false] at h
    subst h
    rcases j with _ | _ | _ | _ | _ | j <;> simp [signsL] at hj hj5 ⊢
  · refine ⟨3, by omega, h, fun j hj hj5 => ?_⟩
    simp only [signsL, List.mem_cons, List.not_mem_nil, or_false] at h
    rcases h with rfl | rfl <;> rcases j with _ | _ | _ | _ | _ | j <;> simp [signsL] at hj hj5 ⊢
  · refine ⟨4, by omega, h, fun j hj hj5 => ?_⟩
    simp only [signsL, List.mem_cons, List.not_mem_nil, or_false] at h
    rcases h with rfl | rfl <;> rcases j with _ | _ | _ | _ | _ | j <;> simp [signsL] at hj hj5 ⊢
  · exact ⟨5, by omega, h, fun j hj hj5 => absurd hj (by omega)⟩
theorem signAt_of {k : Nat} {s : List Nat} {r : List Tok} (h : s ∈ signsL k) : signAt k (⟨3, s, 0⟩ :: r) = some s := by
  show (if (3 : Int) ≠ 2 ∧ s ∈ signsL k then some s else none) = some s
  rw [if_pos ⟨by decide, h⟩]
theorem signAt_not {k : Nat} {s : List Nat} {r : List Tok} (h : s ∉ signsL k) : signAt k (⟨3, s, 0⟩ :: r) = none := by
  show (if (3 : Int) ≠ 2 ∧ s ∈ signsL k then some s else none) = none
  rw [if_neg fun e => h e.2]
theorem op_stop {s : List Nat} (h : opB s = true) (r : List Tok) : Stop0 (⟨3, s, 0⟩ :: r) := by
  have h := of_decide_eq_true h
  simp only [signsL, List.mem_cons, List.not_mem_nil, or_false] at h
  rcases h with rfl | rfl | rfl | (rfl | rfl) | (rfl | rfl) | rfl <;> exact ⟨rfl, rfl⟩
/-- two operands and their operator, in parentheses -/
theorem binary_back {a b : Tree} {s : List Nat} (ha : BackU a) (hb : BackU b) (hs : opB s = true) : Ev fun f => ∀ rest, pLevel f 0 (T (exprP a) ++ ⟨3, s, 0⟩ :: (T (exprP b) ++ ⟨3, [41], 0⟩ :: rest)) = .ok (.node 20 s 0 [a, b]) (⟨3, [41], 0⟩ :: rest) := by
  obtain ⟨kk, hk5, hmem, hnot⟩ := level_of_sign hs
  have hst : ∀ r : List Tok, Stop (⟨3, [41], 0⟩ :: r) := fun r => stop_t (by decide) (by decide) (by decide)
  have key : ∀ i, i ≤ kk → Ev fun f => ∀ rest, pLevel f (kk - i) (T (exprP a) ++ ⟨3, s, 0⟩ :: (T (exprP b) ++ ⟨3, [41], 0⟩ :: rest)) = .ok (.node 20 s 0 [a, b]) (⟨3, [41], 0⟩ :: rest) := by
    intro i
    induction i with
    | zero =>
      intro _
      have la := level_back ha (5 - kk) (by omega)
      have lb := level_back hb (5 - kk) (by omega)
      rw [show 6 - (5 - kk) = kk + 1 by omega] at la lb
      refine ((la.and lb).and (Ev.ge 2)).succ fun f ⟨⟨la, lb⟩, hf⟩ rest => ?_
      obtain ⟨g, rfl⟩ : ∃ g, f = g + 1 + 1 := ⟨f - 2, by omega⟩
      rw [Nat.sub_zero, pLevel, if_neg (by omega), la _ (op_stop hs _) (fun j hj hj5 => signAt_not (hnot j (by omega) hj5)), Res.bind_ok, pLoop, signAt_of hmem]
      dsimp only
      rw [List.tail_cons, lb _ (hst rest).1 (fun j _ _ => (hst rest).2 j), Res.bind_ok]
      split
      · rfl
      · rw [pLoop, (hst rest).2]
    | succ i ih =>
      intro hi
      refine ((ih (by omega)).and (Ev.ge 1)).succ fun f ⟨h, hf⟩ rest => ?_
      obtain ⟨g, rfl⟩ : ∃ g, f = g + 1 := ⟨f - 1, by omega⟩
      rw [pLevel, if_neg (by omega), show kk - (i + 1) + 1 = kk - i by omega, h rest, Res.bind_ok, pLoop, (hst rest).2]
  have := key kk (Nat.le_refl _)
  rw [Nat.sub_self] at this
  exact this
theorem stop_comma (r : List Tok) : Stop (⟨3, [44], 0⟩ :: r) := stop_t (by decide) (by decide) (by decide)
theorem stop_close (r : List Tok) : Stop (⟨3, [41], 0⟩ :: r) := stop_t (by decide) (by decide) (by decide)
theorem stop_sq (r : List Tok) : Stop (⟨3, [93], 0⟩ :: r) := stop_t (by decide) (by decide) (by decide)
theorem tree_eq {t : Tree} {k : Int} {s : List Nat} {n : Nat} {l : List Tree} (h1 : t.kind = k) (h2 : t.text = s) (h3 : t.num = n) (h4 : t.kids = l) : t = .node k s n l := by
  cases t; simp only [Tree.kind, Tree.text, Tree.num, Tree.kids] at h1 h2 h3 h4; subst h1 h2 h3 h4; rfl
theorem kids_two {l : List Tree} (h : l.length = 2) : l = [l.getD 0 Tree.no, l.getD 1 Tree.no] := by
  match l, h with
  | [a, b], _ => rfl
theorem kids_one {l : List Tree} (h : l.length = 1) : l = [l.getD 0 Tree.no] := by
  match l, h with
  | [a], _ => rfl
end Go.Proofs.YtngpedcihajepaaGreatDoor.M
namespace Go.Proofs.YtngpedcihajepaaGreatDoor.M
set_option linter.unusedVariables false
set_option linter.unusedSimpArgs false
theorem number_tree {u : Tree} (h : numberB u = true) : u = numberT u.num := by
  have h := of_decide_eq_true h
  exact tree_eq h.1 h.2.1 rfl (List.length_eq_zero_iff.1 h.2.2.2)
theorem index_step {p : List Tok → Res Tree} {a b : Tree} (hb : Parses p b) (c : Nat) (rest : List Tok) : pIndex p (c + 1) a (⟨3, [91], 0⟩ :: (T (exprP b) ++ ⟨3, [93], 0⟩ :: rest)) = pIndex p c (.node 17 [] 0 [a, b]) rest := by
  rw [pIndex, if_pos (isS_eq (by decide)), List.tail_cons, hb _ (stop_sq rest), Res.bind_ok, take_eq (by decide), Res.bind_ok]
theorem typedS_not {s : List Nat} {a : Nat} {r : List Tok} (h : nameOk s = true) : typedS (⟨1, s, a⟩ :: r) = false := by
  unfold typedS
  rw [isS_ne (name_nw h (by decide)), isS_ne (name_nw h (by decide)), isS_ne (name_nw h (by decide))]; rfl
theorem back_expr : ∀ (f : Nat) (t : Tree), exprF f t = true → BackU t ∧ (t.kind ≠ 19 → BackI t)
  | 0, t, h => by rw [exprF] at h; cases h
  | f + 1, t, h => by
    have ih := back_expr f
    have hfull := h
    have fin : (t.kind ≠ 19 → BackI t) → t.kind ≠ 19 → BackU t ∧ (t.kind ≠ 19 → BackI t) := fun h1 h2 => ⟨(h1 h2).unary hfull h2, h1⟩
    have eP := exprP_eq t
    unfold exprPW at eP
    rw [exprF] at h
    by_cases h14 : t.kind = 14
    · rw [if_pos h14] at h eP
      refine fin (fun _ => BackI.prim 0 (Ev.of fun f c _ rest h0 => ?_)) (by omega)
      have hn := (of_decide_eq_true h).2.2.1
      rw [eP]
      show pPrimary _ _ (⟨2, digitsL t.num, 0⟩ :: rest) = _
      unfold pPrimary
      rw [if_neg (by rw [isS_two]; decide), if_neg (by rw [isS_two]; decide), if_neg (by simp [typedS, isS_two]), if_neg (by simp [nameS]), pNumber_eq hn, Res.bind_ok, ← number_tree h]
    rw [if_neg h14] at h eP
    by_cases h15 : t.kind = 15
    · rw [if_pos h15] at h eP
      refine fin (fun _ => BackI.prim 0 (Ev.of fun f c _ rest h0 => ?_)) (by omega)
      have h := of_decide_eq_true h
      rw [eP]
      show pPrimary _ _ (⟨1, t.text, 0⟩ :: rest) = _
      unfold pPrimary
      rw [if_neg (by rw [isS_ne (name_ne h.1 (by decide))]; decide), if_neg (by rw [isS_ne (name_ne h.1 (by decide))]; decide), if_neg (by rw [typedS_not h.1]; decide), if_pos (nameS_eq h.1), List.tail_cons, if_neg (by rw [h0]; decide)]
      rw [tree_eq (t := t) h15 rfl h.2.1 (List.length_eq_zero_iff.1 h.2.2)]; rfl
    rw [if_neg h15] at h eP
    by_cases h16 : t.kind = 16
    · rw [if_pos h16] at h eP
      have h := of_decide_eq_true h
      have hk : ∀ u ∈ t.kids, exprF f u = true := List.all_eq_true.1 h.2.2
      refine fin (fun _ => BackI.prim t.kids.length ((Ev.all fun u hu => (ih u (hk u hu)).1.parses).imp fun f hp c hc rest h0 => ?_)) (by omega)
      have hA : pArgs (pLevel f 0) c (T (joinP (t.kids.map exprP)) ++ (⟨3, [41], 0⟩ :: rest)) = .ok t.kids rest := args_back (S := Stop) stop_comma stop_close hc (fun u hu r hr => hp u hu r hr) (fun u hu r => head_not (head_expr _ _ (hk u hu)) (by decide) (by decide) (by decide) (fun _ => by decide) r)
      have e : T (exprP t) ++ rest = ⟨1, t.text, 0⟩ :: ⟨3, [40], 0⟩ :: (T (joinP (t.kids.map exprP)) ++ (⟨3, [41], 0⟩ :: rest)) := by
        rw [eP, T_app, T_app, List.append_assoc, List.append_assoc]; rfl
      have et : t = .node 16 t.text 0 t.kids := tree_eq h16 rfl h.2.1 rfl
      rw [e]
      unfold pPrimary
      by_cases hn : nameOk t.text = true
      · rw [if_neg (by rw [isS_ne (name_ne hn (by decide))]; decide), if_neg (by rw [isS_ne (name_ne hn (by decide))]; decide), if_neg (by rw [typedS_not hn]; decide), if_pos (nameS_eq hn), List.tail_cons, if_pos (isS_eq (by decide)), List.tail_cons, hA, Res.bind_ok]
        exact congrArg (Res.ok · rest) et.symm
      · have h3 : t.text = [110, 117, 109] ∨ t.text = [98, 105, 116] ∨ t.text = [119, 111, 114, 100] := h.1.resolve_left hn
        have ht : typedS (⟨1, t.text, 0⟩ :: ⟨3, [40], 0⟩ :: (T (joinP (t.kids.map exprP)) ++ (⟨3, [41], 0⟩ :: rest))) = true := by
          unfold typedS
          rw [isS_cons, isS_cons, isS_cons]
          rcases h3 with h3 | h3 | h3 <;> rw [h3] <;> rfl
        have n40 : t.text ≠ [40] := by rcases h3 with h3 | h3 | h3 <;> rw [h3] <;> decide
        have n91 : t.text ≠ [91] := by rcases h3 with h3 | h3 | h3 <;> rw [h3] <;> decide
        rw [if_neg (by rw [isS_ne n40]; decide), if_neg (by rw [isS_ne n91]; decide), if_pos ht, List.tail_cons, take_eq (by decide), Res.bind_ok, hA, Res.bind_ok]
        exact congrArg (Res.ok · rest) et.symm
    rw [if_neg h16] at h eP
    by_cases h18 : t.kind = 18
    · rw [if_pos h18] at eP
      rw [if_neg (by omega), if_pos h18] at h
      have h := of_decide_eq_true h
      have hk : ∀ u ∈ t.kids, exprF f u = true := List.all_eq_true.1 h.2.2.2
      refine fin (fun _ => BackI.prim t.kids.length ((Ev.all fun u hu => (ih u (hk u hu)).1.parses).imp fun f hp c hc rest h0 => ?_)) (by omega)
      have hL := list_back (p := pLevel f 0) (q := exprP) (S := Stop) stop_comma (stop_sq rest) (isS_ne (by decide)) t.kids c [] (fun e => by rw [e] at h; simp at h) hc (fun u hu r hr => hp u hu r hr)
      rw [List.nil_append] at hL
      have e : T (exprP t) ++ rest = ⟨3, [91], 0⟩ :: (T (joinP (t.kids.map exprP)) ++ (⟨3, [93], 0⟩ :: rest)) := by
        rw [eP, T_app, T_app, List.append_assoc, List.append_assoc]; rfl
      rw [e]
      unfold pPrimary
      rw [if_neg (by rw [isS_ne (by decide)]; decide), if_pos (isS_eq (by decide)), List.tail_cons]
      unfold pList
      rw [show ((pLevel f 0 (T (joinP (t.kids.map exprP)) ++ (⟨3, [93], 0⟩ :: rest))).bind fun n r => pSep (pLevel f 0) c [n] r) = .ok t.kids (⟨3, [93], 0⟩ :: rest) from hL, Res.bind_ok, take_eq (by decide), Res.bind_ok]
      exact congrArg (Res.ok · rest) (tree_eq h18 h.1 h.2.1 rfl).symm
    rw [if_neg h18] at eP
    by_cases h19 : t.kind = 19
    · rw [if_pos h19] at eP
      rw [if_neg (by omega), if_neg (by omega), if_pos h19] at h
      have h := of_decide_eq_true h
      refine ⟨?_, fun e => absurd h19 e⟩
      rw [(getD_map_mem (p := exprP) (show 0 < t.kids.length by omega)).1] at eP
      have hu := (ih _ h.2.2.2).1
      have et : t = .node 19 t.text 0 [t.kids.getD 0 Tree.no] := tree_eq h19 rfl h.2.1 (kids_one h.2.2.1)
      have e : ∀ rest, T (exprP t) ++ rest = ⟨3, t.text, 0⟩ :: (T (exprP (t.kids.getD 0 Tree.no)) ++ rest) := fun rest => by
        rw [eP, T_app, List.append_assoc]; rfl
      refine Ev.succ hu fun f hu rest h0 => ?_
      rw [e]
      rcases h.1 with hs | hs
      · rw [hs] at et ⊢
        rw [pUnary, if_pos (isS_eq (by decide)), List.tail_cons, hu rest h0, Res.bind_ok]
        exact congrArg (Res.ok · rest) et.symm
      · rw [hs] at et ⊢
        rw [pUnary, if_neg (by rw [isS_ne (by decide)]; decide), if_pos (isS_eq (by decide)), List.tail_cons, hu rest h0, Res.bind_ok]
        exact congrArg (Res.ok · rest) et.symm
    rw [if_neg h19] at eP
    by_cases h20 : t.kind = 20
    · rw [if_pos h20] at eP
      rw [if_neg (by omega), if_neg (by omega), if_neg (by omega), if_pos h20] at h
      have h := of_decide_eq_true h
      obtain ⟨e0, m0⟩ := getD_map_mem (p := exprP) (l := t.kids) (i := 0) (by omega)
      obtain ⟨e1, m1⟩ := getD_map_mem (p := exprP) (l := t.kids) (i := 1) (by omega)
      have k0 := (ih _ (List.all_eq_true.1 h.2.2.2 _ m0)).1
      have k1 := (ih _ (List.all_eq_true.1 h.2.2.2 _ m1)).1
      rw [e0, e1] at eP
      refine fin (fun _ => BackI.prim 0 ((binary_back k0 k1 h.1).imp fun f hb c hc rest h0 => ?_)) (by omega)
      have e : T (exprP t) ++ rest = ⟨3, [40], 0⟩ :: (T (exprP (t.kids.getD 0 Tree.no)) ++ ⟨3, t.text, 0⟩ :: (T (exprP (t.kids.getD 1 Tree.no)) ++ ⟨3, [41], 0⟩ :: rest)) := by
        rw [eP, T_app, T_app, T_app, T_app, List.append_assoc, List.append_assoc, List.append_assoc, List.append_assoc]; rfl
      rw [e]
      unfold pPrimary
      rw [if_pos (isS_eq (by decide)), List.tail_cons, hb rest, Res.bind_ok, take_eq (by decide), Res.bind_ok]
      exact congrArg (Res.ok · rest) (tree_eq h20 rfl h.2.1 (kids_two h.2.2.1)).symm
    rw [if_neg h20] at eP
    by_cases h17 : t.kind = 17
    · rw [if_pos h17] at h
      have h := of_decide_eq_true h
      obtain ⟨e0, m0⟩ := getD_map_mem (p := exprP) (l := t.kids) (i := 0) (by omega)
      obtain ⟨e1, m1⟩ := getD_map_mem (p := exprP) (l := t.kids) (i := 1) (by omega)
      have k0 := ih _ (List.all_eq_true.1 h.2.2.2 _ m0)
      have k1 := ih _ (List.all_eq_true.1 h.2.2.2 _ m1)
      rw [e0, e1] at eP
      have et : t = .node 17 [] 0 [t.kids.getD 0 Tree.no, t.kids.getD 1 Tree.no] := tree_eq h17 h.1 h.2.1 (kids_two h.2.2.1)
      refine fin (fun _ => ?_) (by omega)
      by_cases hk : (t.kids.getD 0 Tree.no).kind = 19
      · rw [if_pos hk] at eP
        refine ⟨1, 2, by omega, (k0.1.parses.and k1.1.parses).imp fun f ⟨p0, p1⟩ c hc rest h0 => ?_⟩
        obtain ⟨c, rfl⟩ : ∃ d, c = d + 1 := ⟨c - 1, by omega⟩
        have e : T (exprP t) ++ rest = ⟨3, [40], 0⟩ :: (T (exprP (t.kids.getD 0 Tree.no)) ++ ⟨3, [41], 0⟩ :: ⟨3, [91], 0⟩ :: (T (exprP (t.kids.getD 1 Tree.no)) ++ ⟨3, [93], 0⟩ :: rest)) := by
          rw [eP, T_app, T_app, T_app, T_app, List.append_assoc, List.append_assoc, List.append_assoc, List.append_assoc]; rfl
        rw [e]
        unfold pIndexed pPrimary
        rw [if_pos (isS_eq (by decide)), List.tail_cons, p0 _ (stop_close _), Res.bind_ok, take_eq (by decide), Res.bind_ok, Res.bind_ok, index_step p1, ← et]
        rfl
      · rw [if_neg hk] at eP
        obtain ⟨d, m, hdm, hi⟩ := k0.2 hk
        refine ⟨d + 1, m + 1, by omega, (hi.and k1.1.parses).imp fun f ⟨hi, p1⟩ c hc rest h0 => ?_⟩
        have e : T (exprP t) ++ rest = T (exprP (t.kids.getD 0 Tree.no)) ++ ⟨3, [91], 0⟩ :: (T (exprP (t.kids.getD 1 Tree.no)) ++ ⟨3, [93], 0⟩ :: rest) := by
          rw [eP, T_app, T_app, T_app, List.append_assoc, List.append_assoc, List.append_assoc]; rfl
        rw [e, hi c (by omega) _ (isS_ne (by decide)), show c - d = c - (d + 1) + 1 by omega, index_step p1, ← et]
    rw [if_neg h17, if_neg h18, if_neg h19, if_neg h20] at h
    cases h
def HeadI (l : List Tok) : Prop := ∃ (s : List Nat) (r : List Tok), l = ⟨1, s, 0⟩ :: r ∧ (s = [105, 110] ∨ s = [108, 101, 116] ∨ s = [105, 102] ∨ s = [102, 111, 114] ∨ s = [111, 117, 116] ∨ s = [100, 101, 102] ∨ nameOk s = true)
theorem HeadI.app {l : List Tok} (h : HeadI l) (r : List Tok) : HeadI (l ++ r) := by
  obtain ⟨s, q, rfl, h⟩ := h
  exact ⟨s, q ++ r, rfl, h⟩
end Go.Proofs.YtngpedcihajepaaGreatDoor.M
namespace Go.Proofs.YtngpedcihajepaaGreatDoor.M
set_option linter.unusedVariables false
set_option linter.unusedSimpArgs false
def opnB (c : Nat) : Bool := decide (c = 40 ∨ c = 91 ∨ c = 123)
def clsB (c : Nat) : Bool := decide (c = 41 ∨ c = 93 ∨ c = 125)
/-- from depth n the bytes lead to depth e, at most m deep, and never close what is not open -/
inductive Hi : Nat → List Nat → Nat → Nat → Prop
  | nil {n : Nat} : Hi n [] n n
  | opn {n e m c : Nat} {r : List Nat} : opnB c = true → Hi (n + 1) r e m → Hi n (c :: r) e m
  | cls {n e m c : Nat} {r : List Nat} : clsB c = true → Hi n r e m → Hi (n + 1) (c :: r) e (max (n + 1) m)
  | oth {n e m c : Nat} {r : List Nat} : opnB c = false → clsB c = false → Hi n r e m → Hi n (c :: r) e m
theorem Hi.le {n e m : Nat} {l : List Nat} (h : Hi n l e m) : n ≤ m ∧ e ≤ m := by
  induction h with
  | nil => exact ⟨Nat.le_refl _, Nat.le_refl _⟩
  | opn _ _ ih => exact ⟨by omega, ih.2⟩
  | cls _ _ ih => exact ⟨by omega, by omega⟩
  | oth _ _ _ ih => exact ih
theorem Hi.app {n k e m1 m2 : Nat} {a b : List Nat} (h : Hi n a k m1) (h2 : Hi k b e m2) : Hi n (a ++ b) e (max m1 m2) := by
  induction h with
  | nil => have := h2.le; rw [Nat.max_eq_right this.1]; exact h2
  | opn hc _ ih => exact .opn hc (ih h2)
  | cls hc _ ih => rw [Nat.max_assoc]; exact .cls hc (ih h2)
  | oth h1 h3 _ ih => exact .oth h1 h3 (ih h2)
theorem Hi.plain {n : Nat} : ∀ {l : List Nat}, (∀ c ∈ l, opnB c = false ∧ clsB c = false) → Hi n l n n
  | [], _ => .nil
  | c :: r, h => .oth (h c (by simp)).1 (h c (by simp)).2 (Hi.plain fun d hd => h d (List.mem_cons_of_mem _ hd))
/-- closed, and h deep -/
def Bal (l : List Nat) (h : Nat) : Prop := ∀ n, Hi n l n (n + h)
theorem Bal.plain {l : List Nat} (h : ∀ c ∈ l, opnB c = false ∧ clsB c = false) : Bal l 0 := fun n => Hi.plain h
theorem Bal.app {a b : List Nat} {h k : Nat} (ha : Bal a h) (hb : Bal b k) : Bal (a ++ b) (max h k) := fun n => by
  have := (ha n).app (hb n)
  rw [show max (n + h) (n + k) = n + max h k by omega] at this
  exact this
theorem Bal.brk {a : List Nat} {h o c : Nat} (ho : opnB o = true) (hc : clsB c = true) (ha : Bal a h) : Bal (o :: (a ++ [c])) (h + 1) := fun n => by
  have h1 : Hi (n + 1) (a ++ [c]) n (max (n + 1 + h) (max (n + 1) n)) := (ha (n + 1)).app (.cls hc .nil)
  rw [show max (n + 1 + h) (max (n + 1) n) = n + (h + 1) by omega] at h1
  exact .opn ho h1
def BalE (l : List Nat) : Prop := ∃ h, Bal l h
theorem BalE.app {a b : List Nat} (ha : BalE a) (hb : BalE b) : BalE (a ++ b) := ha.elim fun _ ha => hb.elim fun _ hb => ⟨_, ha.app hb⟩
theorem BalE.brk {a : List Nat} {o c : Nat} (ho : opnB o = true) (hc : clsB c = true) (ha : BalE a) : BalE ([o] ++ a ++ [c]) := ha.elim fun _ ha => ⟨_, by simpa using ha.brk ho hc⟩
theorem BalE.plain {l : List Nat} (h : l.all (fun c => !opnB c && !clsB c) = true) : BalE l := ⟨0, Bal.plain fun c hc => by
  have := List.all_eq_true.1 h c hc
  simp only [Bool.and_eq_true, Bool.not_eq_true'] at this
  exact this⟩
theorem name_plain {l : List Nat} (h : l.all nameB = true) : ∀ c ∈ l, opnB c = false ∧ clsB c = false := fun c hc => by
  have := List.all_eq_true.1 h c hc
  unfold nameB letterB digitB at this
  simp only [Bool.or_eq_true, decide_eq_true_eq, beq_iff_eq] at this
  unfold opnB clsB
  rw [decide_eq_false_iff_not, decide_eq_false_iff_not]
  omega
theorem digit_plain {l : List Nat} (h : l.all digitB = true) : ∀ c ∈ l, opnB c = false ∧ clsB c = false := fun c hc => by
  have := List.all_eq_true.1 h c hc
  unfold digitB at this
  rw [decide_eq_true_eq] at this
  unfold opnB clsB
  rw [decide_eq_false_iff_not, decide_eq_false_iff_not]
  omega
theorem bal_name {s : List Nat} (h : nameOk s = true) : BalE s := by
  unfold nameOk at h
  rw [Bool.and_eq_true] at h
  exact ⟨0, Bal.plain (name_plain (isName_facts h.1).2.2.2)⟩
theorem bal_digits (n : Nat) : BalE (digitsL n) := ⟨0, Bal.plain (digit_plain (digitsL_all n))⟩
theorem bal_join : ∀ (l : List (List Nat)), (∀ a ∈ l, BalE a) → BalE (joinW [44, 32] l)
  | [], _ => .plain rfl
  | [a], h => h a (by simp)
  | a :: b :: r, h => by
    have ih := bal_join (b :: r) fun x hx => h x (List.mem_cons_of_mem _ hx)
    rw [joinW]
    exact ((h a (by simp)).app (.plain (by decide))).app ih
theorem getD_map_T {p : Tree → List Nat} {l : List Tree} {i : Nat} (h : i < l.length) : (l.map p).getD i [] = p (l.getD i Tree.no) ∧ l.getD i Tree.no ∈ l :=
  ⟨map_getD h, kid_mem h⟩
theorem bal_expr : ∀ (f : Nat) (t : Tree), exprF f t = true → BalE (exprT t)
  | 0, t, h => by rw [exprF] at h; cases h
  | f + 1, t, h => by
    have ih := bal_expr f
    rw [exprT_eq]
    unfold exprW
    rw [exprF] at h
    by_cases h14 : t.kind = 14
    · rw [if_pos h14]; exact bal_digits _
    rw [if_neg h14] at h ⊢
    by_cases h15 : t.kind = 15
    · rw [if_pos h15] at h ⊢; exact bal_name (of_decide_eq_true h).1
    rw [if_neg h15] at h ⊢
    by_cases h16 : t.kind = 16
    · rw [if_pos h16] at h ⊢
      have h := of_decide_eq_true h
      have ht : BalE t.text := by
        rcases h.1 with h | h | h | h
        · exact bal_name h
        all_goals (rw [h]; exact .plain (by decide))
      have hj : BalE (joinW [44, 32] (t.kids.map exprT)) := bal_join _ fun a ha => by
        obtain ⟨u, hu, rfl⟩ := List.mem_map.1 ha
        exact ih u (List.all_eq_true.1 h.2.2 u hu)
      have := ht.app (hj.brk (o := 40) (c := 41) (by decide) (by decide))
      simpa only [List.append_assoc] using this
    rw [if_neg h16] at h ⊢
    by_cases h18 : t.kind = 18
    · rw [if_pos h18]
      rw [if_neg (by omega), if_pos h18] at h
      have h := of_decide_eq_true h
      have hj : BalE (joinW [44, 32] (t.kids.map exprT)) := bal_join _ fun a ha => by
        obtain ⟨u, hu, rfl⟩ := List.mem_map.1 ha
        exact ih u (List.all_eq_true.1 h.2.2.2 u hu)
      exact hj.brk (by decide) (by decide)
    rw [if_neg h18]
    by_cases h19 : t.kind = 19
    · rw [if_pos h19]
      rw [if_neg (by omega), if_neg (by omega), if_pos h19] at h
      have h := of_decide_eq_true h
      rw [(getD_map_T (p := exprT) (show 0 < t.kids.length by omega)).1]
      refine BalE.app ?_ (ih _ h.2.2.2)
      rcases h.1 with h | h <;> (rw [h]; exact .plain (by decide))
    rw [if_neg h19]
    by_cases h20 : t.kind = 20
    · rw [if_pos h20]
      rw [if_neg (by omega), if_neg (by omega), if_neg (by omega), if_pos h20] at h
      have h := of_decide_eq_true h
      obtain ⟨e0, m0⟩ := getD_map_T (p := exprT) (l := t.kids) (i := 0) (by omega)
      obtain ⟨e1, m1⟩ := getD_map_T (p := exprT) (l := t.kids) (i := 1) (by omega)
      have k0 := ih _ (List.all_eq_true.1 h.2.2.2 _ m0)
      have k1 := ih _ (List.all_eq_true.1 h.2.2.2 _ m1)
      have ht : BalE t.text := by
        have := of_decide_eq_true h.1
        simp only [signsL, List.mem_cons, List.not_mem_nil, or_false] at this
        rcases this with h | h | h | (h | h) | (h | h) | h <;> (rw [h]; exact .plain (by decide))
      rw [e0, e1]
      have := (k0.app ((BalE.plain (l := [32]) (by decide)).app (ht.app ((BalE.plain (l := [32]) (by decide)).app k1)))).brk (o := 40) (c := 41) (by decide) (by decide)
      simpa only [List.append_assoc] using this
    rw [if_neg h20]
    by_cases h17 : t.kind = 17
    · rw [if_pos h17] at h
      have h := of_decide_eq_true h
      obtain ⟨e0, m0⟩ := getD_map_T (p := exprT) (l := t.kids) (i := 0) (by omega)
      obtain ⟨e1, m1⟩ := getD_map_T (p := exprT) (l := t.kids) (i := 1) (by omega)
      have k0 := ih _ (List.all_eq_true.1 h.2.2.2 _ m0)
      have k1 := ih _ (List.all_eq_true.1 h.2.2.2 _ m1)
      rw [e0, e1]
      split
      · have := (k0.brk (o := 40) (c := 41) (by decide) (by decide)).app (k1.brk (o := 91) (c := 93) (by decide) (by decide))
        simpa only [List.append_assoc, List.cons_append, List.nil_append] using this
      · have := k0.app (k1.brk (o := 91) (c := 93) (by decide) (by decide))
        simpa only [List.append_assoc] using this
    rw [if_neg h17, if_neg h18, if_neg h19, if_neg h20] at h
    cases h
/-! ## What open tells -/
def stepI (n : Int) (c : Nat) : Int := if opnB c = true then n + 1 else if clsB c = true then n - 1 else n
/-- how many brackets are open at most -/
def openI : Int → Int → List Nat → Int
  | _, most, [] => most
  | n, most, c :: r => openI (stepI n c) (max most (stepI n c)) r
theorem opn_not_cls {c : Nat} (h : opnB c = true) : clsB c = false := by
  unfold opnB at h; unfold clsB
  rw [decide_eq_true_eq] at h
  rw [decide_eq_false_iff_not]; omega
theorem openI_of {n e m : Nat} {l : List Nat} (h : Hi n l e m) : ∀ mo : Int, (n : Int) ≤ mo → openI n mo l = max mo m := by
  induction h with
  | nil => intro mo hm; rw [openI]; omega
  | opn hc h ih =>
    rename_i n _ _ _ _
    intro mo hm
    have := h.le
    rw [openI, stepI, if_pos hc]
    have e := ih (max mo ((n : Int) + 1)) (by push_cast; omega)
    push_cast at e
    rw [e]; omega
  | cls hc h ih =>
    rename_i n _ _ c _
    intro mo hm
    have hno : ¬ opnB c = true := fun h => by rw [opn_not_cls h] at hc; cases hc
    rw [openI, stepI, if_neg hno, if_pos hc]
    have e := ih (max mo (n : Int)) (by omega)
    rw [show (((n + 1 : Nat) : Int) - 1) = (n : Int) by omega, e]; push_cast; omega
  | oth h1 h2 h ih =>
    intro mo hm
    rw [openI, stepI, if_neg (by rw [h1]; decide), if_neg (by rw [h2]; decide), Int.max_eq_left hm]
    exact ih mo hm
theorem openI_bal {l : List Nat} {h : Nat} (hb : Bal l h) : openI 0 0 l = (h : Int) := by
  have := openI_of (hb 0) 0 (Int.le_refl _)
  rw [show ((0 : Nat) : Int) = 0 from rfl] at this
  rw [this]; omega

/-! ## Tokens and bytes -/
/-- a gap holds no bracket -/
def PlainG : List Pc → Prop
  | [] => True
  | .g l :: r => (∀ c ∈ l, opnB c = false ∧ clsB c = false) ∧ PlainG r
  | .t _ _ :: r => PlainG r
theorem Hi.split {n e m : Nat} : ∀ {a b : List Nat}, Hi n (a ++ b) e m → (∀ c ∈ a, opnB c = false ∧ clsB c = false) → Hi n b e m
  | [], b, h, _ => h
  | c :: a, b, h, hp => by
    have hc := hp c (by simp)
    have hp' : ∀ c ∈ a, opnB c = false ∧ clsB c = false := fun d hd => hp d (List.mem_cons_of_mem _ hd)
    rw [List.cons_append] at h
    cases h with
    | opn h1 h2 => rw [hc.1] at h1; cases h1
    | cls h1 h2 => rw [hc.2] at h1; cases h1
    | oth _ _ h2 => exact h2.split hp'
theorem tok_plain {k : Int} {s : List Nat} (h : tokB k s = true) : (∀ c ∈ s, opnB c = false ∧ clsB c = false) ∨ ∃ c, s = [c] := by
  rcases tok_cases h with ⟨rfl, hk⟩ | ⟨rfl, hk⟩ | ⟨rfl, hk⟩
  · exact .inl (name_plain (isName_facts hk).2.2.2)
  · exact .inl (digit_plain (numE_zero hk).2.1)
  · rcases sign_cases hk with rfl | ⟨c, rfl, _⟩
    · exact .inl (by decide)
    · exact .inr ⟨c, rfl⟩
theorem step_plain {s : List Nat} (n : Nat) (h : ∀ c ∈ s, opnB c = false ∧ clsB c = false) : stepO n s = n := by
  have hne : ∀ c, (opnB c = true ∨ clsB c = true) → s ≠ [c] := fun c hc e => by
    have := h c (by rw [e]; simp)
    rw [this.1, this.2] at hc
    rcases hc with hc | hc <;> cases hc
  unfold stepO
  rw [if_neg (fun e => by rcases e with e | e | e <;> exact hne _ (by decide) e), if_neg (fun e => by rcases e with e | e | e <;> exact hne _ (by decide) e)]
theorem step_one (n c : Nat) : stepO n [c] = if opnB c = true then n + 1 else if clsB c = true then n - 1 else n := by
  unfold stepO opnB clsB
  simp only [List.cons.injEq, and_true, decide_eq_true_eq]
theorem open_pieces (N : Nat) : ∀ (ps : List Pc) {z : List Nat} {n e m : Nat}, OkP ps z → PlainG ps → Hi n (flat ps) e m → n ≤ 200 → (m ≤ 200 → openAt n (TN N ps) = none) ∧ (200 < m → ∃ q, openAt n (TN N ps) = some q)
  | [], z, n, e, m, _, _, h, hn => by
    rw [flat_nil] at h
    cases h
    exact ⟨fun _ => rfl, fun h => by omega⟩
  | .g l :: r, z, n, e, m, ho, hg, h, hn => by
    rw [flat_cons] at h
    exact open_pieces N r ho.2 hg.2 (h.split hg.1) hn
  | .t k s :: r, z, n, e, m, ho, hg, h, hn => by
    rw [flat_cons] at h
    have h : Hi n (s ++ flat r) e m := h
    rw [TN, openAt]
    rcases tok_plain ho.1 with hp | ⟨c, rfl⟩
    · rw [step_plain n hp, if_neg (by omega)]
      exact open_pieces N r ho.2.2 hg (h.split hp) hn
    · rw [step_one]
      rw [List.singleton_append] at h
      cases h with
      | opn h1 h2 =>
        rw [if_pos h1]
        have hle := h2.le
        by_cases h200 : 200 < n + 1
        · rw [if_pos h200]
          exact ⟨fun h => by omega, fun _ => ⟨_, rfl⟩⟩
        · rw [if_neg h200]
          exact open_pieces N r ho.2.2 hg h2 (by omega)
      | cls h1 h2 =>
        rename_i n' m'
        have hno : ¬ opnB c = true := fun h => by rw [opn_not_cls h] at h1; cases h1
        rw [if_neg hno, if_pos h1, show n' + 1 - 1 = n' by omega, if_neg (by omega)]
        obtain ⟨a, b⟩ := open_pieces N r ho.2.2 hg h2 (by omega)
        exact ⟨fun h => a (by omega), fun h => b (by omega)⟩
      | oth h1 h3 h2 =>
        rw [if_neg (show ¬ opnB c = true by rw [h1]; decide), if_neg (show ¬ clsB c = true by rw [h3]; decide), if_neg (by omega)]
        exact open_pieces N r ho.2.2 hg h2 hn
end Go.Proofs.YtngpedcihajepaaGreatDoor.M
namespace Go.Proofs.YtngpedcihajepaaGreatDoor
namespace M
set_option linter.unusedVariables false
set_option linter.unusedSimpArgs false
theorem PlainG.app : ∀ {a b : List Pc}, PlainG a → PlainG b → PlainG (a ++ b)
  | [], b, _, h => h
  | .g l :: r, b, h, h2 => ⟨h.1, PlainG.app h.2 h2⟩
  | .t k s :: r, b, h, h2 => PlainG.app (a := r) h h2
theorem plain_bl {r : List Pc} (h : PlainG r) : PlainG (bl :: r) := ⟨by decide, h⟩
theorem plain_getD {s : List (List Pc)} (h : ∀ a ∈ s, PlainG a) (i : Nat) : PlainG (s.getD i []) := by
  rw [List.getD_eq_getElem?_getD]
  cases e : s[i]? with
  | none => trivial
  | some a => exact h a (List.mem_of_getElem? e)
theorem plain_join : ∀ {s : List (List Pc)}, (∀ a ∈ s, PlainG a) → PlainG (joinP s)
  | [], _ => trivial
  | [a], h => h a (by simp)
  | a :: b :: r, h => by
    have ih := plain_join (s := b :: r) fun x hx => h x (List.mem_cons_of_mem _ hx)
    rw [joinP]
    exact PlainG.app (PlainG.app (h a (by simp)) (show PlainG (sg 44 :: bl :: []) from plain_bl trivial)) ih
theorem plain_exprPW (k : Int) (tx : List Nat) (n : Nat) (ks : Int) (s : List (List Pc)) (h : ∀ a ∈ s, PlainG a) : PlainG (exprPW k tx n ks s) := by
  have t0 : ∀ k s, PlainG [Pc.t k s] := fun _ _ => trivial
  unfold exprPW
  split
  · trivial
  split
  · trivial
  split
  · exact PlainG.app (PlainG.app (show PlainG [nm tx, sg 40] from trivial) (plain_join h)) (t0 _ _)
  split
  · exact PlainG.app (PlainG.app (t0 _ _) (plain_join h)) (t0 _ _)
  split
  · exact PlainG.app (t0 _ _) (plain_getD h 0)
  split
  · exact PlainG.app (PlainG.app (PlainG.app (PlainG.app (t0 _ _) (plain_getD h 0)) (show PlainG (bl :: .t 3 tx :: bl :: []) from plain_bl (plain_bl (r := []) trivial))) (plain_getD h 1)) (t0 _ _)
  split
  · exact PlainG.app (PlainG.app (PlainG.app (PlainG.app (t0 _ _) (plain_getD h 0)) (show PlainG [sg 41, sg 91] from trivial)) (plain_getD h 1)) (t0 _ _)
  · exact PlainG.app (PlainG.app (PlainG.app (plain_getD h 0) (t0 _ _)) (plain_getD h 1)) (t0 _ _)
mutual
theorem plain_exprP : ∀ t : Tree, PlainG (exprP t)
  | .node k tx n l => by rw [exprP]; exact plain_exprPW _ _ _ _ _ (plain_exprPL l)
theorem plain_exprPL : ∀ (l : List Tree), ∀ a ∈ exprPL l, PlainG a
  | [], a, h => by rw [exprPL] at h; cases h
  | t :: r, a, h => by
    rw [exprPL] at h
    rcases List.mem_cons.1 h with rfl | h
    · exact plain_exprP t
    · exact plain_exprPL r a h
end
/-- of pieces whose tokens are a program -/
theorem parseR_pieces (N : Nat) {ps : List Pc} {t : Tree} (hb : Ev fun f => pProgram f (T ps) = .ok t []) (ho : openAt 0 (TN N ps) = none) (hs : sizeE t = 0) : parseR N (TN N ps) = (t, 0, 0) := by
  obtain ⟨f0, hb⟩ := hb
  have e1 := program_of (hb f0 (Nat.le_refl _))
  have hT : (TN N ps).map er = T ps := T_er (TN_toks N ps)
  have hl : (TN N ps).length = (T ps).length := by rw [← hT, List.length_map]
  have e2 := program_er (fuel (TN N ps).length) (TN N ps)
  rw [hT, hl, e1] at e2
  unfold parseR
  rw [ho]
  dsimp only
  rw [hl]
  cases x : pProgram (fuel (T ps).length) (TN N ps) with
  | ok t' r =>
    rw [x] at e2
    simp only [Res.er, Res.ok.injEq] at e2
    obtain ⟨rfl, _⟩ := e2
    dsimp only
    rw [if_pos hs]
  | bad r => rw [x] at e2; cases e2
  | out => rw [x] at e2; cases e2
theorem check_zero {t : Tree} (h : checkE t = 0) : t.kind = 1 ∧ t.text = [] ∧ t.num = 0 ∧ t.kids.all (itemF (count t)) = true ∧ count t ≤ 20000 ∧ deep t ≤ 60 := by
  unfold checkE at h
  split at h
  · rename_i h1
    split at h
    · cases h
    · exact ⟨h1.1, h1.2.1, h1.2.2.1, h1.2.2.2, by omega, by omega⟩
  · cases h
end M
/-- where Parse answers an error, it answers no tree -/
theorem ParseIs.none {L : List Nat} {t : M.Tree} {a : Nat} {E : Int} (h : ParseIs L t a E) (hE : E ≠ 0) : t = M.Tree.no := by
  obtain ⟨ts, p, e, hr, h⟩ := h
  split at h
  · unfold M.parseR at h
    split at h
    · simp only [Prod.mk.injEq] at h; exact h.1
    · split at h
      · split at h
        · simp only [Prod.mk.injEq] at h; exact absurd h.2.2 hE
        · simp only [Prod.mk.injEq] at h; exact h.1
      · simp only [Prod.mk.injEq] at h; exact h.1
      · simp only [Prod.mk.injEq] at h; exact h.1
  · simp only [Prod.mk.injEq] at h; exact h.1
end Go.Proofs.YtngpedcihajepaaGreatDoor
namespace Go.Proofs.YtngpedcihajepaaGreatDoor
namespace M
set_option linter.unusedVariables false
set_option linter.unusedSimpArgs false
theorem Hi.len {n e m : Nat} {l : List Nat} (h : Hi n l e m) : m ≤ n + l.length := by
  induction h with
  | nil => simp
  | opn _ _ ih => simp only [List.length_cons]; omega
  | cls _ _ ih => simp only [List.length_cons]; omega
  | oth _ _ _ ih => simp only [List.length_cons]; omega
theorem Bal.len {l : List Nat} {h : Nat} (hb : Bal l h) : h ≤ l.length := by have := (hb 0).len; omega
/-- so many parentheses -/
def parP : Nat → List Pc → List Pc
  | 0, ps => ps
  | d + 1, ps => [sg 40] ++ parP d ps ++ [sg 41]
theorem flat_parP (ps : List Pc) : ∀ d, flat (parP d ps) = List.replicate d 40 ++ flat ps ++ List.replicate d 41
  | 0 => by simp [parP]
  | d + 1 => by
    rw [parP, flat_app, flat_app, flat_parP ps d, flat_sg, flat_sg, List.replicate_succ, show List.replicate (d + 1) 41 = List.replicate d 41 ++ [41] from List.replicate_succ']
    simp only [List.append_assoc, List.cons_append, List.nil_append]
theorem ok_parP {ps : List Pc} (h : OkE ps) : ∀ d, OkE (parP d ps)
  | 0 => h
  | d + 1 => fun z hz => by
    rw [parP, List.append_assoc]
    exact ok_s (by decide) ((ok_parP h d).app (e_s (by decide) (by decide)) (ok_s (by decide) trivial))
theorem plain_parP {ps : List Pc} (h : PlainG ps) : ∀ d, PlainG (parP d ps)
  | 0 => h
  | d + 1 => PlainG.app (PlainG.app (show PlainG [sg 40] from trivial) (plain_parP h d)) (show PlainG [sg 41] from trivial)
theorem bal_parP {ps : List Pc} {h : Nat} (hb : Bal (flat ps) h) : ∀ d, Bal (flat (parP d ps)) (h + d)
  | 0 => hb
  | d + 1 => by
    rw [parP, flat_app, flat_app]
    have := (bal_parP hb d).brk (o := 40) (c := 41) (by decide) (by decide)
    rw [show h + (d + 1) = h + d + 1 by omega]
    simpa [flat_sg] using this
theorem back_parP {f : Nat} {t : Tree} (h : exprF f t = true) : ∀ d, Ev fun f => ∀ rest, Stop0 rest → pUnary f (T (parP d (exprP t)) ++ rest) = .ok t rest
  | 0 => (back_expr f t h).1
  | d + 1 => ((level_back (back_parP h d) 6 (by omega)).and (Ev.ge 1)).succ fun f ⟨hp, hf⟩ rest h0 => by
    obtain ⟨g, rfl⟩ : ∃ g, f = g + 1 := ⟨f - 1, by omega⟩
    have e : T (parP (d + 1) (exprP t)) ++ rest = ⟨3, [40], 0⟩ :: (T (parP d (exprP t)) ++ ⟨3, [41], 0⟩ :: rest) := by
      rw [parP, T_app, T_app, List.append_assoc, List.append_assoc]; rfl
    rw [e, pUnary, if_neg (by rw [isS_ne (by decide)]; decide), if_neg (by rw [isS_ne (by decide)]; decide)]
    unfold pIndexed pPrimary
    rw [if_pos (isS_eq (by decide)), List.tail_cons, show (6 : Nat) - 6 = 0 from rfl] at *
    rw [hp _ (stop_close rest).1 (fun k _ _ => (stop_close rest).2 k), Res.bind_ok, take_eq (by decide), Res.bind_ok, Res.bind_ok, pIndex, if_neg (by rw [h0.1]; decide)]
/-- let a = the expression in so many parentheses; -/
def letP (d : Nat) (t : Tree) : List Pc := [nm [108, 101, 116], bl, nm [97], bl, sg 61, bl] ++ parP d (exprP t) ++ [sg 59]
def letT (t : Tree) : Tree := .node 1 [] 0 [.node 3 [97] 0 [t]]
theorem flat_letP (d : Nat) (t : Tree) : flat (letP d t) = [108, 101, 116, 32, 97, 32, 61, 32] ++ (List.replicate d 40 ++ exprT t ++ List.replicate d 41) ++ [59] := by
  unfold letP
  rw [flat_app, flat_app, flat_parP, flat_exprP]; rfl
theorem letT_text (t : Tree) : progT (letT t) = [108, 101, 116, 32, 97, 32, 61, 32] ++ exprT t ++ [59, 10] := by
  unfold progT letT
  show textL 0 (linesL [.node 3 [97] 0 [t]]) = _
  rw [linesL, linesL, List.append_nil, itemT_eq]
  show textL 0 (itemW 3 [97] 0 [t] _) = _
  unfold itemW
  rw [if_neg (by decide), if_pos rfl, textL_one]
  simp [lineN]
theorem letT_check {t : Tree} (h : checkE (letT t) = 0) : ∃ f, exprF f t = true := by
  obtain ⟨_, _, _, h4, _, _⟩ := check_zero h
  have h5 := List.all_eq_true.1 h4 (.node 3 [97] 0 [t]) (by simp [letT, Tree.kids])
  obtain ⟨c, ec⟩ : ∃ c, count (letT t) = c + 1 := ⟨count (letT t) - 1, by have := count_pos (letT t); omega⟩
  rw [ec, itemF, if_neg (show ¬ (Tree.node 3 _ _ _).kind = 2 from (by decide : ¬ (3 : Int) = 2)), if_pos (show (Tree.node 3 _ _ _).kind = 3 from rfl)] at h5
  exact ⟨c, (of_decide_eq_true h5).2.2.2⟩
theorem exprT_pos {f : Nat} {t : Tree} (h : exprF f t = true) : 0 < (exprT t).length := by
  obtain ⟨k, s, r, e, hh⟩ := head_expr f t h
  have hok := ok_expr f t h [] ends_nil
  rw [← flat_exprP]
  cases hp : exprP t with
  | nil => rw [hp] at e; cases e
  | cons p q =>
    cases p with
    | t k2 s2 =>
      rw [hp] at hok
      have := (skip_tok [] hok.1).2
      rw [flat_cons, List.length_append]
      have := List.length_pos_iff.2 this
      show 0 < s2.length + _
      omega
    | g l =>
      exfalso
      -- an expression begins with a token
      revert hp
      rw [exprP_eq]
      unfold exprPW
      intro hp
      cases f with
      | zero => rw [exprF] at h; cases h
      | succ f =>
        have key : ∀ (g : Nat) (u : Tree), exprF g u = true → ∀ l q, exprP u ≠ .g l :: q := by
          intro g
          induction g with
          | zero => intro u h; rw [exprF] at h; cases h
          | succ g ih =>
            intro u h l q hq
            rw [exprP_eq] at hq
            unfold exprPW at hq
            rw [exprF] at h
            by_cases h14 : u.kind = 14
            · rw [if_pos h14] at hq; cases hq
            rw [if_neg h14] at hq h
            by_cases h15 : u.kind = 15
            · rw [if_pos h15] at hq; cases hq
            rw [if_neg h15] at hq h
            by_cases h16 : u.kind = 16
            · rw [if_pos h16] at hq; cases hq
            rw [if_neg h16] at hq h
            by_cases h18 : u.kind = 18
            · rw [if_pos h18] at hq; cases hq
            rw [if_neg h18] at hq
            by_cases h19 : u.kind = 19
            · rw [if_pos h19] at hq; cases hq
            rw [if_neg h19] at hq
            by_cases h20 : u.kind = 20
            · rw [if_pos h20] at hq; cases hq
            rw [if_neg h20] at hq
            by_cases h17 : u.kind = 17
            · rw [if_pos h17] at h
              have h := of_decide_eq_true h
              obtain ⟨e0, m0⟩ := getD_map_mem (p := exprP) (l := u.kids) (i := 0) (by omega)
              split at hq
              · cases hq
              · rw [e0] at hq
                have hu := List.all_eq_true.1 h.2.2.2 _ m0
                cases hx : exprP (u.kids.getD 0 Tree.no) with
                | nil => obtain ⟨k, s, r, e, _⟩ := head_expr g _ hu; rw [hx] at e; cases e
                | cons a b =>
                  rw [hx] at hq
                  simp only [List.cons_append, List.cons.injEq] at hq
                  rw [hq.1] at hx
                  exact ih _ hu _ _ hx
            rw [if_neg h17, if_neg h18, if_neg h19, if_neg h20] at h
            cases h
        refine key (f + 1) t h l q ?_
        rw [exprP_eq]
        unfold exprPW
        exact hp
theorem back_let {f : Nat} {t : Tree} (h : exprF f t = true) (d : Nat) : Ev fun f => pProgram f (T (letP d t)) = .ok (letT t) [] := by
  refine ((level_back (back_parP h d) 6 (by omega)).and (Ev.ge 2)).succ fun f ⟨hp, hf⟩ => ?_
  obtain ⟨g, rfl⟩ : ∃ g, f = g + 1 := ⟨f - 1, by omega⟩
  have e : T (letP d t) = ⟨1, [108, 101, 116], 0⟩ :: ⟨1, [97], 0⟩ :: ⟨3, [61], 0⟩ :: (T (parP d (exprP t)) ++ ⟨3, [59], 0⟩ :: []) := by
    unfold letP
    rw [T_app, T_app, List.append_assoc]; rfl
  have hst : Stop (⟨3, [59], 0⟩ :: []) := stop_t (by decide) (by decide) (by decide)
  have hp := hp _ hst.1 (fun k _ _ => hst.2 k)
  rw [show (6 : Nat) - 6 = 0 from rfl] at hp
  have hi : pItem (g + 1 + 1) (T (letP d t)) = .ok (.node 3 [97] 0 [t]) [] := by
    rw [e, pItem, if_neg (by rw [isS_ne (by decide)]; decide), if_pos (isS_eq (by decide)), List.tail_cons]
    unfold pLet pVal
    rw [pName_eq (by decide), Res.bind_ok, take_eq (by decide), Res.bind_ok, hp, Res.bind_ok, take_eq (by decide), Res.bind_ok, Res.bind_ok]
  have hs : itemS (T (letP d t)) = true := by rw [e]; rfl
  unfold pProgram
  rw [pItems, if_pos hs, hi, Res.bind_ok, pItems, if_neg (by decide), Res.bind_ok]
  rfl
end M
open M in
/-- parentheses around an expression do not change what is parsed -/
theorem parse_let {t : M.Tree} (hc : checkE (letT t) = 0) (d h : Nat) (hb : Bal (exprT t) h) (hd : h + d ≤ 200) (hl : (flat (letP d t)).length ≤ 20000) : ParseIs (flat (letP d t)) (letT t) 0 0 := by
  obtain ⟨f, hf⟩ := letT_check hc
  obtain ⟨_, _, _, _, h5, h6⟩ := check_zero hc
  have ho : OkP (letP d t) [] := by
    unfold letP
    rw [List.append_assoc]
    exact ok_n (by decide) e_b (ok_b (ok_n (by decide) e_b (ok_b (ok_q e_b (ok_b ((ok_parP (ok_expr f t hf) d).app (e_s (by decide) (by decide)) (ok_s (by decide) trivial)))))))
  have hp : PlainG (letP d t) := PlainG.app (PlainG.app (by simp [PlainG, nm, bl, sg, opnB, clsB]) (plain_parP (plain_exprP t) d)) (show PlainG [sg 59] from trivial)
  have hbal : Bal (flat (letP d t)) (max (max 0 (h + d)) 0) := by
    unfold letP
    rw [flat_app, flat_app]
    refine Bal.app (Bal.app (Bal.plain ?_) (bal_parP (by rw [flat_exprP]; exact hb) d)) (Bal.plain ?_)
    · decide
    · decide
  have hop := open_pieces (flat (letP d t)).length (letP d t) ho hp (hbal 0) (by omega)
  refine ⟨_, 0, 0, .inr ⟨hl, reads_at _ _ ho⟩, ?_⟩
  rw [if_pos rfl, parseR_pieces _ (back_let hf d) (hop.1 (by omega)) (by unfold sizeE; rw [if_neg (by omega)])]
theorem letT_bal {t : M.Tree} (hc : M.checkE (M.letT t) = 0) : ∃ h, M.Bal (M.exprT t) h ∧ M.Bal (M.progT (M.letT t)) h := by
  obtain ⟨f, hf⟩ := M.letT_check hc
  obtain ⟨h, hb⟩ := M.bal_expr f t hf
  refine ⟨h, hb, ?_⟩
  rw [M.letT_text]
  have := (M.Bal.app (M.Bal.app (M.Bal.plain (l := [108, 101, 116, 32, 97, 32, 61, 32]) (by decide)) hb) (M.Bal.plain (l := [59, 10]) (by decide)))
  rwa [show max (max 0 h) 0 = h by omega] at this
end Go.Proofs.YtngpedcihajepaaGreatDoor
