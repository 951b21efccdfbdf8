/-
  Merged out of the texts Ha9 Hc9 Hb9 Hd9 He9 Hg9 Hh9.
-/
import Derived.WalkKit
import Derived.ProofKit
import Derived.ChangeMaps5
import Derived.Test.YtngpedcihajepaaGreatDoorShelf
import Derived.Test.YtngpedcihajepaaGreatDoorProg
import Derived.Deep.LoopGhost
import Derived.Deep.RegionHeld3
import Derived.Lib.MakeNoZero
import Derived.Laws.IdiomCopy
import Derived.Laws.BitsLemmas
import Derived.Shelf.Strings.BuilderX
import Derived.Shelf.LaysM
import Derived.Shelf.Strconv.Itoa1
import Derived.Shelf.Strconv.Itoa2
import Derived.Lib.Walk
import Derived.Lib.ItoaMem
import Derived.BigCall
import Derived.BigGuard
import Derived.Still
import Derived.OwnWalk
import Derived.Lib.Builder
import Derived.Lib.AppendStr
import Derived.Lib.UnsafeStr
import Derived.Laws.Externs
import Derived.WalkSpells
import Derived.WalkLawsBesides
import Derived.Lib.Hide
import Derived.Below
import Derived.Deep.QuietTactic
import Derived.BigQuiet
import Derived.Lib.MinMax
import Derived.WalkSmall
import Derived.WalkMore
import Derived.Defers
import Derived.Recover
import Derived.Maps.Own
import Derived.Maps.OwnOps
import Derived.Maps.Views
import Derived.Deep.AppendLies
import Derived.Test.YtngpedcihajepaaGreatDoorBa1
import Derived.Test.YtngpedcihajepaaGreatDoorBa2
import Derived.Test.YtngpedcihajepaaGreatDoorBa3
import Derived.Test.YtngpedcihajepaaGreatDoorBa4
import Derived.Test.YtngpedcihajepaaGreatDoorBa5
import Derived.Test.YtngpedcihajepaaGreatDoorBa6
import Derived.Test.YtngpedcihajepaaGreatDoorBa7
import Derived.Test.YtngpedcihajepaaGreatDoorBa8
import Derived.Test.YtngpedcihajepaaGreatDoorBa9
import Derived.Test.YtngpedcihajepaaGreatDoorBa10
import Derived.Test.YtngpedcihajepaaGreatDoorBa11
import Derived.Test.YtngpedcihajepaaGreatDoorBa12
import Derived.Test.YtngpedcihajepaaGreatDoorBa13
import Derived.Test.YtngpedcihajepaaGreatDoorBa14
import Derived.Test.YtngpedcihajepaaGreatDoorBa15
import Derived.Test.YtngpedcihajepaaGreatDoorBa16
import Derived.Test.YtngpedcihajepaaGreatDoorBa17
import Derived.Test.YtngpedcihajepaaGreatDoorBl1
namespace Go.Proofs.YtngpedcihajepaaGreatDoor.M
set_option linter.unusedVariables false
theorem ends_nil : Ends [] := fun c h => by cases h
theorem ends_cons {c : Nat} {r : List Nat} (h : nameB c = false) (h2 : c ≠ 61) : Ends (c :: r) := fun d hd => by
  have : c = d := by simpa using hd
  subst this
  exact ⟨h, h2⟩
theorem TN_toks (N : Nat) : ∀ ps : List Pc, (TN N ps).map (fun t => (t.kind, t.text)) = toks ps
  | [] => rfl
  | .g _ :: r => by rw [TN, toks, TN_toks N r]
  | .t k s :: r => by rw [TN, toks, List.map_cons, TN_toks N r]
end Go.Proofs.YtngpedcihajepaaGreatDoor.M
namespace Go.Proofs.YtngpedcihajepaaGreatDoor.M
set_option linter.unusedVariables false
set_option linter.unusedSimpArgs false
theorem exprPL_map : ∀ l : List Tree, exprPL l = l.map exprP
  | [] => rfl
  | t :: r => by rw [exprPL, exprPL_map r]; rfl
theorem exprP_eq (t : Tree) : exprP t = exprPW t.kind t.text t.num (t.kids.getD 0 Tree.no).kind (t.kids.map exprP) := by
  cases t with
  | node k tx n l => rw [exprP, exprPL_map]; rfl
theorem getD_map_mem {p : Tree → List Pc} {l : List Tree} {i : Nat} (h : i < l.length) : (l.map p).getD i [] = p (l.getD i Tree.no) ∧ l.getD i Tree.no ∈ l := by
  constructor
  · rw [List.getD_eq_getElem?_getD, List.getElem?_map, List.getD_eq_getElem?_getD, List.getElem?_eq_getElem h]; rfl
  · rw [List.getD_eq_getElem?_getD, List.getElem?_eq_getElem h]; exact List.getElem_mem h
end Go.Proofs.YtngpedcihajepaaGreatDoor.M
namespace Go.Proofs.YtngpedcihajepaaGreatDoor.M
set_option linter.unusedVariables false
def er (t : Tok) : Tok := ⟨t.kind, t.text, 0⟩
def Res.er {α : Type} : Res α → Res α
  | .ok a r => .ok a (r.map M.er)
  | .bad r => .bad (r.map M.er)
  | .out => .out
theorem isS_er (s : List Nat) (l : List Tok) : isS s (l.map er) = isS s l := by cases l <;> rfl
theorem nameS_er (l : List Tok) : nameS (l.map er) = nameS l := by cases l <;> rfl
theorem headT_er (l : List Tok) : headT (l.map er) = headT l := by cases l <;> rfl
theorem tail_er (l : List Tok) : (l.map er).tail = l.tail.map er := by cases l <;> rfl
theorem signAt_er (k : Nat) (l : List Tok) : signAt k (l.map er) = signAt k l := by cases l <;> rfl
theorem typedS_er (l : List Tok) : typedS (l.map er) = typedS l := by simp only [typedS, isS_er]
theorem itemS_er (l : List Tok) : itemS (l.map er) = itemS l := by simp only [itemS, isS_er, nameS_er]
theorem bind_er {α β : Type} {x y : Res α} {f g : α → List Tok → Res β} (hx : y = x.er) (h : ∀ a r, g a (r.map er) = (f a r).er) : y.bind g = (x.bind f).er := by
  subst hx
  cases x with
  | ok a r => exact h a r
  | bad r => rfl
  | out => rfl
theorem take_er (s : List Nat) (l : List Tok) : take s (l.map er) = (take s l).er := by
  unfold take; rw [isS_er]; split
  · rw [tail_er]; rfl
  · rfl
theorem name_er (l : List Tok) : pName (l.map er) = (pName l).er := by
  unfold pName; rw [nameS_er, headT_er]; split
  · rw [tail_er]; rfl
  · rfl
theorem number_er (l : List Tok) : pNumber (l.map er) = (pNumber l).er := by
  cases l with
  | nil => rfl
  | cons t r =>
    show (if t.kind = 2 then _ else _) = Res.er (if t.kind = 2 then _ else _)
    split <;> rfl
theorem arr_er (k n : Nat) (l : List Tok) : pArr k n (l.map er) = (pArr k n l).er := by
  unfold pArr; rw [isS_er]; split
  · rw [tail_er]; exact bind_er (number_er _) fun m r => bind_er (take_er _ _) fun _ r => rfl
  · rfl
theorem typ_er (l : List Tok) : pTyp (l.map er) = (pTyp l).er := by
  unfold pTyp; rw [isS_er, isS_er]; split
  · rw [tail_er]; exact arr_er _ _ _
  · split
    · rw [tail_er]; exact arr_er _ _ _
    · exact bind_er (take_er _ _) fun _ r => bind_er (number_er _) fun n r => arr_er _ _ _
section
variable {p : List Tok → Res Tree} (hp : ∀ l, p (l.map er) = (p l).er)
include hp
theorem sep_er : ∀ (c : Nat) (a : List Tree) (l : List Tok), pSep p c a (l.map er) = (pSep p c a l).er
  | 0, a, l => rfl
  | c + 1, a, l => by
    rw [pSep, pSep, isS_er]; split
    · rw [tail_er]; exact bind_er (hp _) fun n r => sep_er c _ r
    · rfl
theorem list_er (c : Nat) (l : List Tok) : pList p c (l.map er) = (pList p c l).er := bind_er (hp _) fun n r => sep_er hp c _ r
theorem args_er (c : Nat) (l : List Tok) : pArgs p c (l.map er) = (pArgs p c l).er := by
  unfold pArgs; rw [isS_er]; split
  · rw [tail_er]; rfl
  · exact bind_er (list_er hp _ _) fun a r => bind_er (take_er _ _) fun _ r => rfl
theorem loop_er (k : Nat) : ∀ (c : Nat) (n : Tree) (l : List Tok), pLoop p k c n (l.map er) = (pLoop p k c n l).er
  | 0, n, l => rfl
  | c + 1, n, l => by
    rw [pLoop, pLoop, signAt_er]
    cases signAt k l with
    | none => rfl
    | some s =>
      dsimp only
      rw [tail_er]
      refine bind_er (hp _) fun m r => ?_
      split
      · rfl
      · exact loop_er k c _ r
theorem index_er : ∀ (c : Nat) (n : Tree) (l : List Tok), pIndex p c n (l.map er) = (pIndex p c n l).er
  | 0, n, l => rfl
  | c + 1, n, l => by
    rw [pIndex, pIndex, isS_er]; split
    · rw [tail_er]; exact bind_er (hp _) fun i r => bind_er (take_er _ _) fun _ r => index_er c _ r
    · rfl
theorem primary_er (c : Nat) (l : List Tok) : pPrimary p c (l.map er) = (pPrimary p c l).er := by
  unfold pPrimary
  simp only [isS_er, typedS_er, nameS_er, headT_er, tail_er]
  split
  · exact bind_er (hp _) fun n r => bind_er (take_er _ _) fun _ r => rfl
  split
  · exact bind_er (list_er hp _ _) fun n r => bind_er (take_er _ _) fun _ r => rfl
  split
  · exact bind_er (take_er _ _) fun _ r => bind_er (args_er hp _ _) fun k r => rfl
  split
  · split
    · exact bind_er (args_er hp _ _) fun k r => rfl
    · rfl
  · exact bind_er (number_er _) fun n r => rfl
theorem indexed_er (c : Nat) (l : List Tok) : pIndexed p c (l.map er) = (pIndexed p c l).er := bind_er (primary_er hp _ _) fun n r => index_er hp _ _ _
theorem val_er (l : List Tok) : pVal p (l.map er) = (pVal p l).er := bind_er (take_er _ _) fun _ r => bind_er (hp _) fun e r => bind_er (take_er _ _) fun _ r => rfl
theorem let_er (l : List Tok) : pLet p (l.map er) = (pLet p l).er := bind_er (name_er _) fun s r => bind_er (val_er hp _) fun e r => rfl
theorem set_er (l : List Tok) : pSet p (l.map er) = (pSet p l).er := by
  refine bind_er (name_er _) fun s r => ?_
  rw [isS_er]; split
  · rw [tail_er]; exact bind_er (hp _) fun i r => bind_er (take_er _ _) fun _ r => bind_er (val_er hp _) fun e r => rfl
  · exact bind_er (val_er hp _) fun e r => rfl
end
theorem expr_er : ∀ f : Nat, (∀ k l, pLevel f k (l.map er) = (pLevel f k l).er) ∧ (∀ l, pUnary f (l.map er) = (pUnary f l).er)
  | 0 => ⟨fun k l => by rw [pLevel, pLevel]; rfl, fun l => by rw [pUnary, pUnary]; rfl⟩
  | f + 1 => by
    obtain ⟨h1, h2⟩ := expr_er f
    constructor
    · intro k l
      rw [pLevel, pLevel]
      split
      · exact h2 l
      · exact bind_er (h1 _ _) fun n r => loop_er (h1 _) _ _ _ _
    · intro l
      rw [pUnary, pUnary, isS_er, isS_er]
      split
      · rw [tail_er]; exact bind_er (h2 _) fun n r => rfl
      split
      · rw [tail_er]; exact bind_er (h2 _) fun n r => rfl
      · exact indexed_er (h1 0) _ _
theorem arg_er (l : List Tok) : pArg (l.map er) = (pArg l).er := bind_er (name_er _) fun s r => bind_er (take_er _ _) fun _ r => bind_er (typ_er _) fun t r => rfl
theorem to_er (l : List Tok) : pTo (l.map er) = (pTo l).er := bind_er (number_er _) fun n r => rfl
theorem in_er (l : List Tok) : pIn (l.map er) = (pIn l).er := bind_er (name_er _) fun s r => bind_er (take_er _ _) fun _ r => bind_er (typ_er _) fun t r => bind_er (take_er _ _) fun _ r => bind_er (number_er _) fun n r => bind_er (take_er _ _) fun _ r => rfl
section
variable {p it : List Tok → Res Tree} (hp : ∀ l, p (l.map er) = (p l).er) (hi : ∀ l, it (l.map er) = (it l).er)
include hp
theorem out_er (c : Nat) (l : List Tok) : pOut p c (l.map er) = (pOut p c l).er := by
  refine bind_er (hp _) fun n r => bind_er (take_er _ _) fun _ r => bind_er (x := (if isS [97, 108, 108] r = true then .ok [] r.tail else pList pTo c r)) ?_ fun k r => bind_er (take_er _ _) fun _ r => rfl
  rw [isS_er]; split
  · rw [tail_er]; rfl
  · exact list_er to_er _ _
include hi
omit hp in
theorem items_er : ∀ (c : Nat) (a : List Tree) (l : List Tok), pItems it c a (l.map er) = (pItems it c a l).er
  | 0, a, l => rfl
  | c + 1, a, l => by
    rw [pItems, pItems, itemS_er]; split
    · exact bind_er (hi _) fun n r => items_er c _ r
    · rfl
omit hp in
theorem block_er (c : Nat) (l : List Tok) : pBlock it c (l.map er) = (pBlock it c l).er := bind_er (take_er _ _) fun _ r => bind_er (items_er hi _ _ _) fun k r => bind_er (take_er _ _) fun _ r => rfl
theorem if_er (c : Nat) (l : List Tok) : pIf p it c (l.map er) = (pIf p it c l).er := by
  refine bind_er (hp _) fun e r => bind_er (block_er hi _ _) fun b r => ?_
  rw [isS_er]; split
  · rw [tail_er]; exact bind_er (block_er hi _ _) fun o r => rfl
  · rfl
theorem for_er (c : Nat) (l : List Tok) : pFor p it c (l.map er) = (pFor p it c l).er :=
  bind_er (name_er _) fun s r => bind_er (take_er _ _) fun _ r => bind_er (hp _) fun a r => bind_er (take_er _ _) fun _ r => bind_er (hp _) fun b r => bind_er (block_er hi _ _) fun o r => rfl
theorem def_er (c : Nat) (l : List Tok) : pDef p it c (l.map er) = (pDef p it c l).er :=
  bind_er (name_er _) fun s r => bind_er (take_er _ _) fun _ r => bind_er (args_er arg_er _ _) fun k r => bind_er (take_er _ _) fun _ r => bind_er (items_er hi _ _ _) fun b r => bind_er (take_er _ _) fun _ r => bind_er (hp _) fun e r => bind_er (take_er _ _) fun _ r => bind_er (take_er _ _) fun _ r => rfl
end
theorem item_er : ∀ (f : Nat) (l : List Tok), pItem f (l.map er) = (pItem f l).er
  | 0, l => rfl
  | f + 1, l => by
    have h1 := (expr_er f).1 0
    have h2 := item_er f
    rw [pItem, pItem]
    simp only [isS_er, tail_er]
    split
    · exact in_er _
    split
    · exact let_er h1 _
    split
    · exact if_er h1 h2 _ _
    split
    · exact for_er h1 h2 _ _
    split
    · exact out_er h1 _ _
    split
    · exact def_er h1 h2 _ _
    · exact set_er h1 _
theorem program_er (f : Nat) (l : List Tok) : pProgram f (l.map er) = (pProgram f l).er := by
  refine bind_er (items_er (item_er f) _ _ _) fun k r => ?_
  cases r <;> rfl

/-! ## More fuel -/
def Up {α : Type} (x y : Res α) : Prop := x = .out ∨ x = y
theorem Up.refl {α : Type} (x : Res α) : Up x x := .inr rfl
theorem Up.bind {α β : Type} {x y : Res α} {f g : α → List Tok → Res β} (h : Up x y) (hf : ∀ a r, Up (f a r) (g a r)) : Up (x.bind f) (y.bind g) := by
  rcases h with rfl | rfl
  · exact .inl rfl
  · cases x with
    | ok a r => exact hf a r
    | bad r => exact .inr rfl
    | out => exact .inl rfl
theorem Up.ite {α : Type} {c : Prop} [Decidable c] {x x' y y' : Res α} (hx : Up x x') (hy : Up y y') : Up (if c then x else y) (if c then x' else y') := by
  split
  · exact hx
  · exact hy
end Go.Proofs.YtngpedcihajepaaGreatDoor.M
namespace Go.Proofs.YtngpedcihajepaaGreatDoor.M
set_option linter.unusedVariables false
set_option linter.unusedSimpArgs false
/-- the tokens of pieces -/
def T : List Pc → List Tok
  | [] => []
  | .g _ :: r => T r
  | .t k s :: r => ⟨k, s, 0⟩ :: T r
theorem T_app : ∀ (a b : List Pc), T (a ++ b) = T a ++ T b
  | [], b => rfl
  | .g _ :: r, b => by rw [List.cons_append, T, T, T_app r b]
  | .t k s :: r, b => by rw [List.cons_append, T, T, T_app r b]; rfl
theorem T_er : ∀ {ts : List Tok} {ps : List Pc}, ts.map (fun t => (t.kind, t.text)) = toks ps → ts.map er = T ps
  | ts, .g _ :: r, h => by rw [T]; rw [toks] at h; exact T_er h
  | [], [], h => rfl
  | [], .t k s :: r, h => by cases h
  | t :: ts, [], h => by cases h
  | t :: ts, .t k s :: r, h => by
    rw [toks, List.map_cons, List.cons.injEq] at h
    rw [T, List.map_cons, T_er h.2]
    obtain ⟨h1, h2⟩ := Prod.mk.inj h.1
    rw [er, h1, h2]
/-- from some fuel on -/
def Ev (P : Nat → Prop) : Prop := ∃ f0, ∀ f, f0 ≤ f → P f
theorem Ev.of {P : Nat → Prop} (h : ∀ f, P f) : Ev P := ⟨0, fun f _ => h f⟩
theorem Ev.and {P Q : Nat → Prop} (h : Ev P) (k : Ev Q) : Ev fun f => P f ∧ Q f := by
  obtain ⟨a, h⟩ := h
  obtain ⟨b, k⟩ := k
  exact ⟨max a b, fun f hf => ⟨h f (by omega), k f (by omega)⟩⟩
theorem Ev.imp {P Q : Nat → Prop} (h : Ev P) (k : ∀ f, P f → Q f) : Ev Q := by
  obtain ⟨a, h⟩ := h
  exact ⟨a, fun f hf => k f (h f hf)⟩
/-- one step more -/
theorem Ev.succ {P Q : Nat → Prop} (h : Ev P) (k : ∀ f, P f → Q (f + 1)) : Ev Q := by
  obtain ⟨a, h⟩ := h
  refine ⟨a + 1, fun f hf => ?_⟩
  obtain ⟨g, rfl⟩ : ∃ g, f = g + 1 := ⟨f - 1, by omega⟩
  exact k g (h g (by omega))
theorem Ev.ge (n : Nat) : Ev fun f => n ≤ f := ⟨n, fun f h => h⟩
theorem Ev.all {P : Tree → Nat → Prop} : ∀ {l : List Tree}, (∀ u ∈ l, Ev (P u)) → Ev fun f => ∀ u ∈ l, P u f
  | [], _ => ⟨0, fun f _ u hu => by cases hu⟩
  | a :: r, h => ((h a (by simp)).and (Ev.all fun u hu => h u (List.mem_cons_of_mem _ hu))).imp fun f hf u hu => by
    rcases List.mem_cons.1 hu with rfl | hu
    · exact hf.1
    · exact hf.2 u hu
theorem isS_cons (s : List Nat) (k : Int) (t : List Nat) (a : Nat) (r : List Tok) : isS s (⟨k, t, a⟩ :: r) = (decide (k ≠ 2) && decide (t = s)) := rfl
/-- what may follow an expression that is operated upon -/
def Stop0 (r : List Tok) : Prop := isS [91] r = false ∧ isS [40] r = false
theorem name_ne {s : List Nat} (h : nameOk s = true) {c : Nat} {r : List Nat} (hc : letterB c = false) : s ≠ c :: r := by
  rintro rfl
  unfold nameOk at h
  rw [Bool.and_eq_true] at h
  have := (isName_facts h.1).2.2.1
  rw [List.getD_cons_zero, hc] at this
  cases this
theorem isS_ne {s : List Nat} {k : Int} {t : List Nat} {a : Nat} {r : List Tok} (h : t ≠ s) : isS s (⟨k, t, a⟩ :: r) = false := by rw [isS_cons, decide_eq_false h, Bool.and_false]
theorem isS_two {s : List Nat} {t : List Nat} {a : Nat} {r : List Tok} : isS s (⟨2, t, a⟩ :: r) = false := rfl
/-- the first token of an expression -/
def Heads (t : Tree) (ps : List Pc) : Prop := ∃ (k : Int) (s : List Nat) (r : List Tok), T ps = ⟨k, s, 0⟩ :: r ∧ (k = 2 ∨ (k = 1 ∧ (nameOk s = true ∨ s = [110, 117, 109] ∨ s = [98, 105, 116] ∨ s = [119, 111, 114, 100])) ∨ s = [40] ∨ s = [91] ∨ (t.kind = 19 ∧ (s = [33] ∨ s = [45])))
theorem head_expr : ∀ (f : Nat) (t : Tree), exprF f t = true → Heads t (exprP t)
  | 0, t, h => by rw [exprF] at h; cases h
  | f + 1, t, h => by
    have ih := head_expr f
    rw [exprP_eq]
    unfold exprPW
    rw [exprF] at h
    by_cases h14 : t.kind = 14
    · rw [if_pos h14]; exact ⟨_, _, _, rfl, .inl rfl⟩
    rw [if_neg h14] at h ⊢
    by_cases h15 : t.kind = 15
    · rw [if_pos h15] at h ⊢; exact ⟨_, _, _, rfl, .inr (.inl ⟨rfl, .inl (of_decide_eq_true h).1⟩)⟩
    rw [if_neg h15] at h ⊢
    by_cases h16 : t.kind = 16
    · rw [if_pos h16] at h ⊢; exact ⟨_, _, _, rfl, .inr (.inl ⟨rfl, (of_decide_eq_true h).1⟩)⟩
    rw [if_neg h16] at h ⊢
    by_cases h18 : t.kind = 18
    · rw [if_pos h18]; exact ⟨_, _, _, rfl, .inr (.inr (.inr (.inl rfl)))⟩
    rw [if_neg h18]
    by_cases h19 : t.kind = 19
    · rw [if_pos h19]
      rw [if_neg (by omega), if_neg (by omega), if_pos h19] at h
      exact ⟨_, _, _, rfl, .inr (.inr (.inr (.inr ⟨h19, (of_decide_eq_true h).1⟩)))⟩
    rw [if_neg h19]
    by_cases h20 : t.kind = 20
    · rw [if_pos h20]; exact ⟨_, _, _, rfl, .inr (.inr (.inl rfl))⟩
    rw [if_neg h20]
    by_cases h17 : t.kind = 17
    · rw [if_pos h17] at h
      have h := of_decide_eq_true h
      obtain ⟨e0, m0⟩ := getD_map_mem (p := exprP) (l := t.kids) (i := 0) (by omega)
      split
      · exact ⟨_, _, _, rfl, .inr (.inr (.inl rfl))⟩
      · rename_i hk
        obtain ⟨k, s, r, e, hh⟩ := ih _ (List.all_eq_true.1 h.2.2.2 _ m0)
        refine ⟨k, s, r ++ T [sg 91] ++ T ((t.kids.map exprP).getD 1 []) ++ T [sg 93], by rw [e0, T_app, T_app, T_app, e]; rfl, ?_⟩
        rcases hh with hh | hh | hh | hh | hh
        · exact .inl hh
        · exact .inr (.inl hh)
        · exact .inr (.inr (.inl hh))
        · exact .inr (.inr (.inr (.inl hh)))
        · exact absurd hh.1 hk
    rw [if_neg h17, if_neg h18, if_neg h19, if_neg h20] at h
    cases h
/-- a sign that begins no expression -/
theorem head_not {t : Tree} {ps : List Pc} (h : Heads t ps) {c : Nat} (hc : letterB c = false) (h1 : c ≠ 40) (h2 : c ≠ 91) (h3 : t.kind = 19 → c ≠ 33 ∧ c ≠ 45) (r : List Tok) : isS [c] (T ps ++ r) = false := by
  obtain ⟨k, s, r', e, hh⟩ := h
  rw [e, List.cons_append]
  rcases hh with rfl | ⟨rfl, hn | rfl | rfl | rfl⟩ | rfl | rfl | ⟨hk, rfl | rfl⟩
  · exact isS_two
  · exact isS_ne (name_ne hn hc)
  · exact isS_ne (by simp)
  · exact isS_ne (by simp)
  · exact isS_ne (by simp)
  · exact isS_ne (by simp; omega)
  · exact isS_ne (by simp; omega)
  · exact isS_ne (by have := h3 hk; simp; omega)
  · exact isS_ne (by have := h3 hk; simp; omega)
/-- what is to be shown of an expression -/
def BackU (t : Tree) : Prop := Ev fun f => ∀ rest, Stop0 rest → pUnary f (T (exprP t) ++ rest) = .ok t rest
def BackI (t : Tree) : Prop := ∃ d m, d < m ∧ Ev fun f => ∀ c, m ≤ c → ∀ rest, isS [40] rest = false → pIndexed (pLevel f 0) c (T (exprP t) ++ rest) = pIndex (pLevel f 0) (c - d) t rest
theorem BackI.unary {f : Nat} {t : Tree} (h : BackI t) (hf : exprF f t = true) (hk : t.kind ≠ 19) : BackU t := by
  obtain ⟨d, m, hdm, h⟩ := h
  have hh := head_expr f t hf
  refine (h.and (Ev.ge (m + 1))).succ fun f ⟨h, hf⟩ rest h0 => ?_
  rw [pUnary, if_neg (by rw [head_not hh (by decide) (by decide) (by decide) (fun e => absurd e hk)]; decide), if_neg (by rw [head_not hh (by decide) (by decide) (by decide) (fun e => absurd e hk)]; decide), h f (by omega) rest h0.2]
  obtain ⟨g, eg⟩ : ∃ g, f - d = g + 1 := ⟨f - d - 1, by omega⟩
  rw [eg, pIndex, if_neg (by rw [h0.1]; decide)]
end Go.Proofs.YtngpedcihajepaaGreatDoor.M
namespace Go.Proofs.YtngpedcihajepaaGreatDoor.M
set_option linter.unusedVariables false
set_option linter.unusedSimpArgs false
def HeadI (l : List Tok) : Prop := ∃ (s : List Nat) (r : List Tok), l = ⟨1, s, 0⟩ :: r ∧ (s = [105, 110] ∨ s = [108, 101, 116] ∨ s = [105, 102] ∨ s = [102, 111, 114] ∨ s = [111, 117, 116] ∨ s = [100, 101, 102] ∨ nameOk s = true)
theorem HeadI.app {l : List Tok} (h : HeadI l) (r : List Tok) : HeadI (l ++ r) := by
  obtain ⟨s, q, rfl, h⟩ := h
  exact ⟨s, q ++ r, rfl, h⟩
end Go.Proofs.YtngpedcihajepaaGreatDoor.M
namespace Go.Proofs.YtngpedcihajepaaGreatDoor.M
set_option linter.unusedVariables false
set_option linter.unusedSimpArgs false
def opnB (c : Nat) : Bool := decide (c = 40 ∨ c = 91 ∨ c = 123)
def clsB (c : Nat) : Bool := decide (c = 41 ∨ c = 93 ∨ c = 125)
/-- from depth n the bytes lead to depth e, at most m deep, and never close what is not open -/
inductive Hi : Nat → List Nat → Nat → Nat → Prop
  | nil {n : Nat} : Hi n [] n n
  | opn {n e m c : Nat} {r : List Nat} : opnB c = true → Hi (n + 1) r e m → Hi n (c :: r) e m
  | cls {n e m c : Nat} {r : List Nat} : clsB c = true → Hi n r e m → Hi (n + 1) (c :: r) e (max (n + 1) m)
  | oth {n e m c : Nat} {r : List Nat} : opnB c = false → clsB c = false → Hi n r e m → Hi n (c :: r) e m
theorem Hi.le {n e m : Nat} {l : List Nat} (h : Hi n l e m) : n ≤ m ∧ e ≤ m := by
  induction h with
  | nil => exact ⟨Nat.le_refl _, Nat.le_refl _⟩
  | opn _ _ ih => exact ⟨by omega, ih.2⟩
  | cls _ _ ih => exact ⟨by omega, by omega⟩
  | oth _ _ _ ih => exact ih
theorem Hi.app {n k e m1 m2 : Nat} {a b : List Nat} (h : Hi n a k m1) (h2 : Hi k b e m2) : Hi n (a ++ b) e (max m1 m2) := by
  induction h with
  | nil => have := h2.le; rw [Nat.max_eq_right this.1]; exact h2
  | opn hc _ ih => exact .opn hc (ih h2)
  | cls hc _ ih => rw [Nat.max_assoc]; exact .cls hc (ih h2)
  | oth h1 h3 _ ih => exact .oth h1 h3 (ih h2)
theorem Hi.plain {n : Nat} : ∀ {l : List Nat}, (∀ c ∈ l, opnB c = false ∧ clsB c = false) → Hi n l n n
  | [], _ => .nil
  | c :: r, h => .oth (h c (by simp)).1 (h c (by simp)).2 (Hi.plain fun d hd => h d (List.mem_cons_of_mem _ hd))
/-- closed, and h deep -/
def Bal (l : List Nat) (h : Nat) : Prop := ∀ n, Hi n l n (n + h)
theorem Bal.plain {l : List Nat} (h : ∀ c ∈ l, opnB c = false ∧ clsB c = false) : Bal l 0 := fun n => Hi.plain h
theorem Bal.app {a b : List Nat} {h k : Nat} (ha : Bal a h) (hb : Bal b k) : Bal (a ++ b) (max h k) := fun n => by
  have := (ha n).app (hb n)
  rw [show max (n + h) (n + k) = n + max h k by omega] at this
  exact this
def BalE (l : List Nat) : Prop := ∃ h, Bal l h
theorem BalE.app {a b : List Nat} (ha : BalE a) (hb : BalE b) : BalE (a ++ b) := ha.elim fun _ ha => hb.elim fun _ hb => ⟨_, ha.app hb⟩
theorem BalE.plain {l : List Nat} (h : l.all (fun c => !opnB c && !clsB c) = true) : BalE l := ⟨0, Bal.plain fun c hc => by
  have := List.all_eq_true.1 h c hc
  simp only [Bool.and_eq_true, Bool.not_eq_true'] at this
  exact this⟩
/-! ## Tokens and bytes -/
/-- a gap holds no bracket -/
def PlainG : List Pc → Prop
  | [] => True
  | .g l :: r => (∀ c ∈ l, opnB c = false ∧ clsB c = false) ∧ PlainG r
  | .t _ _ :: r => PlainG r
theorem Hi.split {n e m : Nat} : ∀ {a b : List Nat}, Hi n (a ++ b) e m → (∀ c ∈ a, opnB c = false ∧ clsB c = false) → Hi n b e m
  | [], b, h, _ => h
  | c :: a, b, h, hp => by
    have hc := hp c (by simp)
    have hp' : ∀ c ∈ a, opnB c = false ∧ clsB c = false := fun d hd => hp d (List.mem_cons_of_mem _ hd)
    rw [List.cons_append] at h
    cases h with
    | opn h1 h2 => rw [hc.1] at h1; cases h1
    | cls h1 h2 => rw [hc.2] at h1; cases h1
    | oth _ _ h2 => exact h2.split hp'
end Go.Proofs.YtngpedcihajepaaGreatDoor.M
namespace Go.Proofs.YtngpedcihajepaaGreatDoor
namespace M
set_option linter.unusedVariables false
set_option linter.unusedSimpArgs false
theorem PlainG.app : ∀ {a b : List Pc}, PlainG a → PlainG b → PlainG (a ++ b)
  | [], b, _, h => h
  | .g l :: r, b, h, h2 => ⟨h.1, PlainG.app h.2 h2⟩
  | .t k s :: r, b, h, h2 => PlainG.app (a := r) h h2
theorem openAt_er : ∀ (n : Nat) (ts : List Tok), (openAt n (ts.map er)).isSome = (openAt n ts).isSome
  | n, [] => rfl
  | n, t :: r => by
    rw [List.map_cons, openAt, openAt]
    show (if 200 < stepO n t.text then _ else openAt (stepO n t.text) (r.map er)).isSome = _
    split
    · rfl
    · exact openAt_er _ r
/-- the tree and the error do not depend on where the tokens stand -/
theorem parseR_er (N N' : Nat) {ts ts' : List Tok} (h : ts.map er = ts'.map er) : (parseR N ts).1 = (parseR N' ts').1 ∧ (parseR N ts).2.2 = (parseR N' ts').2.2 := by
  have hl : ts.length = ts'.length := by have := congrArg List.length h; simpa using this
  have ho : (openAt 0 ts).isSome = (openAt 0 ts').isSome := by have a := openAt_er 0 ts; have b := openAt_er 0 ts'; rw [h] at a; exact a.symm.trans b
  have hp : (pProgram (fuel ts.length) ts).er = (pProgram (fuel ts'.length) ts').er := by rw [← program_er, ← program_er, h, hl]
  unfold parseR
  cases e1 : openAt 0 ts with
  | some q =>
    cases e2 : openAt 0 ts' with
    | some q' => exact ⟨rfl, rfl⟩
    | none => rw [e1, e2] at ho; cases ho
  | none =>
    cases e2 : openAt 0 ts' with
    | some q' => rw [e1, e2] at ho; cases ho
    | none =>
      dsimp only
      cases x1 : pProgram (fuel ts.length) ts with
      | ok t r =>
        cases x2 : pProgram (fuel ts'.length) ts' with
        | ok t' r' =>
          rw [x1, x2] at hp
          simp only [Res.er, Res.ok.injEq] at hp
          obtain ⟨rfl, _⟩ := hp
          dsimp only
          split <;> exact ⟨rfl, rfl⟩
        | bad r' => rw [x1, x2] at hp; cases hp
        | out => rw [x1, x2] at hp; cases hp
      | bad r =>
        cases x2 : pProgram (fuel ts'.length) ts' with
        | ok t' r' => rw [x1, x2] at hp; cases hp
        | bad r' => exact ⟨rfl, rfl⟩
        | out => rw [x1, x2] at hp; cases hp
      | out =>
        cases x2 : pProgram (fuel ts'.length) ts' with
        | ok t' r' => rw [x1, x2] at hp; cases hp
        | bad r' => rw [x1, x2] at hp; cases hp
        | out => exact ⟨rfl, rfl⟩
end M
/-- where Parse answers an error, it answers no tree -/
theorem ParseIs.none {L : List Nat} {t : M.Tree} {a : Nat} {E : Int} (h : ParseIs L t a E) (hE : E ≠ 0) : t = M.Tree.no := by
  obtain ⟨ts, p, e, hr, h⟩ := h
  split at h
  · unfold M.parseR at h
    split at h
    · simp only [Prod.mk.injEq] at h; exact h.1
    · split at h
      · split at h
        · simp only [Prod.mk.injEq] at h; exact absurd h.2.2 hE
        · simp only [Prod.mk.injEq] at h; exact h.1
      · simp only [Prod.mk.injEq] at h; exact h.1
      · simp only [Prod.mk.injEq] at h; exact h.1
  · simp only [Prod.mk.injEq] at h; exact h.1
end Go.Proofs.YtngpedcihajepaaGreatDoor
