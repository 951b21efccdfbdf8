/-
 Merged out of the texts Ga Gb Gc Gd Ge.
-/
import Derived.Test.YtngpedcihajepaaGreatDoorProg
import Derived.WalkKit
import Derived.WalkSpells
import Derived.WalkLawsBesides
import Derived.Lib.Hide
import Derived.Below
import Derived.Deep.QuietTactic
import Derived.BigQuiet
import Derived.ProofKit
import Derived.ChangeMaps5
import Derived.Test.YtngpedcihajepaaGreatDoorBz1
import Derived.Test.YtngpedcihajepaaGreatDoorSq9
set_option linter.unusedVariables false
set_option linter.unusedSimpArgs false
set_option maxRecDepth 100000
set_option maxHeartbeats 40000000
namespace Go.Proofs.YtngpedcihajepaaGreatDoor.M
inductive Tree where
 | node (kind : Int) (text : List Nat) (num : Nat) (kids : List Tree)
namespace Tree
def kind : Tree -> Int | node k _ _ _ => k
def text : Tree -> List Nat | node _ t _ _ => t
def num : Tree -> Nat | node _ _ n _ => n
def kids : Tree -> List Tree | node _ _ _ l => l
def no : Tree := node 0 [] 0 []
end Tree
mutual
def count : Tree -> Nat
 | .node _ _ _ l => 1 + countL l
def countL : List Tree -> Nat
 | [] => 0
 | t :: r => count t + countL r
end
mutual
def deep : Tree -> Nat
 | .node _ _ _ l => deepL l + 1
def deepL : List Tree -> Nat
 | [] => 0
 | t :: r => max (deep t) (deepL r)
end
theorem count_pos (t : Tree) : 0 < count t := by cases t; rw [count]; omega
theorem count_mem {t : Tree} : ∀ {l : List Tree}, t ∈ l -> count t <= countL l
 | a :: r, h => by
  rw [countL]
  rcases List.mem_cons.1 h with rfl | h
  ·omega
  ·have := count_mem h; omega
theorem count_kid {t k : Tree} (h : k ∈ t.kids) : count k < count t := by
 cases t with
 | node a b c l =>
  rw [count]
  have := count_mem (l := l) h
  omega
inductive Res (α : Type) where
 | ok (a : α) (r : List Tok)
 | bad (r : List Tok)
 | out
def Res.bind {α β : Type} (x : Res α) (f : α -> List Tok -> Res β) : Res β := match x with | .ok a r => f a r | .bad r => .bad r | .out => .out
@[simp] theorem Res.bind_ok {α β : Type} (a : α) (r : List Tok) (f : α -> List Tok -> Res β) : (Res.ok a r).bind f = f a r := rfl
@[simp] theorem Res.bind_bad {α β : Type} (r : List Tok) (f : α -> List Tok -> Res β) : (Res.bad r : Res α).bind f = .bad r := rfl
theorem Res.bind_assoc {α β γ : Type} (x : Res α) (f : α -> List Tok -> Res β) (g : β -> List Tok -> Res γ) : (x.bind f).bind g = x.bind fun a r => (f a r).bind g := by cases x <;> rfl
theorem Res.em {α : Type} (x : Res α) : x = .out \/ (∃ r, x = .bad r) \/ ∃ a r, x = .ok a r := by
 cases x with
 | ok a r => exact .inr (.inr ⟨a, r, rfl⟩)
 | bad r => exact .inr (.inl ⟨r, rfl⟩)
 | out => exact .inl rfl
def isS (s : List Nat) (l : List Tok) : Bool := match l with | t :: _ => decide (t.kind ≠ 2) && decide (t.text = s) | [] => false
def nameS (l : List Tok) : Bool := match l with | t :: _ => decide (t.kind = 1) && !wordB t.text | [] => false
def nameOk (t : List Nat) : Bool := isName t && !wordB t
def headT (l : List Tok) : List Nat := match l with | t :: _ => t.text | [] => []
def take (s : List Nat) (l : List Tok) : Res Unit := if isS s l = true then .ok () l.tail else .bad l
def pName (l : List Tok) : Res (List Nat) := if nameS l = true then .ok (headT l) l.tail else .bad l
def pNumber (l : List Tok) : Res Nat := match l with | t :: r => if t.kind = 2 then .ok (numV t.text) r else .bad l | [] => .bad []
def numberT (n : Nat) : Tree := .node 14 [] n []
def pArr (k n : Nat) (l : List Tok) : Res Tree :=
 if isS [91] l = true then (pNumber l.tail).bind fun m r => (take [93] r).bind fun _ r => .ok (.node 11 [] k [numberT n, numberT m]) r
 else .ok (.node 11 [] k [numberT n, numberT 0]) l
def pTyp (l : List Tok) : Res Tree :=
 if isS [110, 117, 109] l = true then pArr 1 0 l.tail
 else if isS [98, 105, 116] l = true then pArr 2 0 l.tail
 else (take [119, 111, 114, 100] l).bind fun _ r => (pNumber r).bind fun n r => pArr 3 n r
def signsL : Nat -> List (List Nat)
 | 0 => [[124]]
 | 1 => [[94]]
 | 2 => [[38]]
 | 3 => [[61, 61], [60]]
 | 4 => [[43], [45]]
 | _ => [[42]]
def signAt (k : Nat) (l : List Tok) : Option (List Nat) := match l with | t :: _ => if t.kind ≠ 2 /\ t.text ∈ signsL k then some t.text else none | [] => none
def typedS (l : List Tok) : Bool := isS [110, 117, 109] l || isS [98, 105, 116] l || isS [119, 111, 114, 100] l
def pSep (p : List Tok -> Res Tree) : Nat -> List Tree -> List Tok -> Res (List Tree)
 | 0, _, _ => .out
 | c + 1, a, l => if isS [44] l = true then (p l.tail).bind fun n r => pSep p c (a ++ [n]) r else .ok a l
def pList (p : List Tok -> Res Tree) (c : Nat) (l : List Tok) : Res (List Tree) := (p l).bind fun n r => pSep p c [n] r
def pArgs (p : List Tok -> Res Tree) (c : Nat) (l : List Tok) : Res (List Tree) :=
 if isS [41] l = true then .ok [] l.tail else (pList p c l).bind fun a r => (take [41] r).bind fun _ r => .ok a r
def pLoop (p : List Tok -> Res Tree) (k : Nat) : Nat -> Tree -> List Tok -> Res Tree
 | 0, _, _ => .out
 | c + 1, n, l => match signAt k l with
  | none => .ok n l
  | some s => (p l.tail).bind fun m r => if k = 3 then .ok (.node 20 s 0 [n, m]) r else pLoop p k c (.node 20 s 0 [n, m]) r
def pIndex (p : List Tok -> Res Tree) : Nat -> Tree -> List Tok -> Res Tree
 | 0, _, _ => .out
 | c + 1, n, l => if isS [91] l = true then (p l.tail).bind fun i r => (take [93] r).bind fun _ r => pIndex p c (.node 17 [] 0 [n, i]) r else .ok n l
def pPrimary (p : List Tok -> Res Tree) (c : Nat) (l : List Tok) : Res Tree :=
 if isS [40] l = true then (p l.tail).bind fun n r => (take [41] r).bind fun _ r => .ok n r
 else if isS [91] l = true then (pList p c l.tail).bind fun k r => (take [93] r).bind fun _ r => .ok (.node 18 [] 0 k) r
 else if typedS l = true then (take [40] l.tail).bind fun _ r => (pArgs p c r).bind fun k r => .ok (.node 16 (headT l) 0 k) r
 else if nameS l = true then (if isS [40] l.tail = true then (pArgs p c l.tail.tail).bind fun k r => .ok (.node 16 (headT l) 0 k) r else .ok (.node 15 (headT l) 0 []) l.tail)
 else (pNumber l).bind fun n r => .ok (numberT n) r
def pIndexed (p : List Tok -> Res Tree) (c : Nat) (l : List Tok) : Res Tree := (pPrimary p c l).bind fun n r => pIndex p c n r
mutual
def pLevel : Nat -> Nat -> List Tok -> Res Tree
 | 0, _, _ => .out
 | f + 1, k, l => if 5 < k then pUnary f l else (pLevel f (k + 1) l).bind fun n r => pLoop (pLevel f (k + 1)) k f n r
def pUnary : Nat -> List Tok -> Res Tree
 | 0, _ => .out
 | f + 1, l =>
  if isS [33] l = true then (pUnary f l.tail).bind fun n r => .ok (.node 19 [33] 0 [n]) r
  else if isS [45] l = true then (pUnary f l.tail).bind fun n r => .ok (.node 19 [45] 0 [n]) r
  else pIndexed (pLevel f 0) f l
end
def pArg (l : List Tok) : Res Tree := (pName l).bind fun s r => (take [58] r).bind fun _ r => (pTyp r).bind fun t r => .ok (.node 13 s 0 [t]) r
def pDecl (l : List Tok) : Res (List Nat × Tree) := (pName l).bind fun s r => (take [58] r).bind fun _ r => (pTyp r).bind fun t r => .ok (s, t) r
def pTo (l : List Tok) : Res Tree := (pNumber l).bind fun n r => .ok (.node 12 [] n []) r
def pVal (p : List Tok -> Res Tree) (l : List Tok) : Res Tree := (take [61] l).bind fun _ r => (p r).bind fun e r => (take [59] r).bind fun _ r => .ok e r
def pOut (p : List Tok -> Res Tree) (c : Nat) (l : List Tok) : Res Tree :=
 (p l).bind fun n r => (take [116, 111] r).bind fun _ r =>
  (if isS [97, 108, 108] r = true then .ok [] r.tail else pList pTo c r).bind fun k r => (take [59] r).bind fun _ r => .ok (.node 8 [] 0 (n :: k)) r
def pSet (p : List Tok -> Res Tree) (l : List Tok) : Res Tree :=
 (pName l).bind fun s r =>
  if isS [91] r = true then (p r.tail).bind fun i r => (take [93] r).bind fun _ r => (pVal p r).bind fun e r => .ok (.node 5 s 0 [i, e]) r
  else (pVal p r).bind fun e r => .ok (.node 4 s 0 [e]) r
def pIn (l : List Tok) : Res Tree :=
 (pName l).bind fun s r => (take [58] r).bind fun _ r => (pTyp r).bind fun t r => (take [102, 114, 111, 109] r).bind fun _ r => (pNumber r).bind fun n r => (take [59] r).bind fun _ r => .ok (.node 2 s n [t]) r
def pLet (p : List Tok -> Res Tree) (l : List Tok) : Res Tree := (pName l).bind fun s r => (pVal p r).bind fun e r => .ok (.node 3 s 0 [e]) r
theorem pArg_decl (l : List Tok) : pArg l = (pDecl l).bind fun d r => .ok (.node 13 d.1 0 [d.2]) r := by
 unfold pArg pDecl
 simp only [Res.bind_assoc, Res.bind_ok]
theorem pIn_decl (l : List Tok) : pIn l = (pDecl l).bind fun d r => (take [102, 114, 111, 109] r).bind fun _ r => (pNumber r).bind fun n r => (take [59] r).bind fun _ r => .ok (.node 2 d.1 n [d.2]) r := by
 unfold pIn pDecl
 simp only [Res.bind_assoc, Res.bind_ok]
def itemS (l : List Tok) : Bool := isS [105, 110] l || isS [108, 101, 116] l || isS [105, 102] l || isS [102, 111, 114] l || isS [111, 117, 116] l || isS [100, 101, 102] l || nameS l
def pItems (it : List Tok -> Res Tree) : Nat -> List Tree -> List Tok -> Res (List Tree)
 | 0, _, _ => .out
 | c + 1, a, l => if itemS l = true then (it l).bind fun n r => pItems it c (a ++ [n]) r else .ok a l
def pBlock (it : List Tok -> Res Tree) (c : Nat) (l : List Tok) : Res Tree :=
 (take [123] l).bind fun _ r => (pItems it c [] r).bind fun k r => (take [125] r).bind fun _ r => .ok (.node 10 [] 0 k) r
def pIf (p it : List Tok -> Res Tree) (c : Nat) (l : List Tok) : Res Tree :=
 (p l).bind fun e r => (pBlock it c r).bind fun b r =>
  if isS [101, 108, 115, 101] r = true then (pBlock it c r.tail).bind fun o r => .ok (.node 6 [] 0 [e, b, o]) r else .ok (.node 6 [] 0 [e, b, .node 10 [] 0 []]) r
def pFor (p it : List Tok -> Res Tree) (c : Nat) (l : List Tok) : Res Tree :=
 (pName l).bind fun s r => (take [61] r).bind fun _ r => (p r).bind fun a r => (take [116, 111] r).bind fun _ r => (p r).bind fun b r => (pBlock it c r).bind fun o r => .ok (.node 7 s 0 [a, b, o]) r
def pDef (p it : List Tok -> Res Tree) (c : Nat) (l : List Tok) : Res Tree :=
 (pName l).bind fun s r => (take [40] r).bind fun _ r => (pArgs pArg c r).bind fun k r =>
  (take [123] r).bind fun _ r => (pItems it c [] r).bind fun b r => (take [114, 101, 116, 117, 114, 110] r).bind fun _ r => (p r).bind fun e r => (take [59] r).bind fun _ r => (take [125] r).bind fun _ r =>
   .ok (.node 9 s 0 (k ++ [.node 10 [] 0 b, e])) r
def pItem : Nat -> List Tok -> Res Tree
 | 0, _ => .out
 | f + 1, l =>
  if isS [105, 110] l = true then pIn l.tail
  else if isS [108, 101, 116] l = true then pLet (pLevel f 0) l.tail
  else if isS [105, 102] l = true then pIf (pLevel f 0) (pItem f) f l.tail
  else if isS [102, 111, 114] l = true then pFor (pLevel f 0) (pItem f) f l.tail
  else if isS [111, 117, 116] l = true then pOut (pLevel f 0) f l.tail
  else if isS [100, 101, 102] l = true then pDef (pLevel f 0) (pItem f) f l.tail
  else pSet (pLevel f 0) l
def pProgram (f : Nat) (l : List Tok) : Res Tree := (pItems (pItem f) f [] l).bind fun k r => match r with | [] => .ok (.node 1 [] 0 k) [] | _ => .bad r
def placeOf (N : Nat) (l : List Tok) : Nat := match l with | t :: _ => t.at_ | [] => N
end Go.Proofs.YtngpedcihajepaaGreatDoor.M
namespace Go.Proofs.YtngpedcihajepaaGreatDoor.M
def Fin {α : Type} (n : Nat) (x : Res α) : Prop := match x with | .ok _ r => r.length <= n | .bad _ => True | .out => False
theorem Fin.mono {α : Type} {n m : Nat} {x : Res α} (h : Fin n x) (hm : n <= m) : Fin m x := by
 cases x with
 | ok a r => exact Nat.le_trans h hm
 | bad r => trivial
 | out => exact h
theorem Fin.bind {α β : Type} {n m : Nat} {x : Res α} {f : α -> List Tok -> Res β} (h : Fin n x) (hf : ∀ a r, r.length <= n -> Fin m (f a r)) : Fin m (x.bind f) := by
 cases x with
 | ok a r => exact hf a r h
 | bad r => trivial
 | out => exact h
theorem Fin.ite {α : Type} {n : Nat} {c : Prop} [Decidable c] {x y : Res α} (hx : c -> Fin n x) (hy : ¬ c -> Fin n y) : Fin n (if c then x else y) := by
 split
 ·exact hx ‹_›
 ·exact hy ‹_›
theorem Fin.ne {α : Type} {n : Nat} {x : Res α} (h : Fin n x) : x ≠ .out := by rintro rfl; exact h
theorem isS_pos {s : List Nat} {l : List Tok} (h : isS s l = true) : 0 < l.length := by
 cases l with
 | nil => simp [isS] at h
 | cons t r => simp
theorem tail_len {l : List Tok} : l.tail.length = l.length - 1 := by simp
theorem take_fin (s : List Nat) (l : List Tok) : Fin (l.length - 1) (take s l) := by
 unfold take
 split
 ·show l.tail.length <= _; simp
 ·trivial
theorem name_fin (l : List Tok) : Fin (l.length - 1) (pName l) := by
 unfold pName
 split
 ·show l.tail.length <= _; simp
 ·trivial
theorem number_fin (l : List Tok) : Fin (l.length - 1) (pNumber l) := by
 unfold pNumber
 split
 ·split
  ·show _ <= _; simp
  ·trivial
 ·trivial
theorem arr_fin (k n : Nat) (l : List Tok) : Fin l.length (pArr k n l) := by
 unfold pArr
 refine Fin.ite (fun h => ?_) (fun _ => Nat.le_refl _)
 refine (number_fin _).bind fun m r hr => (take_fin _ _).bind fun _ r2 hr2 => ?_
 rw [tail_len] at hr
 show _ <= _; omega
theorem typ_fin (l : List Tok) : Fin (l.length - 1) (pTyp l) := by
 unfold pTyp
 refine Fin.ite (fun h => (arr_fin _ _ _).mono (by simp)) fun _ => Fin.ite (fun h => (arr_fin _ _ _).mono (by simp)) fun _ => ?_
 refine (take_fin _ _).bind fun _ r hr => (number_fin _).bind fun n r2 hr2 => (arr_fin _ _ _).mono (by omega)
theorem sep_fin {p : List Tok -> Res Tree} : ∀ (c : Nat) (a : List Tree) (l : List Tok), l.length < c -> (∀ l', l'.length < l.length -> Fin (l'.length - 1) (p l')) -> Fin l.length (pSep p c a l)
 | 0, a, l, hc, _ => by omega
 | c + 1, a, l, hc, hp => by
  rw [pSep]
  refine Fin.ite (fun h => ?_) (fun _ => Nat.le_refl _)
  have hpos := isS_pos h
  refine (hp _ (by rw [tail_len]; omega)).bind fun n r hr => ?_
  rw [tail_len] at hr
  refine (sep_fin c _ r (by omega) fun l' hl' => hp l' (by omega)).mono (by omega)
theorem list_fin {p : List Tok -> Res Tree} (c : Nat) (l : List Tok) (hc : l.length < c) (hp : ∀ l', l'.length <= l.length -> Fin (l'.length - 1) (p l')) : Fin (l.length - 1) (pList p c l) := by
 unfold pList
 refine (hp l (Nat.le_refl _)).bind fun n r hr => (sep_fin c _ r (by omega) fun l' hl' => hp l' (by omega)).mono hr
theorem args_fin {p : List Tok -> Res Tree} (c : Nat) (l : List Tok) (hc : l.length < c) (hp : ∀ l', l'.length <= l.length -> Fin (l'.length - 1) (p l')) : Fin (l.length - 1) (pArgs p c l) := by
 unfold pArgs
 refine Fin.ite (fun h => by show _ <= _; simp) fun _ => ?_
 refine (list_fin c l hc hp).bind fun a r hr => (take_fin _ _).bind fun _ r2 hr2 => ?_
 show _ <= _; omega
theorem sign_pos {k : Nat} {l : List Tok} {s : List Nat} (h : signAt k l = some s) : 0 < l.length := by
 cases l with
 | nil => simp [signAt] at h
 | cons t r => simp
theorem loop_fin {p : List Tok -> Res Tree} (k : Nat) : ∀ (c : Nat) (n : Tree) (l : List Tok), l.length < c -> (∀ l', l'.length < l.length -> Fin (l'.length - 1) (p l')) -> Fin l.length (pLoop p k c n l)
 | 0, n, l, hc, _ => by omega
 | c + 1, n, l, hc, hp => by
  rw [pLoop]
  cases h : signAt k l with
  | none => exact Nat.le_refl _
  | some s =>
   have hpos := sign_pos h
   refine (hp _ (by rw [tail_len]; omega)).bind fun m r hr => ?_
   rw [tail_len] at hr
   refine Fin.ite (fun _ => by show _ <= _; omega) fun _ => ?_
   exact (loop_fin k c _ r (by omega) fun l' hl' => hp l' (by omega)).mono (by omega)
theorem index_fin {p : List Tok -> Res Tree} : ∀ (c : Nat) (n : Tree) (l : List Tok), l.length < c -> (∀ l', l'.length < l.length -> Fin (l'.length - 1) (p l')) -> Fin l.length (pIndex p c n l)
 | 0, n, l, hc, _ => by omega
 | c + 1, n, l, hc, hp => by
  rw [pIndex]
  refine Fin.ite (fun h => ?_) (fun _ => Nat.le_refl _)
  have hpos := isS_pos h
  refine (hp _ (by rw [tail_len]; omega)).bind fun i r hr => (take_fin _ _).bind fun _ r2 hr2 => ?_
  rw [tail_len] at hr
  exact (index_fin c _ r2 (by omega) fun l' hl' => hp l' (by omega)).mono (by omega)
theorem primary_fin {p : List Tok -> Res Tree} (c : Nat) (l : List Tok) (hc : l.length <= c) (hp : ∀ l', l'.length < l.length -> Fin (l'.length - 1) (p l')) : Fin (l.length - 1) (pPrimary p c l) := by
 unfold pPrimary
 refine Fin.ite (fun h => ?_) fun _ => Fin.ite (fun h => ?_) fun _ => Fin.ite (fun h => ?_) fun _ => Fin.ite (fun h => ?_) fun _ => ?_
 ·have hpos := isS_pos h
  refine (hp _ (by rw [tail_len]; omega)).bind fun n r hr => (take_fin _ _).bind fun _ r2 hr2 => ?_
  rw [tail_len] at hr
  show _ <= _; omega
 ·have hpos := isS_pos h
  refine (list_fin c _ (by rw [tail_len]; omega) fun l' hl' => hp l' (by rw [tail_len] at hl'; omega)).bind fun n r hr => (take_fin _ _).bind fun _ r2 hr2 => ?_
  rw [tail_len] at hr
  show _ <= _; omega
 ·have hpos : 0 < l.length := by
   cases l with
   | nil => simp [typedS, isS] at h
   | cons t r => simp
  refine (take_fin _ _).bind fun _ r hr => ?_
  rw [tail_len] at hr
  refine (args_fin c r (by omega) fun l' hl' => hp l' (by omega)).bind fun k r2 hr2 => ?_
  show _ <= _; omega
 ·have hpos : 0 < l.length := by
   cases l with
   | nil => simp [nameS] at h
   | cons t r => simp
  refine Fin.ite (fun h2 => ?_) fun _ => by show l.tail.length <= _; simp
  refine (args_fin c _ (by rw [tail_len, tail_len]; omega) fun l' hl' => hp l' (by rw [tail_len, tail_len] at hl'; omega)).bind fun k r2 hr2 => ?_
  rw [tail_len, tail_len] at hr2
  show _ <= _; omega
 ·exact (number_fin _).bind fun n r hr => hr
theorem indexed_fin {p : List Tok -> Res Tree} (c : Nat) (l : List Tok) (hc : l.length <= c) (hc0 : 0 < c) (hp : ∀ l', l'.length < l.length -> Fin (l'.length - 1) (p l')) : Fin (l.length - 1) (pIndexed p c l) := by
 unfold pIndexed
 refine (primary_fin c l hc hp).bind fun n r hr => ?_
 exact (index_fin c _ r (by omega) fun l' hl' => hp l' (by omega)).mono hr
theorem expr_fin : ∀ (f : Nat), (∀ k l, k <= 6 -> 9 * l.length + 9 - k <= f -> Fin (l.length - 1) (pLevel f k l)) /\ (∀ l, 9 * l.length + 2 <= f -> Fin (l.length - 1) (pUnary f l))
 | 0 => ⟨fun k l hk h => by omega, fun l h => by omega⟩
 | f + 1 => by
  obtain ⟨ih1, ih2⟩ := expr_fin f
  refine ⟨fun k l hk h => ?_, fun l h => ?_⟩
  ·rw [pLevel]
   refine Fin.ite (fun h5 => ih2 l (by omega)) fun h5 => ?_
   refine (ih1 (k + 1) l (by omega) (by omega)).bind fun n r hr => ?_
   exact (loop_fin k f n r (by omega) fun l' hl' => ih1 (k + 1) l' (by omega) (by omega)).mono hr
  ·rw [pUnary]
   refine Fin.ite (fun h1 => ?_) fun _ => Fin.ite (fun h1 => ?_) fun _ => ?_
   ·have hpos := isS_pos h1
    refine (ih2 _ (by rw [tail_len]; omega)).bind fun n r hr => ?_
    rw [tail_len] at hr
    show _ <= _; omega
   ·have hpos := isS_pos h1
    refine (ih2 _ (by rw [tail_len]; omega)).bind fun n r hr => ?_
    rw [tail_len] at hr
    show _ <= _; omega
   ·exact indexed_fin f l (by omega) (by omega) fun l' hl' => ih1 0 l' (by omega) (by omega)
theorem arg_fin (l : List Tok) : Fin (l.length - 1) (pArg l) :=
 (name_fin l).bind fun s r hr => (take_fin _ _).bind fun _ r2 hr2 => (typ_fin r2).bind fun t r3 hr3 => by show _ <= _; omega
theorem to_fin (l : List Tok) : Fin (l.length - 1) (pTo l) := (number_fin l).bind fun n r hr => hr
theorem val_fin {p : List Tok -> Res Tree} (l : List Tok) (hp : ∀ l', l'.length <= l.length -> Fin (l'.length - 1) (p l')) : Fin (l.length - 1) (pVal p l) :=
 (take_fin _ _).bind fun _ r hr => (hp r (by omega)).bind fun e r2 hr2 => (take_fin _ _).bind fun _ r3 hr3 => by show _ <= _; omega
theorem items_fin {it : List Tok -> Res Tree} : ∀ (c : Nat) (a : List Tree) (l : List Tok), l.length < c -> (∀ l', l'.length <= l.length -> Fin (l'.length - 1) (it l')) -> Fin l.length (pItems it c a l)
 | 0, a, l, hc, _ => by omega
 | c + 1, a, l, hc, hp => by
  rw [pItems]
  refine Fin.ite (fun h => ?_) (fun _ => Nat.le_refl _)
  have hpos : 0 < l.length := by
   cases l with
   | nil => simp [itemS, isS, nameS] at h
   | cons t r => simp
  refine (hp _ (by omega)).bind fun n r hr => ?_
  exact (items_fin c _ r (by omega) fun l' hl' => hp l' (by omega)).mono (by omega)
theorem block_fin {it : List Tok -> Res Tree} (c : Nat) (l : List Tok) (hc : l.length < c) (hp : ∀ l', l'.length <= l.length -> Fin (l'.length - 1) (it l')) : Fin (l.length - 1) (pBlock it c l) :=
 (take_fin _ _).bind fun _ r hr => (items_fin c [] r (by omega) fun l' hl' => hp l' (by omega)).bind fun k r2 hr2 => (take_fin _ _).bind fun _ r3 hr3 => by show _ <= _; omega
theorem item_fin : ∀ (f : Nat) (l : List Tok), 9 * l.length + 10 <= f -> Fin (l.length - 1) (pItem f l)
 | 0, l, h => by omega
 | f + 1, l, h => by
  have hE : ∀ l' : List Tok, l'.length <= l.length -> Fin (l'.length - 1) (pLevel f 0 l') := fun l' hl' => (expr_fin f).1 0 l' (by omega) (by omega)
  have hI : ∀ l' : List Tok, l'.length < l.length -> Fin (l'.length - 1) (pItem f l') := fun l' hl' => item_fin f l' (by omega)
  have ht : l.tail.length <= l.length - 1 := by simp
  rw [pItem]
  refine Fin.ite (fun h1 => ?_) fun _ => Fin.ite (fun h1 => ?_) fun _ => Fin.ite (fun h1 => ?_) fun _ => Fin.ite (fun h1 => ?_) fun _ => Fin.ite (fun h1 => ?_) fun _ => Fin.ite (fun h1 => ?_) fun _ => ?_
  ·exact (name_fin _).bind fun s r hr => (take_fin _ _).bind fun _ r2 hr2 => (typ_fin r2).bind fun t r3 hr3 => (take_fin _ _).bind fun _ r4 hr4 => (number_fin _).bind fun n r5 hr5 => (take_fin _ _).bind fun _ r6 hr6 => by show _ <= _; omega
  ·exact (name_fin _).bind fun s r hr => (val_fin r fun l' hl' => hE l' (by omega)).bind fun e r2 hr2 => by show _ <= _; omega
  ·have hpos := isS_pos h1
   refine (hE _ (by omega)).bind fun e r hr => (block_fin f r (by omega) fun l' hl' => hI l' (by omega)).bind fun b r2 hr2 => Fin.ite (fun h2 => ?_) fun _ => by show _ <= _; omega
   have := tail_len (l := r2)
   exact (block_fin f _ (by omega) fun l' hl' => hI l' (by omega)).bind fun o r3 hr3 => by show _ <= _; omega
  ·have hpos := isS_pos h1
   exact (name_fin _).bind fun s r hr => (take_fin _ _).bind fun _ r2 hr2 => (hE r2 (by omega)).bind fun a r3 hr3 => (take_fin _ _).bind fun _ r4 hr4 => (hE r4 (by omega)).bind fun b r5 hr5 => (block_fin f r5 (by omega) fun l' hl' => hI l' (by omega)).bind fun o r6 hr6 => by show _ <= _; omega
  ·have hpos := isS_pos h1
   refine (hE _ (by omega)).bind fun n r hr => (take_fin _ _).bind fun _ r2 hr2 => Fin.bind (n := r2.length) (Fin.ite (fun _ => by show r2.tail.length <= _; simp) fun _ => (list_fin f r2 (by omega) fun l' _ => to_fin l').mono (by omega)) fun k r3 hr3 => (take_fin _ _).bind fun _ r4 hr4 => by show _ <= _; omega
  ·have hpos := isS_pos h1
   exact (name_fin _).bind fun s r hr => (take_fin _ _).bind fun _ r2 hr2 => (args_fin f r2 (by omega) fun l' _ => arg_fin l').bind fun k r3 hr3 => (take_fin _ _).bind fun _ r4 hr4 => (items_fin f [] r4 (by omega) fun l' hl' => hI l' (by omega)).bind fun b r5 hr5 => (take_fin _ _).bind fun _ r6 hr6 => (hE r6 (by omega)).bind fun e r7 hr7 => (take_fin _ _).bind fun _ r8 hr8 => (take_fin _ _).bind fun _ r9 hr9 => by show _ <= _; omega
  ·refine (name_fin _).bind fun s r hr => Fin.ite (fun h2 => ?_) fun _ => (val_fin r fun l' hl' => hE l' (by omega)).bind fun e r2 hr2 => by show _ <= _; omega
   have := tail_len (l := r)
   exact (hE _ (by omega)).bind fun i r2 hr2 => (take_fin _ _).bind fun _ r3 hr3 => (val_fin r3 fun l' hl' => hE l' (by omega)).bind fun e r4 hr4 => by show _ <= _; omega
def fuel (n : Nat) : Nat := 9 * n + 10
theorem program_fin (l : List Tok) : pProgram (fuel l.length) l ≠ .out := by
 have h : Fin l.length (pProgram (fuel l.length) l) := by
  unfold pProgram
  refine (items_fin (fuel l.length) [] l (by unfold fuel; omega) fun l' hl' => item_fin _ l' (by unfold fuel; omega)).bind fun k r hr => ?_
  cases r with
  | nil => exact Nat.zero_le _
  | cons t r => trivial
 exact h.ne
end Go.Proofs.YtngpedcihajepaaGreatDoor.M
namespace Go.Proofs.YtngpedcihajepaaGreatDoor.M
def Sh {α : Type} (m : Nat) (x : Res α) : Prop := match x with | .ok _ r => r.length < m | .bad _ => True | .out => True
theorem Sh.mono {α : Type} {n m : Nat} {x : Res α} (h : Sh n x) (hm : n <= m) : Sh m x := by
 cases x with
 | ok a r => exact Nat.lt_of_lt_of_le h hm
 | bad r => trivial
 | out => trivial
theorem Sh.bind {α β : Type} {n m : Nat} {x : Res α} {f : α -> List Tok -> Res β} (h : Sh n x) (hf : ∀ a r, r.length < n -> Sh m (f a r)) : Sh m (x.bind f) := by
 cases x with
 | ok a r => exact hf a r h
 | bad r => trivial
 | out => trivial
theorem Sh.ite {α : Type} {n : Nat} {c : Prop} [Decidable c] {x y : Res α} (hx : c -> Sh n x) (hy : ¬ c -> Sh n y) : Sh n (if c then x else y) := by
 split
 ·exact hx ‹_›
 ·exact hy ‹_›
theorem take_sh (s : List Nat) (l : List Tok) : Sh l.length (take s l) := by
 unfold take
 refine Sh.ite (fun h => ?_) fun _ => trivial
 have := isS_pos h
 show l.tail.length < _; simp; omega
theorem name_sh (l : List Tok) : Sh l.length (pName l) := by
 unfold pName
 refine Sh.ite (fun h => ?_) fun _ => trivial
 cases l with
 | nil => simp [nameS] at h
 | cons t r => show _ < _; simp
theorem number_sh (l : List Tok) : Sh l.length (pNumber l) := by
 unfold pNumber
 split
 ·refine Sh.ite (fun h => ?_) fun _ => trivial
  show _ < _; simp
 ·trivial
theorem arr_sh (k n : Nat) (l : List Tok) : Sh (l.length + 1) (pArr k n l) := by
 unfold pArr
 refine Sh.ite (fun h => ?_) (fun _ => Nat.lt_succ_self _)
 refine (number_sh _).bind fun m r hr => (take_sh _ _).bind fun _ r2 hr2 => ?_
 rw [tail_len] at hr
 show _ < _; omega
theorem typ_sh (l : List Tok) : Sh l.length (pTyp l) := by
 unfold pTyp
 refine Sh.ite (fun h => (arr_sh _ _ _).mono (by have := isS_pos h; simp; omega)) fun _ => Sh.ite (fun h => (arr_sh _ _ _).mono (by have := isS_pos h; simp; omega)) fun _ => ?_
 refine (take_sh _ _).bind fun _ r hr => (number_sh _).bind fun n r2 hr2 => (arr_sh _ _ _).mono (by omega)
theorem sep_sh {p : List Tok -> Res Tree} (hp : ∀ l', Sh l'.length (p l')) : ∀ (c : Nat) (a : List Tree) (l : List Tok), Sh (l.length + 1) (pSep p c a l)
 | 0, a, l => trivial
 | c + 1, a, l => by
  rw [pSep]
  refine Sh.ite (fun h => ?_) (fun _ => Nat.lt_succ_self _)
  refine (hp _).bind fun n r hr => ?_
  rw [tail_len] at hr
  exact (sep_sh hp c _ r).mono (by omega)
theorem list_sh {p : List Tok -> Res Tree} (hp : ∀ l', Sh l'.length (p l')) (c : Nat) (l : List Tok) : Sh l.length (pList p c l) :=
 (hp l).bind fun n r hr => (sep_sh hp c _ r).mono (by omega)
theorem args_sh {p : List Tok -> Res Tree} (hp : ∀ l', Sh l'.length (p l')) (c : Nat) (l : List Tok) : Sh l.length (pArgs p c l) := by
 unfold pArgs
 refine Sh.ite (fun h => by have := isS_pos h; show l.tail.length < _; simp; omega) fun _ => ?_
 refine (list_sh hp c l).bind fun a r hr => (take_sh _ _).bind fun _ r2 hr2 => ?_
 show _ < _; omega
theorem loop_sh {p : List Tok -> Res Tree} (hp : ∀ l', Sh l'.length (p l')) (k : Nat) : ∀ (c : Nat) (n : Tree) (l : List Tok), Sh (l.length + 1) (pLoop p k c n l)
 | 0, n, l => trivial
 | c + 1, n, l => by
  rw [pLoop]
  cases h : signAt k l with
  | none => exact Nat.lt_succ_self _
  | some s =>
   refine (hp _).bind fun m r hr => ?_
   rw [tail_len] at hr
   refine Sh.ite (fun _ => by show _ < _; omega) fun _ => (loop_sh hp k c _ r).mono (by omega)
theorem index_sh {p : List Tok -> Res Tree} (hp : ∀ l', Sh l'.length (p l')) : ∀ (c : Nat) (n : Tree) (l : List Tok), Sh (l.length + 1) (pIndex p c n l)
 | 0, n, l => trivial
 | c + 1, n, l => by
  rw [pIndex]
  refine Sh.ite (fun h => ?_) (fun _ => Nat.lt_succ_self _)
  refine (hp _).bind fun i r hr => (take_sh _ _).bind fun _ r2 hr2 => ?_
  rw [tail_len] at hr
  exact (index_sh hp c _ r2).mono (by omega)
theorem primary_sh {p : List Tok -> Res Tree} (hp : ∀ l', Sh l'.length (p l')) (c : Nat) (l : List Tok) : Sh l.length (pPrimary p c l) := by
 unfold pPrimary
 refine Sh.ite (fun h => ?_) fun _ => Sh.ite (fun h => ?_) fun _ => Sh.ite (fun h => ?_) fun _ => Sh.ite (fun h => ?_) fun _ => ?_
 ·refine (hp _).bind fun n r hr => (take_sh _ _).bind fun _ r2 hr2 => ?_
  rw [tail_len] at hr
  show _ < _; omega
 ·refine (list_sh hp c _).bind fun n r hr => (take_sh _ _).bind fun _ r2 hr2 => ?_
  rw [tail_len] at hr
  show _ < _; omega
 ·refine (take_sh _ _).bind fun _ r hr => (args_sh hp c r).bind fun k r2 hr2 => ?_
  rw [tail_len] at hr
  show _ < _; omega
 ·have hpos : 0 < l.length := by
   cases l with
   | nil => simp [nameS] at h
   | cons t r => simp
  refine Sh.ite (fun h2 => ?_) fun _ => by show l.tail.length < _; simp; omega
  refine (args_sh hp c _).bind fun k r2 hr2 => ?_
  rw [tail_len, tail_len] at hr2
  show _ < _; omega
 ·exact (number_sh _).bind fun n r hr => hr
theorem indexed_sh {p : List Tok -> Res Tree} (hp : ∀ l', Sh l'.length (p l')) (c : Nat) (l : List Tok) : Sh l.length (pIndexed p c l) :=
 (primary_sh hp c l).bind fun n r hr => (index_sh hp c _ r).mono (by omega)
theorem expr_sh : ∀ (f : Nat), (∀ k l, Sh l.length (pLevel f k l)) /\ (∀ l, Sh l.length (pUnary f l))
 | 0 => ⟨fun k l => trivial, fun l => trivial⟩
 | f + 1 => by
  obtain ⟨ih1, ih2⟩ := expr_sh f
  refine ⟨fun k l => ?_, fun l => ?_⟩
  ·rw [pLevel]
   exact Sh.ite (fun h5 => ih2 l) fun h5 => (ih1 (k + 1) l).bind fun n r hr => (loop_sh (ih1 (k + 1)) k f n r).mono (by omega)
  ·rw [pUnary]
   refine Sh.ite (fun h1 => ?_) fun _ => Sh.ite (fun h1 => ?_) fun _ => indexed_sh (ih1 0) f l
   ·refine (ih2 _).bind fun n r hr => ?_
    rw [tail_len] at hr
    show _ < _; omega
   ·refine (ih2 _).bind fun n r hr => ?_
    rw [tail_len] at hr
    show _ < _; omega
theorem arg_sh (l : List Tok) : Sh l.length (pArg l) :=
 (name_sh l).bind fun s r hr => (take_sh _ _).bind fun _ r2 hr2 => (typ_sh r2).bind fun t r3 hr3 => by show _ < _; omega
theorem to_sh (l : List Tok) : Sh l.length (pTo l) := (number_sh l).bind fun n r hr => hr
theorem val_sh {p : List Tok -> Res Tree} (hp : ∀ l', Sh l'.length (p l')) (l : List Tok) : Sh l.length (pVal p l) :=
 (take_sh _ _).bind fun _ r hr => (hp r).bind fun e r2 hr2 => (take_sh _ _).bind fun _ r3 hr3 => by show _ < _; omega
theorem items_sh {it : List Tok -> Res Tree} (hp : ∀ l', Sh l'.length (it l')) : ∀ (c : Nat) (a : List Tree) (l : List Tok), Sh (l.length + 1) (pItems it c a l)
 | 0, a, l => trivial
 | c + 1, a, l => by
  rw [pItems]
  refine Sh.ite (fun h => ?_) (fun _ => Nat.lt_succ_self _)
  exact (hp _).bind fun n r hr => (items_sh hp c _ r).mono (by omega)
theorem block_sh {it : List Tok -> Res Tree} (hp : ∀ l', Sh l'.length (it l')) (c : Nat) (l : List Tok) : Sh l.length (pBlock it c l) :=
 (take_sh _ _).bind fun _ r hr => (items_sh hp c [] r).bind fun k r2 hr2 => (take_sh _ _).bind fun _ r3 hr3 => by show _ < _; omega
theorem item_sh : ∀ (f : Nat) (l : List Tok), Sh l.length (pItem f l)
 | 0, l => trivial
 | f + 1, l => by
  have hE := (expr_sh f).1 0
  have hI := item_sh f
  have ht : l.tail.length <= l.length := by simp
  rw [pItem]
  refine Sh.ite (fun h1 => ?_) fun _ => Sh.ite (fun h1 => ?_) fun _ => Sh.ite (fun h1 => ?_) fun _ => Sh.ite (fun h1 => ?_) fun _ => Sh.ite (fun h1 => ?_) fun _ => Sh.ite (fun h1 => ?_) fun _ => ?_
  ·exact (name_sh _).bind fun s r hr => (take_sh _ _).bind fun _ r2 hr2 => (typ_sh r2).bind fun t r3 hr3 => (take_sh _ _).bind fun _ r4 hr4 => (number_sh _).bind fun n r5 hr5 => (take_sh _ _).bind fun _ r6 hr6 => by show _ < _; omega
  ·exact (name_sh _).bind fun s r hr => (val_sh hE r).bind fun e r2 hr2 => by show _ < _; omega
  ·refine (hE _).bind fun e r hr => (block_sh hI f r).bind fun b r2 hr2 => Sh.ite (fun h2 => ?_) fun _ => by show _ < _; omega
   have := tail_len (l := r2)
   exact (block_sh hI f _).bind fun o r3 hr3 => by show _ < _; omega
  ·exact (name_sh _).bind fun s r hr => (take_sh _ _).bind fun _ r2 hr2 => (hE r2).bind fun a r3 hr3 => (take_sh _ _).bind fun _ r4 hr4 => (hE r4).bind fun b r5 hr5 => (block_sh hI f r5).bind fun o r6 hr6 => by show _ < _; omega
  ·refine (hE _).bind fun n r hr => (take_sh _ _).bind fun _ r2 hr2 => Sh.bind (n := r2.length + 1) (Sh.ite (fun _ => by show r2.tail.length < _; simp; omega) fun _ => (list_sh to_sh f r2).mono (by omega)) fun k r3 hr3 => (take_sh _ _).bind fun _ r4 hr4 => by show _ < _; omega
  ·exact (name_sh _).bind fun s r hr => (take_sh _ _).bind fun _ r2 hr2 => (args_sh arg_sh f r2).bind fun k r3 hr3 => (take_sh _ _).bind fun _ r4 hr4 => (items_sh hI f [] r4).bind fun b r5 hr5 => (take_sh _ _).bind fun _ r6 hr6 => (hE r6).bind fun e r7 hr7 => (take_sh _ _).bind fun _ r8 hr8 => (take_sh _ _).bind fun _ r9 hr9 => by show _ < _; omega
  ·refine (name_sh _).bind fun s r hr => Sh.ite (fun h2 => ?_) fun _ => (val_sh hE r).bind fun e r2 hr2 => by show _ < _; omega
   have := tail_len (l := r)
   exact (hE _).bind fun i r2 hr2 => (take_sh _ _).bind fun _ r3 hr3 => (val_sh hE r3).bind fun e r4 hr4 => by show _ < _; omega
theorem item_bad {l : List Tok} (h : itemS l = false) (f : Nat) (hf : 0 < f) : pItem f l = .bad l := by
 cases f with
 | zero => omega
 | succ f =>
  unfold itemS at h
  simp only [Bool.or_eq_false_iff] at h
  obtain ⟨⟨⟨⟨⟨⟨h1, h2⟩, h3⟩, h4⟩, h5⟩, h6⟩, h7⟩ := h
  rw [pItem]
  simp [h1, h2, h3, h4, h5, h6, pSet, pName, h7]
theorem end_not {s : List Nat} (hs : s = [125] \/ s = [114, 101, 116, 117, 114, 110]) {l : List Tok} (hn : nameS l = nameOk (headT l)) (h : isS s l = true) : itemS l = false := by
 cases l with
 | nil => simp [isS] at h
 | cons t r =>
  simp only [isS, Bool.and_eq_true, decide_eq_true_eq] at h
  obtain ⟨h1, h2⟩ := h
  unfold itemS
  rw [hn]
  unfold isS headT
  simp only [h2]
  rcases hs with rfl | rfl
  ·have : nameOk [125] = false := by decide
   simp [this]
  ·have : nameOk [114, 101, 116, 117, 114, 110] = false := by decide
   simp [this]
end Go.Proofs.YtngpedcihajepaaGreatDoor.M
namespace Go.Proofs.YtngpedcihajepaaGreatDoor.M
def Cn {α : Type} (c : α -> Nat) (m : Nat) (x : Res α) : Prop := match x with | .ok a r => c a + 3 * r.length <= m | .bad _ => True | .out => True
theorem Cn.mono {α : Type} {c : α -> Nat} {n m : Nat} {x : Res α} (h : Cn c n x) (hm : n <= m) : Cn c m x := by
 cases x with
 | ok a r => exact Nat.le_trans h hm
 | bad r => trivial
 | out => trivial
theorem Cn.bind {α β : Type} {c : α -> Nat} {c2 : β -> Nat} {n m : Nat} {x : Res α} {f : α -> List Tok -> Res β} (h : Cn c n x) (hf : ∀ a r, c a + 3 * r.length <= n -> Cn c2 m (f a r)) : Cn c2 m (x.bind f) := by
 cases x with
 | ok a r => exact hf a r h
 | bad r => trivial
 | out => trivial
theorem Cn.ite {α : Type} {c : α -> Nat} {n : Nat} {p : Prop} [Decidable p] {x y : Res α} (hx : p -> Cn c n x) (hy : ¬ p -> Cn c n y) : Cn c n (if p then x else y) := by
 split
 ·exact hx ‹_›
 ·exact hy ‹_›
theorem Cn.of {α : Type} {x : Res α} {n : Nat} (h : Sh n x) : Cn (fun _ => 3) (3 * n) x := by
 cases x with
 | ok a r => have : r.length < n := h; show 3 + 3 * r.length <= _; omega
 | bad r => trivial
 | out => trivial
theorem take_cn (s : List Nat) (l : List Tok) : Cn (fun _ => 3) (3 * l.length) (take s l) := .of (take_sh s l)
theorem name_cn (l : List Tok) : Cn (fun _ => 3) (3 * l.length) (pName l) := .of (name_sh l)
theorem number_cn (l : List Tok) : Cn (fun _ => 3) (3 * l.length) (pNumber l) := .of (number_sh l)
theorem countL_app : ∀ (a b : List Tree), countL (a ++ b) = countL a + countL b
 | [], b => by simp [countL]
 | t :: r, b => by rw [List.cons_append, countL, countL, countL_app r b]; omega
theorem one_cn (t : Tree) : countL [t] = count t := by simp [countL]
theorem arr_cn (k n : Nat) (l : List Tok) : Cn count (3 * l.length + 3) (pArr k n l) := by
 unfold pArr
 refine Cn.ite (fun h => ?_) (fun _ => by show count _ + _ <= _; simp [count, countL, numberT]; omega)
 have hp := isS_pos h
 refine (number_cn _).bind fun m r hr => (take_cn _ _).bind fun _ r2 hr2 => ?_
 rw [tail_len] at hr
 show count _ + _ <= _; simp [count, countL, numberT]; omega
theorem typ_cn (l : List Tok) : Cn count (3 * l.length) (pTyp l) := by
 unfold pTyp
 refine Cn.ite (fun h => (arr_cn _ _ _).mono (by have := isS_pos h; rw [tail_len]; omega)) fun _ => Cn.ite (fun h => (arr_cn _ _ _).mono (by have := isS_pos h; rw [tail_len]; omega)) fun _ => ?_
 exact (take_cn _ _).bind fun _ r hr => (number_cn _).bind fun n r2 hr2 => (arr_cn _ _ _).mono (by omega)
theorem sep_cn {p : List Tok -> Res Tree} (hp : ∀ l', Cn count (3 * l'.length) (p l')) : ∀ (c : Nat) (a : List Tree) (l : List Tok), Cn countL (countL a + 3 * l.length) (pSep p c a l)
 | 0, a, l => trivial
 | c + 1, a, l => by
  rw [pSep]
  refine Cn.ite (fun h => ?_) (fun _ => Nat.le_refl _)
  have := isS_pos h
  refine (hp _).bind fun n r hr => ?_
  rw [tail_len] at hr
  exact (sep_cn hp c _ r).mono (by rw [countL_app, one_cn]; omega)
theorem list_cn {p : List Tok -> Res Tree} (hp : ∀ l', Cn count (3 * l'.length) (p l')) (c : Nat) (l : List Tok) : Cn countL (3 * l.length) (pList p c l) :=
 (hp l).bind fun n r hr => (sep_cn hp c _ r).mono (by rw [one_cn]; omega)
theorem args_cn {p : List Tok -> Res Tree} (hp : ∀ l', Cn count (3 * l'.length) (p l')) (c : Nat) (l : List Tok) : Cn countL (3 * l.length) (pArgs p c l) := by
 unfold pArgs
 refine Cn.ite (fun h => by have := isS_pos h; show countL [] + 3 * l.tail.length <= _; simp [countL]; omega) fun _ => ?_
 refine (list_cn hp c l).bind fun a r hr => (take_cn _ _).bind fun _ r2 hr2 => ?_
 show countL a + _ <= _; omega
theorem loop_cn {p : List Tok -> Res Tree} (hp : ∀ l', Cn count (3 * l'.length) (p l')) (k : Nat) : ∀ (c : Nat) (n : Tree) (l : List Tok), Cn count (count n + 3 * l.length) (pLoop p k c n l)
 | 0, n, l => trivial
 | c + 1, n, l => by
  rw [pLoop]
  cases h : signAt k l with
  | none => exact Nat.le_refl _
  | some s =>
   have := sign_pos h
   refine (hp _).bind fun m r hr => ?_
   rw [tail_len] at hr
   have e : count (.node 20 s 0 [n, m]) = 1 + count n + count m := by simp [count, countL]; omega
   refine Cn.ite (fun _ => by show count _ + _ <= _; rw [e]; omega) fun _ => (loop_cn hp k c _ r).mono (by rw [e]; omega)
theorem index_cn {p : List Tok -> Res Tree} (hp : ∀ l', Cn count (3 * l'.length) (p l')) : ∀ (c : Nat) (n : Tree) (l : List Tok), Cn count (count n + 3 * l.length) (pIndex p c n l)
 | 0, n, l => trivial
 | c + 1, n, l => by
  rw [pIndex]
  refine Cn.ite (fun h => ?_) (fun _ => Nat.le_refl _)
  have := isS_pos h
  refine (hp _).bind fun i r hr => (take_cn _ _).bind fun _ r2 hr2 => ?_
  rw [tail_len] at hr
  have e : count (.node 17 [] 0 [n, i]) = 1 + count n + count i := by simp [count, countL]; omega
  exact (index_cn hp c _ r2).mono (by rw [e]; omega)
theorem primary_cn {p : List Tok -> Res Tree} (hp : ∀ l', Cn count (3 * l'.length) (p l')) (c : Nat) (l : List Tok) : Cn count (3 * l.length) (pPrimary p c l) := by
 unfold pPrimary
 refine Cn.ite (fun h => ?_) fun _ => Cn.ite (fun h => ?_) fun _ => Cn.ite (fun h => ?_) fun _ => Cn.ite (fun h => ?_) fun _ => ?_
 ·refine (hp _).bind fun n r hr => (take_cn _ _).bind fun _ r2 hr2 => ?_
  rw [tail_len] at hr
  show count n + _ <= _; omega
 ·have := isS_pos h
  refine (list_cn hp c _).bind fun n r hr => (take_cn _ _).bind fun _ r2 hr2 => ?_
  rw [tail_len] at hr
  show count _ + _ <= _; rw [count]; omega
 ·refine (take_cn _ _).bind fun _ r hr => (args_cn hp c r).bind fun k r2 hr2 => ?_
  rw [tail_len] at hr
  show count _ + _ <= _; rw [count]; omega
 ·have hpos : 0 < l.length := by
   cases l with
   | nil => simp [nameS] at h
   | cons t r => simp
  refine Cn.ite (fun h2 => ?_) fun _ => by show count _ + 3 * l.tail.length <= _; simp [count, countL]; omega
  refine (args_cn hp c _).bind fun k r2 hr2 => ?_
  rw [tail_len, tail_len] at hr2
  show count _ + _ <= _; rw [count]; omega
 ·exact (number_cn _).bind fun n r hr => by show count (numberT n) + _ <= _; simp [numberT, count, countL]; omega
theorem indexed_cn {p : List Tok -> Res Tree} (hp : ∀ l', Cn count (3 * l'.length) (p l')) (c : Nat) (l : List Tok) : Cn count (3 * l.length) (pIndexed p c l) :=
 (primary_cn hp c l).bind fun n r hr => (index_cn hp c _ r).mono hr
theorem expr_cn : ∀ (f : Nat), (∀ k l, Cn count (3 * l.length) (pLevel f k l)) /\ (∀ l, Cn count (3 * l.length) (pUnary f l))
 | 0 => ⟨fun k l => trivial, fun l => trivial⟩
 | f + 1 => by
  obtain ⟨ih1, ih2⟩ := expr_cn f
  refine ⟨fun k l => ?_, fun l => ?_⟩
  ·rw [pLevel]
   exact Cn.ite (fun h5 => ih2 l) fun h5 => (ih1 (k + 1) l).bind fun n r hr => (loop_cn (ih1 (k + 1)) k f n r).mono hr
  ·rw [pUnary]
   refine Cn.ite (fun h1 => ?_) fun _ => Cn.ite (fun h1 => ?_) fun _ => indexed_cn (ih1 0) f l
   ·have := isS_pos h1
    refine (ih2 _).bind fun n r hr => ?_
    rw [tail_len] at hr
    show count _ + _ <= _; rw [count, one_cn]; omega
   ·have := isS_pos h1
    refine (ih2 _).bind fun n r hr => ?_
    rw [tail_len] at hr
    show count _ + _ <= _; rw [count, one_cn]; omega
theorem arg_cn (l : List Tok) : Cn count (3 * l.length) (pArg l) :=
 (name_cn l).bind fun s r hr => (take_cn _ _).bind fun _ r2 hr2 => (typ_cn r2).bind fun t r3 hr3 => by show count _ + _ <= _; rw [count, one_cn]; omega
theorem to_cn (l : List Tok) : Cn count (3 * l.length) (pTo l) := (number_cn l).bind fun n r hr => by show count _ + _ <= _; simp [count, countL]; omega
theorem val_cn {p : List Tok -> Res Tree} (hp : ∀ l', Cn count (3 * l'.length) (p l')) (l : List Tok) : Cn count (3 * l.length) (pVal p l) :=
 (take_cn _ _).bind fun _ r hr => (hp r).bind fun e r2 hr2 => (take_cn _ _).bind fun _ r3 hr3 => by show count e + _ <= _; omega
theorem items_cn {it : List Tok -> Res Tree} (hp : ∀ l', Cn count (3 * l'.length) (it l')) : ∀ (c : Nat) (a : List Tree) (l : List Tok), Cn countL (countL a + 3 * l.length) (pItems it c a l)
 | 0, a, l => trivial
 | c + 1, a, l => by
  rw [pItems]
  refine Cn.ite (fun h => ?_) (fun _ => Nat.le_refl _)
  exact (hp _).bind fun n r hr => (items_cn hp c _ r).mono (by rw [countL_app, one_cn]; omega)
theorem block_cn {it : List Tok -> Res Tree} (hp : ∀ l', Cn count (3 * l'.length) (it l')) (c : Nat) (l : List Tok) : Cn count (3 * l.length) (pBlock it c l) :=
 (take_cn _ _).bind fun _ r hr => (items_cn hp c [] r).bind fun k r2 hr2 => (take_cn _ _).bind fun _ r3 hr3 => by
  have : countL [] = 0 := rfl
  show count _ + _ <= _; rw [count]; omega
theorem item_cn : ∀ (f : Nat) (l : List Tok), Cn count (3 * l.length) (pItem f l)
 | 0, l => trivial
 | f + 1, l => by
  have hE := (expr_cn f).1 0
  have hI := item_cn f
  have ht : l.tail.length = l.length - 1 := by simp
  have h0 : countL [] = 0 := rfl
  rw [pItem]
  refine Cn.ite (fun h1 => ?_) fun _ => Cn.ite (fun h1 => ?_) fun _ => Cn.ite (fun h1 => ?_) fun _ => Cn.ite (fun h1 => ?_) fun _ => Cn.ite (fun h1 => ?_) fun _ => Cn.ite (fun h1 => ?_) fun _ => ?_
  ·have hp := isS_pos h1
   exact (name_cn _).bind fun s r hr => (take_cn _ _).bind fun _ r2 hr2 => (typ_cn r2).bind fun t r3 hr3 => (take_cn _ _).bind fun _ r4 hr4 => (number_cn _).bind fun n r5 hr5 => (take_cn _ _).bind fun _ r6 hr6 => by show count _ + _ <= _; rw [count, one_cn]; omega
  ·have hp := isS_pos h1
   exact (name_cn _).bind fun s r hr => (val_cn hE r).bind fun e r2 hr2 => by show count _ + _ <= _; rw [count, one_cn]; omega
  ·have hp := isS_pos h1
   refine (hE _).bind fun e r hr => (block_cn hI f r).bind fun b r2 hr2 => Cn.ite (fun h2 => ?_) fun _ => by show count _ + _ <= _; simp only [count, countL]; omega
   have := tail_len (l := r2)
   have := isS_pos h2
   exact (block_cn hI f _).bind fun o r3 hr3 => by show count _ + _ <= _; simp only [count, countL]; omega
  ·have hp := isS_pos h1
   exact (name_cn _).bind fun s r hr => (take_cn _ _).bind fun _ r2 hr2 => (hE r2).bind fun a r3 hr3 => (take_cn _ _).bind fun _ r4 hr4 => (hE r4).bind fun b r5 hr5 => (block_cn hI f r5).bind fun o r6 hr6 => by show count _ + _ <= _; simp only [count, countL]; omega
  ·have hp := isS_pos h1
   refine (hE _).bind fun n r hr => (take_cn _ _).bind fun _ r2 hr2 => Cn.bind (c := countL) (n := 3 * r2.length) (Cn.ite (fun h2 => by have := isS_pos h2; show countL [] + 3 * r2.tail.length <= _; simp; omega) fun _ => list_cn to_cn f r2) fun k r3 hr3 => (take_cn _ _).bind fun _ r4 hr4 => by show count _ + _ <= _; rw [count, countL]; omega
  ·have hp := isS_pos h1
   exact (name_cn _).bind fun s r hr => (take_cn _ _).bind fun _ r2 hr2 => (args_cn arg_cn f r2).bind fun k r3 hr3 => (take_cn _ _).bind fun _ r4 hr4 => (items_cn hI f [] r4).bind fun b r5 hr5 => (take_cn _ _).bind fun _ r6 hr6 => (hE r6).bind fun e r7 hr7 => (take_cn _ _).bind fun _ r8 hr8 => (take_cn _ _).bind fun _ r9 hr9 => by show count _ + _ <= _; rw [count, countL_app]; simp only [count, countL]; omega
  ·refine (name_cn _).bind fun s r hr => Cn.ite (fun h2 => ?_) fun _ => (val_cn hE r).bind fun e r2 hr2 => by show count _ + _ <= _; rw [count, one_cn]; omega
   have := tail_len (l := r)
   have := isS_pos h2
   exact (hE _).bind fun i r2 hr2 => (take_cn _ _).bind fun _ r3 hr3 => (val_cn hE r3).bind fun e r4 hr4 => by show count _ + _ <= _; simp only [count, countL]; omega
theorem program_cn (f : Nat) (l : List Tok) : Cn count (3 * l.length + 1) (pProgram f l) := by
 unfold pProgram
 refine (items_cn (item_cn f) f [] l).bind fun k r hr => ?_
 have h0 : countL [] = 0 := rfl
 cases r with
 | nil => show count _ + _ <= _; rw [count]; simp at hr ⊢; omega
 | cons t r => trivial
end Go.Proofs.YtngpedcihajepaaGreatDoor.M
namespace Go.Proofs.YtngpedcihajepaaGreatDoor
namespace M
def numberB (t : Tree) : Bool := decide (t.kind = 14 /\ t.text = [] /\ t.num <= 4294967295 /\ t.kids.length = 0)
def toB (t : Tree) : Bool := decide (t.kind = 12 /\ t.text = [] /\ t.num <= 4294967295 /\ t.kids.length = 0)
def blockB (p : Tree -> Bool) (t : Tree) : Bool := decide (t.kind = 10 /\ t.text = [] /\ t.num = 0 /\ t.kids.all p = true)
def typeB (t : Tree) : Bool := decide ((t.kind = 11 /\ t.text = [] /\ t.kids.length = 2 /\ t.kids.all numberB = true) /\ (t.num = 3 \/ (t.num = 1 \/ t.num = 2) /\ (t.kids.getD 0 Tree.no).num = 0))
def argB (t : Tree) : Bool := decide (t.kind = 13 /\ nameOk t.text = true /\ t.num = 0 /\ t.kids.length = 1 /\ typeB (t.kids.getD 0 Tree.no) = true)
def opB (t : List Nat) : Bool := decide (t ∈ signsL 0 \/ t ∈ signsL 1 \/ t ∈ signsL 2 \/ t ∈ signsL 3 \/ t ∈ signsL 4 \/ t ∈ signsL 5)
def exprF : Nat -> Tree -> Bool
 | 0, _ => false
 | f + 1, t =>
  if t.kind = 14 then numberB t
  else if t.kind = 15 then decide (nameOk t.text = true /\ t.num = 0 /\ t.kids.length = 0)
  else if t.kind = 16 then decide ((nameOk t.text = true \/ t.text = [110, 117, 109] \/ t.text = [98, 105, 116] \/ t.text = [119, 111, 114, 100]) /\ t.num = 0 /\ t.kids.all (exprF f) = true)
  else if t.kind = 17 then decide (t.text = [] /\ t.num = 0 /\ t.kids.length = 2 /\ t.kids.all (exprF f) = true)
  else if t.kind = 18 then decide (t.text = [] /\ t.num = 0 /\ 0 < t.kids.length /\ t.kids.all (exprF f) = true)
  else if t.kind = 19 then decide ((t.text = [33] \/ t.text = [45]) /\ t.num = 0 /\ t.kids.length = 1 /\ exprF f (t.kids.getD 0 Tree.no) = true)
  else if t.kind = 20 then decide (opB t.text = true /\ t.num = 0 /\ t.kids.length = 2 /\ t.kids.all (exprF f) = true)
  else false
def itemF : Nat -> Tree -> Bool
 | 0, _ => false
 | f + 1, t =>
  if t.kind = 2 then decide (nameOk t.text = true /\ t.num <= 4294967295 /\ t.kids.length = 1 /\ typeB (t.kids.getD 0 Tree.no) = true)
  else if t.kind = 3 then decide (nameOk t.text = true /\ t.num = 0 /\ t.kids.length = 1 /\ exprF f (t.kids.getD 0 Tree.no) = true)
  else if t.kind = 4 then decide (nameOk t.text = true /\ t.num = 0 /\ t.kids.length = 1 /\ exprF f (t.kids.getD 0 Tree.no) = true)
  else if t.kind = 5 then decide (nameOk t.text = true /\ t.num = 0 /\ t.kids.length = 2 /\ t.kids.all (exprF f) = true)
  else if t.kind = 6 then decide (t.text = [] /\ t.num = 0 /\ t.kids.length = 3 /\ exprF f (t.kids.getD 0 Tree.no) = true /\ (t.kids.drop 1).all (blockB (itemF f)) = true)
  else if t.kind = 7 then decide (nameOk t.text = true /\ t.num = 0 /\ t.kids.length = 3 /\ (t.kids.take 2).all (exprF f) = true /\ blockB (itemF f) (t.kids.getD 2 Tree.no) = true)
  else if t.kind = 8 then decide (t.text = [] /\ t.num = 0 /\ 0 < t.kids.length /\ exprF f (t.kids.getD 0 Tree.no) = true /\ (t.kids.drop 1).all toB = true)
  else if t.kind = 9 then decide (nameOk t.text = true /\ t.num = 0 /\ 1 < t.kids.length /\ (t.kids.take (t.kids.length - 2)).all argB = true /\ blockB (itemF f) (t.kids.getD (t.kids.length - 2) Tree.no) = true /\ exprF f (t.kids.getD (t.kids.length - 1) Tree.no) = true)
  else false
def checkE (t : Tree) : Int :=
 if t.kind = 1 /\ t.text = [] /\ t.num = 0 /\ t.kids.all (itemF (count t)) = true then
  if 20000 < count t \/ 60 < deep t then 3 else 0
 else 4
def matchB : List (Tree -> Bool) -> List Tree -> Bool
 | [], [] => true
 | p :: ps, t :: l => p t && matchB ps l
 | _, _ => false
def barP (t : Tree) : Bool := decide (t.text = []) && decide (t.num = 0)
def hasNameP (t : Tree) : Bool := nameOk t.text && decide (t.num = 0)
def hasNumP (t : Tree) : Bool := decide (t.text = []) && decide (t.num <= 4294967295) && decide (t.kids.length = 0)
def funB (l : List Nat) : Bool := decide (l = [110, 117, 109] \/ l = [98, 105, 116] \/ l = [119, 111, 114, 100]) || nameOk l
def unB (l : List Nat) : Bool := decide (l = [33] \/ l = [45])
theorem number_form (t : Tree) : numberB t = (decide (t.kind = 14) && hasNumP t) := by rw [Bool.eq_iff_iff]; simp [numberB, hasNumP, and_assoc]
theorem to_form (t : Tree) : toB t = (decide (t.kind = 12) && hasNumP t) := by rw [Bool.eq_iff_iff]; simp [toB, hasNumP, and_assoc]
theorem arg_form (t : Tree) : argB t = (decide (t.kind = 13) && hasNameP t && matchB [typeB] t.kids) := by
 rcases hl : t.kids with _ | ⟨a, _ | ⟨b, r⟩⟩ <;> (rw [Bool.eq_iff_iff]; simp [argB, hasNameP, matchB, hl, and_assoc])
theorem block_form (p : Tree -> Bool) (t : Tree) : blockB p t = (decide (t.kind = 10) && barP t && t.kids.all p) := by rw [Bool.eq_iff_iff]; simp [blockB, barP, and_assoc]
theorem type_form (t : Tree) : typeB t = (decide (t.kind = 11) && decide (t.text = []) && matchB [numberB, numberB] t.kids && (if t.num = 1 \/ t.num = 2 then decide ((t.kids.getD 0 Tree.no).num = 0) else decide (t.num = 3))) := by
 rcases hl : t.kids with _ | ⟨a, _ | ⟨b, _ | ⟨c, r⟩⟩⟩
 ·rw [Bool.eq_iff_iff]; simp [typeB, matchB, hl]
 ·rw [Bool.eq_iff_iff]; simp [typeB, matchB, hl]
 ·by_cases h : t.num = 1 \/ t.num = 2
  ·have h3 : ¬ t.num = 3 := by omega
   rw [if_pos h, Bool.eq_iff_iff]
   simp [typeB, matchB, hl, h, h3, and_assoc]
  ·rw [if_neg h, Bool.eq_iff_iff]
   simp [typeB, matchB, hl, h, and_assoc]
 ·rw [Bool.eq_iff_iff]; simp [typeB, matchB, hl]
theorem expr_14 (f : Nat) (t : Tree) (h : t.kind = 14) : exprF (f + 1) t = numberB t := by rw [exprF, if_pos h]
theorem expr_15 (f : Nat) (t : Tree) (h : t.kind = 15) : exprF (f + 1) t = (hasNameP t && decide (t.kids.length = 0)) := by rw [Bool.eq_iff_iff]; simp [exprF, h, hasNameP, and_assoc]
theorem expr_16 (f : Nat) (t : Tree) (h : t.kind = 16) : exprF (f + 1) t = (funB t.text && decide (t.num = 0) && t.kids.all (exprF f)) := by
 rw [Bool.eq_iff_iff]
 simp [exprF, h, funB]
 constructor
 ·rintro ⟨h1, h2, h3⟩
  refine ⟨⟨?_, h2⟩, h3⟩
  rcases h1 with h1 | h1
  ·exact .inr h1
  ·exact .inl h1
 ·rintro ⟨⟨h1, h2⟩, h3⟩
  refine ⟨?_, h2, h3⟩
  rcases h1 with h1 | h1
  ·exact .inr h1
  ·exact .inl h1
theorem expr_17 (f : Nat) (t : Tree) (h : t.kind = 17) : exprF (f + 1) t = (barP t && matchB [exprF f, exprF f] t.kids) := by
 rcases hl : t.kids with _ | ⟨a, _ | ⟨b, _ | ⟨c, r⟩⟩⟩ <;> (rw [Bool.eq_iff_iff]; simp [exprF, barP, matchB, hl, h, and_assoc])
theorem expr_18 (f : Nat) (t : Tree) (h : t.kind = 18) : exprF (f + 1) t = (barP t && decide (0 < t.kids.length) && t.kids.all (exprF f)) := by rw [Bool.eq_iff_iff]; simp [exprF, h, barP, and_assoc]
theorem expr_19 (f : Nat) (t : Tree) (h : t.kind = 19) : exprF (f + 1) t = (unB t.text && decide (t.num = 0) && matchB [exprF f] t.kids) := by
 rcases hl : t.kids with _ | ⟨a, _ | ⟨b, r⟩⟩ <;> (rw [Bool.eq_iff_iff]; simp [exprF, unB, matchB, hl, h, and_assoc])
theorem expr_20 (f : Nat) (t : Tree) (h : t.kind = 20) : exprF (f + 1) t = (opB t.text && decide (t.num = 0) && matchB [exprF f, exprF f] t.kids) := by
 rcases hl : t.kids with _ | ⟨a, _ | ⟨b, _ | ⟨c, r⟩⟩⟩ <;> (rw [Bool.eq_iff_iff]; simp [exprF, matchB, hl, h, and_assoc])
theorem item_2 (f : Nat) (t : Tree) (h : t.kind = 2) : itemF (f + 1) t = (nameOk t.text && decide (t.num <= 4294967295) && matchB [typeB] t.kids) := by
 rcases hl : t.kids with _ | ⟨a, _ | ⟨b, r⟩⟩ <;> (rw [Bool.eq_iff_iff]; simp [itemF, matchB, hl, h, and_assoc])
theorem item_3 (f : Nat) (t : Tree) (h : t.kind = 3 \/ t.kind = 4) : itemF (f + 1) t = (hasNameP t && matchB [exprF f] t.kids) := by
 rcases h with h | h <;> rcases hl : t.kids with _ | ⟨a, _ | ⟨b, r⟩⟩ <;> (rw [Bool.eq_iff_iff]; simp [itemF, hasNameP, matchB, hl, h, and_assoc])
theorem item_5 (f : Nat) (t : Tree) (h : t.kind = 5) : itemF (f + 1) t = (hasNameP t && matchB [exprF f, exprF f] t.kids) := by
 rcases hl : t.kids with _ | ⟨a, _ | ⟨b, _ | ⟨c, r⟩⟩⟩ <;> (rw [Bool.eq_iff_iff]; simp [itemF, hasNameP, matchB, hl, h, and_assoc])
theorem item_6 (f : Nat) (t : Tree) (h : t.kind = 6) : itemF (f + 1) t = (barP t && matchB [exprF f, blockB (itemF f), blockB (itemF f)] t.kids) := by
 rcases hl : t.kids with _ | ⟨a, _ | ⟨b, _ | ⟨c, _ | ⟨d, r⟩⟩⟩⟩ <;> (rw [Bool.eq_iff_iff]; simp [itemF, barP, matchB, hl, h, and_assoc])
theorem item_7 (f : Nat) (t : Tree) (h : t.kind = 7) : itemF (f + 1) t = (hasNameP t && matchB [exprF f, exprF f, blockB (itemF f)] t.kids) := by
 rcases hl : t.kids with _ | ⟨a, _ | ⟨b, _ | ⟨c, _ | ⟨d, r⟩⟩⟩⟩ <;> (rw [Bool.eq_iff_iff]; simp [itemF, hasNameP, matchB, hl, h, and_assoc])
theorem item_8 (f : Nat) (t : Tree) (h : t.kind = 8) : itemF (f + 1) t = (barP t && decide (0 < t.kids.length) && exprF f (t.kids.getD 0 Tree.no) && (t.kids.drop 1).all toB) := by rw [Bool.eq_iff_iff]; simp [itemF, h, barP, and_assoc]
theorem match_two {p q : Tree -> Bool} {l : List Tree} (h : 2 <= l.length) : matchB [p, q] (l.drop (l.length - 2)) = (p (l.getD (l.length - 2) Tree.no) && q (l.getD (l.length - 1) Tree.no)) := by
 rw [List.drop_eq_getElem_cons (by omega), show l.length - 2 + 1 = l.length - 1 by omega, List.drop_eq_getElem_cons (by omega), show l.length - 1 + 1 = l.length by omega, List.drop_length]
 rw [List.getD_eq_getElem?_getD, List.getElem?_eq_getElem (by omega), List.getD_eq_getElem?_getD, List.getElem?_eq_getElem (by omega)]
 simp [matchB]
theorem item_9 (f : Nat) (t : Tree) (h : t.kind = 9) : itemF (f + 1) t = (hasNameP t && decide (2 <= t.kids.length) && (t.kids.take (t.kids.length - 2)).all argB && matchB [blockB (itemF f), exprF f] (t.kids.drop (t.kids.length - 2))) := by
 by_cases h2 : 2 <= t.kids.length
 ·rw [match_two h2]
  have h3 : 1 < t.kids.length := by omega
  rw [Bool.eq_iff_iff]; simp [itemF, h, hasNameP, h2, h3, and_assoc]
 ·have h3 : ¬ 1 < t.kids.length := by omega
  simp [itemF, h, h2, h3]
end M
end Go.Proofs.YtngpedcihajepaaGreatDoor
