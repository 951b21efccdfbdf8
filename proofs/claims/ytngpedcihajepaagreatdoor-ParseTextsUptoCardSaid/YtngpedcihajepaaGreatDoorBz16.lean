/-
 Merged out of the texts Ha9 Hc9.
-/
import Derived.WalkKit
import Derived.ProofKit
import Derived.ChangeMaps5
import Derived.Lib.MakeNoZero
import Derived.Laws.IdiomCopy
import Derived.Laws.BitsLemmas
import Derived.Shelf.Strings.BuilderX
import Derived.OwnWalk
import Derived.Deep.RegionHeld3
import Derived.Test.YtngpedcihajepaaGreatDoorShelf
import Derived.Shelf.LaysM
import Derived.Shelf.Strconv.Itoa1
import Derived.Shelf.Strconv.Itoa2
import Derived.Lib.Walk
import Derived.Lib.ItoaMem
import Derived.BigCall
import Derived.BigGuard
import Derived.Test.YtngpedcihajepaaGreatDoorProg
import Derived.WalkSmall
import Derived.Still
import Derived.Lib.Builder
import Derived.Lib.AppendStr
import Derived.Lib.UnsafeStr
import Derived.Laws.Externs
import Derived.Lib.MinMax
import Derived.WalkSpells
import Derived.WalkLawsBesides
import Derived.Lib.Hide
import Derived.Below
import Derived.Deep.QuietTactic
import Derived.BigQuiet
import Derived.Deep.LoopGhost
import Derived.Test.YtngpedcihajepaaGreatDoorBz1
import Derived.Test.YtngpedcihajepaaGreatDoorBz2
import Derived.Test.YtngpedcihajepaaGreatDoorBz3
import Derived.Test.YtngpedcihajepaaGreatDoorBz4
import Derived.Test.YtngpedcihajepaaGreatDoorBz5
import Derived.Test.YtngpedcihajepaaGreatDoorBz6
import Derived.Test.YtngpedcihajepaaGreatDoorBz7
import Derived.Test.YtngpedcihajepaaGreatDoorBz10
import Derived.Test.YtngpedcihajepaaGreatDoorBz11
import Derived.Test.YtngpedcihajepaaGreatDoorBz12
import Derived.Test.YtngpedcihajepaaGreatDoorBz13
import Derived.Test.YtngpedcihajepaaGreatDoorBz14
import Derived.Test.YtngpedcihajepaaGreatDoorSq9
set_option linter.unusedVariables false
set_option linter.unusedSimpArgs false
set_option maxRecDepth 100000
set_option maxHeartbeats 40000000
namespace Go.Proofs.YtngpedcihajepaaGreatDoor.M
inductive Pc where
 | g (l : List Nat)
 | t (k : Int) (s : List Nat)
def Pc.text : Pc -> List Nat
 | .g l => l
 | .t _ s => s
def flat (l : List Pc) : List Nat := (l.map Pc.text).flatten
theorem flat_nil : flat [] = [] := rfl
theorem flat_cons (p : Pc) (r : List Pc) : flat (p :: r) = p.text ++ flat r := by simp [flat]
theorem flat_app (a b : List Pc) : flat (a ++ b) = flat a ++ flat b := by simp [flat]
def toks : List Pc -> List (Int × List Nat)
 | [] => []
 | .g _ :: r => toks r
 | .t k s :: r => (k, s) :: toks r
def Gap (l : List Nat) : Prop := ∀ rest, skipL (l ++ rest) = skipL rest
theorem gap_nil : Gap [] := fun _ => rfl
theorem gap_blank : ∀ {l : List Nat}, l.all blankB = true -> Gap l
 | [], _ => gap_nil
 | c :: r, h => fun rest => by
  rw [List.all_cons, Bool.and_eq_true] at h
  rw [List.cons_append, skipL, if_pos h.1]
  exact gap_blank h.2 rest
def Ends (l : List Nat) : Prop := ∀ c, l.head? = some c -> nameB c = false /\ c ≠ 61
def EndsN (l : List Nat) : Prop := ∀ c, l.head? = some c -> nameB c = false
def EndsK (k : Int) (l : List Nat) : Prop := (k ≠ 3 -> EndsN l) /\ (k = 3 -> l.head? ≠ some 61)
def selfB (k : Int) (s : List Nat) : Bool := decide (k = 3) && decide (s ≠ [61])
def OkP : List Pc -> List Nat -> Prop
 | [], _ => True
 | .g l :: r, z => Gap l /\ OkP r z
 | .t k s :: r, z => tokB k s = true /\ (selfB k s = true \/ Ends (flat r ++ z) \/ EndsK k (flat r ++ z)) /\ OkP r z
theorem word_of2 {k : Int} {t rest : List Nat} (h : tokB k t = true) (hr : selfB k t = true \/ Ends rest \/ EndsK k rest) : wordL (t ++ rest) = (0, k, t) := by
 have hs3 : selfB k t = true -> k = 3 /\ t ≠ [61] := fun hr => by
  unfold selfB at hr
  rw [Bool.and_eq_true, decide_eq_true_eq, decide_eq_true_eq] at hr
  exact hr
 have hE : k ≠ 3 -> EndsN rest := fun h => by
  rcases hr with hr | hr | hr
  ·exact absurd (hs3 hr).1 h
  ·exact fun c hc => (hr c hc).1
  ·exact hr.1 h
 have hQ : k = 3 -> t = [61] -> rest.head? ≠ some 61 := fun h h2 e => by
  rcases hr with hr | hr | hr
  ·exact (hs3 hr).2 h2
  ·exact (hr 61 e).2 rfl
  ·exact hr.2 h e
 rcases tok_cases h with ⟨rfl, hk⟩ | ⟨rfl, hk⟩ | ⟨rfl, hk⟩
 ·obtain ⟨h1, h2, h3, h4⟩ := isName_facts hk
  obtain ⟨r, e⟩ := head_of_getD h1
  have hE := hE (by decide)
  have ht : (t ++ rest).takeWhile nameB = t := takeWhile_all h4 fun c hc => hE c hc
  rw [e] at ht ⊢
  rw [List.cons_append] at ht ⊢
  unfold wordL
  simp only [h3, if_true]
  rw [ht, if_neg (by rw [<- e]; omega)]
 ·obtain ⟨h1, h2, h3⟩ := numE_zero hk
  obtain ⟨r, e⟩ := head_of_getD (List.length_pos_iff.2 h1)
  have hE := hE (by decide)
  have hd : digitB (t.getD 0 0) = true := all_getD.1 h2 0 (List.length_pos_iff.2 h1)
  have hl : letterB (t.getD 0 0) = false := by
   unfold digitB at hd; unfold letterB
   rw [decide_eq_true_eq] at hd
   rw [decide_eq_false_iff_not]; omega
  have ht : (t ++ rest).takeWhile digitB = t := takeWhile_all h2 fun c hc => by
   have := hE c hc
   unfold nameB at this
   rw [Bool.or_eq_false_iff, Bool.or_eq_false_iff] at this
   exact this.1.2
  rw [e] at ht hk ⊢
  rw [List.cons_append] at ht ⊢
  unfold wordL
  simp only [hl, hd, if_true]
  rw [ht, if_neg (by decide), if_pos hk]
 ·rcases sign_cases hk with rfl | ⟨c, rfl, hc⟩
  ·simp [wordL, letterB, digitB]
  ·obtain ⟨h1, h2, h3, h4, h5⟩ := single_not hc
   by_cases h61 : c = 61
   ·subst h61
    have hh : rest.head? ≠ some 61 := hQ rfl rfl
    simp [wordL, h1, h2, hh, hc]
   ·simp [wordL, h1, h2, h61, hc]
def TN (N : Nat) : List Pc -> List Tok
 | [] => []
 | .g _ :: r => TN N r
 | .t k s :: r => ⟨k, s, N - (s ++ flat r).length⟩ :: TN N r
theorem reads_at (N : Nat) : ∀ (ps : List Pc), OkP ps [] -> Reads N (skipL (flat ps)) (TN N ps) 0 0
 | [], _ => by rw [flat_nil, skipL]; exact .done
 | .g l :: r, h => by
  rw [flat_cons]
  show Reads N (skipL (l ++ flat r)) (TN N r) 0 0
  rw [h.1]; exact reads_at N r h.2
 | .t k s :: r, h => by
  obtain ⟨h3, h4⟩ := skip_tok (flat r) h.1
  have hw := word_of2 (rest := flat r) h.1 (by have := h.2.1; rwa [List.append_nil] at this)
  rw [flat_cons]
  show Reads N (skipL (s ++ flat r)) _ 0 0
  rw [h3]
  exact .step (by simp [h4]) hw (by rw [List.drop_left]; exact reads_at N r h.2.2)
def endsB (k : Int) (l : List Nat) : Bool := match l with | [] => true | c :: _ => if k = 3 then c != 61 else !nameB c
def okB : List Pc -> List Nat -> Bool
 | [], _ => true
 | .g l :: r, z => l.all blankB && okB r z
 | .t k s :: r, z => tokB k s && (selfB k s || endsB k (flat r ++ z)) && okB r z
theorem okB_ok : ∀ {ps : List Pc} {z : List Nat}, okB ps z = true -> OkP ps z
 | [], _, _ => trivial
 | .g l :: r, z, h => by
  rw [okB, Bool.and_eq_true] at h
  exact ⟨gap_blank h.1, okB_ok h.2⟩
 | .t k s :: r, z, h => by
  rw [okB, Bool.and_eq_true, Bool.and_eq_true, Bool.or_eq_true] at h
  refine ⟨h.1.1, h.1.2.imp id fun he => ?_, okB_ok h.2⟩
  refine .inr ⟨fun hk c hc => ?_, fun hk hc => ?_⟩
  ·cases hl : flat r ++ z with
   | nil => rw [hl] at hc; cases hc
   | cons d q =>
    rw [hl] at hc he
    have hd : d = c := by simpa using hc
    subst hd
    simpa [endsB, hk] using he
  ·cases hl : flat r ++ z with
   | nil => rw [hl] at hc; cases hc
   | cons d q =>
    rw [hl] at hc he
    have hd : d = 61 := by simpa using hc
    subst hd
    simp [endsB, hk] at he
end Go.Proofs.YtngpedcihajepaaGreatDoor.M
namespace Go.Proofs.YtngpedcihajepaaGreatDoor.M
def sg (c : Nat) : Pc := .t 3 [c]
def nm (s : List Nat) : Pc := .t 1 s
def nu (n : Nat) : Pc := .t 2 (digitsL n)
def bl : Pc := .g [32]
def joinP : List (List Pc) -> List Pc
 | [] => []
 | [a] => a
 | a :: b :: r => a ++ [sg 44, bl] ++ joinP (b :: r)
theorem flat_joinP : ∀ l : List (List Pc), flat (joinP l) = joinW [44, 32] (l.map flat)
 | [] => rfl
 | [a] => rfl
 | a :: b :: r => by
  have ih := flat_joinP (b :: r)
  rw [joinP, flat_app, flat_app, ih]; rfl
def exprPW (k : Int) (tx : List Nat) (n : Nat) (ks : Int) (s : List (List Pc)) : List Pc :=
 if k = 14 then [nu n]
 else if k = 15 then [nm tx]
 else if k = 16 then [nm tx, sg 40] ++ joinP s ++ [sg 41]
 else if k = 18 then [sg 91] ++ joinP s ++ [sg 93]
 else if k = 19 then [.t 3 tx] ++ s.getD 0 []
 else if k = 20 then [sg 40] ++ s.getD 0 [] ++ [bl, .t 3 tx, bl] ++ s.getD 1 [] ++ [sg 41]
 else if ks = 19 then [sg 40] ++ s.getD 0 [] ++ [sg 41, sg 91] ++ s.getD 1 [] ++ [sg 93]
 else s.getD 0 [] ++ [sg 91] ++ s.getD 1 [] ++ [sg 93]
mutual
def exprP : Tree -> List Pc
 | .node k tx n l => exprPW k tx n (l.getD 0 Tree.no).kind (exprPL l)
def exprPL : List Tree -> List (List Pc)
 | [] => []
 | t :: r => exprP t :: exprPL r
end
theorem exprPL_map : ∀ l : List Tree, exprPL l = l.map exprP
 | [] => rfl
 | t :: r => by rw [exprPL, exprPL_map r]; rfl
theorem flat_getD (s : List (List Pc)) (i : Nat) : flat (s.getD i []) = (s.map flat).getD i [] := by
 rw [List.getD_eq_getElem?_getD, List.getD_eq_getElem?_getD, List.getElem?_map]
 cases s[i]? <;> rfl
theorem flat_sg (c : Nat) : flat [sg c] = [c] := rfl
theorem flat_exprPW (k : Int) (tx : List Nat) (n : Nat) (ks : Int) (s : List (List Pc)) : flat (exprPW k tx n ks s) = exprW k tx n ks (s.map flat) := by
 have e1 : flat [nm tx, sg 40] = tx ++ [40] := by simp [flat, nm, sg, Pc.text]
 have e2 : flat [.t 3 tx] = tx := by simp [flat, Pc.text]
 have e3 : flat [bl, .t 3 tx, bl] = [32] ++ tx ++ [32] := by simp [flat, Pc.text, bl]
 have e4 : flat [sg 41, sg 91] = [41, 91] := rfl
 have e5 : flat [nu n] = digitsL n := by simp [flat, nu, Pc.text]
 have e6 : flat [nm tx] = tx := by simp [flat, nm, Pc.text]
 unfold exprPW exprW
 split
 ·exact e5
 split
 ·exact e6
 split
 ·rw [flat_app, flat_app, flat_joinP, e1]; rfl
 split
 ·rw [flat_app, flat_app, flat_joinP]; rfl
 split
 ·rw [flat_app, e2, flat_getD]
 split
 ·rw [flat_app, flat_app, flat_app, flat_app, e3, flat_getD, flat_getD, flat_sg, flat_sg]; simp only [List.append_assoc]
 split
 ·rw [flat_app, flat_app, flat_app, flat_app, e4, flat_getD, flat_getD]; rfl
 ·rw [flat_app, flat_app, flat_app, flat_getD, flat_getD]; rfl
mutual
theorem flat_exprP : ∀ t : Tree, flat (exprP t) = exprT t
 | .node k tx n l => by rw [exprP, exprT, flat_exprPW, flat_exprPL l]
theorem flat_exprPL : ∀ l : List Tree, (exprPL l).map flat = exprTL l
 | [] => rfl
 | t :: r => by rw [exprPL, exprTL, List.map_cons, flat_exprP t, flat_exprPL r]
end
def typeP (t : Tree) : List Pc :=
 (if t.num = 2 then [nm [98, 105, 116]] else if t.num = 3 then [nm [119, 111, 114, 100], bl, nu (t.kids.getD 0 Tree.no).num] else [nm [110, 117, 109]]) ++
 (if 0 < (t.kids.getD 1 Tree.no).num then [sg 91, nu (t.kids.getD 1 Tree.no).num, sg 93] else [])
theorem flat_typeP (t : Tree) : flat (typeP t) = typeT t := by
 unfold typeP typeT
 rw [flat_app]
 congr 1
 ·split
  ·rfl
  split
  ·simp [flat, nu, nm, bl, Pc.text]
  ·rfl
 ·split
  ·simp [flat, nu, sg, Pc.text]
  ·rfl
def argP (t : Tree) : List Pc := [nm t.text, sg 58, bl] ++ typeP (t.kids.getD 0 Tree.no)
theorem flat_argP (t : Tree) : flat (argP t) = argT t := by
 unfold argP argT
 rw [flat_app, flat_typeP]
 simp [flat, nm, sg, bl, Pc.text]
def lineP (d : Nat) (ps : List Pc) : List Pc := [.g (List.replicate (2 * d) 32)] ++ ps ++ [.g [10]]
theorem flat_lineP (d : Nat) (ps : List Pc) : flat (lineP d ps) = lineN d (flat ps) := by
 unfold lineP lineN
 rw [flat_app, flat_app]
 simp [flat, Pc.text]
def itemPW (d : Nat) (k : Int) (tx : List Nat) (n : Nat) (l : List Tree) (b : List (List Pc)) : List Pc :=
 if k = 2 then lineP d ([nm [105, 110], bl, nm tx, sg 58, bl] ++ typeP (l.getD 0 Tree.no) ++ [bl, nm [102, 114, 111, 109], bl, nu n, sg 59])
 else if k = 3 then lineP d ([nm [108, 101, 116], bl, nm tx, bl, sg 61, bl] ++ exprP (l.getD 0 Tree.no) ++ [sg 59])
 else if k = 4 then lineP d ([nm tx, bl, sg 61, bl] ++ exprP (l.getD 0 Tree.no) ++ [sg 59])
 else if k = 5 then lineP d ([nm tx, sg 91] ++ exprP (l.getD 0 Tree.no) ++ [sg 93, bl, sg 61, bl] ++ exprP (l.getD 1 Tree.no) ++ [sg 59])
 else if k = 6 then lineP d ([nm [105, 102], bl] ++ exprP (l.getD 0 Tree.no) ++ [bl, sg 123]) ++ b.getD 1 [] ++ (if 0 < (l.getD 2 Tree.no).kids.length then lineP d [sg 125, bl, nm [101, 108, 115, 101], bl, sg 123] ++ b.getD 2 [] else []) ++ lineP d [sg 125]
 else if k = 7 then lineP d ([nm [102, 111, 114], bl, nm tx, bl, sg 61, bl] ++ exprP (l.getD 0 Tree.no) ++ [bl, nm [116, 111], bl] ++ exprP (l.getD 1 Tree.no) ++ [bl, sg 123]) ++ b.getD 2 [] ++ lineP d [sg 125]
 else if k = 8 then lineP d ([nm [111, 117, 116], bl] ++ exprP (l.getD 0 Tree.no) ++ [bl, nm [116, 111], bl] ++ (if 1 < l.length then joinP ((l.drop 1).map fun t => [nu t.num]) else [nm [97, 108, 108]]) ++ [sg 59])
 else lineP d ([nm [100, 101, 102], bl, nm tx, sg 40] ++ joinP ((l.take (l.length - 2)).map argP) ++ [sg 41, bl, sg 123]) ++ b.getD (l.length - 2) [] ++ lineP (d + 1) ([nm [114, 101, 116, 117, 114, 110], bl] ++ exprP (l.getD (l.length - 1) Tree.no) ++ [sg 59]) ++ lineP d [sg 125]
mutual
def itemP : Nat -> Tree -> List Pc
 | d, .node k tx n l => itemPW d k tx n l (blocksP (d + 1) l)
def blocksP : Nat -> List Tree -> List (List Pc)
 | d, [] => []
 | d, t :: r => blockP d t :: blocksP d r
def blockP : Nat -> Tree -> List Pc
 | d, .node _ _ _ l => linesP d l
def linesP : Nat -> List Tree -> List Pc
 | d, [] => []
 | d, t :: r => itemP d t ++ linesP d r
end
theorem lineN_deep (d : Nat) (q : List Nat) : lineN d ([32, 32] ++ q) = lineN (d + 1) q := by
 have := textL_deep d [q]
 rw [textL_one, show deepT [q] = [[32, 32] ++ q] from rfl, textL_one] at this
 exact this
theorem flat_itemPW (d : Nat) (k : Int) (tx : List Nat) (n : Nat) (l : List Tree) (b : List (List Pc)) (c : List (List (List Nat))) (h : ∀ i, flat (b.getD i []) = textL (d + 1) (c.getD i [])) : flat (itemPW d k tx n l b) = textL d (itemW k tx n l c) := by
 have ej : flat (joinP ((l.drop 1).map fun t => [nu t.num])) = joinW [44, 32] ((l.drop 1).map fun t => digitsL t.num) := by
  rw [flat_joinP, List.map_map]
  congr 1
  apply List.map_congr_left
  intro t _
  simp [flat, nu, Pc.text]
 have ea : flat (joinP ((l.take (l.length - 2)).map argP)) = joinW [44, 32] ((l.take (l.length - 2)).map argT) := by
  rw [flat_joinP, List.map_map]
  congr 1
  apply List.map_congr_left
  intro t _
  exact flat_argP t
 have e59 : flat [sg 59] = [59] := rfl
 have e125 : flat [sg 125] = [125] := rfl
 unfold itemPW itemW
 split
 ·rw [flat_lineP, textL_one, flat_app, flat_app, flat_typeP]
  congr 1
  try simp [flat, nm, sg, bl, nu, Pc.text]
 split
 ·rw [flat_lineP, textL_one, flat_app, flat_app, flat_exprP]
  congr 1
  try simp [flat, nm, sg, bl, nu, Pc.text]
 split
 ·rw [flat_lineP, textL_one, flat_app, flat_app, flat_exprP]
  congr 1
  try simp [flat, nm, sg, bl, nu, Pc.text]
 split
 ·rw [flat_lineP, textL_one, flat_app, flat_app, flat_app, flat_app, flat_exprP, flat_exprP]
  congr 1
  try simp [flat, nm, sg, bl, nu, Pc.text]
 split
 ·rw [textL_app, textL_app, textL_app, textL_one, textL_one, textL_deep, <- h, flat_app, flat_app, flat_app, flat_lineP, flat_lineP, flat_app, flat_app, flat_exprP]
  congr 1
  congr 1
  split
  ·rw [textL_app, textL_one, textL_deep, <- h, flat_app, flat_lineP]; rfl
  ·rfl
 split
 ·rw [textL_app, textL_app, textL_one, textL_one, textL_deep, <- h, flat_app, flat_app, flat_lineP, flat_lineP, flat_app, flat_app, flat_app, flat_app, flat_exprP, flat_exprP]
  congr 1
  try congr 1
  try congr 1
  try simp [flat, nm, sg, bl, nu, Pc.text]
 split
 ·rw [flat_lineP, textL_one, flat_app, flat_app, flat_app, flat_app, flat_exprP]
  congr 1
  split
  ·rw [ej]; rfl
  ·rfl
 ·rw [textL_app, textL_app, textL_app, textL_one, textL_one, textL_one, textL_deep, <- h, flat_app, flat_app, flat_app, flat_lineP, flat_lineP, flat_lineP, flat_app, flat_app, ea, flat_app, flat_app, flat_exprP, <- lineN_deep]
  congr 1
  try congr 1
  try congr 1
  try congr 1
  try simp [flat, nm, sg, bl, nu, Pc.text]
mutual
theorem flat_itemP : ∀ (d : Nat) (t : Tree), flat (itemP d t) = textL d (itemT t)
 | d, .node k tx n l => by
  rw [itemP, itemT]
  exact flat_itemPW d k tx n l _ _ (flat_blocksP (d + 1) l)
theorem flat_blocksP : ∀ (d : Nat) (l : List Tree) (i : Nat), flat ((blocksP d l).getD i []) = textL d ((blocksL l).getD i [])
 | d, [], i => by rw [blocksP, blocksL]; rfl
 | d, t :: r, 0 => by rw [blocksP, blocksL, List.getD_cons_zero, List.getD_cons_zero]; exact flat_blockP d t
 | d, t :: r, i + 1 => by rw [blocksP, blocksL, List.getD_cons_succ, List.getD_cons_succ]; exact flat_blocksP d r i
theorem flat_blockP : ∀ (d : Nat) (t : Tree), flat (blockP d t) = textL d (blockT t)
 | d, .node _ _ _ l => by rw [blockP, blockT]; exact flat_linesP d l
theorem flat_linesP : ∀ (d : Nat) (l : List Tree), flat (linesP d l) = textL d (linesL l)
 | d, [] => by rw [linesP, linesL]; rfl
 | d, t :: r => by rw [linesP, linesL, flat_app, textL_app, flat_itemP d t, flat_linesP d r]
end
end Go.Proofs.YtngpedcihajepaaGreatDoor.M
