/-
 Merged out of the texts Pa9 Py9 Pb9 Pc9 Pe9 Pf9 Pw9 Pi9 Pq9 Pd9 Pv9 Ph9 Pg9 Pj9 Pm9 Pn9 Pu9.
-/
import Derived.Test.YtngpedcihajepaaGreatDoorProg
import Derived.Deep.RegionHeld3
import Derived.WalkKit
import Derived.WalkSpells
import Derived.WalkLawsBesides
import Derived.Lib.Hide
import Derived.Below
import Derived.Deep.QuietTactic
import Derived.BigQuiet
import Derived.ProofKit
import Derived.ChangeMaps5
import Derived.Defers
import Derived.Recover
import Derived.WalkMore
import Derived.Deep.LoopGhost
import Derived.Deep.AppendLies
import Derived.OwnWalk
import Derived.Maps.Own
import Derived.Maps.OwnOps
import Derived.Maps.Views
import Derived.Test.YtngpedcihajepaaGreatDoorShelf
import Derived.Test.YtngpedcihajepaaGreatDoorBz1
import Derived.Test.YtngpedcihajepaaGreatDoorBz2
import Derived.Test.YtngpedcihajepaaGreatDoorBz3
import Derived.Test.YtngpedcihajepaaGreatDoorSq9
set_option linter.unusedVariables false
set_option linter.unusedSimpArgs false
set_option maxRecDepth 100000
set_option maxHeartbeats 40000000
namespace Go.Proofs.YtngpedcihajepaaGreatDoor
open Go.RowKit
structure But (R : Nat) (w w' : World) : Prop where
 os : w'.os = w.os
 tape : w'.tape = w.tape
 output : w'.output = w.output
 size : w.heap.size <= w'.heap.size
 block : ∀ k, k < w.heap.size -> k ≠ R -> w'.heap[k]? = w.heap[k]?
theorem But.refl (R : Nat) (w : World) : But R w w := ⟨rfl, rfl, rfl, Nat.le_refl _, fun _ _ _ => rfl⟩
theorem But.trans {R : Nat} {a b c : World} (h : But R a b) (k : But R b c) : But R a c :=
 ⟨k.os.trans h.os, k.tape.trans h.tape, k.output.trans h.output, Nat.le_trans h.size k.size, fun i hi hn => (k.block i (Nat.lt_of_lt_of_le hi h.size) hn).trans (h.block i hi hn)⟩
theorem But.of {R : Nat} {w w' : World} (h : Below w.heap.size w w') : But R w w' := ⟨h.os, h.tape, h.output, h.size, fun k hk _ => h.block k hk⟩
theorem But.below {R : Nat} {a w w' : World} (h : But R a w) (hb : Below w.heap.size w w') : But R a w' := h.trans (But.of hb)
theorem But.alloc {R : Nat} {a w : World} (h : But R a w) (o : Obj) : But R a (w.alloc o) := h.below ((Below.refl _ w).alloc (Nat.le_refl _) o)
theorem But.drew {R : Nat} {a w : World} (h : But R a w) : But R a w.drew := h.below (Below.refl _ w).drew
theorem But.set {R : Nat} {a w : World} (h : But R a w) {p : Addr} (hp : p.block = R) (u : Value) : But R a (w.setCell p u) :=
 h.trans ⟨rfl, rfl, rfl, by simp [World.setCell], fun k hk hn => Below.heap_setCell _ _ _ _ (by rw [hp]; exact hn)⟩
theorem But.grown {R : Nat} {a w w' : World} {row : Option Nat} (h : But R a w) (hg : w.grownBy w' row) (hr : ∀ k, row = some k -> a.heap.size <= k) : But R a w' :=
 ⟨hg.os.trans h.os, hg.tape.trans h.tape, hg.output.trans h.output, Nat.le_trans h.size hg.size, fun k hk hn =>
  (hg.block k (Nat.lt_of_lt_of_le hk h.size) (fun e => by have := hr k e.symm; omega)).trans (h.block k hk hn)⟩
theorem But.under {R : Nat} {a w w' : World} (h : But R w w') (hb : Below a.heap.size a w) (hR : a.heap.size <= R) : Below a.heap.size a w' :=
 ⟨h.os.trans hb.os, h.tape.trans hb.tape, h.output.trans hb.output, Nat.le_trans hb.size h.size, fun k hk => (h.block k (Nat.lt_of_lt_of_le hk hb.size) (by omega)).trans (hb.block k hk)⟩
def Stay (lo : Nat) (g : Option Nat) (w w' : World) : Prop := w.heap.size <= w'.heap.size /\ ∀ k, lo <= k -> k < w.heap.size -> some k ≠ g -> w'.heap[k]? = w.heap[k]?
theorem Stay.refl (lo : Nat) (g : Option Nat) (w : World) : Stay lo g w w := ⟨Nat.le_refl _, fun _ _ _ _ => rfl⟩
theorem Stay.trans {lo : Nat} {g : Option Nat} {a b c : World} (h : Stay lo g a b) (k : Stay lo g b c) : Stay lo g a c :=
 ⟨Nat.le_trans h.1 k.1, fun i h1 h2 h3 => (k.2 i h1 (Nat.lt_of_lt_of_le h2 h.1) h3).trans (h.2 i h1 h2 h3)⟩
theorem But.stay {R lo : Nat} {g : Option Nat} {w w' : World} (h : But R w w') (hR : R < lo) : Stay lo g w w' := ⟨h.size, fun k h1 h2 _ => h.block k h2 (by omega)⟩
theorem Below.stay {lo : Nat} {g : Option Nat} {w w' : World} (h : Below w.heap.size w w') : Stay lo g w w' := ⟨h.size, fun k _ h2 _ => h.block k h2⟩
def NodeN (lo : Nat) (g : Option Nat) (w : World) (v : Value) (t : M.Tree) : Prop := ∀ w', Stay lo g w w' -> NodeV w' v t
theorem NodeN.now {lo : Nat} {g : Option Nat} {w : World} {v : Value} {t : M.Tree} (h : NodeN lo g w v t) : NodeV w v t := h w (Stay.refl _ _ _)
theorem NodeN.step {lo : Nat} {g : Option Nat} {w w2 : World} {v : Value} {t : M.Tree} (h : NodeN lo g w v t) (hs : Stay lo g w w2) : NodeN lo g w2 v t := fun w' h' => h w' (hs.trans h')
theorem NodeN.lo {lo lo' : Nat} {g : Option Nat} {w : World} {v : Value} {t : M.Tree} (h : NodeN lo g w v t) (hl : lo' <= lo) : NodeN lo' g w v t := fun w' h' => h w' ⟨h'.1, fun k h1 h2 h3 => h'.2 k (Nat.le_trans hl h1) h2 h3⟩
theorem NodeN.out {lo : Nat} {w : World} {v : Value} {t : M.Tree} (h : NodeN lo none w v t) (g : Option Nat) (hg : ∀ k, g = some k -> k < lo \/ w.heap.size <= k) : NodeN lo g w v t := fun w' h' => h w' ⟨h'.1, fun k h1 h2 _ => h'.2 k h1 h2 (fun e => by rcases hg k e.symm with h | h <;> omega)⟩
theorem NodeN.all {lo : Nat} {g : Option Nat} {w : World} {v : Value} {t : M.Tree} (h : NodeN lo g w v t) : NodeN lo none w v t := fun w' h' => h w' ⟨h'.1, fun k h1 h2 _ => h'.2 k h1 h2 (by simp)⟩
theorem NodeN.agg {lo : Nat} {g : Option Nat} {w : World} {v : Value} {t : M.Tree} (h : NodeN lo g w v t) : ∃ (T : ByteArray) (A : Option Addr) (c : Nat), v = .agg #[.int .i64 t.kind, .string T, .int .u64 (t.num : Nat), .slice A t.kids.length c] := by
 obtain ⟨T, kv, rfl, _, _, A, c, rfl, _⟩ := h.now
 exact ⟨T, A, c, rfl⟩

/-! ## A row of nodes that a call makes -/
structure V9 where
 kind : Int
 text : ByteArray
 num : Nat
 ka : Option Addr
 kn : Nat
 kc : Nat
def V9.val (x : V9) : Value := .agg #[.int .i64 x.kind, .string x.text, .int .u64 (x.num : Nat), (.slice x.ka x.kn x.kc)]
def V9.no : V9 := ⟨0, ⟨#[]⟩, 0, none, 0, 0⟩
def nodeCells : List V9 -> List Value
 | [] => []
 | x :: r => .int .i64 x.kind :: .string x.text :: .int .u64 (x.num : Nat) :: .slice x.ka x.kn x.kc :: nodeCells r
theorem nodeCells_len : ∀ l : List V9, (nodeCells l).length = l.length * 4
 | [] => rfl
 | x :: r => by simp only [nodeCells, List.length_cons, nodeCells_len r]; omega
theorem nodeCells_app : ∀ (a b : List V9), nodeCells (a ++ b) = nodeCells a ++ nodeCells b
 | [], b => rfl
 | x :: r, b => by simp only [List.cons_append, nodeCells, nodeCells_app r b]
theorem nodeCells_get : ∀ (l : List V9) (i : Nat), i < l.length -> (nodeCells l)[i * 4]? = some (.int .i64 (l.getD i V9.no).kind) /\ (nodeCells l)[i * 4 + 1]? = some (.string (l.getD i V9.no).text) /\ (nodeCells l)[i * 4 + 2]? = some (.int .u64 ((l.getD i V9.no).num : Nat)) /\ (nodeCells l)[i * 4 + 3]? = some (.slice (l.getD i V9.no).ka (l.getD i V9.no).kn (l.getD i V9.no).kc)
 | [], i, h => by simp at h
 | x :: r, 0, h => ⟨rfl, rfl, rfl, rfl⟩
 | x :: r, i + 1, h => by
  have ih := nodeCells_get r i (by simpa using h)
  rw [show (i + 1) * 4 = i * 4 + 4 by omega]
  exact ih
inductive Vals (lo : Nat) (g : Option Nat) (w : World) : List V9 -> List M.Tree -> Prop
 | nil : Vals lo g w [] []
 | cons {x : V9} {t : M.Tree} {l : List V9} {ts : List M.Tree} : NodeN lo g w x.val t -> Vals lo g w l ts -> Vals lo g w (x :: l) (t :: ts)
theorem Vals.len {lo : Nat} {g : Option Nat} {w : World} {l : List V9} {ts : List M.Tree} (h : Vals lo g w l ts) : l.length = ts.length := by
 induction h with
 | nil => rfl
 | cons _ _ ih => simp [ih]
theorem Vals.app {lo : Nat} {g : Option Nat} {w : World} {l l' : List V9} {ts ts' : List M.Tree} (h : Vals lo g w l ts) (h' : Vals lo g w l' ts') : Vals lo g w (l ++ l') (ts ++ ts') := by
 induction h with
 | nil => exact h'
 | cons h1 _ ih => exact .cons h1 ih
theorem Vals.map {lo lo' : Nat} {g g' : Option Nat} {w w' : World} (f : ∀ v t, NodeN lo g w v t -> NodeN lo' g' w' v t) {l : List V9} {ts : List M.Tree} (h : Vals lo g w l ts) : Vals lo' g' w' l ts := by
 induction h with
 | nil => exact .nil
 | cons h1 _ ih => exact .cons (f _ _ h1) ih
theorem Vals.get {lo : Nat} {g : Option Nat} {w : World} {l : List V9} {ts : List M.Tree} (h : Vals lo g w l ts) : ∀ i, i < l.length -> NodeN lo g w (l.getD i V9.no).val (ts.getD i M.Tree.no) := by
 induction h with
 | nil => intro i hi; simp at hi
 | cons h1 _ ih =>
  intro i hi
  cases i with
  | zero => exact h1
  | succ i => exact ih i (by simpa using hi)
theorem NodeN.v9 {lo : Nat} {g : Option Nat} {w : World} {v : Value} {t : M.Tree} (h : NodeN lo g w v t) : ∃ x : V9, v = x.val := by
 obtain ⟨T, A, c, rfl⟩ := h.agg
 exact ⟨⟨_, _, _, _, _, _⟩, rfl⟩
theorem NodeN.v9e {lo : Nat} {g : Option Nat} {w : World} {v : Value} {t : M.Tree} (h : NodeN lo g w v t) : ∃ x : V9, v = .agg #[.int .i64 x.kind, .string x.text, .int .u64 (x.num : Nat), .slice x.ka x.kn x.kc] := h.v9
def RowN (base : Nat) (w : World) (v : Value) (ts : List M.Tree) : Prop := ∃ l, w.ownsRow base 25 4 v ts.length (nodeCells l) /\ Vals base v.ownBlock w l ts
def KidsN (lo : Nat) (g : Option Nat) (w : World) (v : Value) (ts : List M.Tree) : Prop := ∀ w', Stay lo g w w' -> KidsV w' v ts
theorem KidsN.nil (lo : Nat) (g : Option Nat) (w : World) : KidsN lo g w (.slice none 0 0) [] := fun w' _ => KidsV.nil w'
theorem NodeN.make {lo : Nat} {g : Option Nat} {w : World} {k : Int} {T : ByteArray} {n : Nat} {v : Value} {tx : List Nat} {ts : List M.Tree} (h : KidsN lo g w v ts) (hT : M.bs T = tx) (hp : PartOk k n T) : NodeN lo g w (.agg #[.int .i64 k, .string T, .int .u64 (n : Nat), v]) (.node k tx n ts) := fun w' h' => ⟨T, v, rfl, hT, hp, h w' h'⟩
theorem RowN.nil (base : Nat) (w : World) : RowN base w (.slice none 0 0) [] := ⟨[], World.ownsRow_nil _ _ _ _, .nil⟩
theorem NodeV.cells {w : World} {x : V9} {t : M.Tree} (h : NodeV w x.val t) {b off : Nat} (c0 : w.cell? ⟨b, off, none⟩ = some (.int .i64 x.kind)) (c1 : w.cell? ⟨b, off + 1, none⟩ = some (.string x.text)) (c2 : w.cell? ⟨b, off + 2, none⟩ = some (.int .u64 (x.num : Nat))) (c3 : w.cell? ⟨b, off + 3, none⟩ = some (.slice x.ka x.kn x.kc)) : NodeAt w b off t := by
 have h0 := h
 obtain ⟨T, kv, e, h1, h2, h3⟩ := h
 have e' := Array.toList_inj.2 (Value.agg.inj e)
 simp only [List.cons.injEq, Value.int.injEq, Value.string.injEq, true_and, and_true] at e'
 obtain ⟨e1, e2, e3, e4⟩ := e'
 rw [e1] at c0
 rw [e3] at c2
 refine NodeAt.shut c0 c1 c2 c3 ?_
 rw [<- e1, <- e3]
 exact h0
theorem RowN.kids {base : Nat} {w : World} {v : Value} {ts : List M.Tree} (h : RowN base w v ts) (hl : ts.length <= 17592186043904) : KidsN base none w v ts := by
 obtain ⟨l, ho, hv⟩ := h
 intro w' hs
 have hlen := hv.len
 have hlt := ho.lt
 rcases ho.2 with ⟨rfl, h0⟩ | ⟨g, cap, cur, rfl, hb, hg, hc, hc2, hc3, hc4⟩
 ·have : ts = [] := List.length_eq_zero_iff.1 h0
  subst this
  exact KidsV.nil w'
 ·have hgl := (hlt g rfl).2
  have ho' : w'.ownsRow base 25 4 (.slice (some ⟨g, 0, none⟩) ts.length cap) ts.length (nodeCells l) := ⟨ho.1, .inr ⟨g, cap, cur, rfl, hb, (hs.2 g hb hgl (by simp)).trans hg, hc, hc2, hc3, hc4⟩⟩
  refine ⟨_, cap, rfl, hc, hl, fun _ => ⟨g, 0, rfl, Nat.lt_of_lt_of_le hgl hs.1, KidsAt.of fun i hi => ?_⟩⟩
  obtain ⟨c0, c1, c2, c3⟩ := nodeCells_get l i (by omega)
  have hcells := fun g hg => ho'.cells (g := g) hg
  have e0 := hcells g rfl (i * 4) _ c0
  have e1 := hcells g rfl (i * 4 + 1) _ c1
  have e2 := hcells g rfl (i * 4 + 2) _ c2
  have e3 := hcells g rfl (i * 4 + 3) _ c3
  rw [Addr.add_lit] at e0 e1 e2 e3
  have hn := (hv.get i (by omega)).all w' hs
  refine NodeV.cells hn e0 ?_ ?_ ?_
  ·rw [Nat.add_assoc]; exact e1
  ·rw [Nat.add_assoc]; exact e2
  ·rw [Nat.add_assoc]; exact e3
theorem KidsN.lit {lo G n : Nat} {g : Option Nat} {w : World} {l : List V9} {ts : List M.Tree} {cells : Array Value} (h : Vals lo g w l ts) (hc : cells.toList = nodeCells l) (hG : w.heap[G]? = some (.cells cells 25 (0, 0))) (hlo : lo <= G) (hg : some G ≠ g) (hn : n = ts.length) (hl : ts.length <= 100000) : KidsN lo g w (.slice (some ⟨G, 0, none⟩) n n) ts := by
 intro w' hs
 subst hn
 have hlen := h.len
 have hGl : G < w.heap.size := (Array.getElem?_eq_some_iff.1 hG).1
 have hG' : w'.heap[G]? = some (.cells cells 25 (0, 0)) := (hs.2 G hlo hGl hg).trans hG
 have hcell : ∀ (j : Nat) (u : Value), (nodeCells l)[j]? = some u -> w'.cell? ⟨G, j, none⟩ = some u := by
  intro j u hu
  rw [<- hc, Array.getElem?_toList] at hu
  simp [World.cell?, hG', hu]
 refine ⟨_, ts.length, rfl, Nat.le_refl _, by omega, fun _ => ⟨G, 0, rfl, Nat.lt_of_lt_of_le hGl hs.1, KidsAt.of fun i hi => ?_⟩⟩
 obtain ⟨c0, c1, c2, c3⟩ := nodeCells_get l i (by omega)
 have hn := (h.get i (by omega)) w' hs
 have e0 := hcell _ _ c0
 have e1 := hcell _ _ c1
 have e2 := hcell _ _ c2
 have e3 := hcell _ _ c3
 refine NodeV.cells hn ?_ ?_ ?_ ?_
 ·rw [Nat.zero_add]; exact e0
 ·rw [Nat.zero_add]; exact e1
 ·rw [Nat.zero_add]; exact e2
 ·rw [Nat.zero_add]; exact e3
theorem RowN.lit {base G n : Nat} {w : World} {l : List V9} {ts : List M.Tree} {cells : Array Value} (hv : Vals base (some G) w l ts) (hc : cells.toList = nodeCells l) (hG : w.heap[G]? = some (.cells cells 25 (0, 0))) (hlo : base <= G) (hn : n = ts.length) (hl : ts.length <= 100000) : RowN base w (.slice (some ⟨G, 0, none⟩) n n) ts := by
 subst hn
 have hlen := hv.len
 refine ⟨l, ⟨by rw [nodeCells_len, hlen], .inr ⟨G, ts.length, cells, rfl, hlo, hG, Nat.le_refl _, by unfold maxLen; omega, ?_, ?_⟩⟩, hv⟩
 ·rw [<- Array.length_toList, hc, nodeCells_len, hlen]
 ·rw [hc]
  exact List.take_of_length_le (by rw [nodeCells_len, hlen]; omega)
theorem RowN.sl {base : Nat} {w : World} {v : Value} {ts : List M.Tree} (h : RowN base w v ts) : ∃ (A : Option Addr) (c : Nat), v = .slice A ts.length c := by
 obtain ⟨l, ho, _⟩ := h
 rcases ho.2 with ⟨rfl, h0⟩ | ⟨g, cap, cur, rfl, _⟩
 ·exact ⟨none, 0, by rw [h0]⟩
 ·exact ⟨_, cap, rfl⟩
theorem RowN.lo {base base' : Nat} {w : World} {v : Value} {ts : List M.Tree} (h : RowN base w v ts) (hb : base' <= base) : RowN base' w v ts := by
 obtain ⟨l, ho, hv⟩ := h
 refine ⟨l, ⟨ho.1, ?_⟩, hv.map fun v t h => h.lo hb⟩
 rcases ho.2 with h0 | ⟨g, cap, cur, rfl, hbg, hr⟩
 ·exact .inl h0
 ·exact .inr ⟨g, cap, cur, rfl, Nat.le_trans hb hbg, hr⟩
theorem RowN.step {base : Nat} {w w' : World} {v : Value} {ts : List M.Tree} (h : RowN base w v ts) (hs : Stay base none w w') : RowN base w' v ts := by
 obtain ⟨l, ho, hv⟩ := h
 have hlt := ho.lt
 refine ⟨l, ?_, hv.map fun v t h => h.step ⟨hs.1, fun k h1 h2 _ => hs.2 k h1 h2 (by simp)⟩⟩
 refine ⟨ho.1, ?_⟩
 rcases ho.2 with h0 | ⟨g, cap, cur, rfl, hb, hg, hr⟩
 ·exact .inl h0
 ·exact .inr ⟨g, cap, cur, rfl, hb, (hs.2 g hb (hlt g rfl).2 (by simp)).trans hg, hr⟩

/-! ## Boxes -/
def Box9 (w : World) (b : Nat) (x : V9) : Prop := w.heap[b]? = some (.cells #[.int .i64 x.kind, .string x.text, .int .u64 (x.num : Nat), .slice x.ka x.kn x.kc] 25 (0, 0))
theorem Box9.lt {w : World} {b : Nat} {x : V9} (h : Box9 w b x) : b < w.heap.size := (Array.getElem?_eq_some_iff.1 h).1
theorem Box9.keep {w w' : World} {b : Nat} {x : V9} (h : Box9 w b x) (hb : w'.heap[b]? = w.heap[b]?) : Box9 w' b x := hb.trans h
theorem Box9.start (w : World) (x : V9) : Box9 (w.alloc (.cells #[.int .i64 x.kind, .string x.text, .int .u64 (x.num : Nat), .slice x.ka x.kn x.kc] 25)) w.heap.size x := by
 show (w.heap.push _)[w.heap.size]? = _
 rw [Array.getElem?_push, if_pos rfl]
theorem Box9.c {w : World} {b : Nat} {x : V9} (h : Box9 w b x) : w.cell? ⟨b, 0, none⟩ = some (.int .i64 x.kind) /\ w.cell? ⟨b, 1, none⟩ = some (.string x.text) /\ w.cell? ⟨b, 2, none⟩ = some (.int .u64 (x.num : Nat)) /\ w.cell? ⟨b, 3, none⟩ = some (.slice x.ka x.kn x.kc) := by
 unfold Box9 at h
 refine ⟨?_, ?_, ?_, ?_⟩ <;> simp [World.cell?, h]
theorem Box9.fz {w : World} {b : Nat} {x : V9} (h : Box9 w b x) : w.frozen? ⟨b, 0, none⟩ = false /\ w.frozen? ⟨b, 1, none⟩ = false /\ w.frozen? ⟨b, 2, none⟩ = false /\ w.frozen? ⟨b, 3, none⟩ = false := by
 unfold Box9 at h
 refine ⟨?_, ?_, ?_, ?_⟩ <;> simp [World.frozen?, h]
theorem Box9.but {R : Nat} {w w' : World} {b : Nat} {x : V9} (h : Box9 w b x) (hb : But R w w') (hn : b ≠ R) : Box9 w' b x := h.keep (hb.block b h.lt hn)
theorem Box9.below {w w' : World} {b : Nat} {x : V9} (h : Box9 w b x) (hb : Below w.heap.size w w') : Box9 w' b x := h.keep (hb.block b h.lt)
theorem Box9.alloc {w : World} {b : Nat} {x : V9} (h : Box9 w b x) (o : Obj) : Box9 (w.alloc o) b x := h.below ((Below.refl _ w).alloc (Nat.le_refl _) o)
def SB (w : World) (b : Nat) (l : List ByteArray) : Prop := w.heap[b]? = some (.cells (l.map Value.string).toArray 9 (0, 0))
theorem SB.lt {w : World} {b : Nat} {l : List ByteArray} (h : SB w b l) : b < w.heap.size := (Array.getElem?_eq_some_iff.1 h).1
theorem SB.c {w : World} {b : Nat} {l : List ByteArray} (h : SB w b l) (j : Nat) (hj : j < l.length) : w.cell? ⟨b, j, none⟩ = some (.string (l.getD j ⟨#[]⟩)) := by
 unfold SB at h
 simp [World.cell?, h, List.getElem?_eq_getElem hj]
structure Touch (b : Nat) (w w' : World) : Prop where
 os : w'.os = w.os
 tape : w'.tape = w.tape
 output : w'.output = w.output
 size : w'.heap.size = w.heap.size
 block : ∀ k, k ≠ b -> w'.heap[k]? = w.heap[k]?
theorem Touch.set {b : Nat} {w w' : World} (h : Touch b w w') {p : Addr} (hp : p.block = b) (u : Value) : Touch b w (w'.setCell p u) :=
 ⟨h.os, h.tape, h.output, by rw [<- h.size]; simp [World.setCell], fun k hk => (Below.heap_setCell _ _ _ _ (by rw [hp]; exact hk)).trans (h.block k hk)⟩
theorem Touch.refl (b : Nat) (w : World) : Touch b w w := ⟨rfl, rfl, rfl, rfl, fun _ _ => rfl⟩
def put9 (w : World) (b : Nat) (k : Int) (T : ByteArray) (n : Int) (v : Value) : World := (((w.setCell ⟨b, 0, none⟩ (.int .i64 k)).setCell ⟨b, 1, none⟩ (.string T)).setCell ⟨b, 2, none⟩ (.int .u64 n)).setCell ⟨b, 3, none⟩ v
theorem put9_touch (w : World) (b : Nat) (k : Int) (T : ByteArray) (n : Int) (v : Value) : Touch b w (put9 w b k T n v) := (((((Touch.refl b w).set rfl _).set rfl _).set rfl _).set rfl _)
theorem Box9.put {w : World} {b : Nat} {x : V9} (h : Box9 w b x) (k : Int) (T : ByteArray) (n : Nat) (A : Option Addr) (m c : Nat) : Box9 (put9 w b k T (n : Nat) (.slice A m c)) b ⟨k, T, n, A, m, c⟩ := by
 unfold Box9 at h ⊢
 simp [put9, World.setCell, Array.getElem?_modify, h]
theorem But.touch {R b : Nat} {a w w' : World} (h : But R a w) (ht : Touch b w w') (hb : a.heap.size <= b) : But R a w' :=
 ⟨ht.os.trans h.os, ht.tape.trans h.tape, ht.output.trans h.output, by rw [ht.size]; exact h.size, fun k hk hn => (ht.block k (by omega)).trans (h.block k hk hn)⟩
theorem Touch.stay {lo b : Nat} {g : Option Nat} {w w' : World} (h : Touch b w w') (hb : b < lo \/ g = some b) : Stay lo g w w' :=
 ⟨by rw [h.size]; exact Nat.le_refl _, fun k h1 _ h3 => h.block k (by rcases hb with hb | hb <;> intro e <;> subst e <;> first | omega | exact h3 hb.symm)⟩
theorem Box9.touch {w w' : World} {b c : Nat} {x : V9} (h : Box9 w b x) (ht : Touch c w w') (hn : b ≠ c) : Box9 w' b x := h.keep (ht.block b hn)

/-! ## The parser's state -/
def TokAt (N : Nat) (w : World) (b : Nat) : Nat -> List M.Tok -> Prop
 | o, [] => (∃ k, w.cell? ⟨b, o, none⟩ = some (.int .i64 k)) /\ w.cell? ⟨b, o + 1, none⟩ = some (.string ⟨#[]⟩) /\ w.cell? ⟨b, o + 2, none⟩ = some (.int .i64 (N : Nat))
 | o, t :: r => w.cell? ⟨b, o, none⟩ = some (.int .i64 t.kind) /\ (∃ T : ByteArray, w.cell? ⟨b, o + 1, none⟩ = some (.string T) /\ M.bs T = t.text /\ T.size <= 20000) /\ w.cell? ⟨b, o + 2, none⟩ = some (.int .i64 (t.at_ : Nat)) /\ M.tokB t.kind t.text = true /\ TokAt N w b (o + 3) r
theorem TokAt.keep {N : Nat} {w w' : World} {b : Nat} (h : w'.heap[b]? = w.heap[b]?) : ∀ (ts : List M.Tok) {o : Nat}, TokAt N w b o ts -> TokAt N w' b o ts
 | [], o, ht => by
  have e : ∀ o, w'.cell? ⟨b, o, none⟩ = w.cell? ⟨b, o, none⟩ := fun o => World.cell?_of_block (w := w) (a := ⟨b, o, none⟩) h
  rw [TokAt] at ht ⊢
  rw [e, e, e]
  exact ht
 | t :: r, o, ht => by
  have e : ∀ o, w'.cell? ⟨b, o, none⟩ = w.cell? ⟨b, o, none⟩ := fun o => World.cell?_of_block (w := w) (a := ⟨b, o, none⟩) h
  rw [TokAt] at ht ⊢
  rw [e, e, e]
  exact ⟨ht.1, ht.2.1, ht.2.2.1, ht.2.2.2.1, TokAt.keep h r ht.2.2.2.2⟩
def PS (hi R N : Nat) (w : World) (ts : List M.Tok) : Prop :=
 R < hi /\ hi <= w.heap.size /\ N <= 20000 /\ w.frozen? ⟨R, 0, none⟩ = false /\ ∃ b o c : Nat, w.cell? ⟨R, 0, none⟩ = some (.slice (some ⟨b, o, none⟩) (ts.length + 1) c) /\ ts.length + 1 <= c /\ b ≠ R /\ b < hi /\ ts.length <= 20000 /\ TokAt N w b o ts
theorem PS.keep {hi R N : Nat} {w w' : World} {ts : List M.Tok} (h : PS hi R N w ts) (hs : w.heap.size <= w'.heap.size) (hb : ∀ k, k < hi -> w'.heap[k]? = w.heap[k]?) : PS hi R N w' ts := by
 obtain ⟨h1, h2, h3, h4, b, o, c, h5, h6, h7, h8, h9, h10⟩ := h
 exact ⟨h1, Nat.le_trans h2 hs, h3, (World.frozen?_of_block (w := w) (a := ⟨R, 0, none⟩) (hb R h1)).trans h4, b, o, c, (World.cell?_of_block (w := w) (a := ⟨R, 0, none⟩) (hb R h1)).trans h5, h6, h7, h8, h9, h10.keep (hb b h8)⟩
theorem PS.below {hi R N : Nat} {w w' : World} {ts : List M.Tok} (h : PS hi R N w ts) (hb : Below w.heap.size w w') : PS hi R N w' ts := h.keep hb.size fun k hk => hb.block k (Nat.lt_of_lt_of_le hk h.2.1)
theorem PS.grown {hi R N : Nat} {w w' : World} {ts : List M.Tok} (h : PS hi R N w ts) {row : Option Nat} (hg : w.grownBy w' row) (hr : ∀ k, row = some k -> hi <= k) : PS hi R N w' ts := h.keep hg.size fun k hk => hg.block k (Nat.lt_of_lt_of_le hk h.2.1) (fun e => by have := hr k e.symm; omega)
theorem PS.touch {hi R N b : Nat} {w w' : World} {ts : List M.Tok} (h : PS hi R N w ts) (ht : Touch b w w') (hb : hi <= b) : PS hi R N w' ts := h.keep (by rw [ht.size]; exact Nat.le_refl _) fun k hk => ht.block k (by omega)
theorem PS.alloc {hi R N : Nat} {w : World} {ts : List M.Tok} (h : PS hi R N w ts) (o : Obj) : PS hi R N (w.alloc o) ts := h.below ((Below.refl _ w).alloc (Nat.le_refl _) o)
theorem PS.drew {hi R N : Nat} {w : World} {ts : List M.Tok} (h : PS hi R N w ts) : PS hi R N w.drew ts := h.below (Below.refl _ w).drew
def pv (n : Nat) : Ending := .panicked [{ v := .iface 71 (.agg #[.int .i64 (n : Nat)]), recovered := false }]
section
variable (hi R N : Nat)
def PEnd {α : Type} (V : World -> World -> Ending -> α -> Prop) (w : World) (x : M.Res α) (e : Ending) (w' : World) : Prop :=
 match x with
 | .ok a r => V w w' e a /\ PS hi R N w' r /\ But R w w'
 | .bad r => e = pv (M.placeOf N r) /\ But R w w'
 | .out => False
def vUnit (_ _ : World) (e : Ending) (_ : Unit) : Prop := e = .returned (.tuple #[])
def vName (_ _ : World) (e : Ending) (s : List Nat) : Prop := ∃ T : ByteArray, e = .returned (.string T) /\ M.bs T = s /\ T.size <= 20000
def vNum (_ _ : World) (e : Ending) (n : Nat) : Prop := e = .returned (.int .u64 (n : Nat)) /\ n < 18446744073709551616
def vTree (w w' : World) (e : Ending) (t : M.Tree) : Prop := ∃ v, e = .returned v /\ NodeN w.heap.size none w' v t
def vDecl (w w' : World) (e : Ending) (d : List Nat × M.Tree) : Prop := ∃ (T : ByteArray) (v : Value), e = .returned (.tuple #[.string T, v]) /\ M.bs T = d.1 /\ T.size <= 20000 /\ NodeN w.heap.size none w' v d.2
def vList (w w' : World) (e : Ending) (l : List M.Tree) : Prop := ∃ v, e = .returned v /\ RowN w.heap.size w' v l /\ l.length <= 100000
def PC {α : Type} (V : World -> World -> Ending -> α -> Prop) (f : Nat) (p : List M.Tok -> M.Res α) : Prop :=
 ∀ w ts, PS hi R N w ts -> p ts ≠ .out -> Calls Tryz.prog f #[.pointer (some ⟨R, 0, none⟩)] w (PEnd hi R N V w (p ts))
def allocs : World -> List Obj -> World
 | W, [] => W
 | W, o :: r => allocs (W.alloc o) r
theorem allocs_below : ∀ (os : List Obj) (W : World), Below W.heap.size W (allocs W os) /\ (allocs W os).heap.size = W.heap.size + os.length
 | [], W => ⟨Below.refl _ _, rfl⟩
 | o :: r, W => by
  obtain ⟨h1, h2⟩ := allocs_below r (W.alloc o)
  have h3 := (Below.refl W.heap.size W).alloc (Nat.le_refl _) o
  refine ⟨h3.trans (h1.mono h3.size), ?_⟩
  show (allocs (W.alloc o) r).heap.size = _
  rw [h2]
  simp
  omega
theorem tree_lit {w cw : World} {g : Option Nat} {k : Int} {T : ByteArray} {n G m : Nat} {tx : List Nat} {l : List V9} {ts : List M.Tree} {r : List M.Tok} (os : List Obj) (cells : Array Value) (hhi : hi <= w.heap.size) (hsz : w.heap.size + 1 <= cw.heap.size) (hb : But R w cw) (hp : PS hi R N cw r) (hv : Vals (w.heap.size + 1) g cw l ts) (hg : some G ≠ g) (hc : cells.toList = nodeCells l) (hT : M.bs T = tx) (hk : PartOk k n T) (hl : ts.length <= 100000) (hG : G = cw.heap.size + os.length) (hm : m = ts.length) :
  PEnd hi R N vTree w (.ok (.node k tx n ts) r) (.returned (.agg #[.int .i64 k, .string T, .int .u64 (n : Nat), .slice (some ⟨G, 0, none⟩) m m])) ((allocs (put9 cw w.heap.size k T (n : Nat) (.slice (some ⟨G, 0, none⟩) m m)) os).alloc (.cells cells 25)) := by
 have ht := put9_touch cw w.heap.size k T (n : Nat) (.slice (some ⟨G, 0, none⟩) m m)
 generalize put9 cw w.heap.size k T (n : Nat) (.slice (some ⟨G, 0, none⟩) m m) = W at ht ⊢
 obtain ⟨h1, h2⟩ := allocs_below os W
 have hs := ht.size
 generalize allocs W os = W2 at h1 h2 ⊢
 have h3 := (Below.refl W2.heap.size W2).alloc (Nat.le_refl _) (.cells cells 25)
 have hst : Stay (w.heap.size + 1) g cw (W2.alloc (.cells cells 25)) := ((ht.stay (.inl (Nat.lt_succ_self _))).trans (Below.stay h1)).trans (Below.stay h3)
 refine ⟨⟨_, rfl, (NodeN.make (KidsN.lit (hv.map fun v t h => h.step hst) hc ?_ (by omega) hg hm hl) hT hk).all.lo (Nat.le_succ _)⟩, ((hp.touch ht hhi).below h1).below h3, ((hb.touch ht (Nat.le_refl _)).below h1).below h3⟩
 show (W2.heap.push _)[_]? = _
 rw [Array.getElem?_push, if_pos (by omega)]
theorem tree_end {w wr : World} {g : Option Nat} {y : V9} {n : M.Tree} {r : List M.Tok} (hhi : hi <= w.heap.size) (hb : But R w wr) (hn : NodeN (w.heap.size + 1) g wr y.val n) (hp : PS hi R N wr r) : PEnd hi R N vTree w (.ok n r) (.returned (.agg #[.int .i64 y.kind, .string y.text, .int .u64 (y.num : Nat), .slice y.ka y.kn y.kc])) (put9 wr w.heap.size y.kind y.text (y.num : Nat) (.slice y.ka y.kn y.kc)) := by
 have ht := put9_touch wr w.heap.size y.kind y.text (y.num : Nat) (.slice y.ka y.kn y.kc)
 exact ⟨⟨_, rfl, ((hn.step (ht.stay (.inl (Nat.lt_succ_self _)))).all).lo (Nat.le_succ _)⟩, hp.touch ht hhi, hb.touch ht (Nat.le_refl _)⟩
theorem tree_end_os {w wr : World} {g : Option Nat} {y : V9} {n : M.Tree} {r : List M.Tok} (os : List Obj) (hhi : hi <= w.heap.size) (hb : But R w wr) (hn : NodeN (w.heap.size + 1) g wr y.val n) (hp : PS hi R N wr r) : PEnd hi R N vTree w (.ok n r) (.returned (.agg #[.int .i64 y.kind, .string y.text, .int .u64 (y.num : Nat), .slice y.ka y.kn y.kc])) (allocs (put9 wr w.heap.size y.kind y.text (y.num : Nat) (.slice y.ka y.kn y.kc)) os) := by
 obtain ⟨⟨v, e, h1⟩, h2, h3⟩ := tree_end hi R N (wr := wr) (y := y) (r := r) hhi hb hn hp
 obtain ⟨h4, _⟩ := allocs_below os (put9 wr w.heap.size y.kind y.text (y.num : Nat) (.slice y.ka y.kn y.kc))
 exact ⟨⟨v, e, h1.step (Below.stay h4)⟩, h2.below h4, h3.below h4⟩
theorem decl_end {w wr : World} {g : Option Nat} {T : ByteArray} {s : List Nat} {y : V9} {n : M.Tree} {r : List M.Tok} (os : List Obj) (hhi : hi <= w.heap.size) (hb : But R w wr) (hn : NodeN (w.heap.size + 1) g wr y.val n) (hp : PS hi R N wr r) (hT : M.bs T = s) (hTs : T.size <= 20000) : PEnd hi R N vDecl w (.ok (s, n) r) (.returned (.tuple #[.string T, .agg #[.int .i64 y.kind, .string y.text, .int .u64 (y.num : Nat), .slice y.ka y.kn y.kc]])) (allocs (put9 wr w.heap.size y.kind y.text (y.num : Nat) (.slice y.ka y.kn y.kc)) os).drew := by
 obtain ⟨⟨v, e, h1⟩, h2, h3⟩ := tree_end_os hi R N (wr := wr) (y := y) (r := r) os hhi hb hn hp
 injection e with e
 subst e
 exact ⟨⟨T, _, rfl, hT, hTs, h1.step (Below.stay (Below.refl _ _).drew)⟩, h2.drew, h3.drew⟩
end
end Go.Proofs.YtngpedcihajepaaGreatDoor
namespace Go.Proofs.YtngpedcihajepaaGreatDoor
open Go.RowKit
theorem assert_yes (v : Value) (w : World) : (Instr.typeAssert (.iface 71 v) 20 71 true).run Tryz.prog w = .ok (.tuple #[v, .bool true]) w := by kernel_rfl
theorem assert_nil (w : World) : (Instr.typeAssert .nilIface 20 71 true).run Tryz.prog w = .ok (.tuple #[.agg #[.int .i64 0], .bool false]) w := by kernel_rfl
theorem catch_panicking (b1 b2 n : Nat) (x y : Value) (older : List PanicEntry) (w : World) (hb1 : b1 < w.heap.size) (hb2 : b2 < w.heap.size) (hne : ¬ b1 = b2) (hc : w.cell? ⟨b1, 0, none⟩ = some x) (hz : w.frozen? ⟨b1, 0, none⟩ = false) (hc2 : w.cell? ⟨b2, 0, none⟩ = some y) (hz2 : w.frozen? ⟨b2, 0, none⟩ = false) :
  CallsD Tryz.prog 40 #[.pointer (some ⟨b1, 0, none⟩), .pointer (some ⟨b2, 0, none⟩)] (.panicking ({ v := .iface 71 (.agg #[.int .i64 (n : Nat)]), recovered := false } :: older)) w fun e u' w' =>
   e = .returned (.tuple #[]) /\ u' = .panicking ({ v := .iface 71 (.agg #[.int .i64 (n : Nat)]), recovered := true } :: older) /\ w' = (((w.alloc (.cells #[.int .i64 (n : Nat)] 71)).setCell ⟨b1, 0, none⟩ (.int .i64 (n : Nat))).setCell ⟨b2, 0, none⟩ (.int .i64 4)) := by
 refine callsD_of_wpS Tryz.func40 rfl fun c₀ cs hu => ?_
 apply wpS_seq
 apply wpS_region
 simp [wpOpsS, go_sem, recoverD, assert_yes, hu, Tryz.ntmps40, Exit.thenS]
 apply wpS_seq
 apply wpS_region
 simp [wpOpsS, go_sem, Exit.thenS]
 refine wpS_cond (t := true) (by simp [Act.eval, Array.replicate]) ?_
 simp only [if_true]
 apply wpS_region
 simp [wpOpsS, go_sem, hc, hz, hc2, hz2, bodyPostS, results, Tryz.results40, hb1, hb2]
theorem catch_idle9 (p q : Addr) (w : World) :
  CallsD Tryz.prog 40 #[.pointer (some p), .pointer (some q)] .returning w fun e u' w' => e = .returned (.tuple #[]) /\ u' = .returning /\ w' = w.alloc (.cells #[.int .i64 0] 71) := by
 refine callsD_of_wpS Tryz.func40 rfl fun c₀ cs hu => ?_
 apply wpS_seq
 apply wpS_region
 simp [wpOpsS, go_sem, recoverD, assert_nil, hu, Tryz.ntmps40, Exit.thenS]
 apply wpS_seq
 apply wpS_region
 simp [wpOpsS, go_sem, Exit.thenS]
 refine wpS_cond (t := false) (by simp [Act.eval, Array.replicate]) ?_
 simp only [Bool.false_eq_true, if_false]
 refine wpS_of_wp (wp_skip ?_)
 cases c₀
 simp_all [bodyPostS, results, Tryz.results40]
open Go.RowKit
theorem PS.text {hi R N : Nat} {w : World} {ts : List M.Tok} (h : PS hi R N w ts) : ∃ (b o c : Nat) (T : ByteArray), w.cell? ⟨R, 0, none⟩ = some (.slice (some ⟨b, o, none⟩) (ts.length + 1) c) /\ w.cell? ⟨b, o + 1, none⟩ = some (.string T) /\ w.cell? ⟨b, o + 2, none⟩ = some (.int .i64 (M.placeOf N ts : Nat)) /\ M.bs T = M.headT ts /\ T.size <= 20000 /\ ts.length + 1 <= c := by
 obtain ⟨h1, h2, h3, h4, b, o, c, c0, hc, hbR, hb, hl, ht⟩ := h
 cases ts with
 | nil =>
  rw [TokAt] at ht
  exact ⟨b, o, c, _, c0, ht.2.1, ht.2.2, rfl, by decide, hc⟩
 | cons t r =>
  rw [TokAt] at ht
  obtain ⟨k0, ⟨T, k1, k2, k3⟩, k4, k5, k6⟩ := ht
  exact ⟨b, o, c, T, c0, k1, k4, k2, k3, hc⟩
theorem next_any {hi R N : Nat} {w : World} {ts : List M.Tok} (h : PS hi R N w ts) : Calls Tryz.prog 107 #[.pointer (some ⟨R, 0, none⟩)] w fun e w' => (∃ T : ByteArray, e = .returned (.string T) /\ M.bs T = M.headT ts /\ T.size <= 20000) /\ w' = w := by
 obtain ⟨b, o, c, T, c0, c1, c2, hT, hs, hc⟩ := h.text
 obtain ⟨n, en⟩ : ∃ n, n = ts.length + 1 := ⟨_, rfl⟩
 rw [<- en] at c0 hc
 have hn : 0 < n := by omega
 clear en
 go_enter Tryz.func107, Tryz.ntmps107
 go_wp2_with fail
 go_ret
 exact ⟨⟨T, rfl, hT, hs⟩, rfl⟩
theorem fail_any {hi R N : Nat} {w : World} {ts : List M.Tok} (h : PS hi R N w ts) : Calls Tryz.prog 163 #[.pointer (some ⟨R, 0, none⟩)] w fun e w' => e = pv (M.placeOf N ts) /\ w' = w := by
 obtain ⟨b, o, c, T, c0, c1, c2, hT, hs, hc⟩ := h.text
 obtain ⟨n, en⟩ : ∃ n, n = ts.length + 1 := ⟨_, rfl⟩
 obtain ⟨q, eq⟩ : ∃ q, q = M.placeOf N ts := ⟨_, rfl⟩
 rw [<- en] at c0 hc
 rw [<- eq] at c2 ⊢
 have hn : 0 < n := by omega
 clear en eq
 go_enter Tryz.func163, Tryz.ntmps163
 go_wp2_with fail
 exact ⟨rfl, rfl, rfl⟩
def Word (s : List Nat) : Prop := s ≠ [] /\ M.numE s ≠ 0
theorem isS_text {hi R N : Nat} {w : World} {ts : List M.Tok} (h : PS hi R N w ts) {s : List Nat} (hs : Word s) : M.isS s ts = decide (M.headT ts = s) := by
 obtain ⟨h1, h2, h3, h4, b, o, c, c0, hc, hbR, hb, hl, ht⟩ := h
 cases ts with
 | nil =>
  symm
  show decide (M.headT [] = s) = false
  rw [decide_eq_false_iff_not]
  exact fun e => hs.1 e.symm
 | cons t r =>
  rw [TokAt] at ht
  have hk := ht.2.2.2.1
  show (decide (t.kind ≠ 2) && decide (t.text = s)) = decide (t.text = s)
  by_cases e : t.text = s
  ·have : t.kind ≠ 2 := by
    intro h2
    rcases M.tok_cases hk with ⟨h, _⟩ | ⟨_, h⟩ | ⟨h, _⟩
    ·rw [h] at h2; cases h2
    ·exact hs.2 (e ▸ h)
    ·rw [h] at h2; cases h2
   simp [e, this]
  ·simp [e]
theorem PS.tail {hi R N : Nat} {w : World} {ts : List M.Tok} (h : PS hi R N w ts) (h0 : 0 < ts.length) : ∃ b o c : Nat, w.cell? ⟨R, 0, none⟩ = some (.slice (some ⟨b, o, none⟩) (ts.length + 1) c) /\ ts.length + 1 <= c /\ PS hi R N (w.setCell ⟨R, 0, none⟩ (.slice (some ⟨b, o + 3, none⟩) ts.length (c - 1))) ts.tail := by
 obtain ⟨h1, h2, h3, h4, b, o, c, c0, hc, hbR, hb, hl, ht⟩ := h
 refine ⟨b, o, c, c0, hc, h1, by simpa [World.setCell] using h2, h3, ?_, b, o + 3, c - 1, ?_, ?_, hbR, ?_, ?_, ?_⟩
 ·rw [World.frozen?_setCell]; exact h4
 ·rw [World.cell?_setCell_same' _ _ _ (by rw [c0]; rfl)]
  simp
  omega
 ·simp; omega
 ·exact hb
 ·simp; omega
 ·cases ts with
  | nil => simp at h0
  | cons t r =>
   rw [TokAt] at ht
   exact ht.2.2.2.2.keep (Below.heap_setCell _ _ _ _ hbR)
theorem accept_any {hi R N : Nat} {w : World} {ts : List M.Tok} (h : PS hi R N w ts) (W : ByteArray) {s : List Nat} (hW : M.bs W = s) (hs : s ≠ []) : Calls Tryz.prog 63 #[.pointer (some ⟨R, 0, none⟩), .string W] w fun e w' => e = .returned (.bool (decide (M.headT ts = s))) /\ PS hi R N w' (if M.headT ts = s then ts.tail else ts) /\ But R w w' := by
 have NX := Lib.hid (next_any h)
 have HF := h.2.2.2.1
 by_cases he : M.headT ts = s
 ·have h0 : 0 < ts.length := by
   cases ts with
   | nil => exact absurd he.symm hs
   | cons t r => simp
  rw [decide_eq_true he, if_pos he]
  obtain ⟨b, o, c, c0, hc, hp⟩ := h.tail h0
  have HP := Lib.hid hp
  obtain ⟨n, en⟩ : ∃ n, n = ts.length := ⟨_, rfl⟩
  rw [<- en] at c0 hc HP h0
  have HE := Lib.hid he
  have HW := Lib.hid hW
  have BU := Lib.hid ((But.refl R w).set (p := ⟨R, 0, none⟩) rfl (.slice (some ⟨b, o + 3, none⟩) n (c - 1)))
  clear he hW hp en h
  go_enter Tryz.func63, Tryz.ntmps63
  go_wp2_with fail
  (with_reducible refine (NX.out).mono ?_)
  rintro e w' ⟨⟨T, rfl, hT, -⟩, rfl⟩
  obtain rfl : T = W := M.bs_inj (by rw [hT, HE.out, HW.out])
  clear hT
  go_wp2_with fail
  go_ret
  exact ⟨rfl, HP.out, BU.out⟩
 ·rw [decide_eq_false he, if_neg he]
  have HE := Lib.hid he
  have HW := Lib.hid hW
  have HP := Lib.hid h
  clear he hW h
  go_enter Tryz.func63, Tryz.ntmps63
  go_wp2_with fail
  (with_reducible refine (NX.out).mono ?_)
  rintro e w' ⟨⟨T, rfl, hT, -⟩, rfl⟩
  have hne := M.str_ne (s := W) (x := T) (fun e => HE.out (by rw [<- hT, <- HW.out, e]))
  clear hT
  go_wp2_with fail
  go_ret
  exact ⟨rfl, HP.out, But.refl _ _⟩
open Go.RowKit
section
variable {hi R N : Nat}
theorem expect_raw {w : World} {ts : List M.Tok} (h : PS hi R N w ts) (W : ByteArray) {s : List Nat} (hW : M.bs W = s) (hs : s ≠ []) : Calls Tryz.prog 143 #[.pointer (some ⟨R, 0, none⟩), .string W] w fun e w' => (M.headT ts = s -> e = .returned (.tuple #[]) /\ PS hi R N w' ts.tail /\ But R w w') /\ (M.headT ts ≠ s -> e = pv (M.placeOf N ts) /\ But R w w') := by
 have AC := Lib.hid (accept_any h W hW hs)
 by_cases he : M.headT ts = s
 ·rw [decide_eq_true he, if_pos he] at AC
  have HE := Lib.hid he
  clear he
  go_enter Tryz.func143, Tryz.ntmps143
  go_wp2_with fail
  (with_reducible refine (AC.out).mono ?_)
  rintro e w' ⟨rfl, hp, hb⟩
  go_wp2_with fail
  go_end0
  exact ⟨fun _ => ⟨rfl, hp, hb⟩, fun h => absurd HE.out h⟩
 ·rw [decide_eq_false he, if_neg he] at AC
  have HE := Lib.hid he
  clear he
  go_enter Tryz.func143, Tryz.ntmps143
  go_wp2_with fail
  (with_reducible refine (AC.out).mono ?_)
  rintro e w' ⟨rfl, hp, hb⟩
  have FA := Lib.hid (fail_any hp)
  have HB := Lib.hid hb
  clear hb hp
  go_wp2_with fail
  (with_reducible refine (FA.out).mono ?_)
  rintro e w2 ⟨he, rfl⟩
  unfold pv at he
  subst he
  go_wp2_with fail
  exact ⟨rfl, fun h => absurd h HE.out, fun _ => ⟨rfl, HB.out⟩⟩
theorem expect_any {w : World} {ts : List M.Tok} (h : PS hi R N w ts) (W : ByteArray) {s : List Nat} (hW : M.bs W = s) (hs : Word s) : Calls Tryz.prog 143 #[.pointer (some ⟨R, 0, none⟩), .string W] w (PEnd hi R N vUnit w (M.take s ts)) := by
 refine (expect_raw h W hW hs.1).mono ?_
 rintro e w' ⟨h1, h2⟩
 unfold M.take
 rw [isS_text h hs]
 by_cases he : M.headT ts = s
 ·rw [if_pos (decide_eq_true he)]
  obtain ⟨q1, q2, q3⟩ := h1 he
  exact ⟨q1, q2, q3⟩
 ·rw [if_neg (by rw [decide_eq_true_eq]; exact he)]
  exact h2 he
theorem accept_word {w : World} {ts : List M.Tok} (h : PS hi R N w ts) (W : ByteArray) {s : List Nat} (hW : M.bs W = s) (hs : Word s) : Calls Tryz.prog 63 #[.pointer (some ⟨R, 0, none⟩), .string W] w fun e w' => e = .returned (.bool (M.isS s ts)) /\ PS hi R N w' (if M.isS s ts = true then ts.tail else ts) /\ But R w w' := by
 rw [isS_text h hs]
 refine (accept_any h W hW hs.1).mono ?_
 rintro e w' ⟨rfl, h1, h2⟩
 refine ⟨rfl, ?_, h2⟩
 by_cases he : M.headT ts = s
 ·rw [if_pos (decide_eq_true he)]; rwa [if_pos he] at h1
 ·rw [if_neg (by rw [decide_eq_true_eq]; exact he)]; rwa [if_neg he] at h1
theorem PS.good {w : World} {t : M.Tok} {r : List M.Tok} (h : PS hi R N w (t :: r)) : M.tokB t.kind t.text = true := by
 obtain ⟨h1, h2, h3, h4, b, o, c, c0, hc, hbR, hb, hl, ht⟩ := h
 rw [TokAt] at ht
 exact ht.2.2.2.1
theorem number_zero {t : List Nat} {k : Int} (h : M.tokB k t = true) : k = 2 ↔ M.numE t = 0 := by
 have key : ∀ {k1 k2 : Int}, M.tokB k1 t = true -> M.tokB k2 t = true -> k1 = k2 := fun {k1 k2} h1 h2 => by
  have e1 := M.word_of (rest := []) h1 (.inl rfl)
  have e2 := M.word_of (rest := []) h2 (.inl rfl)
  rw [e1] at e2
  simp only [Prod.mk.injEq, true_and, and_true] at e2
  exact e2
 constructor
 ·rintro rfl
  rcases M.tok_cases h with ⟨h, _⟩ | ⟨_, h⟩ | ⟨h, _⟩
  ·cases h
  ·exact h
  ·cases h
 ·intro h0
  exact key h (by simp [M.tokB, h0])
theorem numV_lt (t : List Nat) : M.numV t < 18446744073709551616 := by
 unfold M.numV
 split
 ·rename_i h
  unfold M.numE at h
  split at h
  ·cases h
  ·split at h
   ·cases h
   ·split at h
    ·cases h
    ·omega
 ·omega
theorem number_of {w : World} {ts : List M.Tok} (h : PS hi R N w ts) : (M.numE (M.headT ts) = 0 -> M.headT ts ≠ [] /\ M.pNumber ts = .ok (M.numV (M.headT ts)) ts.tail) /\ (M.numE (M.headT ts) ≠ 0 -> M.pNumber ts = .bad ts) := by
 cases ts with
 | nil => exact ⟨fun h => absurd h (by decide), fun _ => rfl⟩
 | cons t r =>
  have hk := number_zero h.good
  refine ⟨fun h0 => ⟨?_, ?_⟩, fun h0 => ?_⟩
  ·intro e
   have h0' : M.numE t.text = 0 := h0
   rw [show t.text = [] from e] at h0'
   revert h0'
   decide
  ·show (if t.kind = 2 then _ else _) = _
   rw [if_pos (hk.2 h0)]
   rfl
  ·show (if t.kind = 2 then _ else _) = _
   rw [if_neg (fun e => h0 (hk.1 e))]
theorem number_any : PC hi R N vNum 144 M.pNumber := by
 intro w ts h hne
 have NX := Lib.hid (next_any h)
 obtain ⟨hz, hnz⟩ := number_of h
 have NU := Lib.hid fun (s : ByteArray) (w : World) (hs : s.size <= 140737488351232) => tnumber_any s w hs
 have EX := Lib.hid fun (W : ByteArray) {s : List Nat} (hW : M.bs W = s) (hs : s ≠ []) => expect_raw h W hW hs
 have FA := Lib.hid (fail_any h)
 by_cases h0 : M.numE (M.headT ts) = 0
 ·obtain ⟨h1, h2⟩ := hz h0
  rw [h2]
  have H0 := Lib.hid h0
  have H1 := Lib.hid h1
  clear h0 h1 h2 hz hnz hne h
  go_enter Tryz.func144, Tryz.ntmps144
  go_wp2_with fail
  (with_reducible refine (NX.out).mono ?_)
  rintro e w' ⟨⟨T, rfl, hT, hs⟩, rfl⟩
  have NU2 := Lib.hid (NU.out T w' (by omega))
  have EX2 := Lib.hid (EX.out T hT H1.out)
  rw [hT] at NU2
  rw [H0.out] at NU2
  have HT := Lib.hid hT
  clear hT
  go_wp2_with fail
  (with_reducible refine (NU2.out).mono ?_)
  rintro e w' ⟨rfl, rfl⟩
  go_wp2_with fail
  (with_reducible refine (EX2.out).mono ?_)
  rintro e w2 ⟨h1, -⟩
  obtain ⟨rfl, hp, hb⟩ := h1 (by trivial)
  clear h1
  go_wp2_with fail
  go_ret
  exact ⟨⟨rfl, numV_lt _⟩, hp, hb⟩
 ·rw [hnz h0]
  have h0' : (M.numE (M.headT ts) != 0) = true := by rw [bne_iff_ne]; exact h0
  obtain ⟨q, eq⟩ : ∃ q, q = M.numE (M.headT ts) := ⟨_, rfl⟩
  have EQ := Lib.hid eq
  rw [<- eq] at h0'
  clear h0 hz hnz hne h eq
  go_enter Tryz.func144, Tryz.ntmps144
  go_wp2_with fail
  (with_reducible refine (NX.out).mono ?_)
  rintro e w' ⟨⟨T, rfl, hT, hs⟩, rfl⟩
  have NU2 := Lib.hid (NU.out T w' (by omega))
  rw [hT, <- EQ.out] at NU2
  clear hT
  go_wp2_with fail
  (with_reducible refine (NU2.out).mono ?_)
  rintro e w' ⟨rfl, rfl⟩
  go_wp2_with fail
  (with_reducible refine (FA.out).mono ?_)
  rintro e w2 ⟨he, rfl⟩
  unfold pv at he
  subst he
  go_wp2_with fail
  exact ⟨rfl, rfl, But.refl _ _⟩
end
end Go.Proofs.YtngpedcihajepaaGreatDoor
namespace Go.Proofs.YtngpedcihajepaaGreatDoor
open Go.RowKit
section
variable {hi R N : Nat}
theorem PS.sign {w : World} {ts : List M.Tok} (h : PS hi R N w ts) (k : Nat) : M.signAt k ts = if M.headT ts ∈ M.signsL k then some (M.headT ts) else none := by
 cases ts with
 | nil =>
  have : ([] : List Nat) ∉ M.signsL k := by
   unfold M.signsL
   split <;> simp
  show none = _
  rw [if_neg]
  exact this
 | cons t r =>
  show (if t.kind ≠ 2 /\ t.text ∈ M.signsL k then some t.text else none) = if t.text ∈ M.signsL k then some t.text else none
  by_cases hm : t.text ∈ M.signsL k
  ·have : t.kind ≠ 2 := fun h2 => by
    have h0 := (number_zero h.good).1 h2
    have key : ∀ s ∈ M.signsL k, M.numE s ≠ 0 := by
     unfold M.signsL
     split <;> decide
    exact key _ hm h0
   rw [if_pos ⟨this, hm⟩, if_pos hm]
  ·rw [if_neg (fun h => hm h.2), if_neg hm]
def Less (p : List M.Tok -> M.Res M.Tree) : Prop := ∀ l a r, p l = .ok a r -> r.length <= l.length
def LvI (p : List M.Tok -> M.Res M.Tree) (k most : Nat) (X : M.Res M.Tree) (i : Nat) (n : M.Tree) (r : List M.Tok) : Prop :=
 (X = .ok n r /\ i = most) \/ ∃ c, X = M.pLoop p k c n r /\ (k ≠ 3 -> r.length + i <= most) /\ (k = 3 -> i = 0)
theorem LvI.done {p : List M.Tok -> M.Res M.Tree} {k most : Nat} {X : M.Res M.Tree} {n : M.Tree} {r : List M.Tok} (h : LvI p k most X most n r) (hX : X ≠ .out) (hm : 0 < most) : X = .ok n r := by
 rcases h with ⟨h, _⟩ | ⟨c, h1, h2, h3⟩
 ·exact h
 ·by_cases h3k : k = 3
  ·have := h3 h3k; omega
  ·have hr : r = [] := List.length_eq_zero_iff.1 (by have := h2 h3k; omega)
   cases c with
   | zero => exact absurd (by rw [h1, M.pLoop]) hX
   | succ c => rw [h1, hr, M.pLoop]; rfl
theorem LvI.open {p : List M.Tok -> M.Res M.Tree} {k most i : Nat} {X : M.Res M.Tree} {n : M.Tree} {r : List M.Tok} (h : LvI p k most X i n r) (hi : i < most) (hX : X ≠ .out) (hs : M.signAt k r = none) : X = .ok n r := by
 rcases h with ⟨h, h'⟩ | ⟨c, h1, h2, h3⟩
 ·exact h
 ·cases c with
  | zero => exact absurd (by rw [h1, M.pLoop]) hX
  | succ c => rw [h1, M.pLoop, hs]
theorem LvI.more {p : List M.Tok -> M.Res M.Tree} {k most i : Nat} {X : M.Res M.Tree} {n : M.Tree} {r : List M.Tok} {s : List Nat} (h : LvI p k most X i n r) (hi : i < most) (hX : X ≠ .out) (hs : M.signAt k r = some s) (hl : Less p) (hm : k = 3 -> most = 1) : p r.tail ≠ .out /\ (∀ m r2, p r.tail = .ok m r2 -> LvI p k most X (i + 1) (.node 20 s 0 [n, m]) r2) /\ (∀ r2, p r.tail = .bad r2 -> X = .bad r2) := by
 rcases h with ⟨h, h'⟩ | ⟨c, h1, h2, h3⟩
 ·omega
 ·cases c with
  | zero => exact absurd (by rw [h1, M.pLoop]) hX
  | succ c =>
   have hpos := M.sign_pos hs
   have ht := M.tail_len (l := r)
   rw [M.pLoop, hs] at h1
   refine ⟨fun e => hX (by rw [h1]; show M.Res.bind _ _ = _; rw [e]; rfl), fun m r2 e => ?_, fun r2 e => by rw [h1]; show M.Res.bind _ _ = _; rw [e]; rfl⟩
   have h1' : X = if k = 3 then .ok (.node 20 s 0 [n, m]) r2 else M.pLoop p k c (.node 20 s 0 [n, m]) r2 := by
    rw [h1]; show M.Res.bind _ _ = _; rw [e]; rfl
   by_cases h3k : k = 3
   ·rw [if_pos h3k] at h1'
    have := h3 h3k
    have := hm h3k
    exact .inl ⟨h1', by omega⟩
   ·rw [if_neg h3k] at h1'
    have := hl _ _ _ e
    have := h2 h3k
    exact .inr ⟨c, h1', fun _ => by omega, fun h => absurd h h3k⟩
end
end Go.Proofs.YtngpedcihajepaaGreatDoor
namespace Go.Proofs.YtngpedcihajepaaGreatDoor
open Go.RowKit
variable {hi R N : Nat}
structure LvS (hi R : Nat) (sb Lb : Nat) (signs : List ByteArray) (w : World) (n : M.Tree) (x : V9) (wr : World) : Prop where
 hR : R < hi
 hhi : hi <= w.heap.size
 hL : w.heap.size < Lb
 hsb : hi <= sb
 hsw : sb < w.heap.size
 but : But R w wr
 res : Box9 wr w.heap.size V9.no
 left : Box9 wr Lb x
 node : NodeN (w.heap.size + 1) (some Lb) wr x.val n
 sig : SB wr sb signs
theorem LvS.next {hi R sb Lb : Nat} {signs : List ByteArray} {w wr w' : World} {n : M.Tree} {x : V9} (h : LvS hi R sb Lb signs w n x wr) (hb : But R wr w') : LvS hi R sb Lb signs w n x w' := by
 have h1 := h.hR
 have h2 := h.hhi
 have h3 := h.hL
 have h4 := h.hsb
 exact ⟨h1, h2, h3, h4, h.hsw, h.but.trans hb, h.res.but hb (by omega), h.left.but hb (by omega), h.node.step (hb.stay (by omega)), (hb.block _ h.sig.lt (by omega)).trans h.sig⟩
theorem LvS.join {sb Lb : Nat} {signs : List ByteArray} {w w2 w3 : World} {n m : M.Tree} {y z : V9} {T : ByteArray} {s : List Nat} (h : LvS hi R sb Lb signs w n y w3) (hz : NodeN w2.heap.size none w3 z.val m) (hL2 : Lb < w2.heap.size) (hT : M.bs T = s) (hTs : T.size <= 20000) :
  LvS hi R sb Lb signs w (.node 20 s 0 [n, m]) ⟨20, T, 0, some ⟨w3.heap.size + 1, 0, none⟩, 2, 2⟩ (((put9 w3 Lb 20 T (0 : Nat) (.slice (some ⟨w3.heap.size + 1, 0, none⟩) 2 2)).alloc (.cells #[.int .i64 z.kind, .string z.text, .int .u64 (z.num : Nat), .slice z.ka z.kn z.kc] 25)).alloc
   (.cells #[.int .i64 y.kind, .string y.text, .int .u64 (y.num : Nat), .slice y.ka y.kn y.kc, .int .i64 z.kind, .string z.text, .int .u64 (z.num : Nat), .slice z.ka z.kn z.kc] 25)) := by
 have h1 := h.hR
 have h2 := h.hhi
 have h3 := h.hL
 have h4 := h.hsb
 have h5 := h.hsw
 have h6 := h.left.lt
 have ht := put9_touch w3 Lb 20 T (0 : Nat) (.slice (some ⟨w3.heap.size + 1, 0, none⟩) 2 2)
 have hp := h.left.put 20 T 0 (some ⟨w3.heap.size + 1, 0, none⟩) 2 2
 generalize put9 w3 Lb 20 T (0 : Nat) (.slice (some ⟨w3.heap.size + 1, 0, none⟩) 2 2) = W at ht hp ⊢
 have hs := ht.size
 have hst : Stay (w.heap.size + 1) (some Lb) w3 ((W.alloc (.cells #[.int .i64 z.kind, .string z.text, .int .u64 (z.num : Nat), .slice z.ka z.kn z.kc] 25)).alloc
   (.cells #[.int .i64 y.kind, .string y.text, .int .u64 (y.num : Nat), .slice y.ka y.kn y.kc, .int .i64 z.kind, .string z.text, .int .u64 (z.num : Nat), .slice z.ka z.kn z.kc] 25)) :=
  ((ht.stay (.inr rfl)).trans (Below.stay ((Below.refl _ _).alloc (Nat.le_refl _) _))).trans (Below.stay ((Below.refl _ _).alloc (Nat.le_refl _) _))
 refine ⟨h1, h2, h3, h4, h5, ((h.but.touch ht (by omega)).alloc _).alloc _, ((h.res.touch ht (by omega)).alloc _).alloc _, (hp.alloc _).alloc _, ?_, ?_⟩
 ·refine NodeN.make (k := 20) (T := T) (n := 0) (KidsN.lit (l := [y, z]) (cells := #[.int .i64 y.kind, .string y.text, .int .u64 (y.num : Nat), .slice y.ka y.kn y.kc, .int .i64 z.kind, .string z.text, .int .u64 (z.num : Nat), .slice z.ka z.kn z.kc]) (.cons (h.node.step hst) (.cons (((hz.out (some Lb) fun k e => .inl (by injection e with e; omega)).lo (by omega)).step hst) .nil)) rfl ?_ (by omega) (by simp; omega) rfl (by simp)) hT ⟨by omega, by omega, by omega⟩
  show ((W.heap.push _).push _)[_]? = _
  rw [Array.getElem?_push, if_pos (by rw [Array.size_push]; omega)]
 ·show _ = _
  rw [Below.heap_alloc _ _ _ (by simp; omega), Below.heap_alloc _ _ _ (by omega), ht.block _ (by omega)]
  exact h.sig
theorem level_any {F : Nat} {p : List M.Tok -> M.Res M.Tree} {k most : Nat} (HP : PC hi R N vTree F p) (HF : ∀ args w, (callFunc F args).run Tryz.prog w = .ok (.enter F args) w) (hl : Less p) (hm0 : 0 < most) (hk : k = 3 -> most = 1) (hk2 : k ≠ 3 -> 20000 <= most) (hmb : most <= 20000) (signs : List ByteArray) (hsg : signs.map M.bs = M.signsL k) (hsl : signs.length <= 2) (sb c : Nat) (w : World) (ts : List M.Tok) (h : PS hi R N w ts) (hS : SB w sb signs) (hsb : hi <= sb)
  (hne : ((p ts).bind fun n r => M.pLoop p k c n r) ≠ .out) :
  Calls Tryz.prog 164 #[.pointer (some ⟨R, 0, none⟩), .int .i64 (most : Nat), .func (.func F) #[.pointer (some ⟨R, 0, none⟩)] #[], .slice (some ⟨sb, 0, none⟩) signs.length signs.length] w (PEnd hi R N vTree w ((p ts).bind fun n r => M.pLoop p k c n r)) := by
 have hud := hud9
 have HO := Lib.hid fun w ts (h : PS hi R N w ts) (hne : p ts ≠ .out) => HP w ts h hne
 have HR := Lib.hid (show R < hi /\ hi <= w.heap.size /\ ts.length <= 20000 from ⟨h.1, h.2.1, by obtain ⟨_, _, _, _, _, _, _, _, _, _, _, h9, _⟩ := h; exact h9⟩)
 have HH := Lib.hid h
 have HSB := Lib.hid hS
 have HSL := Lib.hid hsl
 have HSG := Lib.hid hsg
 have HK := Lib.hid hk
 have HK2 := Lib.hid hk2
 have HLE := Lib.hid hl
 have HSN := Lib.hid (show ∀ j, j < signs.length -> M.bs (signs.getD j ⟨#[]⟩) ∈ M.signsL k /\ M.bs (signs.getD j ⟨#[]⟩) ≠ [] from fun j hj => by
  have hmem : M.bs (signs.getD j ⟨#[]⟩) ∈ signs.map M.bs := List.mem_map.2 ⟨_, by rw [List.getD_eq_getElem?_getD, List.getElem?_eq_getElem hj]; exact List.getElem_mem hj, rfl⟩
  rw [hsg] at hmem
  refine ⟨hmem, fun e => ?_⟩
  rw [e] at hmem
  revert hmem
  unfold M.signsL
  split <;> simp)
 have HSZ := Lib.hid (show ∀ j, j < signs.length -> (signs.getD j ⟨#[]⟩).size <= 20000 from fun j hj => by
  rw [<- M.bs_len]
  have hb := (HSN.out j hj).1
  have key : ∀ s ∈ M.signsL k, s.length <= 20000 := by
   unfold M.signsL
   split <;> decide
  exact key _ hb)
 clear hsl hsg hk hk2 hl hS HP
 cases hpt : p ts with
 | out => exact absurd (by rw [hpt]; rfl) hne
 | bad r =>
  have HPT := Lib.hid hpt
  have hno : p ts ≠ .out := by rw [hpt]; simp
  have HOT := Lib.hid (HO.out _ _ (h.alloc (.cells #[.int .i64 0, .string ⟨#[]⟩, .int .u64 0, .slice none 0 0] 25)) hno)
  rw [hpt] at HOT
  clear hne hno hpt h
  go_enter Tryz.func164, Tryz.ntmps164
  go_wp2_with fail
  go_step3
  go_wp2_with fail
  (with_reducible refine (HOT.out).mono ?_)
  rintro e w1 ⟨he, hb⟩
  unfold pv at he
  subst he
  have HB := Lib.hid (((But.refl R w).alloc _).trans hb)
  clear hb
  go_wp2_with fail
  exact ⟨rfl, rfl, HB.out⟩
 | ok n0 r0 =>
  have hr0 := HLE.out _ _ _ hpt
  have hno : p ts ≠ .out := by rw [hpt]; simp
  have HOT := Lib.hid (HO.out _ _ (h.alloc (.cells #[.int .i64 0, .string ⟨#[]⟩, .int .u64 0, .slice none 0 0] 25)) hno)
  rw [hpt] at HOT
  try rw [hpt] at hne
  rw [M.Res.bind_ok] at hne ⊢
  obtain ⟨X, eX⟩ : ∃ X, X = M.pLoop p k c n0 r0 := ⟨_, rfl⟩
  rw [<- eX] at hne ⊢
  have HI0 := Lib.hid (show LvI p k most X 0 n0 r0 from .inr ⟨c, eX, fun h3 => by have := HK2.out h3; have := HR.out; omega, fun _ => rfl⟩)
  have HX := Lib.hid hne
  clear eX hne hno hpt hr0 h
  go_enter Tryz.func164, Tryz.ntmps164
  go_wp2_with fail
  go_step3
  go_wp2_with fail
  (with_reducible refine (HOT.out).mono ?_)
  rintro e w1 ⟨⟨v, rfl, hv⟩, hp1, hb1⟩
  obtain ⟨x, rfl⟩ := hv.v9e
  have S0 := Lib.hid (show LvS hi R sb w1.heap.size signs w n0 x (w1.alloc (.cells #[.int .i64 x.kind, .string x.text, .int .u64 (x.num : Nat), .slice x.ka x.kn x.kc] 25)) by
   have h1 := HR.out
   have h2 := HSB.out.lt
   have h3 := hb1.size
   have hs : (w.alloc (.cells #[.int .i64 0, .string ⟨#[]⟩, .int .u64 0, .slice none 0 0] 25)).heap.size = w.heap.size + 1 := by simp
   rw [hs] at h3 hv
   refine ⟨h1.1, h1.2.1, by omega, hsb, h2, (((But.refl R w).alloc _).trans hb1).alloc _, ((Box9.start w V9.no).but hb1 (by omega)).alloc _, Box9.start _ _, ?_, ?_⟩
   ·refine ((hv.out (some w1.heap.size) fun k e => .inr (by injection e with e; omega)).lo (by omega)).step (Below.stay ((Below.refl _ _).alloc (Nat.le_refl _) _))
   ·show _ = _
    rw [Below.heap_alloc _ _ _ (by omega), hb1.block _ (by rw [hs]; omega) (by omega), Below.heap_alloc _ _ _ h2]
    exact HSB.out)
  have P0 := Lib.hid (hp1.alloc (.cells #[.int .i64 x.kind, .string x.text, .int .u64 (x.num : Nat), .slice x.ka x.kn x.kc] 25))
  clear hv hp1 hb1
  go_wp2_with fail
  go_step3
  go_wp2_with fail
  obtain ⟨Lb, eLb⟩ : ∃ L, L = w1.heap.size := ⟨_, rfl⟩
  rw [<- eLb] at S0 ⊢
  clear eLb
  go_loopg [16] most (fun g s16 wr => ∃ (i : Nat) (n : M.Tree) (r : List M.Tok) (x : V9), i + g = most /\ s16 = .int .i64 i /\ LvS hi R sb Lb signs w n x wr /\ PS hi R N wr r /\ LvI p k most X i n r)
  case atStart => exact ⟨0, n0, r0, x, by omega, rfl, S0.out, P0.out, HI0.out⟩
  case round =>
   obtain ⟨i, n, r, y, hig, rfl, hs, hp, hv⟩ := hrel
   have HS := Lib.hid hs
   have HPS := Lib.hid hp
   have HV := Lib.hid hv
   obtain ⟨l0, l1, l2, l3⟩ := hs.left.c
   obtain ⟨q0, q1, q2, q3⟩ := hs.res.c
   obtain ⟨z0, z1, z2, z3⟩ := hs.res.fz
   clear hs hp hv
   cases gk with
   | zero =>
    have hni : ¬ ((i : Int) < (most : Int)) := by omega
    go_wp2_with fail
    refine bodyPost_ret (v := .agg #[.int .i64 y.kind, .string y.text, .int .u64 (y.num : Nat), .slice y.ka y.kn y.kc]) (by simp [results, Tryz.results164, go_sem, q0, q1, q2, q3]) rfl ?_
    rw [(show LvI p k most X most n r by have := HV.out; rwa [show i = most by omega] at this).done HX.out hm0]
    exact tree_end _ _ _ HR.out.2.1 HS.out.but HS.out.node HPS.out
   | succ g =>
    have hni : (i : Int) < (most : Int) := by omega
    clear l0 l1 l2 l3 q0 q1 q2 q3 z0 z1 z2 z3
    go_wp2_with fail
    go_loopg [20] signs.length (fun g2 s20 wy => ∃ j : Nat, j + g2 = signs.length /\ s20 = .int .i64 j /\ LvS hi R sb Lb signs w n y wy /\ PS hi R N wy r /\ (∀ q, q < j -> M.headT r ≠ M.bs (signs.getD q ⟨#[]⟩)))
    case atStart => exact ⟨0, by omega, rfl, HS.out, HPS.out, fun q hq => absurd hq (Nat.not_lt_zero q)⟩
    case round =>
     obtain ⟨j, hjg, rfl, hs2, hp2, hno2⟩ := hrel
     have HS2 := Lib.hid hs2
     have HP2 := Lib.hid hp2
     have HNO := Lib.hid hno2
     clear hs2 hp2 hno2 HS HPS
     cases gk with
     | zero =>
      have hnj : ¬ ((j : Int) < (signs.length : Int)) := by omega
      obtain ⟨l0, l1, l2, l3⟩ := HS2.out.left.c
      obtain ⟨q0, q1, q2, q3⟩ := HS2.out.res.c
      obtain ⟨z0, z1, z2, z3⟩ := HS2.out.res.fz
      go_wp2_with fail
      refine bodyPost_ret (v := .agg #[.int .i64 y.kind, .string y.text, .int .u64 (y.num : Nat), .slice y.ka y.kn y.kc]) (by simp [results, Tryz.results164, go_sem, q0, q1, q2, q3]) rfl ?_
      rw [HV.out.open (by omega) HX.out (by
       rw [HP2.out.sign, if_neg]
       rw [<- HSG.out]
       intro hmem
       obtain ⟨s, hs, he⟩ := List.mem_map.1 hmem
       obtain ⟨q, hq, rfl⟩ := List.getElem_of_mem hs
       refine HNO.out q (by omega) ?_
       rw [List.getD_eq_getElem?_getD, List.getElem?_eq_getElem hq]
       exact he.symm)]
      exact tree_end _ _ _ HR.out.2.1 HS2.out.but HS2.out.node HP2.out
     | succ g2 =>
      have hnj : (j : Int) < (signs.length : Int) := by omega
      have hjl : j < signs.length := by omega
      have hsl2 := HSL.out
      obtain ⟨T, eT⟩ : ∃ T, T = signs.getD j ⟨#[]⟩ := ⟨_, rfl⟩
      have hc := HS2.out.sig.c j hjl
      rw [<- eT] at hc
      have hc0 : wr.cell? ⟨sb, 0 + j, none⟩ = some (.string T) := by rw [Nat.zero_add]; exact hc
      have HT := Lib.hid eT
      have HTS := Lib.hid (show T.size <= 20000 by rw [eT]; exact HSZ.out _ hjl)
      have AC := Lib.hid (accept_any HP2.out T rfl (by rw [HT.out]; exact (HSN.out j hjl).2))
      clear eT
      by_cases he : M.headT r = M.bs T
      ·rw [decide_eq_true he, if_pos he] at AC
       have HE := Lib.hid he
       clear he
       go_wp2_with fail
       (with_reducible refine (AC.out).mono ?_)
       rintro e w2 ⟨rfl, hp3, hb3⟩
       have HS3 := Lib.hid (HS2.out.next hb3)
       have hsg : M.signAt k r = some (M.headT r) := by
        rw [HP2.out.sign, if_pos]
        rw [HE.out, HT.out]
        exact (HSN.out j hjl).1
       obtain ⟨m1, m2, m3⟩ := HV.out.more (by omega) HX.out hsg HLE.out HK.out
       have HO2 := Lib.hid (HO.out _ _ hp3 m1)
       have M1 := Lib.hid m1
       clear hp3 hb3 hsg m1
       cases hpr : p r.tail with
       | out => exact absurd hpr M1.out
       | bad r2 =>
        rw [hpr] at HO2
        have HX3 := Lib.hid (m3 r2 hpr)
        clear m2 m3 hpr
        go_wp2_with fail
        (with_reducible refine (HO2.out).mono ?_)
        rintro e w3 ⟨he, hb4⟩
        unfold pv at he
        subst he
        have HB4 := Lib.hid (HS3.out.but.trans hb4)
        clear hb4
        go_wp2_with fail
        rw [HX3.out]
        exact ⟨rfl, rfl, HB4.out⟩
       | ok m r2 =>
        rw [hpr] at HO2
        have HV3 := Lib.hid (m2 m r2 hpr)
        clear m2 m3 hpr
        go_wp2_with fail
        (with_reducible refine (HO2.out).mono ?_)
        rintro e w3 ⟨⟨v, rfl, hv⟩, hp4, hb4⟩
        obtain ⟨z, rfl⟩ := hv.v9e
        have HS4 := Lib.hid (HS3.out.next hb4)
        have HP4 := Lib.hid hp4
        have HN4 := Lib.hid hv
        have HB4 := Lib.hid hb4
        obtain ⟨l0, l1, l2, l3⟩ := HS4.out.left.c
        obtain ⟨z0, z1, z2, z3⟩ := HS4.out.left.fz
        have hlt := HS4.out.left.lt
        have hlt1 : Lb < w3.heap.size + 1 := by omega
        clear hv hp4 hb4
        go_wp2_with fail
        go_roundg g
        case measure => omega
        case rel => exact ⟨i + 1, _, r2, ⟨20, T, 0, some ⟨w3.heap.size + 1, 0, none⟩, 2, 2⟩, by omega, by go_num, HS4.out.join HN4.out HS3.out.left.lt HE.out.symm HTS.out, ((HP4.out.touch (put9_touch w3 Lb 20 T (0 : Nat) (.slice (some ⟨w3.heap.size + 1, 0, none⟩) 2 2)) (by have := HR.out; have := HS4.out.hL; omega)).alloc _).alloc _, HV3.out⟩
      ·rw [decide_eq_false he, if_neg he] at AC
       have HE := Lib.hid he
       clear he
       go_wp2_with fail
       (with_reducible refine (AC.out).mono ?_)
       rintro e w2 ⟨rfl, hp3, hb3⟩
       have HP3 := Lib.hid hp3
       have HB3 := Lib.hid hb3
       clear hp3 hb3
       go_wp2_with fail
       go_roundg g2
       case measure => omega
       case rel => exact ⟨j + 1, by omega, by have := HSL.out; go_num, HS2.out.next HB3.out, HP3.out, fun q hq => by
        rcases Nat.lt_succ_iff_lt_or_eq.1 hq with h | rfl
        ·exact HNO.out q h
        ·rw [<- HT.out]; exact HE.out⟩
end Go.Proofs.YtngpedcihajepaaGreatDoor
namespace Go.Proofs.YtngpedcihajepaaGreatDoor
open Go.RowKit
variable {hi R N : Nat}
theorem expr_any {p : List M.Tok -> M.Res M.Tree} (HP : PC hi R N vTree 165 p) (hl : Less p) (c : Nat) : PC hi R N vTree 147 (fun l => (p l).bind fun n r => M.pLoop p 0 c n r) := by
 intro w ts h hne
 have hud := hud9
 have HR := Lib.hid (show R < hi /\ hi <= w.heap.size from ⟨h.1, h.2.1⟩)
 obtain ⟨X, eX⟩ : ∃ X, X = (p ts).bind fun n r => M.pLoop p 0 c n r := ⟨_, rfl⟩
 show Calls _ _ _ _ (PEnd hi R N vTree w ((p ts).bind fun n r => M.pLoop p 0 c n r))
 have C1 := Lib.hid (level_any HP (fun args w => Tryz.call165 args w) hl (most := 20000) (by decide) (by decide) (by decide) (by decide) [⟨#[124]⟩] (k := 0) (by decide) (by decide) (w.heap.size + 1) c ((w.alloc (.cells #[.int .i64 0, .string ⟨#[]⟩, .int .u64 0, .slice none 0 0] 25)).alloc (.cells #[.string ⟨#[124]⟩] 9)) ts ((h.alloc _).alloc _) (by
  show (((w.heap.push _).push _)[_]?) = _
  rw [Array.getElem?_push, if_pos (by rw [Array.size_push])]
  rfl) (by have := HR.out; omega) hne)
 rw [<- eX] at C1 ⊢
 clear eX hne h
 go_enter Tryz.func147, Tryz.ntmps147
 go_wp2_with fail
 refine (C1.out).mono ?_
 intro e w1 hE
 have SZ : ((w.alloc (.cells #[.int .i64 0, .string ⟨#[]⟩, .int .u64 0, .slice none 0 0] 25)).alloc (.cells #[.string ⟨#[124]⟩] 9)).heap.size = w.heap.size + 2 := by simp
 rcases M.Res.em X with hk | ⟨r1, hk⟩ | ⟨a1, r1, hk⟩
 ·rw [hk] at hE; exact hE.elim
 ·rw [hk] at hE
  have HK := Lib.hid hk
  obtain ⟨he, hb⟩ := hE
  unfold pv at he
  subst he
  have HB := Lib.hid ((((But.refl R w).alloc _).alloc _).trans hb)
  clear hb hk
  go_wp2_with fail
  rw [HK.out]
  exact ⟨rfl, rfl, HB.out⟩
 rw [hk] at hE
 have HK := Lib.hid hk
 obtain ⟨⟨v, he, hv⟩, hp, hb⟩ := hE
 subst he
 obtain ⟨x, rfl⟩ := hv.v9e
 have RES := Lib.hid (((Box9.start w V9.no).alloc (.cells #[.string ⟨#[124]⟩] 9)).but hb (by have := HR.out; omega))
 have T1 := Lib.hid (hv.lo (show w.heap.size + 1 <= _ by rw [SZ]; omega))
 have P1 := Lib.hid hp
 have B1 := Lib.hid ((((But.refl R w).alloc _).alloc _).trans hb)
 clear hv hp hb hk SZ
 obtain ⟨q0, q1, q2, q3⟩ := RES.out.c
 obtain ⟨z0, z1, z2, z3⟩ := RES.out.fz
 have lr0 := RES.out.lt
 go_wp2_with fail
 refine bodyPost_ret (v := .agg #[.int .i64 x.kind, .string x.text, .int .u64 (x.num : Nat), .slice x.ka x.kn x.kc]) (by simp [results, Tryz.results147, go_sem, q0, q1, q2, q3]) rfl ?_
 rw [HK.out]
 exact tree_end _ _ _ HR.out.2 B1.out T1.out P1.out
theorem xors_any {p : List M.Tok -> M.Res M.Tree} (HP : PC hi R N vTree 173 p) (hl : Less p) (c : Nat) : PC hi R N vTree 165 (fun l => (p l).bind fun n r => M.pLoop p 1 c n r) := by
 intro w ts h hne
 have hud := hud9
 have HR := Lib.hid (show R < hi /\ hi <= w.heap.size from ⟨h.1, h.2.1⟩)
 obtain ⟨X, eX⟩ : ∃ X, X = (p ts).bind fun n r => M.pLoop p 1 c n r := ⟨_, rfl⟩
 show Calls _ _ _ _ (PEnd hi R N vTree w ((p ts).bind fun n r => M.pLoop p 1 c n r))
 have C1 := Lib.hid (level_any HP (fun args w => Tryz.call173 args w) hl (most := 20000) (by decide) (by decide) (by decide) (by decide) [⟨#[94]⟩] (k := 1) (by decide) (by decide) (w.heap.size + 1) c ((w.alloc (.cells #[.int .i64 0, .string ⟨#[]⟩, .int .u64 0, .slice none 0 0] 25)).alloc (.cells #[.string ⟨#[94]⟩] 9)) ts ((h.alloc _).alloc _) (by
  show (((w.heap.push _).push _)[_]?) = _
  rw [Array.getElem?_push, if_pos (by rw [Array.size_push])]
  rfl) (by have := HR.out; omega) hne)
 rw [<- eX] at C1 ⊢
 clear eX hne h
 go_enter Tryz.func165, Tryz.ntmps165
 go_wp2_with fail
 refine (C1.out).mono ?_
 intro e w1 hE
 have SZ : ((w.alloc (.cells #[.int .i64 0, .string ⟨#[]⟩, .int .u64 0, .slice none 0 0] 25)).alloc (.cells #[.string ⟨#[94]⟩] 9)).heap.size = w.heap.size + 2 := by simp
 rcases M.Res.em X with hk | ⟨r1, hk⟩ | ⟨a1, r1, hk⟩
 ·rw [hk] at hE; exact hE.elim
 ·rw [hk] at hE
  have HK := Lib.hid hk
  obtain ⟨he, hb⟩ := hE
  unfold pv at he
  subst he
  have HB := Lib.hid ((((But.refl R w).alloc _).alloc _).trans hb)
  clear hb hk
  go_wp2_with fail
  rw [HK.out]
  exact ⟨rfl, rfl, HB.out⟩
 rw [hk] at hE
 have HK := Lib.hid hk
 obtain ⟨⟨v, he, hv⟩, hp, hb⟩ := hE
 subst he
 obtain ⟨x, rfl⟩ := hv.v9e
 have RES := Lib.hid (((Box9.start w V9.no).alloc (.cells #[.string ⟨#[94]⟩] 9)).but hb (by have := HR.out; omega))
 have T1 := Lib.hid (hv.lo (show w.heap.size + 1 <= _ by rw [SZ]; omega))
 have P1 := Lib.hid hp
 have B1 := Lib.hid ((((But.refl R w).alloc _).alloc _).trans hb)
 clear hv hp hb hk SZ
 obtain ⟨q0, q1, q2, q3⟩ := RES.out.c
 obtain ⟨z0, z1, z2, z3⟩ := RES.out.fz
 have lr0 := RES.out.lt
 go_wp2_with fail
 refine bodyPost_ret (v := .agg #[.int .i64 x.kind, .string x.text, .int .u64 (x.num : Nat), .slice x.ka x.kn x.kc]) (by simp [results, Tryz.results165, go_sem, q0, q1, q2, q3]) rfl ?_
 rw [HK.out]
 exact tree_end _ _ _ HR.out.2 B1.out T1.out P1.out
theorem ands_any {p : List M.Tok -> M.Res M.Tree} (HP : PC hi R N vTree 182 p) (hl : Less p) (c : Nat) : PC hi R N vTree 173 (fun l => (p l).bind fun n r => M.pLoop p 2 c n r) := by
 intro w ts h hne
 have hud := hud9
 have HR := Lib.hid (show R < hi /\ hi <= w.heap.size from ⟨h.1, h.2.1⟩)
 obtain ⟨X, eX⟩ : ∃ X, X = (p ts).bind fun n r => M.pLoop p 2 c n r := ⟨_, rfl⟩
 show Calls _ _ _ _ (PEnd hi R N vTree w ((p ts).bind fun n r => M.pLoop p 2 c n r))
 have C1 := Lib.hid (level_any HP (fun args w => Tryz.call182 args w) hl (most := 20000) (by decide) (by decide) (by decide) (by decide) [⟨#[38]⟩] (k := 2) (by decide) (by decide) (w.heap.size + 1) c ((w.alloc (.cells #[.int .i64 0, .string ⟨#[]⟩, .int .u64 0, .slice none 0 0] 25)).alloc (.cells #[.string ⟨#[38]⟩] 9)) ts ((h.alloc _).alloc _) (by
  show (((w.heap.push _).push _)[_]?) = _
  rw [Array.getElem?_push, if_pos (by rw [Array.size_push])]
  rfl) (by have := HR.out; omega) hne)
 rw [<- eX] at C1 ⊢
 clear eX hne h
 go_enter Tryz.func173, Tryz.ntmps173
 go_wp2_with fail
 refine (C1.out).mono ?_
 intro e w1 hE
 have SZ : ((w.alloc (.cells #[.int .i64 0, .string ⟨#[]⟩, .int .u64 0, .slice none 0 0] 25)).alloc (.cells #[.string ⟨#[38]⟩] 9)).heap.size = w.heap.size + 2 := by simp
 rcases M.Res.em X with hk | ⟨r1, hk⟩ | ⟨a1, r1, hk⟩
 ·rw [hk] at hE; exact hE.elim
 ·rw [hk] at hE
  have HK := Lib.hid hk
  obtain ⟨he, hb⟩ := hE
  unfold pv at he
  subst he
  have HB := Lib.hid ((((But.refl R w).alloc _).alloc _).trans hb)
  clear hb hk
  go_wp2_with fail
  rw [HK.out]
  exact ⟨rfl, rfl, HB.out⟩
 rw [hk] at hE
 have HK := Lib.hid hk
 obtain ⟨⟨v, he, hv⟩, hp, hb⟩ := hE
 subst he
 obtain ⟨x, rfl⟩ := hv.v9e
 have RES := Lib.hid (((Box9.start w V9.no).alloc (.cells #[.string ⟨#[38]⟩] 9)).but hb (by have := HR.out; omega))
 have T1 := Lib.hid (hv.lo (show w.heap.size + 1 <= _ by rw [SZ]; omega))
 have P1 := Lib.hid hp
 have B1 := Lib.hid ((((But.refl R w).alloc _).alloc _).trans hb)
 clear hv hp hb hk SZ
 obtain ⟨q0, q1, q2, q3⟩ := RES.out.c
 obtain ⟨z0, z1, z2, z3⟩ := RES.out.fz
 have lr0 := RES.out.lt
 go_wp2_with fail
 refine bodyPost_ret (v := .agg #[.int .i64 x.kind, .string x.text, .int .u64 (x.num : Nat), .slice x.ka x.kn x.kc]) (by simp [results, Tryz.results173, go_sem, q0, q1, q2, q3]) rfl ?_
 rw [HK.out]
 exact tree_end _ _ _ HR.out.2 B1.out T1.out P1.out
theorem compared_any {p : List M.Tok -> M.Res M.Tree} (HP : PC hi R N vTree 186 p) (hl : Less p) (c : Nat) : PC hi R N vTree 182 (fun l => (p l).bind fun n r => M.pLoop p 3 c n r) := by
 intro w ts h hne
 have hud := hud9
 have HR := Lib.hid (show R < hi /\ hi <= w.heap.size from ⟨h.1, h.2.1⟩)
 obtain ⟨X, eX⟩ : ∃ X, X = (p ts).bind fun n r => M.pLoop p 3 c n r := ⟨_, rfl⟩
 show Calls _ _ _ _ (PEnd hi R N vTree w ((p ts).bind fun n r => M.pLoop p 3 c n r))
 have C1 := Lib.hid (level_any HP (fun args w => Tryz.call186 args w) hl (most := 1) (by decide) (by decide) (by decide) (by decide) [⟨#[61, 61]⟩, ⟨#[60]⟩] (k := 3) (by decide) (by decide) (w.heap.size + 1) c ((w.alloc (.cells #[.int .i64 0, .string ⟨#[]⟩, .int .u64 0, .slice none 0 0] 25)).alloc (.cells #[.string ⟨#[61, 61]⟩, .string ⟨#[60]⟩] 9)) ts ((h.alloc _).alloc _) (by
  show (((w.heap.push _).push _)[_]?) = _
  rw [Array.getElem?_push, if_pos (by rw [Array.size_push])]
  rfl) (by have := HR.out; omega) hne)
 rw [<- eX] at C1 ⊢
 clear eX hne h
 go_enter Tryz.func182, Tryz.ntmps182
 go_wp2_with fail
 refine (C1.out).mono ?_
 intro e w1 hE
 have SZ : ((w.alloc (.cells #[.int .i64 0, .string ⟨#[]⟩, .int .u64 0, .slice none 0 0] 25)).alloc (.cells #[.string ⟨#[61, 61]⟩, .string ⟨#[60]⟩] 9)).heap.size = w.heap.size + 2 := by simp
 rcases M.Res.em X with hk | ⟨r1, hk⟩ | ⟨a1, r1, hk⟩
 ·rw [hk] at hE; exact hE.elim
 ·rw [hk] at hE
  have HK := Lib.hid hk
  obtain ⟨he, hb⟩ := hE
  unfold pv at he
  subst he
  have HB := Lib.hid ((((But.refl R w).alloc _).alloc _).trans hb)
  clear hb hk
  go_wp2_with fail
  rw [HK.out]
  exact ⟨rfl, rfl, HB.out⟩
 rw [hk] at hE
 have HK := Lib.hid hk
 obtain ⟨⟨v, he, hv⟩, hp, hb⟩ := hE
 subst he
 obtain ⟨x, rfl⟩ := hv.v9e
 have RES := Lib.hid (((Box9.start w V9.no).alloc (.cells #[.string ⟨#[61, 61]⟩, .string ⟨#[60]⟩] 9)).but hb (by have := HR.out; omega))
 have T1 := Lib.hid (hv.lo (show w.heap.size + 1 <= _ by rw [SZ]; omega))
 have P1 := Lib.hid hp
 have B1 := Lib.hid ((((But.refl R w).alloc _).alloc _).trans hb)
 clear hv hp hb hk SZ
 obtain ⟨q0, q1, q2, q3⟩ := RES.out.c
 obtain ⟨z0, z1, z2, z3⟩ := RES.out.fz
 have lr0 := RES.out.lt
 go_wp2_with fail
 refine bodyPost_ret (v := .agg #[.int .i64 x.kind, .string x.text, .int .u64 (x.num : Nat), .slice x.ka x.kn x.kc]) (by simp [results, Tryz.results182, go_sem, q0, q1, q2, q3]) rfl ?_
 rw [HK.out]
 exact tree_end _ _ _ HR.out.2 B1.out T1.out P1.out
theorem sum_any {p : List M.Tok -> M.Res M.Tree} (HP : PC hi R N vTree 187 p) (hl : Less p) (c : Nat) : PC hi R N vTree 186 (fun l => (p l).bind fun n r => M.pLoop p 4 c n r) := by
 intro w ts h hne
 have hud := hud9
 have HR := Lib.hid (show R < hi /\ hi <= w.heap.size from ⟨h.1, h.2.1⟩)
 obtain ⟨X, eX⟩ : ∃ X, X = (p ts).bind fun n r => M.pLoop p 4 c n r := ⟨_, rfl⟩
 show Calls _ _ _ _ (PEnd hi R N vTree w ((p ts).bind fun n r => M.pLoop p 4 c n r))
 have C1 := Lib.hid (level_any HP (fun args w => Tryz.call187 args w) hl (most := 20000) (by decide) (by decide) (by decide) (by decide) [⟨#[43]⟩, ⟨#[45]⟩] (k := 4) (by decide) (by decide) (w.heap.size + 1) c ((w.alloc (.cells #[.int .i64 0, .string ⟨#[]⟩, .int .u64 0, .slice none 0 0] 25)).alloc (.cells #[.string ⟨#[43]⟩, .string ⟨#[45]⟩] 9)) ts ((h.alloc _).alloc _) (by
  show (((w.heap.push _).push _)[_]?) = _
  rw [Array.getElem?_push, if_pos (by rw [Array.size_push])]
  rfl) (by have := HR.out; omega) hne)
 rw [<- eX] at C1 ⊢
 clear eX hne h
 go_enter Tryz.func186, Tryz.ntmps186
 go_wp2_with fail
 refine (C1.out).mono ?_
 intro e w1 hE
 have SZ : ((w.alloc (.cells #[.int .i64 0, .string ⟨#[]⟩, .int .u64 0, .slice none 0 0] 25)).alloc (.cells #[.string ⟨#[43]⟩, .string ⟨#[45]⟩] 9)).heap.size = w.heap.size + 2 := by simp
 rcases M.Res.em X with hk | ⟨r1, hk⟩ | ⟨a1, r1, hk⟩
 ·rw [hk] at hE; exact hE.elim
 ·rw [hk] at hE
  have HK := Lib.hid hk
  obtain ⟨he, hb⟩ := hE
  unfold pv at he
  subst he
  have HB := Lib.hid ((((But.refl R w).alloc _).alloc _).trans hb)
  clear hb hk
  go_wp2_with fail
  rw [HK.out]
  exact ⟨rfl, rfl, HB.out⟩
 rw [hk] at hE
 have HK := Lib.hid hk
 obtain ⟨⟨v, he, hv⟩, hp, hb⟩ := hE
 subst he
 obtain ⟨x, rfl⟩ := hv.v9e
 have RES := Lib.hid (((Box9.start w V9.no).alloc (.cells #[.string ⟨#[43]⟩, .string ⟨#[45]⟩] 9)).but hb (by have := HR.out; omega))
 have T1 := Lib.hid (hv.lo (show w.heap.size + 1 <= _ by rw [SZ]; omega))
 have P1 := Lib.hid hp
 have B1 := Lib.hid ((((But.refl R w).alloc _).alloc _).trans hb)
 clear hv hp hb hk SZ
 obtain ⟨q0, q1, q2, q3⟩ := RES.out.c
 obtain ⟨z0, z1, z2, z3⟩ := RES.out.fz
 have lr0 := RES.out.lt
 go_wp2_with fail
 refine bodyPost_ret (v := .agg #[.int .i64 x.kind, .string x.text, .int .u64 (x.num : Nat), .slice x.ka x.kn x.kc]) (by simp [results, Tryz.results186, go_sem, q0, q1, q2, q3]) rfl ?_
 rw [HK.out]
 exact tree_end _ _ _ HR.out.2 B1.out T1.out P1.out
theorem product_any {p : List M.Tok -> M.Res M.Tree} (HP : PC hi R N vTree 188 p) (hl : Less p) (c : Nat) : PC hi R N vTree 187 (fun l => (p l).bind fun n r => M.pLoop p 5 c n r) := by
 intro w ts h hne
 have hud := hud9
 have HR := Lib.hid (show R < hi /\ hi <= w.heap.size from ⟨h.1, h.2.1⟩)
 obtain ⟨X, eX⟩ : ∃ X, X = (p ts).bind fun n r => M.pLoop p 5 c n r := ⟨_, rfl⟩
 show Calls _ _ _ _ (PEnd hi R N vTree w ((p ts).bind fun n r => M.pLoop p 5 c n r))
 have C1 := Lib.hid (level_any HP (fun args w => Tryz.call188 args w) hl (most := 20000) (by decide) (by decide) (by decide) (by decide) [⟨#[42]⟩] (k := 5) (by decide) (by decide) (w.heap.size + 1) c ((w.alloc (.cells #[.int .i64 0, .string ⟨#[]⟩, .int .u64 0, .slice none 0 0] 25)).alloc (.cells #[.string ⟨#[42]⟩] 9)) ts ((h.alloc _).alloc _) (by
  show (((w.heap.push _).push _)[_]?) = _
  rw [Array.getElem?_push, if_pos (by rw [Array.size_push])]
  rfl) (by have := HR.out; omega) hne)
 rw [<- eX] at C1 ⊢
 clear eX hne h
 go_enter Tryz.func187, Tryz.ntmps187
 go_wp2_with fail
 refine (C1.out).mono ?_
 intro e w1 hE
 have SZ : ((w.alloc (.cells #[.int .i64 0, .string ⟨#[]⟩, .int .u64 0, .slice none 0 0] 25)).alloc (.cells #[.string ⟨#[42]⟩] 9)).heap.size = w.heap.size + 2 := by simp
 rcases M.Res.em X with hk | ⟨r1, hk⟩ | ⟨a1, r1, hk⟩
 ·rw [hk] at hE; exact hE.elim
 ·rw [hk] at hE
  have HK := Lib.hid hk
  obtain ⟨he, hb⟩ := hE
  unfold pv at he
  subst he
  have HB := Lib.hid ((((But.refl R w).alloc _).alloc _).trans hb)
  clear hb hk
  go_wp2_with fail
  rw [HK.out]
  exact ⟨rfl, rfl, HB.out⟩
 rw [hk] at hE
 have HK := Lib.hid hk
 obtain ⟨⟨v, he, hv⟩, hp, hb⟩ := hE
 subst he
 obtain ⟨x, rfl⟩ := hv.v9e
 have RES := Lib.hid (((Box9.start w V9.no).alloc (.cells #[.string ⟨#[42]⟩] 9)).but hb (by have := HR.out; omega))
 have T1 := Lib.hid (hv.lo (show w.heap.size + 1 <= _ by rw [SZ]; omega))
 have P1 := Lib.hid hp
 have B1 := Lib.hid ((((But.refl R w).alloc _).alloc _).trans hb)
 clear hv hp hb hk SZ
 obtain ⟨q0, q1, q2, q3⟩ := RES.out.c
 obtain ⟨z0, z1, z2, z3⟩ := RES.out.fz
 have lr0 := RES.out.lt
 go_wp2_with fail
 refine bodyPost_ret (v := .agg #[.int .i64 x.kind, .string x.text, .int .u64 (x.num : Nat), .slice x.ka x.kn x.kc]) (by simp [results, Tryz.results187, go_sem, q0, q1, q2, q3]) rfl ?_
 rw [HK.out]
 exact tree_end _ _ _ HR.out.2 B1.out T1.out P1.out
end Go.Proofs.YtngpedcihajepaaGreatDoor
namespace Go.Proofs.YtngpedcihajepaaGreatDoor
open Go.RowKit
theorem infoNode : (Tryz.prog.info? 25).map (fun i => (i.zero, i.size, i.bytes)) = some (some (.agg #[.int .i64 0, .string ⟨#[]⟩, .int .u64 0, .slice none 0 0]), 4, 56) := by kernel_rfl
theorem infoNode2 : ∃ i, Tryz.prog.info? 25 = some i /\ i.zero = some (.agg #[.int .i64 0, .string ⟨#[]⟩, .int .u64 0, .slice none 0 0]) /\ i.size = 4 /\ i.bytes = 56 := by
 have h := infoNode
 cases hq : Tryz.prog.info? 25 with
 | none => rw [hq] at h; cases h
 | some i => rw [hq] at h; simp only [Option.map_some, Option.some.injEq, Prod.mk.injEq] at h; exact ⟨i, rfl, h.1, h.2.1, h.2.2⟩
theorem nodeCells_one : ∀ (l : List V9) (u : Value), u ∈ nodeCells l -> u.oneCell' = true
 | [], u, h => by simp [nodeCells] at h
 | x :: r, u, h => by
  simp only [nodeCells, List.mem_cons] at h
  rcases h with rfl | rfl | rfl | rfl | h
  ·rfl
  ·rfl
  ·rfl
  ·rfl
  ·exact nodeCells_one r u h
theorem NodeN.grow {base : Nat} {g0 : Option Nat} {g : Nat} {w w' : World} {v : Value} {t : M.Tree} (h : NodeN base g0 w v t) (hg : w.grownBy w' g0) (hl : g0 = some g \/ g = w.heap.size) : NodeN base (some g) w' v t := by
 intro w2 h2
 refine h w2 ⟨Nat.le_trans hg.size h2.1, fun k h3 h4 h5 => ?_⟩
 rw [h2.2 k h3 (Nat.lt_of_lt_of_le h4 hg.size) (by
  rintro e
  injection e with e
  subst e
  rcases hl with hl | hl
  ·exact h5 hl.symm
  ·omega)]
 exact hg.block k h4 h5
theorem run_append_nodes (w : World) (ty : TypeId) (base : Nat) (v : Value) (ts ts2 : List M.Tree) (l2 : List V9) (ad : Addr) (m c : Nat) (hrow : RowN base w v ts) (hv2 : Vals base v.ownBlock w l2 ts2) (hcell : ∀ j u, (nodeCells l2)[j]? = some u -> w.cell? (ad.add j) = some u) (hm : m = l2.length) (h0 : 0 < m) (hl : ts.length + m <= 1000000) (hbase : base <= w.heap.size) :
  ∃ g cap w', (Builtin.append_ #[23, 23] ty #[v, .slice (some ad) m c]).run Tryz.prog w = .ok (.slice (some ⟨g, 0, none⟩) (ts.length + m) cap) w' /\ RowN base w' (.slice (some ⟨g, 0, none⟩) (ts.length + m) cap) (ts ++ ts2) /\ w.grownBy w' v.ownBlock /\ g < w'.heap.size /\ base <= g := by
 obtain ⟨l, ho, hv⟩ := hrow
 obtain ⟨i0, hi0, hz0, hz1, hz2⟩ := infoNode2
 obtain ⟨g, cap, w', hr, h2, h3, h4, h5⟩ := run_append_lies (P := Tryz.prog) w 23 ty base 25 i0 (.agg #[.int .i64 0, .string ⟨#[]⟩, .int .u64 0, .slice none 0 0]) 4 56 Tryz.underlying23 hi0 hz0 hz1 hz2 rfl (by decide) v ts.length (nodeCells l) ho ad m c (nodeCells l2) (by rw [nodeCells_len, hm]) hcell (nodeCells_one l2) h0 (by unfold maxLen; omega) (by omega) hbase w.heap.size rfl
 have hlen : (ts ++ ts2).length = ts.length + m := by rw [List.length_append, <- hv2.len, hm]
 refine ⟨g, cap, w', hr, ⟨l ++ l2, by rw [hlen, nodeCells_app]; exact h2, ?_⟩, h3, h5, (h2.lt g rfl).1⟩
 exact (hv.app hv2).map fun x t hx => hx.grow h3 h4
theorem wpList_append_nodes {w : World} {ops : Array Oper} {rest : List Oper} {o : Oper} {a : Act} {Q : Exit -> Act -> World -> Prop} (hgd : o.guard = none) (s x : Operand) (ho : o.op = .call { callee := .builtin .append, args := #[s, x], argTypes := #[23, 23] })
  (base : Nat) (v : Value) (ts ts2 : List M.Tree) (l2 : List V9) (ad : Addr) (m c : Nat) (hs : a.eval s = v) (hx : a.eval x = .slice (some ad) m c) (hrow : RowN base w v ts) (hv2 : Vals base v.ownBlock w l2 ts2) (hcell : ∀ j u, (nodeCells l2)[j]? = some u -> w.cell? (ad.add j) = some u) (hm : m = l2.length) (h0 : 0 < m) (hl : ts.length + m <= 1000000) (hbase : base <= w.heap.size)
  (h : ∀ g cap w', RowN base w' (.slice (some ⟨g, 0, none⟩) (ts.length + m) cap) (ts ++ ts2) -> w.grownBy w' v.ownBlock -> g < w'.heap.size -> base <= g -> wpList Tryz.prog ops Q rest (a.put o.dst (.slice (some ⟨g, 0, none⟩) (ts.length + m) cap)) w') : wpList Tryz.prog ops Q (o :: rest) a w :=
 wpList_plain hgd fun _ hK => by
  obtain ⟨g, cap, w', hr, h2, h3, h4, h5⟩ := run_append_nodes w o.type base v ts ts2 l2 ad m c hrow hv2 hcell hm h0 hl hbase
  unfold Oper.wp execOp
  simp only [ho, resolve, invoke, builtin, Sem.run_bind, Sem.run_pure, Result.andThen_ok, List.map_toArray, List.map_cons, List.map_nil, hs, hx, hr]
  exact hK _ _ (h g cap w' h2 h3 h4 h5)
theorem new_cells {W : World} {b : Nat} {cells : Array Value} {l : List V9} (hG : W.heap[b]? = some (.cells cells 25 (0, 0))) (hc : cells.toList = nodeCells l) : ∀ j u, (nodeCells l)[j]? = some u -> W.cell? ((⟨b, 0, none⟩ : Addr).add j) = some u := by
 intro j u hu
 rw [<- hc, Array.getElem?_toList] at hu
 rw [Addr.add_lit, Nat.zero_add]
 simp [World.cell?, hG, hu]
theorem alloc_new (W : World) (cells : Array Value) (t : TypeId) : (W.alloc (.cells cells t)).heap[W.heap.size]? = some (.cells cells t (0, 0)) := by
 show (W.heap.push _)[_]? = _
 rw [Array.getElem?_push, if_pos rfl]
theorem RowN.own {base : Nat} {w : World} {v : Value} {ts : List M.Tree} (h : RowN base w v ts) : ∀ k, v.ownBlock = some k -> base <= k /\ k < w.heap.size := by
 obtain ⟨l, ho, _⟩ := h
 intro k hk
 rcases ho.2 with ⟨rfl, _⟩ | ⟨g, cap, cur, rfl, hb, hg, _⟩
 ·cases hk
 ·have : g = k := by simpa [Value.ownBlock] using hk
  subst this
  exact ⟨hb, (Array.getElem?_eq_some_iff.1 hg).1⟩
open Go.RowKit
theorem RowN.src {base base2 : Nat} {w : World} {v2 : Value} {ts2 : List M.Tree} {g0 : Option Nat} (h : RowN base2 w v2 ts2) (hb : base <= base2) (hg : ∀ k, g0 = some k -> k < base2) (h0 : 0 < ts2.length) :
  ∃ (g c : Nat) (l2 : List V9), v2 = .slice (some ⟨g, 0, none⟩) ts2.length c /\ Vals base g0 w l2 ts2 /\ (∀ j u, (nodeCells l2)[j]? = some u -> w.cell? ((⟨g, 0, none⟩ : Addr).add j) = some u) /\ ts2.length = l2.length := by
 obtain ⟨l, ho, hv⟩ := h
 have hlen := hv.len
 have hcells := fun g hg => ho.cells (g := g) hg
 rcases ho.2 with ⟨rfl, h1⟩ | ⟨g, cap, cur, rfl, hbg, hgl, hr⟩
 ·omega
 ·refine ⟨g, cap, l, rfl, hv.map fun v t hn => (hn.all.out g0 fun k e => .inl (hg k e)).lo hb, fun j u hu => hcells g rfl j u hu, hlen.symm⟩
namespace M
def itemB (p it : List Tok -> Res Tree) (c : Nat) (l : List Tok) : Res Tree :=
 if isS [105, 110] l = true then pIn l.tail
 else if isS [108, 101, 116] l = true then pLet p l.tail
 else if isS [105, 102] l = true then pIf p it c l.tail
 else if isS [102, 111, 114] l = true then pFor p it c l.tail
 else if isS [111, 117, 116] l = true then pOut p c l.tail
 else if isS [100, 101, 102] l = true then pDef p it c l.tail
 else pSet p l
theorem item_is (f : Nat) (l : List Tok) : pItem (f + 1) l = itemB (pLevel f 0) (pItem f) f l := by rw [pItem]; rfl
def unaryB (u x : List Tok -> Res Tree) (l : List Tok) : Res Tree :=
 if isS [33] l = true then (u l.tail).bind fun n r => .ok (.node 19 [33] 0 [n]) r
 else if isS [45] l = true then (u l.tail).bind fun n r => .ok (.node 19 [45] 0 [n]) r
 else x l
theorem unary_is (f : Nat) (l : List Tok) : pUnary (f + 1) l = unaryB (pUnary f) (pIndexed (pLevel f 0) f) l := by rw [pUnary]; rfl
def pBrack (p : List Tok -> Res Tree) (c : Nat) (l : List Tok) : Res (List Tree) := (take [40] l).bind fun _ r => pArgs p c r
def namedB (p : List Tok -> Res Tree) (c : Nat) (l : List Tok) : Res Tree :=
 if nameOk (headT l) = true /\ isS [40] l.tail = false then .ok (.node 15 (headT l) 0 []) l.tail
 else (pBrack p c l.tail).bind fun k r => .ok (.node 16 (headT l) 0 k) r
def primB (p : List Tok -> Res Tree) (c : Nat) (l : List Tok) : Res Tree :=
 if isS [40] l = true then (p l.tail).bind fun n r => (take [41] r).bind fun _ r => .ok n r
 else if isS [91] l = true then (pList p c l.tail).bind fun k r => (take [93] r).bind fun _ r => .ok (.node 18 [] 0 k) r
 else if funB (headT l) = true then namedB p c l
 else (pNumber l).bind fun n r => .ok (numberT n) r
theorem prim_is (p : List Tok -> Res Tree) (c : Nat) (l : List Tok) (hn : nameS l = nameOk (headT l)) (ht : typedS l = decide (headT l = [110, 117, 109] \/ headT l = [98, 105, 116] \/ headT l = [119, 111, 114, 100])) : pPrimary p c l = primB p c l := by
 unfold pPrimary primB
 by_cases h1 : isS [40] l = true
 ·rw [if_pos h1, if_pos h1]
 rw [if_neg h1, if_neg h1]
 by_cases h2 : isS [91] l = true
 ·rw [if_pos h2, if_pos h2]
 rw [if_neg h2, if_neg h2]
 unfold funB
 rw [<- ht, <- hn]
 unfold namedB pBrack
 by_cases h3 : typedS l = true
 ·have h4 : nameOk (headT l) = false := by
   rw [ht, decide_eq_true_eq] at h3
   rcases h3 with h3 | h3 | h3 <;> rw [h3] <;> decide
  rw [if_pos h3, h3, Bool.true_or, if_pos rfl, if_neg (by rw [h4]; simp)]
  simp only [Res.bind_assoc]
 ·rw [if_neg h3]
  have h3' : typedS l = false := by simpa using h3
  rw [h3', Bool.false_or]
  by_cases h5 : nameS l = true
  ·rw [if_pos h5, if_pos h5]
   rw [hn] at h5
   by_cases h6 : isS [40] l.tail = true
   ·rw [if_pos h6, if_neg (by rw [h6]; simp)]
    unfold take
    rw [if_pos h6]
    rfl
   ·rw [if_neg h6, if_pos ⟨h5, by simpa using h6⟩]
  ·rw [if_neg h5, if_neg h5]
end M
open Go.RowKit
theorem pisName_any (s : ByteArray) (w : World) (hs : s.size <= 140737488351232) : Calls Tryz.prog 78 #[.string s] w fun e w' => e = .returned (.bool (M.nameOk (M.bs s))) /\ Below w.heap.size w w' := by
 have hud := hud9
 have N2 := Lib.hid (isName_any s w hs)
 have R2 := Lib.hid fun w => isReserved_any s w hs
 unfold M.nameOk M.wordB
 obtain ⟨r1, e1⟩ : ∃ r, r = M.isName (M.bs s) := ⟨_, rfl⟩
 obtain ⟨r2, e2⟩ : ∃ r, r = decide (M.bs s ∈ words8.map M.bs) := ⟨_, rfl⟩
 rw [<- e1] at N2 ⊢
 rw [<- e2] at R2 ⊢
 clear e1 e2
 cases r1 with
 | false =>
  go_enter Tryz.func78, Tryz.ntmps78
  go_wp2_with fail
  (with_reducible refine (N2.out).mono ?_)
  rintro e w' ⟨rfl, hb⟩
  have HB := Lib.hid hb
  clear hb
  go_wp2_with fail
  go_ret
  exact ⟨rfl, HB.out⟩
 | true =>
  cases r2 with
  | false =>
   go_enter Tryz.func78, Tryz.ntmps78
   go_wp2_with fail
   (with_reducible refine (N2.out).mono ?_)
   rintro e w' ⟨rfl, hb⟩
   have HB := Lib.hid hb
   clear hb
   go_wp2_with fail
   (with_reducible refine (R2.out _).mono ?_)
   rintro e w2 ⟨rfl, hb⟩
   have HB2 := Lib.hid (HB.out.trans (hb.mono HB.out.size))
   clear hb
   go_wp2_with fail
   go_ret
   exact ⟨rfl, HB2.out⟩
  | true =>
   go_enter Tryz.func78, Tryz.ntmps78
   go_wp2_with fail
   (with_reducible refine (N2.out).mono ?_)
   rintro e w' ⟨rfl, hb⟩
   have HB := Lib.hid hb
   clear hb
   go_wp2_with fail
   (with_reducible refine (R2.out _).mono ?_)
   rintro e w2 ⟨rfl, hb⟩
   have HB2 := Lib.hid (HB.out.trans (hb.mono HB.out.size))
   clear hb
   go_wp2_with fail
   go_ret
   exact ⟨rfl, HB2.out⟩
theorem pisFunction_any (s : ByteArray) (w : World) (hs : s.size <= 140737488351232) : Calls Tryz.prog 126 #[.string s] w fun e w' => e = .returned (.bool (M.funB (M.bs s))) /\ Below w.heap.size w w' := by
 have hud := hud9
 have N2 := Lib.hid (pisName_any s w hs)
 have HB0 := Lib.hid (Below.refl w.heap.size w)
 unfold M.funB
 by_cases h1 : s = ⟨#[110, 117, 109]⟩
 ·subst h1
  go_enter Tryz.func126, Tryz.ntmps126
  go_wp2_with fail
  go_ret
  exact ⟨rfl, HB0.out⟩
 have q1 : (s.toList == [110, 117, 109]) = false := by have := M.str_ne h1; simpa [go_sem] using this
 by_cases h2 : s = ⟨#[98, 105, 116]⟩
 ·subst h2
  go_enter Tryz.func126, Tryz.ntmps126
  go_wp2_with fail
  go_ret
  exact ⟨rfl, HB0.out⟩
 have q2 : (s.toList == [98, 105, 116]) = false := by have := M.str_ne h2; simpa [go_sem] using this
 by_cases h3 : s = ⟨#[119, 111, 114, 100]⟩
 ·subst h3
  go_enter Tryz.func126, Tryz.ntmps126
  go_wp2_with fail
  go_ret
  exact ⟨rfl, HB0.out⟩
 have q3 : (s.toList == [119, 111, 114, 100]) = false := by have := M.str_ne h3; simpa [go_sem] using this
 rw [show decide (M.bs s = [110, 117, 109] \/ M.bs s = [98, 105, 116] \/ M.bs s = [119, 111, 114, 100]) = false by
  rw [decide_eq_false_iff_not]
  rintro (h | h | h)
  ·exact h1 (M.bs_inj h)
  ·exact h2 (M.bs_inj h)
  ·exact h3 (M.bs_inj h), Bool.false_or]
 clear h1 h2 h3
 go_enter Tryz.func126, Tryz.ntmps126
 go_wp2_with fail
 (with_reducible refine (N2.out).mono ?_)
 rintro e w' ⟨rfl, hb⟩
 have HB := Lib.hid hb
 clear hb
 go_wp2_with fail
 go_ret
 exact ⟨rfl, HB.out⟩
variable {hi R N : Nat}
theorem name_one {t : List Nat} {k : Int} (h : M.tokB k t = true) : k = 1 ↔ M.isName t = true := by
 have key : ∀ {k1 k2 : Int}, M.tokB k1 t = true -> M.tokB k2 t = true -> k1 = k2 := fun {k1 k2} h1 h2 => by
  have e1 := M.word_of (rest := []) h1 (.inl rfl)
  have e2 := M.word_of (rest := []) h2 (.inl rfl)
  rw [e1] at e2
  simp only [Prod.mk.injEq, true_and, and_true] at e2
  exact e2
 constructor
 ·rintro rfl
  rcases M.tok_cases h with ⟨_, h⟩ | ⟨h, _⟩ | ⟨h, _⟩
  ·exact h
  ·cases h
  ·cases h
 ·intro h0
  exact key h (by simp [M.tokB, h0])
theorem PS.name {w : World} {ts : List M.Tok} (h : PS hi R N w ts) : M.nameS ts = M.nameOk (M.headT ts) := by
 cases ts with
 | nil => rfl
 | cons t r =>
  have hk := name_one h.good
  show (decide (t.kind = 1) && !M.wordB t.text) = (M.isName t.text && !M.wordB t.text)
  cases hn : M.isName t.text with
  | true => rw [decide_eq_true (hk.2 hn)]
  | false => rw [decide_eq_false (fun e => by rw [hk.1 e] at hn; cases hn)]
theorem nameOk_ne {l : List Nat} (h : M.nameOk l = true) : l ≠ [] := by
 rintro rfl
 revert h
 decide
theorem name_any : PC hi R N vName 145 M.pName := by
 intro w ts h hne
 have NX := Lib.hid (next_any h)
 have HN := Lib.hid h.name
 have NA := Lib.hid fun (s : ByteArray) (w : World) (hs : s.size <= 140737488351232) => pisName_any s w hs
 have EX := Lib.hid fun (w : World) (h : PS hi R N w ts) (W : ByteArray) (s : List Nat) (hW : M.bs W = s) (hs : s ≠ []) => expect_raw h W hW hs
 have FA := Lib.hid fun (w : World) (h : PS hi R N w ts) => fail_any h
 have HP := Lib.hid h
 unfold M.pName
 by_cases hn : M.nameS ts = true
 ·rw [if_pos hn]
  have H1 := Lib.hid (show M.headT ts ≠ [] from nameOk_ne (by rw [<- h.name]; exact hn))
  have H0 := Lib.hid (show M.nameOk (M.headT ts) = true by rw [<- h.name]; exact hn)
  clear hn hne h
  go_enter Tryz.func145, Tryz.ntmps145
  go_wp2_with fail
  (with_reducible refine (NX.out).mono ?_)
  rintro e w' ⟨⟨T, rfl, hT, hs⟩, rfl⟩
  have NU2 := Lib.hid (NA.out T w' (by omega))
  rw [hT, H0.out] at NU2
  have HT := Lib.hid hT
  have HS := Lib.hid hs
  clear hT hs
  go_wp2_with fail
  (with_reducible refine (NU2.out).mono ?_)
  rintro e w1 ⟨rfl, hb1⟩
  have EX2 := Lib.hid (EX.out _ (HP.out.below hb1) T _ HT.out H1.out)
  have HB1 := Lib.hid hb1
  clear hb1
  go_wp2_with fail
  (with_reducible refine (EX2.out).mono ?_)
  rintro e w2 ⟨h1, -⟩
  obtain ⟨rfl, hp, hb⟩ := h1 (by trivial)
  clear h1
  go_wp2_with fail
  go_ret
  exact ⟨⟨T, rfl, HT.out, HS.out⟩, hp, (But.of HB1.out).trans hb⟩
 ·rw [if_neg hn]
  have H0 := Lib.hid (show M.nameOk (M.headT ts) = false by rw [<- h.name]; simpa using hn)
  clear hn hne h
  go_enter Tryz.func145, Tryz.ntmps145
  go_wp2_with fail
  (with_reducible refine (NX.out).mono ?_)
  rintro e w' ⟨⟨T, rfl, hT, hs⟩, rfl⟩
  have NU2 := Lib.hid (NA.out T w' (by omega))
  rw [hT, H0.out] at NU2
  clear hT
  go_wp2_with fail
  (with_reducible refine (NU2.out).mono ?_)
  rintro e w1 ⟨rfl, hb1⟩
  have FA2 := Lib.hid (FA.out _ (HP.out.below hb1))
  have HB1 := Lib.hid hb1
  clear hb1
  go_wp2_with fail
  (with_reducible refine (FA2.out).mono ?_)
  rintro e w2 ⟨he, rfl⟩
  unfold pv at he
  subst he
  go_wp2_with fail
  exact ⟨rfl, rfl, But.of HB1.out⟩
end Go.Proofs.YtngpedcihajepaaGreatDoor
namespace Go.Proofs.YtngpedcihajepaaGreatDoor
open Go.RowKit
variable {hi R N : Nat}
structure IxS (hi R Lb : Nat) (w : World) (n : M.Tree) (x : V9) (wr : World) : Prop where
 hR : R < hi
 hhi : hi <= w.heap.size
 hL : w.heap.size < Lb
 but : But R w wr
 res : Box9 wr w.heap.size V9.no
 left : Box9 wr Lb x
 node : NodeN (w.heap.size + 1) (some Lb) wr x.val n
theorem IxS.next {Lb : Nat} {w wr w' : World} {n : M.Tree} {x : V9} (h : IxS hi R Lb w n x wr) (hb : But R wr w') : IxS hi R Lb w n x w' := by
 have h1 := h.hR
 have h2 := h.hhi
 have h3 := h.hL
 exact ⟨h1, h2, h3, h.but.trans hb, h.res.but hb (by omega), h.left.but hb (by omega), h.node.step (hb.stay (by omega))⟩
theorem IxS.below {Lb : Nat} {w wr w' : World} {n : M.Tree} {x : V9} (h : IxS hi R Lb w n x wr) (hb : Below wr.heap.size wr w') : IxS hi R Lb w n x w' := h.next (But.of hb)
theorem IxS.join {Lb : Nat} {w w2 w3 : World} {n m : M.Tree} {y z : V9} (h : IxS hi R Lb w n y w3) (hz : NodeN w2.heap.size none w3 z.val m) (hL2 : Lb < w2.heap.size) :
  IxS hi R Lb w (.node 17 [] 0 [n, m]) ⟨17, ⟨#[]⟩, 0, some ⟨w3.heap.size, 0, none⟩, 2, 2⟩ ((put9 w3 Lb 17 ⟨#[]⟩ (0 : Nat) (.slice (some ⟨w3.heap.size, 0, none⟩) 2 2)).alloc
   (.cells #[.int .i64 y.kind, .string y.text, .int .u64 (y.num : Nat), .slice y.ka y.kn y.kc, .int .i64 z.kind, .string z.text, .int .u64 (z.num : Nat), .slice z.ka z.kn z.kc] 25)) := by
 have h1 := h.hR
 have h2 := h.hhi
 have h3 := h.hL
 have h6 := h.left.lt
 have ht := put9_touch w3 Lb 17 ⟨#[]⟩ (0 : Nat) (.slice (some ⟨w3.heap.size, 0, none⟩) 2 2)
 have hp := h.left.put 17 ⟨#[]⟩ 0 (some ⟨w3.heap.size, 0, none⟩) 2 2
 generalize put9 w3 Lb 17 ⟨#[]⟩ (0 : Nat) (.slice (some ⟨w3.heap.size, 0, none⟩) 2 2) = W at ht hp ⊢
 have hs := ht.size
 have hst : Stay (w.heap.size + 1) (some Lb) w3 (W.alloc (.cells #[.int .i64 y.kind, .string y.text, .int .u64 (y.num : Nat), .slice y.ka y.kn y.kc, .int .i64 z.kind, .string z.text, .int .u64 (z.num : Nat), .slice z.ka z.kn z.kc] 25)) :=
  (ht.stay (.inr rfl)).trans (Below.stay ((Below.refl _ _).alloc (Nat.le_refl _) _))
 refine ⟨h1, h2, h3, (h.but.touch ht (by omega)).alloc _, (h.res.touch ht (by omega)).alloc _, hp.alloc _, ?_⟩
 refine NodeN.make (k := 17) (T := ⟨#[]⟩) (n := 0) (KidsN.lit (l := [y, z]) (cells := #[.int .i64 y.kind, .string y.text, .int .u64 (y.num : Nat), .slice y.ka y.kn y.kc, .int .i64 z.kind, .string z.text, .int .u64 (z.num : Nat), .slice z.ka z.kn z.kc]) (.cons (h.node.step hst) (.cons (((hz.out (some Lb) fun k e => .inl (by injection e with e; omega)).lo (by omega)).step hst) .nil)) rfl ?_ (by omega) (by simp; omega) rfl (by simp)) rfl ⟨by omega, by omega, by decide⟩
 show (W.heap.push _)[_]? = _
 rw [Array.getElem?_push, if_pos (by omega)]
theorem indexed_any {p q : List M.Tok -> M.Res M.Tree} (HE : PC hi R N vTree 147 p) (HQ : PC hi R N vTree 190 q) (c : Nat) : PC hi R N vTree 189 (fun l => (q l).bind fun n r => M.pIndex p c n r) := by
 intro w ts h hne
 have hud := hud9
 have HR := Lib.hid (show R < hi /\ hi <= w.heap.size /\ ts.length <= 20000 from ⟨h.1, h.2.1, by obtain ⟨_, _, _, _, _, _, _, _, _, _, _, h9, _⟩ := h; exact h9⟩)
 obtain ⟨X, eX⟩ : ∃ X, X = (q ts).bind fun n r => M.pIndex p c n r := ⟨_, rfl⟩
 show Calls _ _ _ _ (PEnd hi R N vTree w ((q ts).bind fun n r => M.pIndex p c n r))
 have hne : ((q ts).bind fun n r => M.pIndex p c n r) ≠ .out := hne
 rw [<- eX] at hne ⊢
 have EX := Lib.hid eX
 have HX := Lib.hid hne
 clear eX hne
 have C1 := Lib.hid (HQ _ ts (h.alloc (.cells #[.int .i64 0, .string ⟨#[]⟩, .int .u64 0, .slice none 0 0] 25)) (fun h => HX.out (EX.out.trans (by rw [h]; try rfl))))
 clear h
 go_enter Tryz.func189, Tryz.ntmps189
 go_wp2_with fail
 (with_reducible refine (C1.out).mono ?_)
 intro e w1 hE
 rcases M.Res.em (q ts) with hk | ⟨r1, hk⟩ | ⟨a1, r1, hk⟩
 ·exact absurd (EX.out.trans (by rw [hk]; try rfl)) HX.out
 ·rw [hk] at hE
  obtain ⟨he, hb⟩ := hE
  unfold pv at he
  subst he
  have HB := Lib.hid (((But.refl R w).alloc _).trans hb)
  have ex := EX.out
  rw [hk, M.Res.bind_bad] at ex
  have EX2 := Lib.hid ex
  clear ex hk hb
  go_wp2_with fail
  rw [EX2.out]
  exact ⟨rfl, rfl, HB.out⟩
 rw [hk] at hE
 obtain ⟨⟨v, he, hv⟩, hp1, hb1⟩ := hE
 subst he
 obtain ⟨x, rfl⟩ := hv.v9e
 have ex := EX.out
 rw [hk, M.Res.bind_ok] at ex
 have EX1 := Lib.hid ex
 clear ex hk EX
 have S0 := Lib.hid (show IxS hi R w1.heap.size w a1 x (w1.alloc (.cells #[.int .i64 x.kind, .string x.text, .int .u64 (x.num : Nat), .slice x.ka x.kn x.kc] 25)) by
  have h1 := HR.out
  have h3 := hb1.size
  have hs : (w.alloc (.cells #[.int .i64 0, .string ⟨#[]⟩, .int .u64 0, .slice none 0 0] 25)).heap.size = w.heap.size + 1 := by simp
  rw [hs] at h3 hv
  refine ⟨h1.1, h1.2.1, by omega, (((But.refl R w).alloc _).trans hb1).alloc _, ((Box9.start w V9.no).but hb1 (by omega)).alloc _, Box9.start _ _, ?_⟩
  exact (hv.out (some w1.heap.size) fun k e => .inr (by injection e with e; omega)).step (Below.stay ((Below.refl _ _).alloc (Nat.le_refl _) _)))
 have P0 := Lib.hid (hp1.alloc (.cells #[.int .i64 x.kind, .string x.text, .int .u64 (x.num : Nat), .slice x.ka x.kn x.kc] 25))
 clear hv hp1 hb1
 go_wp2_with fail
 obtain ⟨Lb, eLb⟩ : ∃ L, L = w1.heap.size := ⟨_, rfl⟩
 rw [<- eLb] at S0 ⊢
 clear eLb
 go_loopg [4] c (fun g s3 wr => ∃ (n : M.Tree) (r : List M.Tok) (y : V9), X = M.pIndex p g n r /\ IxS hi R Lb w n y wr /\ PS hi R N wr r)
 case atStart => exact ⟨a1, r1, x, EX1.out, S0.out, P0.out⟩
 case round =>
  obtain ⟨n, r, y, hx, hs, hp⟩ := hrel
  have EXR := Lib.hid hx
  have HS := Lib.hid hs
  have PR := Lib.hid hp
  clear hx hs hp S0 P0
  cases gk with
  | zero => exact absurd (by rw [EXR.out, M.pIndex]) HX.out
  | succ g =>
   have ex := EXR.out
   rw [M.pIndex] at ex
   have EXR := Lib.hid ex
   clear ex
   have AC := Lib.hid (accept_word PR.out ⟨#[91]⟩ (s := [91]) rfl ⟨by decide, by decide⟩)
   go_wp2_with fail
   (with_reducible refine (AC.out).mono ?_)
   rintro e w2 ⟨he, hp, hb⟩
   have HS2 := Lib.hid (HS.out.next hb)
   clear hb HS
   by_cases hc : M.isS [91] r = true
   ·rw [hc] at he
    rw [if_pos hc] at hp
    subst he
    have ex := EXR.out
    rw [if_pos hc] at ex
    have EX3 := Lib.hid ex
    have C3 := Lib.hid (HE w2 r.tail hp (fun h => HX.out (EX3.out.trans (by rw [h]; try rfl))))
    clear ex hp hc
    go_wp2_with fail
    (with_reducible refine (C3.out).mono ?_)
    intro e w3 hE
    rcases M.Res.em (p r.tail) with hk | ⟨r3, hk⟩ | ⟨a3, r3, hk⟩
    ·exact absurd (EX3.out.trans (by rw [hk]; try rfl)) HX.out
    ·rw [hk] at hE
     obtain ⟨he, hb⟩ := hE
     unfold pv at he
     subst he
     have HB := Lib.hid (HS2.out.but.trans hb)
     have ex := EX3.out
     rw [hk, M.Res.bind_bad] at ex
     have EX2 := Lib.hid ex
     clear ex hk hb
     go_wp2_with fail
     rw [EX2.out]
     exact ⟨rfl, rfl, HB.out⟩
    rw [hk] at hE
    obtain ⟨⟨v, he, hv⟩, hp, hb⟩ := hE
    subst he
    obtain ⟨z, rfl⟩ := hv.v9e
    have ex := EX3.out
    rw [hk, M.Res.bind_ok] at ex
    have EX4 := Lib.hid ex
    have HS3 := Lib.hid (HS2.out.next hb)
    have LT2 := Lib.hid HS2.out.left.lt
    have TZ := Lib.hid hv
    have P3 := Lib.hid hp
    clear ex hk hv hp hb EX3
    go_wp2_with fail
    obtain ⟨v3, ev3⟩ : ∃ v, v = w3.alloc (.cells #[.int .i64 z.kind, .string z.text, .int .u64 (z.num : Nat), .slice z.ka z.kn z.kc] 25) := ⟨_, rfl⟩
    rw [<- ev3]
    have A3 := Lib.hid (show Below w3.heap.size w3 v3 by rw [ev3]; exact (Below.refl _ _).alloc (Nat.le_refl _) _)
    obtain ⟨zb, ezb⟩ : ∃ b, b = w3.heap.size := ⟨_, rfl⟩
    have XZ := Lib.hid (show Box9 v3 zb z by rw [ev3, ezb]; exact Box9.start _ z)
    have LZ := Lib.hid (show hi <= zb /\ Lb < zb from ⟨by rw [ezb]; exact P3.out.2.1, by rw [ezb]; exact HS3.out.left.lt⟩)
    rw [<- ezb]
    have HS4 := Lib.hid (HS3.out.below A3.out)
    have TZ4 := Lib.hid (TZ.out.step (Below.stay A3.out))
    have P4 := Lib.hid (P3.out.below A3.out)
    clear ev3 ezb A3 HS3 TZ P3
    have C5 := Lib.hid (expect_any P4.out ⟨#[93]⟩ (s := [93]) rfl ⟨by decide, by decide⟩)
    (with_reducible refine (C5.out).mono ?_)
    intro e w5 hE
    rcases M.Res.em (M.take [93] r3) with hk | ⟨r5, hk⟩ | ⟨a5, r5, hk⟩
    ·exact absurd (EX4.out.trans (by rw [hk]; try rfl)) HX.out
    ·rw [hk] at hE
     obtain ⟨he, hb⟩ := hE
     unfold pv at he
     subst he
     have HB := Lib.hid (HS4.out.but.trans hb)
     have ex := EX4.out
     rw [hk, M.Res.bind_bad] at ex
     have EX2 := Lib.hid ex
     clear ex hk hb
     go_wp2_with fail
     rw [EX2.out]
     exact ⟨rfl, rfl, HB.out⟩
    rw [hk] at hE
    obtain ⟨he, hp, hb⟩ := hE
    unfold vUnit at he
    subst he
    have ex := EX4.out
    rw [hk, M.Res.bind_ok] at ex
    have EX5 := Lib.hid ex
    have HS5 := Lib.hid (HS4.out.next hb)
    have XZ5 := Lib.hid (XZ.out.but hb (by have := HR.out; have := LZ.out; omega))
    have TZ5 := Lib.hid (TZ4.out.step (hb.stay (by have := HR.out; have := LT2.out; have := HS2.out.hL; omega)))
    have P5 := Lib.hid hp
    clear ex hk hp hb EX4 HS4 XZ TZ4 P4
    obtain ⟨l0, l1, l2, l3⟩ := HS5.out.left.c
    obtain ⟨z0, z1, z2, z3⟩ := HS5.out.left.fz
    obtain ⟨k0, k1, k2, k3⟩ := XZ5.out.c
    have hlt := HS5.out.left.lt
    have hlt2 := XZ5.out.lt
    go_wp2_with fail
    --PEEK
    go_roundg g
    case measure => omega
    case rel => exact ⟨_, r5, ⟨17, ⟨#[]⟩, 0, some ⟨w5.heap.size, 0, none⟩, 2, 2⟩, EX5.out, HS5.out.join TZ5.out LT2.out, (P5.out.touch (put9_touch w5 Lb 17 ⟨#[]⟩ (0 : Nat) (.slice (some ⟨w5.heap.size, 0, none⟩) 2 2)) (by have := HR.out; have := HS5.out.hL; omega)).alloc _⟩
   ·rw [if_neg hc] at hp
    rw [show M.isS [91] r = false by simpa using hc] at he
    subst he
    have ex := EXR.out
    rw [if_neg hc] at ex
    have EX3 := Lib.hid ex
    have P3 := Lib.hid hp
    obtain ⟨l0, l1, l2, l3⟩ := HS2.out.left.c
    obtain ⟨q0, q1, q2, q3⟩ := HS2.out.res.c
    obtain ⟨z0, z1, z2, z3⟩ := HS2.out.res.fz
    clear ex hp hc
    go_wp2_with fail
    refine bodyPost_ret (v := .agg #[.int .i64 y.kind, .string y.text, .int .u64 (y.num : Nat), .slice y.ka y.kn y.kc]) (by simp [results, Tryz.results189, go_sem, q0, q1, q2, q3]) rfl ?_
    rw [EX3.out]
    exact tree_end _ _ _ HR.out.2.1 HS2.out.but HS2.out.node P3.out
end Go.Proofs.YtngpedcihajepaaGreatDoor
namespace Go.Proofs.YtngpedcihajepaaGreatDoor
open Go.RowKit
variable {hi R N : Nat}
theorem list_any {F : Nat} {p : List M.Tok -> M.Res M.Tree} (HP : PC hi R N vTree F p) (HF : ∀ args w, (callFunc F args).run Tryz.prog w = .ok (.enter F args) w) (hl : Less p) (c : Nat) (w : World) (ts : List M.Tok) (h : PS hi R N w ts) (hne : M.pList p c ts ≠ .out) :
  Calls Tryz.prog 149 #[.pointer (some ⟨R, 0, none⟩), .func (.func F) #[.pointer (some ⟨R, 0, none⟩)] #[]] w (PEnd hi R N vList w (M.pList p c ts)) := by
 have hud := hud9
 have HR := Lib.hid (show R < hi /\ hi <= w.heap.size /\ ts.length <= 20000 from ⟨h.1, h.2.1, by obtain ⟨_, _, _, _, _, _, _, _, _, _, _, h9, _⟩ := h; exact h9⟩)
 obtain ⟨X, eX⟩ : ∃ X, X = M.pList p c ts := ⟨_, rfl⟩
 rw [<- eX] at hne ⊢
 unfold M.pList at eX
 have EX := Lib.hid eX
 have HX := Lib.hid hne
 have HLE := Lib.hid hl
 have P_0 := Lib.hid h
 clear eX hne h hl
 have C1 := Lib.hid (HP w ts P_0.out (fun h => HX.out (EX.out.trans (by rw [h]; rfl))))
 go_enter Tryz.func149, Tryz.ntmps149
 go_wp2_with fail
 (with_reducible refine (C1.out).mono ?_)
 intro e w1 hE
 rcases M.Res.em (p ts) with hk | ⟨r1, hk⟩ | ⟨a1, r1, hk⟩
 ·exact absurd (EX.out.trans (by rw [hk]; rfl)) HX.out
 ·rw [hk] at hE
  obtain ⟨he, hb⟩ := hE
  unfold pv at he
  subst he
  have HB := Lib.hid hb
  have ex := EX.out
  rw [hk, M.Res.bind_bad] at ex
  have EX2 := Lib.hid ex
  clear ex hk hb
  go_wp2_with fail
  rw [EX2.out]
  exact ⟨rfl, rfl, HB.out⟩
 rw [hk] at hE
 obtain ⟨⟨v, he, hv⟩, hp, hb⟩ := hE
 subst he
 obtain ⟨x, rfl⟩ := hv.v9e
 have HLK := Lib.hid (HLE.out _ _ _ hk)
 have ex := EX.out
 rw [hk, M.Res.bind_ok] at ex
 have EX1 := Lib.hid ex
 have T1 := Lib.hid hv
 have P1 := Lib.hid hp
 have B1 := Lib.hid hb
 clear ex hk hv hp hb EX
 go_wp2_with fail
 have R0 := Lib.hid (show RowN w.heap.size (w1.alloc (.cells #[.int .i64 x.kind, .string x.text, .int .u64 (x.num : Nat), .slice x.ka x.kn x.kc] 25)) (.slice (some ⟨w1.heap.size, 0, none⟩) 1 1) [a1] from
  RowN.lit (l := [x]) (.cons ((T1.out.out (some w1.heap.size) fun k e => .inr (by injection e with e; omega)).step (Below.stay ((Below.refl _ _).alloc (Nat.le_refl _) _))) .nil) rfl (alloc_new _ _ _) B1.out.size rfl (by simp))
 have P2 := Lib.hid (P1.out.alloc (.cells #[.int .i64 x.kind, .string x.text, .int .u64 (x.num : Nat), .slice x.ka x.kn x.kc] 25))
 have B2 := Lib.hid (B1.out.alloc (.cells #[.int .i64 x.kind, .string x.text, .int .u64 (x.num : Nat), .slice x.ka x.kn x.kc] 25))
 clear T1 P1 B1
 go_loopg [5] c (fun g tl wr => ∃ (a : List M.Tree) (r : List M.Tok), X = M.pSep p g a r /\ RowN w.heap.size wr tl a /\ PS hi R N wr r /\ But R w wr /\ a.length + r.length <= 20001)
 case atStart => exact ⟨[a1], r1, EX1.out, R0.out, P2.out, B2.out, by have := HLK.out; have := HR.out; simp; omega⟩
 case round =>
  obtain ⟨a, r, hx, hrow, hp, hb, hcnt⟩ := hrel
  have EXR := Lib.hid hx
  have ROW := Lib.hid hrow
  have PR := Lib.hid hp
  have BR := Lib.hid hb
  have CN := Lib.hid hcnt
  obtain ⟨A, cp, rfl⟩ := hrow.sl
  clear hx hrow hp hb hcnt
  cases gk with
  | zero => exact absurd (by rw [EXR.out, M.pSep]) HX.out
  | succ g =>
   have ex := EXR.out
   rw [M.pSep] at ex
   have EXR := Lib.hid ex
   clear ex
   have AC := Lib.hid (accept_word PR.out ⟨#[44]⟩ (s := [44]) rfl ⟨by decide, by decide⟩)
   go_wp2_with fail
   (with_reducible refine (AC.out).mono ?_)
   rintro e w2 ⟨he, hp, hb⟩
   by_cases hc : M.isS [44] r = true
   ·rw [hc] at he
    rw [if_pos hc] at hp
    subst he
    have ex := EXR.out
    rw [if_pos hc] at ex
    have EX3 := Lib.hid ex
    have PC2 := Lib.hid hp
    have BC2 := Lib.hid hb
    have HPOS := Lib.hid (M.isS_pos hc)
    have C3 := Lib.hid (HP w2 r.tail hp (fun h => HX.out (EX3.out.trans (by rw [h]; rfl))))
    clear ex hp hb hc
    go_wp2_with fail
    (with_reducible refine (C3.out).mono ?_)
    intro e w3 hE
    rcases M.Res.em (p r.tail) with hk | ⟨r3, hk⟩ | ⟨a3, r3, hk⟩
    ·exact absurd (EX3.out.trans (by rw [hk]; rfl)) HX.out
    ·rw [hk] at hE
     obtain ⟨he, hb⟩ := hE
     unfold pv at he
     subst he
     have HB := Lib.hid ((BR.out.trans BC2.out).trans hb)
     have ex := EX3.out
     rw [hk, M.Res.bind_bad] at ex
     have EX2 := Lib.hid ex
     clear ex hk hb
     go_wp2_with fail
     rw [EX2.out]
     exact ⟨rfl, rfl, HB.out⟩
    rw [hk] at hE
    obtain ⟨⟨v, he, hv⟩, hp, hb⟩ := hE
    subst he
    obtain ⟨y, rfl⟩ := hv.v9e
    have HLK3 := Lib.hid (HLE.out _ _ _ hk)
    have ex := EX3.out
    rw [hk, M.Res.bind_ok] at ex
    have EX4 := Lib.hid ex
    have B3 := Lib.hid ((BR.out.trans BC2.out).trans hb)
    have hlR : R < w.heap.size := by have := HR.out; omega
    have ROW3 := Lib.hid ((ROW.out.step (BC2.out.stay hlR)).step (hb.stay hlR))
    have hown := (ROW.out.step (BC2.out.stay hlR)).own
    have T3 := Lib.hid ((hv.out _ fun k e => .inl (hown k e).2).lo (Nat.le_trans BR.out.size BC2.out.size))
    have P3 := Lib.hid hp
    clear ex hk hv hp hb EX3 hown hlR
    have ROWW := Lib.hid (ROW3.out.step (Below.stay (((Below.refl _ w3).alloc (Nat.le_refl _) (.cells #[.int .i64 y.kind, .string y.text, .int .u64 (y.num : Nat), .slice y.ka y.kn y.kc] 25)).alloc (by simp) (.cells #[.int .i64 y.kind, .string y.text, .int .u64 (y.num : Nat), .slice y.ka y.kn y.kc] 25))))
    have TW := Lib.hid (T3.out.step (Below.stay (((Below.refl _ w3).alloc (Nat.le_refl _) (.cells #[.int .i64 y.kind, .string y.text, .int .u64 (y.num : Nat), .slice y.ka y.kn y.kc] 25)).alloc (by simp) (.cells #[.int .i64 y.kind, .string y.text, .int .u64 (y.num : Nat), .slice y.ka y.kn y.kc] 25))))
    have NW := Lib.hid (show ∀ j u, (nodeCells [y])[j]? = some u -> ((w3.alloc (.cells #[.int .i64 y.kind, .string y.text, .int .u64 (y.num : Nat), .slice y.ka y.kn y.kc] 25)).alloc (.cells #[.int .i64 y.kind, .string y.text, .int .u64 (y.num : Nat), .slice y.ka y.kn y.kc] 25)).cell? ((⟨w3.heap.size + 1, 0, none⟩ : Addr).add j) = some u from
     new_cells (cells := #[.int .i64 y.kind, .string y.text, .int .u64 (y.num : Nat), .slice y.ka y.kn y.kc]) (by have := alloc_new (w3.alloc (.cells #[.int .i64 y.kind, .string y.text, .int .u64 (y.num : Nat), .slice y.ka y.kn y.kc] 25)) #[.int .i64 y.kind, .string y.text, .int .u64 (y.num : Nat), .slice y.ka y.kn y.kc] 25; rwa [World.size_alloc] at this) rfl)
    have PW := Lib.hid ((P3.out.alloc (.cells #[.int .i64 y.kind, .string y.text, .int .u64 (y.num : Nat), .slice y.ka y.kn y.kc] 25)).alloc (.cells #[.int .i64 y.kind, .string y.text, .int .u64 (y.num : Nat), .slice y.ka y.kn y.kc] 25))
    have BW := Lib.hid ((B3.out.alloc (.cells #[.int .i64 y.kind, .string y.text, .int .u64 (y.num : Nat), .slice y.ka y.kn y.kc] 25)).alloc (.cells #[.int .i64 y.kind, .string y.text, .int .u64 (y.num : Nat), .slice y.ka y.kn y.kc] 25))
    have OW := Lib.hid ROW3.out.own
    clear ROW3 T3 P3 B3 ROW PR BR
    go_wp2_with (at_builtin; refine wpList_append_nodes rfl _ _ rfl w.heap.size (.slice A a.length cp) a [a3] [y] ⟨w3.heap.size + 1, 0, none⟩ 1 1 rfl rfl ROWW.out (.cons TW.out .nil) NW.out rfl (by decide) ?d4 ?d5 ?_)
    case d4 => have := CN.out; omega
    case d5 => exact BW.out.size
    intro g2 cp2 w4 hrow4 hgrow4 hg4 hb4
    have RW4 := Lib.hid hrow4
    have PW4 := Lib.hid (PW.out.grown hgrow4 fun k e => by have := (OW.out k e).1; have := HR.out; omega)
    have BW4 := Lib.hid (BW.out.grown hgrow4 fun k e => (OW.out k e).1)
    clear hrow4 hgrow4 hg4 hb4
    go_wp2_with fail
    go_roundg g
    case measure => omega
    case rel => exact ⟨a ++ [a3], r3, EX4.out, RW4.out, PW4.out, BW4.out, by have := HLK3.out; have := HPOS.out; have := M.tail_len (l := r); have := CN.out; simp; omega⟩
   ·rw [if_neg hc] at hp
    rw [show M.isS [44] r = false by simpa using hc] at he
    subst he
    have ex := EXR.out
    rw [if_neg hc] at ex
    have EX3 := Lib.hid ex
    have PC2 := Lib.hid hp
    have BC2 := Lib.hid hb
    clear ex hp hb hc
    go_wp2_with fail
    go_ret
    rw [EX3.out]
    have hlR : R < w.heap.size := by have := HR.out; omega
    exact ⟨⟨_, rfl, ROW.out.step (BC2.out.stay hlR), by have := CN.out; omega⟩, PC2.out, BR.out.trans BC2.out⟩
end Go.Proofs.YtngpedcihajepaaGreatDoor
namespace Go.Proofs.YtngpedcihajepaaGreatDoor
open Go.RowKit
variable {hi R N : Nat}
theorem value_any {p : List M.Tok -> M.Res M.Tree} (HE : PC hi R N vTree 147 p) : PC hi R N vTree 146 (M.pVal p) := by
 intro w ts h hne
 have h := h
 have hud := hud9
 have HR := Lib.hid (show R < hi /\ hi <= w.heap.size /\ ts.length <= 20000 from ⟨h.1, h.2.1, by obtain ⟨_, _, _, _, _, _, _, _, _, _, _, h9, _⟩ := h; exact h9⟩)
 obtain ⟨X, eX⟩ : ∃ X, X = M.pVal p ts := ⟨_, rfl⟩
 rw [<- eX] at hne ⊢
 unfold M.pVal at eX
 have EX := Lib.hid eX
 have HX := Lib.hid hne
 clear eX hne
 have P_0 := Lib.hid h
 have B_0 := Lib.hid (But.refl R w)
 clear h
 go_enter Tryz.func146, Tryz.ntmps146
 go_wp2_with fail
 obtain ⟨w0, ew0⟩ : ∃ w0, w0 = w.alloc (.cells #[.int .i64 0, .string ⟨#[]⟩, .int .u64 0, .slice none 0 0] 25) := ⟨_, rfl⟩
 rw [<- ew0]
 have RES_0 := Lib.hid (show Box9 w0 w.heap.size V9.no by rw [ew0]; exact Box9.start w V9.no)
 have SLE_0 := Lib.hid (show w.heap.size + 1 <= w0.heap.size by rw [ew0]; simp)
 have P_00 := Lib.hid (show PS hi R N w0 ts by rw [ew0]; exact P_0.out.alloc _)
 have B_00 := Lib.hid (show But R w w0 by rw [ew0]; exact B_0.out.alloc _)
 clear ew0 P_0 B_0
 have C1 := Lib.hid (expect_any P_00.out ⟨#[61]⟩ (s := [61]) rfl ⟨by decide, by decide⟩)
 (with_reducible refine (C1.out).mono ?_)
 intro e w1 hE
 rcases M.Res.em (M.take [61] ts) with hk | ⟨r1, hk⟩ | ⟨a1, r1, hk⟩
 ·exact absurd (EX.out.trans (by rw [hk]; rfl)) HX.out
 ·rw [hk] at hE
  obtain ⟨he, hb⟩ := hE
  unfold pv at he
  subst he
  have HB := Lib.hid (B_00.out.trans hb)
  have ex := EX.out
  rw [hk] at ex
  try rw [M.Res.bind_bad] at ex
  have EX2 := Lib.hid ex
  clear ex hk hb
  go_wp2_with fail
  rw [EX2.out]
  exact ⟨rfl, rfl, HB.out⟩
 rw [hk] at hE
 obtain ⟨he, hp, hb⟩ := hE
 unfold vUnit at he
 subst he
 have RES_1 := Lib.hid (RES_0.out.but hb (by have := HR.out; omega))
 clear RES_0
 have SLE_1 := Lib.hid (Nat.le_trans SLE_0.out hb.size)
 clear SLE_0
 have P_1 := Lib.hid hp
 have B_1 := Lib.hid (B_00.out.trans hb)
 clear hp hb P_00 B_00
 have ex := EX.out
 rw [hk] at ex
 try rw [M.Res.bind_ok] at ex
 clear EX
 have EX := Lib.hid ex
 clear ex hk
 go_wp2_with fail
 have C2 := Lib.hid (HE w1 r1 P_1.out (fun h => HX.out (EX.out.trans (by rw [h]; rfl))))
 have SLB2 := Lib.hid (SLE_1.out)
 (with_reducible refine (C2.out).mono ?_)
 intro e w2 hE
 rcases M.Res.em (p r1) with hk | ⟨r2, hk⟩ | ⟨a2, r2, hk⟩
 ·exact absurd (EX.out.trans (by rw [hk]; rfl)) HX.out
 ·rw [hk] at hE
  obtain ⟨he, hb⟩ := hE
  unfold pv at he
  subst he
  have HB := Lib.hid (B_1.out.trans hb)
  have ex := EX.out
  rw [hk] at ex
  try rw [M.Res.bind_bad] at ex
  have EX2 := Lib.hid ex
  clear ex hk hb
  go_wp2_with fail
  rw [EX2.out]
  exact ⟨rfl, rfl, HB.out⟩
 rw [hk] at hE
 obtain ⟨⟨v, he, hv⟩, hp, hb⟩ := hE
 subst he
 obtain ⟨x2, rfl⟩ := hv.v9e
 have RES_2 := Lib.hid (RES_1.out.but hb (by have := HR.out; omega))
 clear RES_1
 have SLE_2 := Lib.hid (Nat.le_trans SLE_1.out hb.size)
 clear SLE_1
 have T2_2 := Lib.hid (hv.lo SLB2.out)
 have P_2 := Lib.hid hp
 have B_2 := Lib.hid (B_1.out.trans hb)
 clear hp hb hv P_1 B_1
 have ex := EX.out
 rw [hk] at ex
 try rw [M.Res.bind_ok] at ex
 clear EX
 have EX := Lib.hid ex
 clear ex hk
 go_wp2_with fail
 obtain ⟨v3, ev3⟩ : ∃ v, v = w2.alloc (.cells #[.int .i64 x2.kind, .string x2.text, .int .u64 (x2.num : Nat), .slice x2.ka x2.kn x2.kc] 25) := ⟨_, rfl⟩
 rw [<- ev3]
 have A3 := Lib.hid (show Below w2.heap.size w2 v3 by rw [ev3]; exact (Below.refl _ _).alloc (Nat.le_refl _) _)
 obtain ⟨b3, eb3⟩ : ∃ b, b = w2.heap.size := ⟨_, rfl⟩
 have X3 := Lib.hid (show Box9 v3 b3 x2 by rw [ev3, eb3]; exact Box9.start _ x2)
 have LBX3 := Lib.hid (show hi <= b3 by rw [eb3]; exact P_2.out.2.1)
 have LWX3 := Lib.hid (show w.heap.size < b3 by rw [eb3]; exact SLE_2.out)
 rw [<- eb3]
 have RES_3 := Lib.hid (RES_2.out.below A3.out)
 clear RES_2
 have SLE_3 := Lib.hid (Nat.le_trans SLE_2.out A3.out.size)
 clear SLE_2
 have T2_3 := Lib.hid (T2_2.out.step (Below.stay A3.out))
 clear T2_2
 have P_3 := Lib.hid (P_2.out.below A3.out)
 clear P_2
 have B_3 := Lib.hid (B_2.out.below A3.out)
 clear B_2
 clear ev3 eb3 A3
 have C4 := Lib.hid (expect_any P_3.out ⟨#[59]⟩ (s := [59]) rfl ⟨by decide, by decide⟩)
 (with_reducible refine (C4.out).mono ?_)
 intro e w4 hE
 rcases M.Res.em (M.take [59] r2) with hk | ⟨r4, hk⟩ | ⟨a4, r4, hk⟩
 ·exact absurd (EX.out.trans (by rw [hk]; rfl)) HX.out
 ·rw [hk] at hE
  obtain ⟨he, hb⟩ := hE
  unfold pv at he
  subst he
  have HB := Lib.hid (B_3.out.trans hb)
  have ex := EX.out
  rw [hk] at ex
  try rw [M.Res.bind_bad] at ex
  have EX2 := Lib.hid ex
  clear ex hk hb
  go_wp2_with fail
  rw [EX2.out]
  exact ⟨rfl, rfl, HB.out⟩
 rw [hk] at hE
 obtain ⟨he, hp, hb⟩ := hE
 unfold vUnit at he
 subst he
 have RES_4 := Lib.hid (RES_3.out.but hb (by have := HR.out; omega))
 clear RES_3
 have SLE_4 := Lib.hid (Nat.le_trans SLE_3.out hb.size)
 clear SLE_3
 have T2_4 := Lib.hid (T2_3.out.step (hb.stay (by have := HR.out; omega)))
 clear T2_3
 have X3_4 := Lib.hid (X3.out.but hb (by have := HR.out; have := LBX3.out; omega))
 clear X3
 have P_4 := Lib.hid hp
 have B_4 := Lib.hid (B_3.out.trans hb)
 clear hp hb P_3 B_3
 have ex := EX.out
 rw [hk] at ex
 try rw [M.Res.bind_ok] at ex
 clear EX
 have EX := Lib.hid ex
 clear ex hk
 obtain ⟨kb30, kb31, kb32, kb33⟩ := X3_4.out.c
 have lb30 : b3 < w4.heap.size := X3_4.out.lt
 obtain ⟨q0, q1, q2, q3⟩ := RES_4.out.c
 obtain ⟨z0, z1, z2, z3⟩ := RES_4.out.fz
 have lr0 : w.heap.size < w4.heap.size := RES_4.out.lt
 go_wp2_with fail
 refine bodyPost_ret (v := .agg #[.int .i64 x2.kind, .string x2.text, .int .u64 (x2.num : Nat), .slice x2.ka x2.kn x2.kc]) (by simp [results, Tryz.results146, go_sem, q0, q1, q2, q3]) rfl ?_
 rw [EX.out]
 exact tree_end _ _ _ (y := x2) HR.out.2.1 B_4.out T2_4.out P_4.out
theorem let_any {p : List M.Tok -> M.Res M.Tree} (HE : PC hi R N vTree 147 p) : PC hi R N vTree 109 (M.pLet p) := by
 intro w ts h hne
 have h := h
 have hud := hud9
 have HR := Lib.hid (show R < hi /\ hi <= w.heap.size /\ ts.length <= 20000 from ⟨h.1, h.2.1, by obtain ⟨_, _, _, _, _, _, _, _, _, _, _, h9, _⟩ := h; exact h9⟩)
 obtain ⟨X, eX⟩ : ∃ X, X = M.pLet p ts := ⟨_, rfl⟩
 rw [<- eX] at hne ⊢
 unfold M.pLet at eX
 have EX := Lib.hid eX
 have HX := Lib.hid hne
 clear eX hne
 have P_0 := Lib.hid h
 have B_0 := Lib.hid (But.refl R w)
 clear h
 go_enter Tryz.func109, Tryz.ntmps109
 go_wp2_with fail
 obtain ⟨w0, ew0⟩ : ∃ w0, w0 = w.alloc (.cells #[.int .i64 0, .string ⟨#[]⟩, .int .u64 0, .slice none 0 0] 25) := ⟨_, rfl⟩
 rw [<- ew0]
 have RES_0 := Lib.hid (show Box9 w0 w.heap.size V9.no by rw [ew0]; exact Box9.start w V9.no)
 have SLE_0 := Lib.hid (show w.heap.size + 1 <= w0.heap.size by rw [ew0]; simp)
 have P_00 := Lib.hid (show PS hi R N w0 ts by rw [ew0]; exact P_0.out.alloc _)
 have B_00 := Lib.hid (show But R w w0 by rw [ew0]; exact B_0.out.alloc _)
 clear ew0 P_0 B_0
 have C1 := Lib.hid (name_any w0 ts P_00.out (fun h => HX.out (EX.out.trans (by rw [h]; rfl))))
 (with_reducible refine (C1.out).mono ?_)
 intro e w1 hE
 rcases M.Res.em (M.pName ts) with hk | ⟨r1, hk⟩ | ⟨a1, r1, hk⟩
 ·exact absurd (EX.out.trans (by rw [hk]; rfl)) HX.out
 ·rw [hk] at hE
  obtain ⟨he, hb⟩ := hE
  unfold pv at he
  subst he
  have HB := Lib.hid (B_00.out.trans hb)
  have ex := EX.out
  rw [hk] at ex
  try rw [M.Res.bind_bad] at ex
  have EX2 := Lib.hid ex
  clear ex hk hb
  go_wp2_with fail
  rw [EX2.out]
  exact ⟨rfl, rfl, HB.out⟩
 rw [hk] at hE
 obtain ⟨⟨T1, he, hT, hTs⟩, hp, hb⟩ := hE
 subst he
 have HT1 := Lib.hid hT
 have HTs1 := Lib.hid hTs
 clear hT hTs
 have RES_1 := Lib.hid (RES_0.out.but hb (by have := HR.out; omega))
 clear RES_0
 have SLE_1 := Lib.hid (Nat.le_trans SLE_0.out hb.size)
 clear SLE_0
 have P_1 := Lib.hid hp
 have B_1 := Lib.hid (B_00.out.trans hb)
 clear hp hb P_00 B_00
 have ex := EX.out
 rw [hk] at ex
 try rw [M.Res.bind_ok] at ex
 clear EX
 have EX := Lib.hid ex
 clear ex hk
 go_wp2_with fail
 have C2 := Lib.hid ((value_any HE) w1 r1 P_1.out (fun h => HX.out (EX.out.trans (by rw [h]; rfl))))
 have SLB2 := Lib.hid (SLE_1.out)
 (with_reducible refine (C2.out).mono ?_)
 intro e w2 hE
 rcases M.Res.em (M.pVal p r1) with hk | ⟨r2, hk⟩ | ⟨a2, r2, hk⟩
 ·exact absurd (EX.out.trans (by rw [hk]; rfl)) HX.out
 ·rw [hk] at hE
  obtain ⟨he, hb⟩ := hE
  unfold pv at he
  subst he
  have HB := Lib.hid (B_1.out.trans hb)
  have ex := EX.out
  rw [hk] at ex
  try rw [M.Res.bind_bad] at ex
  have EX2 := Lib.hid ex
  clear ex hk hb
  go_wp2_with fail
  rw [EX2.out]
  exact ⟨rfl, rfl, HB.out⟩
 rw [hk] at hE
 obtain ⟨⟨v, he, hv⟩, hp, hb⟩ := hE
 subst he
 obtain ⟨x2, rfl⟩ := hv.v9e
 have RES_2 := Lib.hid (RES_1.out.but hb (by have := HR.out; omega))
 clear RES_1
 have SLE_2 := Lib.hid (Nat.le_trans SLE_1.out hb.size)
 clear SLE_1
 have T2_2 := Lib.hid (hv.lo SLB2.out)
 have P_2 := Lib.hid hp
 have B_2 := Lib.hid (B_1.out.trans hb)
 clear hp hb hv P_1 B_1
 have ex := EX.out
 rw [hk] at ex
 try rw [M.Res.bind_ok] at ex
 clear EX
 have EX := Lib.hid ex
 clear ex hk
 obtain ⟨q0, q1, q2, q3⟩ := RES_2.out.c
 obtain ⟨z0, z1, z2, z3⟩ := RES_2.out.fz
 have lr0 : w.heap.size < w2.heap.size := RES_2.out.lt
 have lr1 : w.heap.size < w2.heap.size + 1 := by have := RES_2.out.lt; omega
 have lr2 : w.heap.size < w2.heap.size + 2 := by have := RES_2.out.lt; omega
 go_wp2_with fail
 refine bodyPost_ret (v := .agg #[.int .i64 3, .string T1, .int .u64 0, .slice (some ⟨w2.heap.size + 1, 0, none⟩) 1 1]) (by simp [results, Tryz.results109, go_sem, q0, q1, q2, q3, lr0, lr1]) rfl ?_
 rw [EX.out]
 exact tree_lit _ _ _ (g := none) (k := 3) (T := T1) (n := 0) (l := [x2]) [(.cells #[.int .i64 x2.kind, .string x2.text, .int .u64 (x2.num : Nat), .slice x2.ka x2.kn x2.kc] 25)] #[.int .i64 x2.kind, .string x2.text, .int .u64 (x2.num : Nat), .slice x2.ka x2.kn x2.kc] HR.out.2.1 SLE_2.out B_2.out P_2.out (.cons T2_2.out .nil) (by simp) rfl HT1.out ⟨by omega, by omega, by have := HTs1.out; omega⟩ (by simp) (by simp) (by simp)
end Go.Proofs.YtngpedcihajepaaGreatDoor
namespace Go.Proofs.YtngpedcihajepaaGreatDoor
open Go.RowKit
variable {hi R N : Nat}
theorem items_any {it : List M.Tok -> M.Res M.Tree} (HP : PC hi R N vTree 64 it) (hl : ∀ l, M.Sh l.length (it l)) (c : Nat) (hit : 0 < c -> ∀ l, M.itemS l = false -> it l = .bad l) (W : ByteArray) {s : List Nat} (hW : M.bs W = s) (hs : s = [125] \/ s = [114, 101, 116, 117, 114, 110]) (w : World) (ts : List M.Tok) (h : PS hi R N w ts)
  (hne : ((M.pItems it c [] ts).bind fun k r => (M.take s r).bind fun _ r => .ok k r) ≠ .out) :
  Calls Tryz.prog 41 #[.pointer (some ⟨R, 0, none⟩), .string W] w (PEnd hi R N vList w ((M.pItems it c [] ts).bind fun k r => (M.take s r).bind fun _ r => .ok k r)) := by
 have hud := hud9
 have HR := Lib.hid (show R < hi /\ hi <= w.heap.size /\ ts.length <= 20000 from ⟨h.1, h.2.1, by obtain ⟨_, _, _, _, _, _, _, _, _, _, _, h9, _⟩ := h; exact h9⟩)
 have HWD := Lib.hid (show Word s by rcases hs with rfl | rfl <;> exact ⟨by decide, by decide⟩)
 obtain ⟨X, eX⟩ : ∃ X, X = ((M.pItems it c [] ts).bind fun k r => (M.take s r).bind fun _ r => M.Res.ok k r) := ⟨_, rfl⟩
 rw [<- eX] at hne ⊢
 have EX := Lib.hid eX
 have HX := Lib.hid hne
 have HLE := Lib.hid hl
 have HIT := Lib.hid hit
 have HSW := Lib.hid hs
 have HWW := Lib.hid hW
 have P_0 := Lib.hid h
 clear eX hne h hl hit hs hW
 go_enter Tryz.func41, Tryz.ntmps41
 go_wp2_with fail
 go_loopg [5] c (fun g tl wr => ∃ (a : List M.Tree) (r : List M.Tok), X = ((M.pItems it g a r).bind fun k r => (M.take s r).bind fun _ r => M.Res.ok k r) /\ g <= c /\ RowN w.heap.size wr tl a /\ PS hi R N wr r /\ But R w wr /\ a.length + r.length <= 20000)
 case atStart => exact ⟨[], ts, EX.out, Nat.le_refl _, RowN.nil _ _, P_0.out, But.refl _ _, by have := HR.out; simp; omega⟩
 case round =>
  obtain ⟨a, r, hx, hgc, hrow, hp, hb, hcnt⟩ := hrel
  have EXR := Lib.hid hx
  have ROW := Lib.hid hrow
  have PR := Lib.hid hp
  have BR := Lib.hid hb
  have CN := Lib.hid hcnt
  have GC := Lib.hid hgc
  obtain ⟨A, cp, rfl⟩ := hrow.sl
  clear hx hrow hp hb hcnt hgc
  cases gk with
  | zero => exact absurd (by rw [EXR.out, M.pItems]; rfl) HX.out
  | succ g =>
   have ex := EXR.out
   rw [M.pItems] at ex
   have EXR := Lib.hid ex
   clear ex
   have AC := Lib.hid (accept_word PR.out W HWW.out HWD.out)
   go_wp2_with fail
   (with_reducible refine (AC.out).mono ?_)
   rintro e w2 ⟨he, hp, hb⟩
   by_cases hc : M.isS s r = true
   ·rw [hc] at he
    rw [if_pos hc] at hp
    subst he
    have hni := M.end_not HSW.out PR.out.name hc
    have ex := EXR.out
    rw [if_neg (by rw [hni]; decide), M.Res.bind_ok] at ex
    unfold M.take at ex
    rw [if_pos hc, M.Res.bind_ok] at ex
    have EX3 := Lib.hid ex
    have PC2 := Lib.hid hp
    have BC2 := Lib.hid hb
    clear ex hp hb hc hni
    go_wp2_with fail
    go_ret
    rw [EX3.out]
    have hlR : R < w.heap.size := by have := HR.out; omega
    exact ⟨⟨_, rfl, ROW.out.step (BC2.out.stay hlR), by have := CN.out; omega⟩, PC2.out, BR.out.trans BC2.out⟩
   ·rw [if_neg hc] at hp
    rw [show M.isS s r = false by simpa using hc] at he
    subst he
    have PC2 := Lib.hid hp
    have BC2 := Lib.hid hb
    have HC2 := Lib.hid hc
    have hno : it r ≠ .out := by
     intro h
     by_cases hi' : M.itemS r = true
     ·exact HX.out (EXR.out.trans (by rw [if_pos hi', h]; rfl))
     ·rw [HIT.out (by have := GC.out; omega) r (by simpa using hi')] at h
      cases h
    have C3 := Lib.hid (HP w2 r hp hno)
    clear hp hb hc hno
    go_wp2_with fail
    (with_reducible refine (C3.out).mono ?_)
    intro e w3 hE
    have HII := Lib.hid (show M.itemS r = false -> it r = .bad r from HIT.out (by have := GC.out; omega) r)
    rcases M.Res.em (it r) with hk | ⟨r3, hk⟩ | ⟨a3, r3, hk⟩
    ·rw [hk] at hE; exact hE.elim
    ·rw [hk] at hE
     obtain ⟨he, hb⟩ := hE
     unfold pv at he
     subst he
     have HB := Lib.hid ((BR.out.trans BC2.out).trans hb)
     have EX2 := Lib.hid (show X = .bad r3 by
      rw [EXR.out]
      by_cases hi' : M.itemS r = true
      ·rw [if_pos hi', hk]; rfl
      ·have h2 := HII.out (by simpa using hi')
       rw [hk] at h2
       injection h2 with h2
       subst h2
       rw [if_neg hi', M.Res.bind_ok]
       unfold M.take
       rw [if_neg HC2.out]; rfl)
     clear hk hb
     go_wp2_with fail
     rw [EX2.out]
     exact ⟨rfl, rfl, HB.out⟩
    rw [hk] at hE
    obtain ⟨⟨v, he, hv⟩, hp, hb⟩ := hE
    subst he
    obtain ⟨y, rfl⟩ := hv.v9e
    have HLK3 := Lib.hid (show r3.length < r.length by have := HLE.out r; rw [hk] at this; exact this)
    have EX4 := Lib.hid (show X = ((M.pItems it g (a ++ [a3]) r3).bind fun k r => (M.take s r).bind fun _ r => M.Res.ok k r) by
     rw [EXR.out]
     have hi' : M.itemS r = true := by
      cases hi' : M.itemS r with
      | true => rfl
      | false => have h2 := HII.out hi'; rw [hk] at h2; cases h2
     rw [if_pos hi', hk]; rfl)
    have B3 := Lib.hid ((BR.out.trans BC2.out).trans hb)
    have hlR : R < w.heap.size := by have := HR.out; omega
    have ROW3 := Lib.hid ((ROW.out.step (BC2.out.stay hlR)).step (hb.stay hlR))
    have hown := (ROW.out.step (BC2.out.stay hlR)).own
    have T3 := Lib.hid ((hv.out _ fun k e => .inl (hown k e).2).lo (Nat.le_trans BR.out.size BC2.out.size))
    have P3 := Lib.hid hp
    clear hk hv hp hb hown hlR
    have ROWW := Lib.hid (ROW3.out.step (Below.stay (((Below.refl _ w3).alloc (Nat.le_refl _) (.cells #[.int .i64 y.kind, .string y.text, .int .u64 (y.num : Nat), .slice y.ka y.kn y.kc] 25)).alloc (by simp) (.cells #[.int .i64 y.kind, .string y.text, .int .u64 (y.num : Nat), .slice y.ka y.kn y.kc] 25))))
    have TW := Lib.hid (T3.out.step (Below.stay (((Below.refl _ w3).alloc (Nat.le_refl _) (.cells #[.int .i64 y.kind, .string y.text, .int .u64 (y.num : Nat), .slice y.ka y.kn y.kc] 25)).alloc (by simp) (.cells #[.int .i64 y.kind, .string y.text, .int .u64 (y.num : Nat), .slice y.ka y.kn y.kc] 25))))
    have NW := Lib.hid (show ∀ j u, (nodeCells [y])[j]? = some u -> ((w3.alloc (.cells #[.int .i64 y.kind, .string y.text, .int .u64 (y.num : Nat), .slice y.ka y.kn y.kc] 25)).alloc (.cells #[.int .i64 y.kind, .string y.text, .int .u64 (y.num : Nat), .slice y.ka y.kn y.kc] 25)).cell? ((⟨w3.heap.size + 1, 0, none⟩ : Addr).add j) = some u from
     new_cells (cells := #[.int .i64 y.kind, .string y.text, .int .u64 (y.num : Nat), .slice y.ka y.kn y.kc]) (by have := alloc_new (w3.alloc (.cells #[.int .i64 y.kind, .string y.text, .int .u64 (y.num : Nat), .slice y.ka y.kn y.kc] 25)) #[.int .i64 y.kind, .string y.text, .int .u64 (y.num : Nat), .slice y.ka y.kn y.kc] 25; rwa [World.size_alloc] at this) rfl)
    have PW := Lib.hid ((P3.out.alloc (.cells #[.int .i64 y.kind, .string y.text, .int .u64 (y.num : Nat), .slice y.ka y.kn y.kc] 25)).alloc (.cells #[.int .i64 y.kind, .string y.text, .int .u64 (y.num : Nat), .slice y.ka y.kn y.kc] 25))
    have BW := Lib.hid ((B3.out.alloc (.cells #[.int .i64 y.kind, .string y.text, .int .u64 (y.num : Nat), .slice y.ka y.kn y.kc] 25)).alloc (.cells #[.int .i64 y.kind, .string y.text, .int .u64 (y.num : Nat), .slice y.ka y.kn y.kc] 25))
    have OW := Lib.hid ROW3.out.own
    clear ROW3 T3 P3 B3 ROW PR BR
    go_wp2_with (at_builtin; refine wpList_append_nodes rfl _ _ rfl w.heap.size (.slice A a.length cp) a [a3] [y] ⟨w3.heap.size + 1, 0, none⟩ 1 1 rfl rfl ROWW.out (.cons TW.out .nil) NW.out rfl (by decide) ?d4 ?d5 ?_)
    case d4 => have := CN.out; omega
    case d5 => exact BW.out.size
    intro g2 cp2 w4 hrow4 hgrow4 hg4 hb4
    have RW4 := Lib.hid hrow4
    have PW4 := Lib.hid (PW.out.grown hgrow4 fun k e => by have := (OW.out k e).1; have := HR.out; omega)
    have BW4 := Lib.hid (BW.out.grown hgrow4 fun k e => (OW.out k e).1)
    clear hrow4 hgrow4 hg4 hb4
    go_wp2_with fail
    go_roundg g
    case measure => omega
    case rel => exact ⟨a ++ [a3], r3, EX4.out, by have := GC.out; omega, RW4.out, PW4.out, BW4.out, by have := HLK3.out; have := CN.out; simp; omega⟩
end Go.Proofs.YtngpedcihajepaaGreatDoor
namespace Go.Proofs.YtngpedcihajepaaGreatDoor
open Go.RowKit
variable {hi R N : Nat}
theorem assignment_any {p : List M.Tok -> M.Res M.Tree} (HE : PC hi R N vTree 147 p) : PC hi R N vTree 114 (M.pSet p) := by
 intro w ts h hne
 have h := h
 have hud := hud9
 have HR := Lib.hid (show R < hi /\ hi <= w.heap.size /\ ts.length <= 20000 from ⟨h.1, h.2.1, by obtain ⟨_, _, _, _, _, _, _, _, _, _, _, h9, _⟩ := h; exact h9⟩)
 obtain ⟨X, eX⟩ : ∃ X, X = M.pSet p ts := ⟨_, rfl⟩
 rw [<- eX] at hne ⊢
 unfold M.pSet at eX
 have EX := Lib.hid eX
 have HX := Lib.hid hne
 clear eX hne
 have P_0 := Lib.hid h
 have B_0 := Lib.hid (But.refl R w)
 clear h
 go_enter Tryz.func114, Tryz.ntmps114
 go_wp2_with fail
 obtain ⟨w0, ew0⟩ : ∃ w0, w0 = w.alloc (.cells #[.int .i64 0, .string ⟨#[]⟩, .int .u64 0, .slice none 0 0] 25) := ⟨_, rfl⟩
 rw [<- ew0]
 have RES_0 := Lib.hid (show Box9 w0 w.heap.size V9.no by rw [ew0]; exact Box9.start w V9.no)
 have SLE_0 := Lib.hid (show w.heap.size + 1 <= w0.heap.size by rw [ew0]; simp)
 have P_00 := Lib.hid (show PS hi R N w0 ts by rw [ew0]; exact P_0.out.alloc _)
 have B_00 := Lib.hid (show But R w w0 by rw [ew0]; exact B_0.out.alloc _)
 clear ew0 P_0 B_0
 have C1 := Lib.hid (name_any w0 ts P_00.out (fun h => HX.out (EX.out.trans (by rw [h]; rfl))))
 (with_reducible refine (C1.out).mono ?_)
 intro e w1 hE
 rcases M.Res.em (M.pName ts) with hk | ⟨r1, hk⟩ | ⟨a1, r1, hk⟩
 ·exact absurd (EX.out.trans (by rw [hk]; rfl)) HX.out
 ·rw [hk] at hE
  obtain ⟨he, hb⟩ := hE
  unfold pv at he
  subst he
  have HB := Lib.hid (B_00.out.trans hb)
  have ex := EX.out
  rw [hk] at ex
  try rw [M.Res.bind_bad] at ex
  have EX2 := Lib.hid ex
  clear ex hk hb
  go_wp2_with fail
  rw [EX2.out]
  exact ⟨rfl, rfl, HB.out⟩
 rw [hk] at hE
 obtain ⟨⟨T1, he, hT, hTs⟩, hp, hb⟩ := hE
 subst he
 have HT1 := Lib.hid hT
 have HTs1 := Lib.hid hTs
 clear hT hTs
 have RES_1 := Lib.hid (RES_0.out.but hb (by have := HR.out; omega))
 clear RES_0
 have SLE_1 := Lib.hid (Nat.le_trans SLE_0.out hb.size)
 clear SLE_0
 have P_1 := Lib.hid hp
 have B_1 := Lib.hid (B_00.out.trans hb)
 clear hp hb P_00 B_00
 have ex := EX.out
 rw [hk] at ex
 try rw [M.Res.bind_ok] at ex
 clear EX
 have EX := Lib.hid ex
 clear ex hk
 go_wp2_with fail
 have C2 := Lib.hid (accept_word P_1.out ⟨#[91]⟩ (s := [91]) rfl ⟨by decide, by decide⟩)
 (with_reducible refine (C2.out).mono ?_)
 rintro e w2 ⟨he, hp, hb⟩
 have RES_2 := Lib.hid (RES_1.out.but hb (by have := HR.out; omega))
 clear RES_1
 have SLE_2 := Lib.hid (Nat.le_trans SLE_1.out hb.size)
 clear SLE_1
 have B_2 := Lib.hid (B_1.out.trans hb)
 clear hb B_1
 by_cases hc : M.isS [91] r1 = true
 ·rw [hc] at he
  rw [if_pos hc] at hp
  subst he
  have ex := EX.out
  rw [if_pos hc] at ex
  clear EX
  have EX := Lib.hid ex
  have P_2 := Lib.hid hp
  have HC2 := Lib.hid hc
  clear ex hp hc P_1
  go_wp2_with fail
  have C3 := Lib.hid (HE w2 (r1.tail) P_2.out (fun h => HX.out (EX.out.trans (by rw [h]; rfl))))
  have SLB3 := Lib.hid (SLE_2.out)
  (with_reducible refine (C3.out).mono ?_)
  intro e w3 hE
  rcases M.Res.em (p (r1.tail)) with hk | ⟨r3, hk⟩ | ⟨a3, r3, hk⟩
  ·exact absurd (EX.out.trans (by rw [hk]; rfl)) HX.out
  ·rw [hk] at hE
   obtain ⟨he, hb⟩ := hE
   unfold pv at he
   subst he
   have HB := Lib.hid (B_2.out.trans hb)
   have ex := EX.out
   rw [hk] at ex
   try rw [M.Res.bind_bad] at ex
   have EX2 := Lib.hid ex
   clear ex hk hb
   go_wp2_with fail
   rw [EX2.out]
   exact ⟨rfl, rfl, HB.out⟩
  rw [hk] at hE
  obtain ⟨⟨v, he, hv⟩, hp, hb⟩ := hE
  subst he
  obtain ⟨x3, rfl⟩ := hv.v9e
  have RES_3 := Lib.hid (RES_2.out.but hb (by have := HR.out; omega))
  clear RES_2
  have SLE_3 := Lib.hid (Nat.le_trans SLE_2.out hb.size)
  clear SLE_2
  have T3_3 := Lib.hid (hv.lo SLB3.out)
  have P_3 := Lib.hid hp
  have B_3 := Lib.hid (B_2.out.trans hb)
  clear hp hb hv P_2 B_2
  have ex := EX.out
  rw [hk] at ex
  try rw [M.Res.bind_ok] at ex
  clear EX
  have EX := Lib.hid ex
  clear ex hk
  go_wp2_with fail
  obtain ⟨v4, ev4⟩ : ∃ v, v = w3.alloc (.cells #[.int .i64 x3.kind, .string x3.text, .int .u64 (x3.num : Nat), .slice x3.ka x3.kn x3.kc] 25) := ⟨_, rfl⟩
  rw [<- ev4]
  have A4 := Lib.hid (show Below w3.heap.size w3 v4 by rw [ev4]; exact (Below.refl _ _).alloc (Nat.le_refl _) _)
  obtain ⟨b4, eb4⟩ : ∃ b, b = w3.heap.size := ⟨_, rfl⟩
  have X4 := Lib.hid (show Box9 v4 b4 x3 by rw [ev4, eb4]; exact Box9.start _ x3)
  have LBX4 := Lib.hid (show hi <= b4 by rw [eb4]; exact P_3.out.2.1)
  have LWX4 := Lib.hid (show w.heap.size < b4 by rw [eb4]; exact SLE_3.out)
  rw [<- eb4]
  have RES_4 := Lib.hid (RES_3.out.below A4.out)
  clear RES_3
  have SLE_4 := Lib.hid (Nat.le_trans SLE_3.out A4.out.size)
  clear SLE_3
  have T3_4 := Lib.hid (T3_3.out.step (Below.stay A4.out))
  clear T3_3
  have P_4 := Lib.hid (P_3.out.below A4.out)
  clear P_3
  have B_4 := Lib.hid (B_3.out.below A4.out)
  clear B_3
  clear ev4 eb4 A4
  have C5 := Lib.hid (expect_any P_4.out ⟨#[93]⟩ (s := [93]) rfl ⟨by decide, by decide⟩)
  (with_reducible refine (C5.out).mono ?_)
  intro e w5 hE
  rcases M.Res.em (M.take [93] r3) with hk | ⟨r5, hk⟩ | ⟨a5, r5, hk⟩
  ·exact absurd (EX.out.trans (by rw [hk]; rfl)) HX.out
  ·rw [hk] at hE
   obtain ⟨he, hb⟩ := hE
   unfold pv at he
   subst he
   have HB := Lib.hid (B_4.out.trans hb)
   have ex := EX.out
   rw [hk] at ex
   try rw [M.Res.bind_bad] at ex
   have EX2 := Lib.hid ex
   clear ex hk hb
   go_wp2_with fail
   rw [EX2.out]
   exact ⟨rfl, rfl, HB.out⟩
  rw [hk] at hE
  obtain ⟨he, hp, hb⟩ := hE
  unfold vUnit at he
  subst he
  have RES_5 := Lib.hid (RES_4.out.but hb (by have := HR.out; omega))
  clear RES_4
  have SLE_5 := Lib.hid (Nat.le_trans SLE_4.out hb.size)
  clear SLE_4
  have T3_5 := Lib.hid (T3_4.out.step (hb.stay (by have := HR.out; omega)))
  clear T3_4
  have X4_5 := Lib.hid (X4.out.but hb (by have := HR.out; have := LBX4.out; omega))
  clear X4
  have P_5 := Lib.hid hp
  have B_5 := Lib.hid (B_4.out.trans hb)
  clear hp hb P_4 B_4
  have ex := EX.out
  rw [hk] at ex
  try rw [M.Res.bind_ok] at ex
  clear EX
  have EX := Lib.hid ex
  clear ex hk
  go_wp2_with fail
  have C6 := Lib.hid ((value_any HE) w5 r5 P_5.out (fun h => HX.out (EX.out.trans (by rw [h]; rfl))))
  have SLB6 := Lib.hid (SLE_5.out)
  (with_reducible refine (C6.out).mono ?_)
  intro e w6 hE
  rcases M.Res.em (M.pVal p r5) with hk | ⟨r6, hk⟩ | ⟨a6, r6, hk⟩
  ·exact absurd (EX.out.trans (by rw [hk]; rfl)) HX.out
  ·rw [hk] at hE
   obtain ⟨he, hb⟩ := hE
   unfold pv at he
   subst he
   have HB := Lib.hid (B_5.out.trans hb)
   have ex := EX.out
   rw [hk] at ex
   try rw [M.Res.bind_bad] at ex
   have EX2 := Lib.hid ex
   clear ex hk hb
   go_wp2_with fail
   rw [EX2.out]
   exact ⟨rfl, rfl, HB.out⟩
  rw [hk] at hE
  obtain ⟨⟨v, he, hv⟩, hp, hb⟩ := hE
  subst he
  obtain ⟨x6, rfl⟩ := hv.v9e
  have RES_6 := Lib.hid (RES_5.out.but hb (by have := HR.out; omega))
  clear RES_5
  have SLE_6 := Lib.hid (Nat.le_trans SLE_5.out hb.size)
  clear SLE_5
  have T3_6 := Lib.hid (T3_5.out.step (hb.stay (by have := HR.out; omega)))
  clear T3_5
  have X4_6 := Lib.hid (X4_5.out.but hb (by have := HR.out; have := LBX4.out; omega))
  clear X4_5
  have T6_6 := Lib.hid (hv.lo SLB6.out)
  have P_6 := Lib.hid hp
  have B_6 := Lib.hid (B_5.out.trans hb)
  clear hp hb hv P_5 B_5
  have ex := EX.out
  rw [hk] at ex
  try rw [M.Res.bind_ok] at ex
  clear EX
  have EX := Lib.hid ex
  clear ex hk
  obtain ⟨kb40, kb41, kb42, kb43⟩ := X4_6.out.c
  have lb40 : b4 < w6.heap.size := X4_6.out.lt
  have lb41 : b4 < w6.heap.size + 1 := by have := X4_6.out.lt; omega
  have lb42 : b4 < w6.heap.size + 2 := by have := X4_6.out.lt; omega
  obtain ⟨q0, q1, q2, q3⟩ := RES_6.out.c
  obtain ⟨z0, z1, z2, z3⟩ := RES_6.out.fz
  have lr0 : w.heap.size < w6.heap.size := RES_6.out.lt
  have lr1 : w.heap.size < w6.heap.size + 1 := by have := RES_6.out.lt; omega
  have lr2 : w.heap.size < w6.heap.size + 2 := by have := RES_6.out.lt; omega
  go_wp2_with fail
  refine bodyPost_ret (v := .agg #[.int .i64 5, .string T1, .int .u64 0, .slice (some ⟨w6.heap.size + 1, 0, none⟩) 2 2]) (by simp [results, Tryz.results114, go_sem, q0, q1, q2, q3, lr0, lr1]) rfl ?_
  rw [EX.out]
  exact tree_lit _ _ _ (g := none) (k := 5) (T := T1) (n := 0) (l := [x3, x6]) [(.cells #[.int .i64 x6.kind, .string x6.text, .int .u64 (x6.num : Nat), .slice x6.ka x6.kn x6.kc] 25)] #[.int .i64 x3.kind, .string x3.text, .int .u64 (x3.num : Nat), .slice x3.ka x3.kn x3.kc, .int .i64 x6.kind, .string x6.text, .int .u64 (x6.num : Nat), .slice x6.ka x6.kn x6.kc] HR.out.2.1 SLE_6.out B_6.out P_6.out (.cons T3_6.out (.cons T6_6.out .nil)) (by simp) rfl HT1.out ⟨by omega, by omega, by have := HTs1.out; omega⟩ (by simp) (by simp) (by simp)
 ·rw [if_neg hc] at hp
  rw [show M.isS [91] r1 = false by simpa using hc] at he
  subst he
  have ex := EX.out
  rw [if_neg hc] at ex
  clear EX
  have EX := Lib.hid ex
  have P_2 := Lib.hid hp
  have HC2 := Lib.hid hc
  clear ex hp hc P_1
  go_wp2_with fail
  have C3 := Lib.hid ((value_any HE) w2 r1 P_2.out (fun h => HX.out (EX.out.trans (by rw [h]; rfl))))
  have SLB3 := Lib.hid (SLE_2.out)
  (with_reducible refine (C3.out).mono ?_)
  intro e w3 hE
  rcases M.Res.em (M.pVal p r1) with hk | ⟨r3, hk⟩ | ⟨a3, r3, hk⟩
  ·exact absurd (EX.out.trans (by rw [hk]; rfl)) HX.out
  ·rw [hk] at hE
   obtain ⟨he, hb⟩ := hE
   unfold pv at he
   subst he
   have HB := Lib.hid (B_2.out.trans hb)
   have ex := EX.out
   rw [hk] at ex
   try rw [M.Res.bind_bad] at ex
   have EX2 := Lib.hid ex
   clear ex hk hb
   go_wp2_with fail
   rw [EX2.out]
   exact ⟨rfl, rfl, HB.out⟩
  rw [hk] at hE
  obtain ⟨⟨v, he, hv⟩, hp, hb⟩ := hE
  subst he
  obtain ⟨x3, rfl⟩ := hv.v9e
  have RES_3 := Lib.hid (RES_2.out.but hb (by have := HR.out; omega))
  clear RES_2
  have SLE_3 := Lib.hid (Nat.le_trans SLE_2.out hb.size)
  clear SLE_2
  have T3_3 := Lib.hid (hv.lo SLB3.out)
  have P_3 := Lib.hid hp
  have B_3 := Lib.hid (B_2.out.trans hb)
  clear hp hb hv P_2 B_2
  have ex := EX.out
  rw [hk] at ex
  try rw [M.Res.bind_ok] at ex
  clear EX
  have EX := Lib.hid ex
  clear ex hk
  obtain ⟨q0, q1, q2, q3⟩ := RES_3.out.c
  obtain ⟨z0, z1, z2, z3⟩ := RES_3.out.fz
  have lr0 : w.heap.size < w3.heap.size := RES_3.out.lt
  have lr1 : w.heap.size < w3.heap.size + 1 := by have := RES_3.out.lt; omega
  have lr2 : w.heap.size < w3.heap.size + 2 := by have := RES_3.out.lt; omega
  go_wp2_with fail
  refine bodyPost_ret (v := .agg #[.int .i64 4, .string T1, .int .u64 0, .slice (some ⟨w3.heap.size + 1, 0, none⟩) 1 1]) (by simp [results, Tryz.results114, go_sem, q0, q1, q2, q3, lr0, lr1]) rfl ?_
  rw [EX.out]
  exact tree_lit _ _ _ (g := none) (k := 4) (T := T1) (n := 0) (l := [x3]) [(.cells #[.int .i64 x3.kind, .string x3.text, .int .u64 (x3.num : Nat), .slice x3.ka x3.kn x3.kc] 25)] #[.int .i64 x3.kind, .string x3.text, .int .u64 (x3.num : Nat), .slice x3.ka x3.kn x3.kc] HR.out.2.1 SLE_3.out B_3.out P_3.out (.cons T3_3.out .nil) (by simp) rfl HT1.out ⟨by omega, by omega, by have := HTs1.out; omega⟩ (by simp) (by simp) (by simp)
theorem block_any {it : List M.Tok -> M.Res M.Tree} (HI : PC hi R N vTree 64 it) (hI : ∀ l, M.Sh l.length (it l)) (c : Nat) (hit : 0 < c -> ∀ l, M.itemS l = false -> it l = .bad l) : PC hi R N vTree 148 (M.pBlock it c) := by
 intro w ts h hne
 have h := h
 have hud := hud9
 have HR := Lib.hid (show R < hi /\ hi <= w.heap.size /\ ts.length <= 20000 from ⟨h.1, h.2.1, by obtain ⟨_, _, _, _, _, _, _, _, _, _, _, h9, _⟩ := h; exact h9⟩)
 obtain ⟨X, eX⟩ : ∃ X, X = M.pBlock it c ts := ⟨_, rfl⟩
 rw [<- eX] at hne ⊢
 unfold M.pBlock at eX
 have EX := Lib.hid eX
 have HX := Lib.hid hne
 clear eX hne
 have P_0 := Lib.hid h
 have B_0 := Lib.hid (But.refl R w)
 clear h
 go_enter Tryz.func148, Tryz.ntmps148
 go_wp2_with fail
 obtain ⟨w0, ew0⟩ : ∃ w0, w0 = w.alloc (.cells #[.int .i64 0, .string ⟨#[]⟩, .int .u64 0, .slice none 0 0] 25) := ⟨_, rfl⟩
 rw [<- ew0]
 have RES_0 := Lib.hid (show Box9 w0 w.heap.size V9.no by rw [ew0]; exact Box9.start w V9.no)
 have SLE_0 := Lib.hid (show w.heap.size + 1 <= w0.heap.size by rw [ew0]; simp)
 have P_00 := Lib.hid (show PS hi R N w0 ts by rw [ew0]; exact P_0.out.alloc _)
 have B_00 := Lib.hid (show But R w w0 by rw [ew0]; exact B_0.out.alloc _)
 clear ew0 P_0 B_0
 have C1 := Lib.hid (expect_any P_00.out ⟨#[123]⟩ (s := [123]) rfl ⟨by decide, by decide⟩)
 (with_reducible refine (C1.out).mono ?_)
 intro e w1 hE
 rcases M.Res.em (M.take [123] ts) with hk | ⟨r1, hk⟩ | ⟨a1, r1, hk⟩
 ·exact absurd (EX.out.trans (by rw [hk]; rfl)) HX.out
 ·rw [hk] at hE
  obtain ⟨he, hb⟩ := hE
  unfold pv at he
  subst he
  have HB := Lib.hid (B_00.out.trans hb)
  have ex := EX.out
  rw [hk] at ex
  try rw [M.Res.bind_bad] at ex
  have EX2 := Lib.hid ex
  clear ex hk hb
  go_wp2_with fail
  rw [EX2.out]
  exact ⟨rfl, rfl, HB.out⟩
 rw [hk] at hE
 obtain ⟨he, hp, hb⟩ := hE
 unfold vUnit at he
 subst he
 have RES_1 := Lib.hid (RES_0.out.but hb (by have := HR.out; omega))
 clear RES_0
 have SLE_1 := Lib.hid (Nat.le_trans SLE_0.out hb.size)
 clear SLE_0
 have P_1 := Lib.hid hp
 have B_1 := Lib.hid (B_00.out.trans hb)
 clear hp hb P_00 B_00
 have ex := EX.out
 rw [hk] at ex
 try rw [M.Res.bind_ok] at ex
 clear EX
 have EX := Lib.hid ex
 clear ex hk
 have ex := EX.out
 rw [show (M.pItems it c [] r1).bind (fun k r => (M.take [125] r).bind fun _ r => M.Res.ok (M.Tree.node 10 [] 0 k) r) = ((M.pItems it c [] r1).bind fun k r => (M.take [125] r).bind fun _ r => M.Res.ok k r).bind fun k r => M.Res.ok (M.Tree.node 10 [] 0 k) r by simp only [M.Res.bind_assoc, M.Res.bind_ok]] at ex
 clear EX
 have EX := Lib.hid ex
 clear ex
 go_wp2_with fail
 have C2 := Lib.hid (items_any HI hI c hit ⟨#[125]⟩ (s := [125]) rfl (.inl rfl) w1 r1 P_1.out (fun h => HX.out (EX.out.trans (by rw [h]; rfl))))
 have SLB2 := Lib.hid (SLE_1.out)
 (with_reducible refine (C2.out).mono ?_)
 intro e w2 hE
 rcases M.Res.em (((M.pItems it c [] r1).bind fun k r => (M.take [125] r).bind fun _ r => M.Res.ok k r)) with hk | ⟨r2, hk⟩ | ⟨a2, r2, hk⟩
 ·exact absurd (EX.out.trans (by rw [hk]; rfl)) HX.out
 ·rw [hk] at hE
  obtain ⟨he, hb⟩ := hE
  unfold pv at he
  subst he
  have HB := Lib.hid (B_1.out.trans hb)
  have ex := EX.out
  rw [hk] at ex
  try rw [M.Res.bind_bad] at ex
  have EX2 := Lib.hid ex
  clear ex hk hb
  go_wp2_with fail
  rw [EX2.out]
  exact ⟨rfl, rfl, HB.out⟩
 rw [hk] at hE
 obtain ⟨⟨v, he, hv, hvl⟩, hp, hb⟩ := hE
 subst he
 obtain ⟨A2, c2, rfl⟩ := hv.sl
 have RES_2 := Lib.hid (RES_1.out.but hb (by have := HR.out; omega))
 clear RES_1
 have SLE_2 := Lib.hid (Nat.le_trans SLE_1.out hb.size)
 clear SLE_1
 have L2_2 := Lib.hid (hv.lo SLB2.out)
 have HL2 := Lib.hid hvl
 have P_2 := Lib.hid hp
 have B_2 := Lib.hid (B_1.out.trans hb)
 clear hp hb hv hvl P_1 B_1
 have ex := EX.out
 rw [hk] at ex
 try rw [M.Res.bind_ok] at ex
 clear EX
 have EX := Lib.hid ex
 clear ex hk
 obtain ⟨q0, q1, q2, q3⟩ := RES_2.out.c
 obtain ⟨z0, z1, z2, z3⟩ := RES_2.out.fz
 have lr0 : w.heap.size < w2.heap.size := RES_2.out.lt
 go_wp2_with fail
 refine bodyPost_ret (v := .agg #[.int .i64 10, .string ⟨#[]⟩, .int .u64 (0 : Nat), .slice A2 a2.length c2]) (by simp [results, Tryz.results148, go_sem, q0, q1, q2, q3]) rfl ?_
 rw [EX.out]
 exact tree_end _ _ _ (y := ⟨10, ⟨#[]⟩, 0, A2, a2.length, c2⟩) HR.out.2.1 B_2.out (NodeN.make (k := 10) (T := ⟨#[]⟩) (n := 0) (L2_2.out.kids (by have := HL2.out; omega)) rfl ⟨by omega, by omega, by decide⟩) P_2.out
theorem loop_any {p : List M.Tok -> M.Res M.Tree} (HE : PC hi R N vTree 147 p) {it : List M.Tok -> M.Res M.Tree} (HI : PC hi R N vTree 64 it) (hI : ∀ l, M.Sh l.length (it l)) (c : Nat) (hit : 0 < c -> ∀ l, M.itemS l = false -> it l = .bad l) : PC hi R N vTree 111 (M.pFor p it c) := by
 intro w ts h hne
 have h := h
 have hud := hud9
 have HR := Lib.hid (show R < hi /\ hi <= w.heap.size /\ ts.length <= 20000 from ⟨h.1, h.2.1, by obtain ⟨_, _, _, _, _, _, _, _, _, _, _, h9, _⟩ := h; exact h9⟩)
 obtain ⟨X, eX⟩ : ∃ X, X = M.pFor p it c ts := ⟨_, rfl⟩
 rw [<- eX] at hne ⊢
 unfold M.pFor at eX
 have EX := Lib.hid eX
 have HX := Lib.hid hne
 clear eX hne
 have P_0 := Lib.hid h
 have B_0 := Lib.hid (But.refl R w)
 clear h
 go_enter Tryz.func111, Tryz.ntmps111
 go_wp2_with fail
 obtain ⟨w0, ew0⟩ : ∃ w0, w0 = w.alloc (.cells #[.int .i64 0, .string ⟨#[]⟩, .int .u64 0, .slice none 0 0] 25) := ⟨_, rfl⟩
 rw [<- ew0]
 have RES_0 := Lib.hid (show Box9 w0 w.heap.size V9.no by rw [ew0]; exact Box9.start w V9.no)
 have SLE_0 := Lib.hid (show w.heap.size + 1 <= w0.heap.size by rw [ew0]; simp)
 have P_00 := Lib.hid (show PS hi R N w0 ts by rw [ew0]; exact P_0.out.alloc _)
 have B_00 := Lib.hid (show But R w w0 by rw [ew0]; exact B_0.out.alloc _)
 clear ew0 P_0 B_0
 have C1 := Lib.hid (name_any w0 ts P_00.out (fun h => HX.out (EX.out.trans (by rw [h]; rfl))))
 (with_reducible refine (C1.out).mono ?_)
 intro e w1 hE
 rcases M.Res.em (M.pName ts) with hk | ⟨r1, hk⟩ | ⟨a1, r1, hk⟩
 ·exact absurd (EX.out.trans (by rw [hk]; rfl)) HX.out
 ·rw [hk] at hE
  obtain ⟨he, hb⟩ := hE
  unfold pv at he
  subst he
  have HB := Lib.hid (B_00.out.trans hb)
  have ex := EX.out
  rw [hk] at ex
  try rw [M.Res.bind_bad] at ex
  have EX2 := Lib.hid ex
  clear ex hk hb
  go_wp2_with fail
  rw [EX2.out]
  exact ⟨rfl, rfl, HB.out⟩
 rw [hk] at hE
 obtain ⟨⟨T1, he, hT, hTs⟩, hp, hb⟩ := hE
 subst he
 have HT1 := Lib.hid hT
 have HTs1 := Lib.hid hTs
 clear hT hTs
 have RES_1 := Lib.hid (RES_0.out.but hb (by have := HR.out; omega))
 clear RES_0
 have SLE_1 := Lib.hid (Nat.le_trans SLE_0.out hb.size)
 clear SLE_0
 have P_1 := Lib.hid hp
 have B_1 := Lib.hid (B_00.out.trans hb)
 clear hp hb P_00 B_00
 have ex := EX.out
 rw [hk] at ex
 try rw [M.Res.bind_ok] at ex
 clear EX
 have EX := Lib.hid ex
 clear ex hk
 go_wp2_with fail
 have C2 := Lib.hid (expect_any P_1.out ⟨#[61]⟩ (s := [61]) rfl ⟨by decide, by decide⟩)
 (with_reducible refine (C2.out).mono ?_)
 intro e w2 hE
 rcases M.Res.em (M.take [61] r1) with hk | ⟨r2, hk⟩ | ⟨a2, r2, hk⟩
 ·exact absurd (EX.out.trans (by rw [hk]; rfl)) HX.out
 ·rw [hk] at hE
  obtain ⟨he, hb⟩ := hE
  unfold pv at he
  subst he
  have HB := Lib.hid (B_1.out.trans hb)
  have ex := EX.out
  rw [hk] at ex
  try rw [M.Res.bind_bad] at ex
  have EX2 := Lib.hid ex
  clear ex hk hb
  go_wp2_with fail
  rw [EX2.out]
  exact ⟨rfl, rfl, HB.out⟩
 rw [hk] at hE
 obtain ⟨he, hp, hb⟩ := hE
 unfold vUnit at he
 subst he
 have RES_2 := Lib.hid (RES_1.out.but hb (by have := HR.out; omega))
 clear RES_1
 have SLE_2 := Lib.hid (Nat.le_trans SLE_1.out hb.size)
 clear SLE_1
 have P_2 := Lib.hid hp
 have B_2 := Lib.hid (B_1.out.trans hb)
 clear hp hb P_1 B_1
 have ex := EX.out
 rw [hk] at ex
 try rw [M.Res.bind_ok] at ex
 clear EX
 have EX := Lib.hid ex
 clear ex hk
 go_wp2_with fail
 have C3 := Lib.hid (HE w2 r2 P_2.out (fun h => HX.out (EX.out.trans (by rw [h]; rfl))))
 have SLB3 := Lib.hid (SLE_2.out)
 (with_reducible refine (C3.out).mono ?_)
 intro e w3 hE
 rcases M.Res.em (p r2) with hk | ⟨r3, hk⟩ | ⟨a3, r3, hk⟩
 ·exact absurd (EX.out.trans (by rw [hk]; rfl)) HX.out
 ·rw [hk] at hE
  obtain ⟨he, hb⟩ := hE
  unfold pv at he
  subst he
  have HB := Lib.hid (B_2.out.trans hb)
  have ex := EX.out
  rw [hk] at ex
  try rw [M.Res.bind_bad] at ex
  have EX2 := Lib.hid ex
  clear ex hk hb
  go_wp2_with fail
  rw [EX2.out]
  exact ⟨rfl, rfl, HB.out⟩
 rw [hk] at hE
 obtain ⟨⟨v, he, hv⟩, hp, hb⟩ := hE
 subst he
 obtain ⟨x3, rfl⟩ := hv.v9e
 have RES_3 := Lib.hid (RES_2.out.but hb (by have := HR.out; omega))
 clear RES_2
 have SLE_3 := Lib.hid (Nat.le_trans SLE_2.out hb.size)
 clear SLE_2
 have T3_3 := Lib.hid (hv.lo SLB3.out)
 have P_3 := Lib.hid hp
 have B_3 := Lib.hid (B_2.out.trans hb)
 clear hp hb hv P_2 B_2
 have ex := EX.out
 rw [hk] at ex
 try rw [M.Res.bind_ok] at ex
 clear EX
 have EX := Lib.hid ex
 clear ex hk
 go_wp2_with fail
 obtain ⟨v4, ev4⟩ : ∃ v, v = w3.alloc (.cells #[.int .i64 x3.kind, .string x3.text, .int .u64 (x3.num : Nat), .slice x3.ka x3.kn x3.kc] 25) := ⟨_, rfl⟩
 rw [<- ev4]
 have A4 := Lib.hid (show Below w3.heap.size w3 v4 by rw [ev4]; exact (Below.refl _ _).alloc (Nat.le_refl _) _)
 obtain ⟨b4, eb4⟩ : ∃ b, b = w3.heap.size := ⟨_, rfl⟩
 have X4 := Lib.hid (show Box9 v4 b4 x3 by rw [ev4, eb4]; exact Box9.start _ x3)
 have LBX4 := Lib.hid (show hi <= b4 by rw [eb4]; exact P_3.out.2.1)
 have LWX4 := Lib.hid (show w.heap.size < b4 by rw [eb4]; exact SLE_3.out)
 rw [<- eb4]
 have RES_4 := Lib.hid (RES_3.out.below A4.out)
 clear RES_3
 have SLE_4 := Lib.hid (Nat.le_trans SLE_3.out A4.out.size)
 clear SLE_3
 have T3_4 := Lib.hid (T3_3.out.step (Below.stay A4.out))
 clear T3_3
 have P_4 := Lib.hid (P_3.out.below A4.out)
 clear P_3
 have B_4 := Lib.hid (B_3.out.below A4.out)
 clear B_3
 clear ev4 eb4 A4
 have C5 := Lib.hid (expect_any P_4.out ⟨#[116, 111]⟩ (s := [116, 111]) rfl ⟨by decide, by decide⟩)
 (with_reducible refine (C5.out).mono ?_)
 intro e w5 hE
 rcases M.Res.em (M.take [116, 111] r3) with hk | ⟨r5, hk⟩ | ⟨a5, r5, hk⟩
 ·exact absurd (EX.out.trans (by rw [hk]; rfl)) HX.out
 ·rw [hk] at hE
  obtain ⟨he, hb⟩ := hE
  unfold pv at he
  subst he
  have HB := Lib.hid (B_4.out.trans hb)
  have ex := EX.out
  rw [hk] at ex
  try rw [M.Res.bind_bad] at ex
  have EX2 := Lib.hid ex
  clear ex hk hb
  go_wp2_with fail
  rw [EX2.out]
  exact ⟨rfl, rfl, HB.out⟩
 rw [hk] at hE
 obtain ⟨he, hp, hb⟩ := hE
 unfold vUnit at he
 subst he
 have RES_5 := Lib.hid (RES_4.out.but hb (by have := HR.out; omega))
 clear RES_4
 have SLE_5 := Lib.hid (Nat.le_trans SLE_4.out hb.size)
 clear SLE_4
 have T3_5 := Lib.hid (T3_4.out.step (hb.stay (by have := HR.out; omega)))
 clear T3_4
 have X4_5 := Lib.hid (X4.out.but hb (by have := HR.out; have := LBX4.out; omega))
 clear X4
 have P_5 := Lib.hid hp
 have B_5 := Lib.hid (B_4.out.trans hb)
 clear hp hb P_4 B_4
 have ex := EX.out
 rw [hk] at ex
 try rw [M.Res.bind_ok] at ex
 clear EX
 have EX := Lib.hid ex
 clear ex hk
 go_wp2_with fail
 have C6 := Lib.hid (HE w5 r5 P_5.out (fun h => HX.out (EX.out.trans (by rw [h]; rfl))))
 have SLB6 := Lib.hid (SLE_5.out)
 (with_reducible refine (C6.out).mono ?_)
 intro e w6 hE
 rcases M.Res.em (p r5) with hk | ⟨r6, hk⟩ | ⟨a6, r6, hk⟩
 ·exact absurd (EX.out.trans (by rw [hk]; rfl)) HX.out
 ·rw [hk] at hE
  obtain ⟨he, hb⟩ := hE
  unfold pv at he
  subst he
  have HB := Lib.hid (B_5.out.trans hb)
  have ex := EX.out
  rw [hk] at ex
  try rw [M.Res.bind_bad] at ex
  have EX2 := Lib.hid ex
  clear ex hk hb
  go_wp2_with fail
  rw [EX2.out]
  exact ⟨rfl, rfl, HB.out⟩
 rw [hk] at hE
 obtain ⟨⟨v, he, hv⟩, hp, hb⟩ := hE
 subst he
 obtain ⟨x6, rfl⟩ := hv.v9e
 have RES_6 := Lib.hid (RES_5.out.but hb (by have := HR.out; omega))
 clear RES_5
 have SLE_6 := Lib.hid (Nat.le_trans SLE_5.out hb.size)
 clear SLE_5
 have T3_6 := Lib.hid (T3_5.out.step (hb.stay (by have := HR.out; omega)))
 clear T3_5
 have X4_6 := Lib.hid (X4_5.out.but hb (by have := HR.out; have := LBX4.out; omega))
 clear X4_5
 have T6_6 := Lib.hid (hv.lo SLB6.out)
 have P_6 := Lib.hid hp
 have B_6 := Lib.hid (B_5.out.trans hb)
 clear hp hb hv P_5 B_5
 have ex := EX.out
 rw [hk] at ex
 try rw [M.Res.bind_ok] at ex
 clear EX
 have EX := Lib.hid ex
 clear ex hk
 go_wp2_with fail
 obtain ⟨v7, ev7⟩ : ∃ v, v = w6.alloc (.cells #[.int .i64 x6.kind, .string x6.text, .int .u64 (x6.num : Nat), .slice x6.ka x6.kn x6.kc] 25) := ⟨_, rfl⟩
 rw [<- ev7]
 have A7 := Lib.hid (show Below w6.heap.size w6 v7 by rw [ev7]; exact (Below.refl _ _).alloc (Nat.le_refl _) _)
 obtain ⟨b7, eb7⟩ : ∃ b, b = w6.heap.size := ⟨_, rfl⟩
 have X7 := Lib.hid (show Box9 v7 b7 x6 by rw [ev7, eb7]; exact Box9.start _ x6)
 have LBX7 := Lib.hid (show hi <= b7 by rw [eb7]; exact P_6.out.2.1)
 have LWX7 := Lib.hid (show w.heap.size < b7 by rw [eb7]; exact SLE_6.out)
 rw [<- eb7]
 have RES_7 := Lib.hid (RES_6.out.below A7.out)
 clear RES_6
 have SLE_7 := Lib.hid (Nat.le_trans SLE_6.out A7.out.size)
 clear SLE_6
 have T3_7 := Lib.hid (T3_6.out.step (Below.stay A7.out))
 clear T3_6
 have T6_7 := Lib.hid (T6_6.out.step (Below.stay A7.out))
 clear T6_6
 have X4_7 := Lib.hid (X4_6.out.below A7.out)
 clear X4_6
 have P_7 := Lib.hid (P_6.out.below A7.out)
 clear P_6
 have B_7 := Lib.hid (B_6.out.below A7.out)
 clear B_6
 clear ev7 eb7 A7
 have C8 := Lib.hid ((block_any HI hI c hit) v7 r6 P_7.out (fun h => HX.out (EX.out.trans (by rw [h]; rfl))))
 have SLB8 := Lib.hid (SLE_7.out)
 (with_reducible refine (C8.out).mono ?_)
 intro e w8 hE
 rcases M.Res.em (M.pBlock it c r6) with hk | ⟨r8, hk⟩ | ⟨a8, r8, hk⟩
 ·exact absurd (EX.out.trans (by rw [hk]; rfl)) HX.out
 ·rw [hk] at hE
  obtain ⟨he, hb⟩ := hE
  unfold pv at he
  subst he
  have HB := Lib.hid (B_7.out.trans hb)
  have ex := EX.out
  rw [hk] at ex
  try rw [M.Res.bind_bad] at ex
  have EX2 := Lib.hid ex
  clear ex hk hb
  go_wp2_with fail
  rw [EX2.out]
  exact ⟨rfl, rfl, HB.out⟩
 rw [hk] at hE
 obtain ⟨⟨v, he, hv⟩, hp, hb⟩ := hE
 subst he
 obtain ⟨x8, rfl⟩ := hv.v9e
 have RES_8 := Lib.hid (RES_7.out.but hb (by have := HR.out; omega))
 clear RES_7
 have SLE_8 := Lib.hid (Nat.le_trans SLE_7.out hb.size)
 clear SLE_7
 have T3_8 := Lib.hid (T3_7.out.step (hb.stay (by have := HR.out; omega)))
 clear T3_7
 have T6_8 := Lib.hid (T6_7.out.step (hb.stay (by have := HR.out; omega)))
 clear T6_7
 have X4_8 := Lib.hid (X4_7.out.but hb (by have := HR.out; have := LBX4.out; omega))
 clear X4_7
 have X7_8 := Lib.hid (X7.out.but hb (by have := HR.out; have := LBX7.out; omega))
 clear X7
 have T8_8 := Lib.hid (hv.lo SLB8.out)
 have P_8 := Lib.hid hp
 have B_8 := Lib.hid (B_7.out.trans hb)
 clear hp hb hv P_7 B_7
 have ex := EX.out
 rw [hk] at ex
 try rw [M.Res.bind_ok] at ex
 clear EX
 have EX := Lib.hid ex
 clear ex hk
 obtain ⟨kb40, kb41, kb42, kb43⟩ := X4_8.out.c
 have lb40 : b4 < w8.heap.size := X4_8.out.lt
 have lb41 : b4 < w8.heap.size + 1 := by have := X4_8.out.lt; omega
 have lb42 : b4 < w8.heap.size + 2 := by have := X4_8.out.lt; omega
 obtain ⟨kb70, kb71, kb72, kb73⟩ := X7_8.out.c
 have lb70 : b7 < w8.heap.size := X7_8.out.lt
 have lb71 : b7 < w8.heap.size + 1 := by have := X7_8.out.lt; omega
 have lb72 : b7 < w8.heap.size + 2 := by have := X7_8.out.lt; omega
 obtain ⟨q0, q1, q2, q3⟩ := RES_8.out.c
 obtain ⟨z0, z1, z2, z3⟩ := RES_8.out.fz
 have lr0 : w.heap.size < w8.heap.size := RES_8.out.lt
 have lr1 : w.heap.size < w8.heap.size + 1 := by have := RES_8.out.lt; omega
 have lr2 : w.heap.size < w8.heap.size + 2 := by have := RES_8.out.lt; omega
 go_wp2_with fail
 refine bodyPost_ret (v := .agg #[.int .i64 7, .string T1, .int .u64 0, .slice (some ⟨w8.heap.size + 1, 0, none⟩) 3 3]) (by simp [results, Tryz.results111, go_sem, q0, q1, q2, q3, lr0, lr1]) rfl ?_
 rw [EX.out]
 exact tree_lit _ _ _ (g := none) (k := 7) (T := T1) (n := 0) (l := [x3, x6, x8]) [(.cells #[.int .i64 x8.kind, .string x8.text, .int .u64 (x8.num : Nat), .slice x8.ka x8.kn x8.kc] 25)] #[.int .i64 x3.kind, .string x3.text, .int .u64 (x3.num : Nat), .slice x3.ka x3.kn x3.kc, .int .i64 x6.kind, .string x6.text, .int .u64 (x6.num : Nat), .slice x6.ka x6.kn x6.kc, .int .i64 x8.kind, .string x8.text, .int .u64 (x8.num : Nat), .slice x8.ka x8.kn x8.kc] HR.out.2.1 SLE_8.out B_8.out P_8.out (.cons T3_8.out (.cons T6_8.out (.cons T8_8.out .nil))) (by simp) rfl HT1.out ⟨by omega, by omega, by have := HTs1.out; omega⟩ (by simp) (by simp) (by simp)
end Go.Proofs.YtngpedcihajepaaGreatDoor
namespace Go.Proofs.YtngpedcihajepaaGreatDoor
open Go.RowKit
variable {hi R N : Nat}
theorem bracketed_any {F : Nat} {p : List M.Tok -> M.Res M.Tree} (HP : PC hi R N vTree F p) (HF : ∀ args w, (callFunc F args).run Tryz.prog w = .ok (.enter F args) w) (hl : Less p) (c : Nat)  (w : World) (ts : List M.Tok) (h : PS hi R N w ts) (hne : M.pBrack p c ts ≠ .out) : Calls Tryz.prog 151 #[.pointer (some ⟨R, 0, none⟩), .func (.func F) #[.pointer (some ⟨R, 0, none⟩)] #[]] w (PEnd hi R N vList w (M.pBrack p c ts)) := by
 have h := h
 have hud := hud9
 have HR := Lib.hid (show R < hi /\ hi <= w.heap.size /\ ts.length <= 20000 from ⟨h.1, h.2.1, by obtain ⟨_, _, _, _, _, _, _, _, _, _, _, h9, _⟩ := h; exact h9⟩)
 obtain ⟨X, eX⟩ : ∃ X, X = M.pBrack p c ts := ⟨_, rfl⟩
 rw [<- eX] at hne ⊢
 unfold M.pBrack at eX
 have EX := Lib.hid eX
 have HX := Lib.hid hne
 clear eX hne
 have P_0 := Lib.hid h
 have B_0 := Lib.hid (But.refl R w)
 clear h
 go_enter Tryz.func151, Tryz.ntmps151
 go_wp2_with fail
 have C1 := Lib.hid (expect_any P_0.out ⟨#[40]⟩ (s := [40]) rfl ⟨by decide, by decide⟩)
 (with_reducible refine (C1.out).mono ?_)
 intro e w1 hE
 rcases M.Res.em (M.take [40] ts) with hk | ⟨r1, hk⟩ | ⟨a1, r1, hk⟩
 ·exact absurd (EX.out.trans (by rw [hk]; rfl)) HX.out
 ·rw [hk] at hE
  obtain ⟨he, hb⟩ := hE
  unfold pv at he
  subst he
  have HB := Lib.hid (B_0.out.trans hb)
  have ex := EX.out
  rw [hk] at ex
  try rw [M.Res.bind_bad] at ex
  have EX2 := Lib.hid ex
  clear ex hk hb
  go_wp2_with fail
  rw [EX2.out]
  exact ⟨rfl, rfl, HB.out⟩
 rw [hk] at hE
 obtain ⟨he, hp, hb⟩ := hE
 unfold vUnit at he
 subst he
 have P_1 := Lib.hid hp
 have B_1 := Lib.hid (B_0.out.trans hb)
 clear hp hb P_0 B_0
 have ex := EX.out
 rw [hk] at ex
 try rw [M.Res.bind_ok] at ex
 clear EX
 have EX := Lib.hid ex
 clear ex hk
 have ex := EX.out
 unfold M.pArgs at ex
 clear EX
 have EX := Lib.hid ex
 clear ex
 go_wp2_with fail
 have C2 := Lib.hid (accept_word P_1.out ⟨#[41]⟩ (s := [41]) rfl ⟨by decide, by decide⟩)
 (with_reducible refine (C2.out).mono ?_)
 rintro e w2 ⟨he, hp, hb⟩
 have B_2 := Lib.hid (B_1.out.trans hb)
 clear hb B_1
 by_cases hc : M.isS [41] r1 = true
 ·rw [hc] at he
  rw [if_pos hc] at hp
  subst he
  have ex := EX.out
  rw [if_pos hc] at ex
  try rw [M.Res.bind_ok] at ex
  clear EX
  have EX := Lib.hid ex
  have P_2 := Lib.hid hp
  have HC2 := Lib.hid hc
  clear ex hp hc P_1
  go_wp2_with fail
  go_ret
  rw [EX.out]
  exact ⟨⟨_, rfl, RowN.nil _ _, by simp⟩, P_2.out, B_2.out⟩
 ·rw [if_neg hc] at hp
  rw [show M.isS [41] r1 = false by simpa using hc] at he
  subst he
  have ex := EX.out
  rw [if_neg hc] at ex
  clear EX
  have EX := Lib.hid ex
  have P_2 := Lib.hid hp
  have HC2 := Lib.hid hc
  clear ex hp hc P_1
  go_wp2_with fail
  have C3 := Lib.hid (list_any HP HF hl c w2 r1 P_2.out (fun h => HX.out (EX.out.trans (by rw [h]; rfl))))
  have SLB3 := Lib.hid (B_2.out.size)
  (with_reducible refine (C3.out).mono ?_)
  intro e w3 hE
  rcases M.Res.em (M.pList p c r1) with hk | ⟨r3, hk⟩ | ⟨a3, r3, hk⟩
  ·exact absurd (EX.out.trans (by rw [hk]; rfl)) HX.out
  ·rw [hk] at hE
   obtain ⟨he, hb⟩ := hE
   unfold pv at he
   subst he
   have HB := Lib.hid (B_2.out.trans hb)
   have ex := EX.out
   rw [hk] at ex
   try rw [M.Res.bind_bad] at ex
   have EX2 := Lib.hid ex
   clear ex hk hb
   go_wp2_with fail
   rw [EX2.out]
   exact ⟨rfl, rfl, HB.out⟩
  rw [hk] at hE
  obtain ⟨⟨v, he, hv, hvl⟩, hp, hb⟩ := hE
  subst he
  obtain ⟨A3, c3, rfl⟩ := hv.sl
  have L3_3 := Lib.hid (hv.lo SLB3.out)
  have HL3 := Lib.hid hvl
  have LO3 := Lib.hid hv
  have P_3 := Lib.hid hp
  have B_3 := Lib.hid (B_2.out.trans hb)
  clear hp hb hv hvl P_2 B_2
  have ex := EX.out
  rw [hk] at ex
  try rw [M.Res.bind_ok] at ex
  clear EX
  have EX := Lib.hid ex
  clear ex hk
  go_wp2_with fail
  have C4 := Lib.hid (expect_any P_3.out ⟨#[41]⟩ (s := [41]) rfl ⟨by decide, by decide⟩)
  (with_reducible refine (C4.out).mono ?_)
  intro e w4 hE
  rcases M.Res.em (M.take [41] r3) with hk | ⟨r4, hk⟩ | ⟨a4, r4, hk⟩
  ·exact absurd (EX.out.trans (by rw [hk]; rfl)) HX.out
  ·rw [hk] at hE
   obtain ⟨he, hb⟩ := hE
   unfold pv at he
   subst he
   have HB := Lib.hid (B_3.out.trans hb)
   have ex := EX.out
   rw [hk] at ex
   try rw [M.Res.bind_bad] at ex
   have EX2 := Lib.hid ex
   clear ex hk hb
   go_wp2_with fail
   rw [EX2.out]
   exact ⟨rfl, rfl, HB.out⟩
  rw [hk] at hE
  obtain ⟨he, hp, hb⟩ := hE
  unfold vUnit at he
  subst he
  have L3_4 := Lib.hid (L3_3.out.step (hb.stay (by have := HR.out; omega)))
  clear L3_3
  have P_4 := Lib.hid hp
  have B_4 := Lib.hid (B_3.out.trans hb)
  clear hp hb P_3 B_3
  have ex := EX.out
  rw [hk] at ex
  try rw [M.Res.bind_ok] at ex
  clear EX
  have EX := Lib.hid ex
  clear ex hk
  go_wp2_with fail
  go_ret
  rw [EX.out]
  exact ⟨⟨_, rfl, L3_4.out, HL3.out⟩, P_4.out, B_4.out⟩
theorem branch_any {p : List M.Tok -> M.Res M.Tree} (HE : PC hi R N vTree 147 p) {it : List M.Tok -> M.Res M.Tree} (HI : PC hi R N vTree 64 it) (hI : ∀ l, M.Sh l.length (it l)) (c : Nat) (hit : 0 < c -> ∀ l, M.itemS l = false -> it l = .bad l) : PC hi R N vTree 110 (M.pIf p it c) := by
 intro w ts h hne
 have h := h
 have hud := hud9
 have HR := Lib.hid (show R < hi /\ hi <= w.heap.size /\ ts.length <= 20000 from ⟨h.1, h.2.1, by obtain ⟨_, _, _, _, _, _, _, _, _, _, _, h9, _⟩ := h; exact h9⟩)
 obtain ⟨X, eX⟩ : ∃ X, X = M.pIf p it c ts := ⟨_, rfl⟩
 rw [<- eX] at hne ⊢
 unfold M.pIf at eX
 have EX := Lib.hid eX
 have HX := Lib.hid hne
 clear eX hne
 have P_0 := Lib.hid h
 have B_0 := Lib.hid (But.refl R w)
 clear h
 go_enter Tryz.func110, Tryz.ntmps110
 go_wp2_with fail
 obtain ⟨w0, ew0⟩ : ∃ w0, w0 = w.alloc (.cells #[.int .i64 0, .string ⟨#[]⟩, .int .u64 0, .slice none 0 0] 25) := ⟨_, rfl⟩
 rw [<- ew0]
 have RES_0 := Lib.hid (show Box9 w0 w.heap.size V9.no by rw [ew0]; exact Box9.start w V9.no)
 have SLE_0 := Lib.hid (show w.heap.size + 1 <= w0.heap.size by rw [ew0]; simp)
 have P_00 := Lib.hid (show PS hi R N w0 ts by rw [ew0]; exact P_0.out.alloc _)
 have B_00 := Lib.hid (show But R w w0 by rw [ew0]; exact B_0.out.alloc _)
 clear ew0 P_0 B_0
 have C1 := Lib.hid (HE w0 ts P_00.out (fun h => HX.out (EX.out.trans (by rw [h]; rfl))))
 have SLB1 := Lib.hid (SLE_0.out)
 (with_reducible refine (C1.out).mono ?_)
 intro e w1 hE
 rcases M.Res.em (p ts) with hk | ⟨r1, hk⟩ | ⟨a1, r1, hk⟩
 ·exact absurd (EX.out.trans (by rw [hk]; rfl)) HX.out
 ·rw [hk] at hE
  obtain ⟨he, hb⟩ := hE
  unfold pv at he
  subst he
  have HB := Lib.hid (B_00.out.trans hb)
  have ex := EX.out
  rw [hk] at ex
  try rw [M.Res.bind_bad] at ex
  have EX2 := Lib.hid ex
  clear ex hk hb
  go_wp2_with fail
  rw [EX2.out]
  exact ⟨rfl, rfl, HB.out⟩
 rw [hk] at hE
 obtain ⟨⟨v, he, hv⟩, hp, hb⟩ := hE
 subst he
 obtain ⟨x1, rfl⟩ := hv.v9e
 have RES_1 := Lib.hid (RES_0.out.but hb (by have := HR.out; omega))
 clear RES_0
 have SLE_1 := Lib.hid (Nat.le_trans SLE_0.out hb.size)
 clear SLE_0
 have T1_1 := Lib.hid (hv.lo SLB1.out)
 have P_1 := Lib.hid hp
 have B_1 := Lib.hid (B_00.out.trans hb)
 clear hp hb hv P_00 B_00
 have ex := EX.out
 rw [hk] at ex
 try rw [M.Res.bind_ok] at ex
 clear EX
 have EX := Lib.hid ex
 clear ex hk
 go_wp2_with fail
 obtain ⟨v2, ev2⟩ : ∃ v, v = w1.alloc (.cells #[.int .i64 x1.kind, .string x1.text, .int .u64 (x1.num : Nat), .slice x1.ka x1.kn x1.kc] 25) := ⟨_, rfl⟩
 rw [<- ev2]
 have A2 := Lib.hid (show Below w1.heap.size w1 v2 by rw [ev2]; exact (Below.refl _ _).alloc (Nat.le_refl _) _)
 obtain ⟨b2, eb2⟩ : ∃ b, b = w1.heap.size := ⟨_, rfl⟩
 have X2 := Lib.hid (show Box9 v2 b2 x1 by rw [ev2, eb2]; exact Box9.start _ x1)
 have LBX2 := Lib.hid (show hi <= b2 by rw [eb2]; exact P_1.out.2.1)
 have LWX2 := Lib.hid (show w.heap.size < b2 by rw [eb2]; exact SLE_1.out)
 rw [<- eb2]
 have RES_2 := Lib.hid (RES_1.out.below A2.out)
 clear RES_1
 have SLE_2 := Lib.hid (Nat.le_trans SLE_1.out A2.out.size)
 clear SLE_1
 have T1_2 := Lib.hid (T1_1.out.step (Below.stay A2.out))
 clear T1_1
 have P_2 := Lib.hid (P_1.out.below A2.out)
 clear P_1
 have B_2 := Lib.hid (B_1.out.below A2.out)
 clear B_1
 clear ev2 eb2 A2
 have C3 := Lib.hid ((block_any HI hI c hit) v2 r1 P_2.out (fun h => HX.out (EX.out.trans (by rw [h]; rfl))))
 have SLB3 := Lib.hid (SLE_2.out)
 (with_reducible refine (C3.out).mono ?_)
 intro e w3 hE
 rcases M.Res.em (M.pBlock it c r1) with hk | ⟨r3, hk⟩ | ⟨a3, r3, hk⟩
 ·exact absurd (EX.out.trans (by rw [hk]; rfl)) HX.out
 ·rw [hk] at hE
  obtain ⟨he, hb⟩ := hE
  unfold pv at he
  subst he
  have HB := Lib.hid (B_2.out.trans hb)
  have ex := EX.out
  rw [hk] at ex
  try rw [M.Res.bind_bad] at ex
  have EX2 := Lib.hid ex
  clear ex hk hb
  go_wp2_with fail
  rw [EX2.out]
  exact ⟨rfl, rfl, HB.out⟩
 rw [hk] at hE
 obtain ⟨⟨v, he, hv⟩, hp, hb⟩ := hE
 subst he
 obtain ⟨x3, rfl⟩ := hv.v9e
 have RES_3 := Lib.hid (RES_2.out.but hb (by have := HR.out; omega))
 clear RES_2
 have SLE_3 := Lib.hid (Nat.le_trans SLE_2.out hb.size)
 clear SLE_2
 have T1_3 := Lib.hid (T1_2.out.step (hb.stay (by have := HR.out; omega)))
 clear T1_2
 have X2_3 := Lib.hid (X2.out.but hb (by have := HR.out; have := LBX2.out; omega))
 clear X2
 have T3_3 := Lib.hid (hv.lo SLB3.out)
 have P_3 := Lib.hid hp
 have B_3 := Lib.hid (B_2.out.trans hb)
 clear hp hb hv P_2 B_2
 have ex := EX.out
 rw [hk] at ex
 try rw [M.Res.bind_ok] at ex
 clear EX
 have EX := Lib.hid ex
 clear ex hk
 go_wp2_with fail
 obtain ⟨v4, ev4⟩ : ∃ v, v = w3.alloc (.cells #[.int .i64 x3.kind, .string x3.text, .int .u64 (x3.num : Nat), .slice x3.ka x3.kn x3.kc] 25) := ⟨_, rfl⟩
 rw [<- ev4]
 have A4 := Lib.hid (show Below w3.heap.size w3 v4 by rw [ev4]; exact (Below.refl _ _).alloc (Nat.le_refl _) _)
 obtain ⟨b4, eb4⟩ : ∃ b, b = w3.heap.size := ⟨_, rfl⟩
 have X4 := Lib.hid (show Box9 v4 b4 x3 by rw [ev4, eb4]; exact Box9.start _ x3)
 have LBX4 := Lib.hid (show hi <= b4 by rw [eb4]; exact P_3.out.2.1)
 have LWX4 := Lib.hid (show w.heap.size < b4 by rw [eb4]; exact SLE_3.out)
 rw [<- eb4]
 have Z4 : v4.heap.size = b4 + 1 := by rw [ev4, eb4]; simp
 have RES_4 := Lib.hid (RES_3.out.below A4.out)
 clear RES_3
 have SLE_4 := Lib.hid (Nat.le_trans SLE_3.out A4.out.size)
 clear SLE_3
 have T1_4 := Lib.hid (T1_3.out.step (Below.stay A4.out))
 clear T1_3
 have T3_4 := Lib.hid (T3_3.out.step (Below.stay A4.out))
 clear T3_3
 have X2_4 := Lib.hid (X2_3.out.below A4.out)
 clear X2_3
 have P_4 := Lib.hid (P_3.out.below A4.out)
 clear P_3
 have B_4 := Lib.hid (B_3.out.below A4.out)
 clear B_3
 clear ev4 eb4 A4
 obtain ⟨v5, ev5⟩ : ∃ v, v = v4.alloc (.cells #[.int .i64 10, .string ⟨#[]⟩, .int .u64 0, .slice none 0 0] 25) := ⟨_, rfl⟩
 rw [<- ev5]
 have A5 := Lib.hid (show Below v4.heap.size v4 v5 by rw [ev5]; exact (Below.refl _ _).alloc (Nat.le_refl _) _)
 obtain ⟨b5, eb5⟩ : ∃ b, b = v4.heap.size := ⟨_, rfl⟩
 have X5 := Lib.hid (show Box9 v5 b5 ⟨10, ⟨#[]⟩, 0, none, 0, 0⟩ by rw [ev5, eb5]; exact Box9.start _ ⟨10, ⟨#[]⟩, 0, none, 0, 0⟩)
 have LBX5 := Lib.hid (show hi <= b5 by rw [eb5]; exact P_4.out.2.1)
 have LWX5 := Lib.hid (show w.heap.size < b5 by rw [eb5]; exact SLE_4.out)
 have NEb2 := Lib.hid (show b5 ≠ b2 /\ b2 ≠ b5 from by have := X2_4.out.lt; omega)
 have NEb4 := Lib.hid (show b5 ≠ b4 /\ b4 ≠ b5 from by have := X4.out.lt; omega)
 have NEr := Lib.hid (show b5 ≠ w.heap.size /\ w.heap.size ≠ b5 from by have := LWX5.out; omega)
 have T1_g5 := Lib.hid (T1_4.out.out (some b5) fun k e => .inr (by injection e with e; omega))
 clear T1_4
 have T3_g5 := Lib.hid (T3_4.out.out (some b5) fun k e => .inr (by injection e with e; omega))
 clear T3_4
 rw [show b4 + 1 = b5 by rw [eb5, Z4]]
 have RES_5 := Lib.hid (RES_4.out.below A5.out)
 clear RES_4
 have SLE_5 := Lib.hid (Nat.le_trans SLE_4.out A5.out.size)
 clear SLE_4
 have T1_5 := Lib.hid (T1_g5.out.step (Below.stay A5.out))
 clear T1_g5
 have T3_5 := Lib.hid (T3_g5.out.step (Below.stay A5.out))
 clear T3_g5
 have X2_5 := Lib.hid (X2_4.out.below A5.out)
 clear X2_4
 have X4_5 := Lib.hid (X4.out.below A5.out)
 clear X4
 have P_5 := Lib.hid (P_4.out.below A5.out)
 clear P_4
 have B_5 := Lib.hid (B_4.out.below A5.out)
 clear B_4
 clear ev5 eb5 A5
 clear Z4
 have C6 := Lib.hid (accept_word P_5.out ⟨#[101, 108, 115, 101]⟩ (s := [101, 108, 115, 101]) rfl ⟨by decide, by decide⟩)
 (with_reducible refine (C6.out).mono ?_)
 rintro e w6 ⟨he, hp, hb⟩
 have RES_6 := Lib.hid (RES_5.out.but hb (by have := HR.out; omega))
 clear RES_5
 have SLE_6 := Lib.hid (Nat.le_trans SLE_5.out hb.size)
 clear SLE_5
 have T1_6 := Lib.hid (T1_5.out.step (hb.stay (by have := HR.out; omega)))
 clear T1_5
 have T3_6 := Lib.hid (T3_5.out.step (hb.stay (by have := HR.out; omega)))
 clear T3_5
 have X2_6 := Lib.hid (X2_5.out.but hb (by have := HR.out; have := LBX2.out; omega))
 clear X2_5
 have X4_6 := Lib.hid (X4_5.out.but hb (by have := HR.out; have := LBX4.out; omega))
 clear X4_5
 have X5_6 := Lib.hid (X5.out.but hb (by have := HR.out; have := LBX5.out; omega))
 clear X5
 have B_6 := Lib.hid (B_5.out.trans hb)
 clear hb B_5
 by_cases hc : M.isS [101, 108, 115, 101] r3 = true
 ·rw [hc] at he
  rw [if_pos hc] at hp
  subst he
  have ex := EX.out
  rw [if_pos hc] at ex
  try rw [M.Res.bind_ok] at ex
  clear EX
  have EX := Lib.hid ex
  have P_6 := Lib.hid hp
  have HC6 := Lib.hid hc
  clear ex hp hc P_5
  go_wp2_with fail
  have C7 := Lib.hid ((block_any HI hI c hit) w6 (r3.tail) P_6.out (fun h => HX.out (EX.out.trans (by rw [h]; rfl))))
  have MLT7 := Lib.hid (X5_6.out.lt)
  have SLB7 := Lib.hid (SLE_6.out)
  (with_reducible refine (C7.out).mono ?_)
  intro e w7 hE
  rcases M.Res.em (M.pBlock it c (r3.tail)) with hk | ⟨r7, hk⟩ | ⟨a7, r7, hk⟩
  ·exact absurd (EX.out.trans (by rw [hk]; rfl)) HX.out
  ·rw [hk] at hE
   obtain ⟨he, hb⟩ := hE
   unfold pv at he
   subst he
   have HB := Lib.hid (B_6.out.trans hb)
   have ex := EX.out
   rw [hk] at ex
   try rw [M.Res.bind_bad] at ex
   have EX2 := Lib.hid ex
   clear ex hk hb
   go_wp2_with fail
   rw [EX2.out]
   exact ⟨rfl, rfl, HB.out⟩
  rw [hk] at hE
  obtain ⟨⟨v, he, hv⟩, hp, hb⟩ := hE
  subst he
  obtain ⟨x7, rfl⟩ := hv.v9e
  have RES_7 := Lib.hid (RES_6.out.but hb (by have := HR.out; omega))
  clear RES_6
  have SLE_7 := Lib.hid (Nat.le_trans SLE_6.out hb.size)
  clear SLE_6
  have T1_7 := Lib.hid (T1_6.out.step (hb.stay (by have := HR.out; omega)))
  clear T1_6
  have T3_7 := Lib.hid (T3_6.out.step (hb.stay (by have := HR.out; omega)))
  clear T3_6
  have X2_7 := Lib.hid (X2_6.out.but hb (by have := HR.out; have := LBX2.out; omega))
  clear X2_6
  have X4_7 := Lib.hid (X4_6.out.but hb (by have := HR.out; have := LBX4.out; omega))
  clear X4_6
  have X5_7 := Lib.hid (X5_6.out.but hb (by have := HR.out; have := LBX5.out; omega))
  clear X5_6
  have T7_7 := Lib.hid ((hv.out (some b5) fun k e => .inl (by injection e with e; have := MLT7.out; omega)).lo SLB7.out)
  have P_7 := Lib.hid hp
  have B_7 := Lib.hid (B_6.out.trans hb)
  clear hp hb hv P_6 B_6
  have ex := EX.out
  rw [hk] at ex
  try rw [M.Res.bind_ok] at ex
  clear EX
  have EX := Lib.hid ex
  clear ex hk
  obtain ⟨kb20, kb21, kb22, kb23⟩ := X2_7.out.c
  have lb20 : b2 < w7.heap.size := X2_7.out.lt
  have lb21 : b2 < w7.heap.size + 1 := by have := X2_7.out.lt; omega
  obtain ⟨kb40, kb41, kb42, kb43⟩ := X4_7.out.c
  have lb40 : b4 < w7.heap.size := X4_7.out.lt
  have lb41 : b4 < w7.heap.size + 1 := by have := X4_7.out.lt; omega
  obtain ⟨kb50, kb51, kb52, kb53⟩ := X5_7.out.c
  have lb50 : b5 < w7.heap.size := X5_7.out.lt
  have lb51 : b5 < w7.heap.size + 1 := by have := X5_7.out.lt; omega
  obtain ⟨q0, q1, q2, q3⟩ := RES_7.out.c
  obtain ⟨z0, z1, z2, z3⟩ := RES_7.out.fz
  have lr0 : w.heap.size < w7.heap.size := RES_7.out.lt
  have lr1 : w.heap.size < w7.heap.size + 1 := by have := RES_7.out.lt; omega
  obtain ⟨y0, y1, y2, y3⟩ := X5_7.out.fz
  obtain ⟨na0, nb0⟩ := NEb2.out
  obtain ⟨na1, nb1⟩ := NEb4.out
  obtain ⟨na2, nb2⟩ := NEr.out
  go_wp2_with fail
  refine bodyPost_ret (v := .agg #[.int .i64 6, .string ⟨#[]⟩, .int .u64 0, .slice (some ⟨w7.heap.size, 0, none⟩) 3 3]) (by simp [results, Tryz.results110, go_sem, q0, q1, q2, q3, lr0]) rfl ?_
  rw [EX.out]
  exact tree_lit _ _ _ (g := (some b5)) (k := 6) (T := ⟨#[]⟩) (n := 0) (l := [x1, x3, x7]) [] #[.int .i64 x1.kind, .string x1.text, .int .u64 (x1.num : Nat), .slice x1.ka x1.kn x1.kc, .int .i64 x3.kind, .string x3.text, .int .u64 (x3.num : Nat), .slice x3.ka x3.kn x3.kc, .int .i64 x7.kind, .string x7.text, .int .u64 (x7.num : Nat), .slice x7.ka x7.kn x7.kc] HR.out.2.1 (Nat.le_trans SLE_7.out (Nat.le_of_eq (put9_touch w7 b5 x7.kind x7.text (x7.num : Nat) (.slice x7.ka x7.kn x7.kc)).size.symm)) (B_7.out.touch (put9_touch w7 b5 x7.kind x7.text (x7.num : Nat) (.slice x7.ka x7.kn x7.kc)) (by have := LWX5.out; omega)) (P_7.out.touch (put9_touch w7 b5 x7.kind x7.text (x7.num : Nat) (.slice x7.ka x7.kn x7.kc)) LBX5.out) (.cons (T1_7.out.step ((put9_touch w7 b5 x7.kind x7.text (x7.num : Nat) (.slice x7.ka x7.kn x7.kc)).stay (.inr rfl))) (.cons (T3_7.out.step ((put9_touch w7 b5 x7.kind x7.text (x7.num : Nat) (.slice x7.ka x7.kn x7.kc)).stay (.inr rfl))) (.cons (T7_7.out.step ((put9_touch w7 b5 x7.kind x7.text (x7.num : Nat) (.slice x7.ka x7.kn x7.kc)).stay (.inr rfl))) .nil))) (by intro e; injection e with e; have := X5_7.out.lt; omega) rfl rfl ⟨by omega, by omega, by decide⟩ (by simp) (by rw [List.length_nil, Nat.add_zero]; exact (put9_touch w7 b5 x7.kind x7.text (x7.num : Nat) (.slice x7.ka x7.kn x7.kc)).size.symm) (by simp)
 ·rw [if_neg hc] at hp
  rw [show M.isS [101, 108, 115, 101] r3 = false by simpa using hc] at he
  subst he
  have ex := EX.out
  rw [if_neg hc] at ex
  clear EX
  have EX := Lib.hid ex
  have P_6 := Lib.hid hp
  have HC6 := Lib.hid hc
  clear ex hp hc P_5
  obtain ⟨kb20, kb21, kb22, kb23⟩ := X2_6.out.c
  have lb20 : b2 < w6.heap.size := X2_6.out.lt
  have lb21 : b2 < w6.heap.size + 1 := by have := X2_6.out.lt; omega
  obtain ⟨kb40, kb41, kb42, kb43⟩ := X4_6.out.c
  have lb40 : b4 < w6.heap.size := X4_6.out.lt
  have lb41 : b4 < w6.heap.size + 1 := by have := X4_6.out.lt; omega
  obtain ⟨kb50, kb51, kb52, kb53⟩ := X5_6.out.c
  have lb50 : b5 < w6.heap.size := X5_6.out.lt
  have lb51 : b5 < w6.heap.size + 1 := by have := X5_6.out.lt; omega
  obtain ⟨q0, q1, q2, q3⟩ := RES_6.out.c
  obtain ⟨z0, z1, z2, z3⟩ := RES_6.out.fz
  have lr0 : w.heap.size < w6.heap.size := RES_6.out.lt
  have lr1 : w.heap.size < w6.heap.size + 1 := by have := RES_6.out.lt; omega
  go_wp2_with fail
  refine bodyPost_ret (v := .agg #[.int .i64 6, .string ⟨#[]⟩, .int .u64 0, .slice (some ⟨w6.heap.size, 0, none⟩) 3 3]) (by simp [results, Tryz.results110, go_sem, q0, q1, q2, q3, lr0]) rfl ?_
  rw [EX.out]
  exact tree_lit _ _ _ (g := (some b5)) (k := 6) (T := ⟨#[]⟩) (n := 0) (l := [x1, x3, ⟨10, ⟨#[]⟩, 0, none, 0, 0⟩]) [] #[.int .i64 x1.kind, .string x1.text, .int .u64 (x1.num : Nat), .slice x1.ka x1.kn x1.kc, .int .i64 x3.kind, .string x3.text, .int .u64 (x3.num : Nat), .slice x3.ka x3.kn x3.kc, .int .i64 10, .string ⟨#[]⟩, .int .u64 0, .slice none 0 0] HR.out.2.1 SLE_6.out B_6.out P_6.out (.cons T1_6.out (.cons T3_6.out (.cons (NodeN.make (k := 10) (T := ⟨#[]⟩) (n := 0) (KidsN.nil _ _ _) rfl ⟨by omega, by omega, by decide⟩) .nil))) (by intro e; injection e with e; have := X5_6.out.lt; omega) rfl rfl ⟨by omega, by omega, by decide⟩ (by simp) (by simp) (by simp)
end Go.Proofs.YtngpedcihajepaaGreatDoor
namespace Go.Proofs.YtngpedcihajepaaGreatDoor
open Go.RowKit
variable {hi R N : Nat}
theorem M.isS_head {s : List Nat} {l : List M.Tok} (h : M.isS s l = true) : M.headT l = s := by
 cases l with
 | nil => simp [M.isS] at h
 | cons t r =>
  simp only [M.isS, Bool.and_eq_true, decide_eq_true_eq] at h
  exact h.2
theorem M.fun_ne {l : List Nat} (h : M.funB l = true) : l ≠ [] := by
 rintro rfl
 revert h
 decide
theorem M.fun_name {l : List Nat} (h : M.funB l = true) (hw : M.wordB l = false) : M.nameOk l = true := by
 unfold M.funB at h
 rw [Bool.or_eq_true] at h
 rcases h with h | h
 ·rw [decide_eq_true_eq] at h
  rcases h with rfl | rfl | rfl <;> exact absurd hw (by decide)
 ·exact h
theorem unary_any {u x : List M.Tok -> M.Res M.Tree} (HU : PC hi R N vTree 188 u) (HXX : PC hi R N vTree 189 x) : PC hi R N vTree 188 (M.unaryB u x) := by
 intro w ts h hne
 have h := h
 have hud := hud9
 have HR := Lib.hid (show R < hi /\ hi <= w.heap.size /\ ts.length <= 20000 from ⟨h.1, h.2.1, by obtain ⟨_, _, _, _, _, _, _, _, _, _, _, h9, _⟩ := h; exact h9⟩)
 obtain ⟨X, eX⟩ : ∃ X, X = M.unaryB u x ts := ⟨_, rfl⟩
 rw [<- eX] at hne ⊢
 unfold M.unaryB at eX
 have EX := Lib.hid eX
 have HX := Lib.hid hne
 clear eX hne
 have P_0 := Lib.hid h
 have B_0 := Lib.hid (But.refl R w)
 clear h
 go_enter Tryz.func188, Tryz.ntmps188
 go_wp2_with fail
 obtain ⟨w0, ew0⟩ : ∃ w0, w0 = w.alloc (.cells #[.int .i64 0, .string ⟨#[]⟩, .int .u64 0, .slice none 0 0] 25) := ⟨_, rfl⟩
 rw [<- ew0]
 have RES_0 := Lib.hid (show Box9 w0 w.heap.size V9.no by rw [ew0]; exact Box9.start w V9.no)
 have SLE_0 := Lib.hid (show w.heap.size + 1 <= w0.heap.size by rw [ew0]; simp)
 have P_00 := Lib.hid (show PS hi R N w0 ts by rw [ew0]; exact P_0.out.alloc _)
 have B_00 := Lib.hid (show But R w w0 by rw [ew0]; exact B_0.out.alloc _)
 clear ew0 P_0 B_0
 have C1 := Lib.hid (next_any P_00.out)
 (with_reducible refine (C1.out).mono ?_)
 rintro e w1 ⟨⟨T1, rfl, hT, hTs⟩, rfl⟩
 have HT1 := Lib.hid hT
 have HTs1 := Lib.hid hTs
 clear hT hTs
 clear C1
 go_wp2_with fail
 have C2 := Lib.hid (accept_word P_00.out ⟨#[33]⟩ (s := [33]) rfl ⟨by decide, by decide⟩)
 (with_reducible refine (C2.out).mono ?_)
 rintro e w2 ⟨he, hp, hb⟩
 have RES_2 := Lib.hid (RES_0.out.but hb (by have := HR.out; omega))
 clear RES_0
 have SLE_2 := Lib.hid (Nat.le_trans SLE_0.out hb.size)
 clear SLE_0
 have B_2 := Lib.hid (B_00.out.trans hb)
 clear hb B_00
 by_cases hc : M.isS [33] ts = true
 ·rw [hc] at he
  rw [if_pos hc] at hp
  subst he
  have ex := EX.out
  rw [if_pos hc] at ex
  try rw [M.Res.bind_ok] at ex
  clear EX
  have EX := Lib.hid ex
  have P_2 := Lib.hid hp
  have HC2 := Lib.hid hc
  clear ex hp hc P_00
  have HS := Lib.hid (show M.bs T1 = [33] from HT1.out.trans (M.isS_head HC2.out))
  go_wp2_with fail
  have C3 := Lib.hid (HU w2 (ts.tail) P_2.out (fun h => HX.out (EX.out.trans (by rw [h]; try rfl))))
  have SLB3 := Lib.hid (SLE_2.out)
  (with_reducible refine (C3.out).mono ?_)
  intro e w3 hE
  rcases M.Res.em (u (ts.tail)) with hk | ⟨r3, hk⟩ | ⟨a3, r3, hk⟩
  ·exact absurd (EX.out.trans (by rw [hk]; try rfl)) HX.out
  ·rw [hk] at hE
   obtain ⟨he, hb⟩ := hE
   unfold pv at he
   subst he
   have HB := Lib.hid (B_2.out.trans hb)
   have ex := EX.out
   rw [hk] at ex
   try rw [M.Res.bind_bad] at ex
   have EX2 := Lib.hid ex
   clear ex hk hb
   go_wp2_with fail
   rw [EX2.out]
   exact ⟨rfl, rfl, HB.out⟩
  rw [hk] at hE
  obtain ⟨⟨v, he, hv⟩, hp, hb⟩ := hE
  subst he
  obtain ⟨x3, rfl⟩ := hv.v9e
  have RES_3 := Lib.hid (RES_2.out.but hb (by have := HR.out; omega))
  clear RES_2
  have SLE_3 := Lib.hid (Nat.le_trans SLE_2.out hb.size)
  clear SLE_2
  have T3_3 := Lib.hid (hv.lo SLB3.out)
  have P_3 := Lib.hid hp
  have B_3 := Lib.hid (B_2.out.trans hb)
  clear hp hb hv P_2 B_2
  have ex := EX.out
  rw [hk] at ex
  try rw [M.Res.bind_ok] at ex
  clear EX
  have EX := Lib.hid ex
  clear ex hk
  obtain ⟨q0, q1, q2, q3⟩ := RES_3.out.c
  obtain ⟨z0, z1, z2, z3⟩ := RES_3.out.fz
  have lr0 : w.heap.size < w3.heap.size := RES_3.out.lt
  have lr1 : w.heap.size < w3.heap.size + 1 := by have := RES_3.out.lt; omega
  have lr2 : w.heap.size < w3.heap.size + 2 := by have := RES_3.out.lt; omega
  go_wp2_with fail
  refine bodyPost_ret (v := .agg #[.int .i64 19, .string T1, .int .u64 0, .slice (some ⟨w3.heap.size + 1, 0, none⟩) 1 1]) (by simp [results, Tryz.results188, go_sem, q0, q1, q2, q3, lr0, lr1]) rfl ?_
  rw [EX.out]
  exact tree_lit _ _ _ (g := none) (k := 19) (T := T1) (n := 0) (l := [x3]) [(.cells #[.int .i64 x3.kind, .string x3.text, .int .u64 (x3.num : Nat), .slice x3.ka x3.kn x3.kc] 25)] #[.int .i64 x3.kind, .string x3.text, .int .u64 (x3.num : Nat), .slice x3.ka x3.kn x3.kc] HR.out.2.1 SLE_3.out B_3.out P_3.out (.cons T3_3.out .nil) (by simp) rfl HS.out ⟨by omega, by omega, by have := HTs1.out; omega⟩ (by simp) (by simp) (by simp)
 ·rw [if_neg hc] at hp
  rw [show M.isS [33] ts = false by simpa using hc] at he
  subst he
  have ex := EX.out
  rw [if_neg hc] at ex
  clear EX
  have EX := Lib.hid ex
  have P_2 := Lib.hid hp
  have HC2 := Lib.hid hc
  clear ex hp hc P_00
  go_wp2_with fail
  have C3 := Lib.hid (accept_word P_2.out ⟨#[45]⟩ (s := [45]) rfl ⟨by decide, by decide⟩)
  (with_reducible refine (C3.out).mono ?_)
  rintro e w3 ⟨he, hp, hb⟩
  have RES_3 := Lib.hid (RES_2.out.but hb (by have := HR.out; omega))
  clear RES_2
  have SLE_3 := Lib.hid (Nat.le_trans SLE_2.out hb.size)
  clear SLE_2
  have B_3 := Lib.hid (B_2.out.trans hb)
  clear hb B_2
  by_cases hc : M.isS [45] ts = true
  ·rw [hc] at he
   rw [if_pos hc] at hp
   subst he
   have ex := EX.out
   rw [if_pos hc] at ex
   try rw [M.Res.bind_ok] at ex
   clear EX
   have EX := Lib.hid ex
   have P_3 := Lib.hid hp
   have HC3 := Lib.hid hc
   clear ex hp hc P_2
   have HS := Lib.hid (show M.bs T1 = [45] from HT1.out.trans (M.isS_head HC3.out))
   go_wp2_with fail
   have C4 := Lib.hid (HU w3 (ts.tail) P_3.out (fun h => HX.out (EX.out.trans (by rw [h]; try rfl))))
   have SLB4 := Lib.hid (SLE_3.out)
   (with_reducible refine (C4.out).mono ?_)
   intro e w4 hE
   rcases M.Res.em (u (ts.tail)) with hk | ⟨r4, hk⟩ | ⟨a4, r4, hk⟩
   ·exact absurd (EX.out.trans (by rw [hk]; try rfl)) HX.out
   ·rw [hk] at hE
    obtain ⟨he, hb⟩ := hE
    unfold pv at he
    subst he
    have HB := Lib.hid (B_3.out.trans hb)
    have ex := EX.out
    rw [hk] at ex
    try rw [M.Res.bind_bad] at ex
    have EX2 := Lib.hid ex
    clear ex hk hb
    go_wp2_with fail
    rw [EX2.out]
    exact ⟨rfl, rfl, HB.out⟩
   rw [hk] at hE
   obtain ⟨⟨v, he, hv⟩, hp, hb⟩ := hE
   subst he
   obtain ⟨x4, rfl⟩ := hv.v9e
   have RES_4 := Lib.hid (RES_3.out.but hb (by have := HR.out; omega))
   clear RES_3
   have SLE_4 := Lib.hid (Nat.le_trans SLE_3.out hb.size)
   clear SLE_3
   have T4_4 := Lib.hid (hv.lo SLB4.out)
   have P_4 := Lib.hid hp
   have B_4 := Lib.hid (B_3.out.trans hb)
   clear hp hb hv P_3 B_3
   have ex := EX.out
   rw [hk] at ex
   try rw [M.Res.bind_ok] at ex
   clear EX
   have EX := Lib.hid ex
   clear ex hk
   obtain ⟨q0, q1, q2, q3⟩ := RES_4.out.c
   obtain ⟨z0, z1, z2, z3⟩ := RES_4.out.fz
   have lr0 : w.heap.size < w4.heap.size := RES_4.out.lt
   have lr1 : w.heap.size < w4.heap.size + 1 := by have := RES_4.out.lt; omega
   have lr2 : w.heap.size < w4.heap.size + 2 := by have := RES_4.out.lt; omega
   go_wp2_with fail
   refine bodyPost_ret (v := .agg #[.int .i64 19, .string T1, .int .u64 0, .slice (some ⟨w4.heap.size + 1, 0, none⟩) 1 1]) (by simp [results, Tryz.results188, go_sem, q0, q1, q2, q3, lr0, lr1]) rfl ?_
   rw [EX.out]
   exact tree_lit _ _ _ (g := none) (k := 19) (T := T1) (n := 0) (l := [x4]) [(.cells #[.int .i64 x4.kind, .string x4.text, .int .u64 (x4.num : Nat), .slice x4.ka x4.kn x4.kc] 25)] #[.int .i64 x4.kind, .string x4.text, .int .u64 (x4.num : Nat), .slice x4.ka x4.kn x4.kc] HR.out.2.1 SLE_4.out B_4.out P_4.out (.cons T4_4.out .nil) (by simp) rfl HS.out ⟨by omega, by omega, by have := HTs1.out; omega⟩ (by simp) (by simp) (by simp)
  ·rw [if_neg hc] at hp
   rw [show M.isS [45] ts = false by simpa using hc] at he
   subst he
   have ex := EX.out
   rw [if_neg hc] at ex
   clear EX
   have EX := Lib.hid ex
   have P_3 := Lib.hid hp
   have HC3 := Lib.hid hc
   clear ex hp hc P_2
   go_wp2_with fail
   have C4 := Lib.hid (HXX w3 ts P_3.out (fun h => HX.out (EX.out.trans (by rw [h]; try rfl))))
   have SLB4 := Lib.hid (SLE_3.out)
   (with_reducible refine (C4.out).mono ?_)
   intro e w4 hE
   rcases M.Res.em (x ts) with hk | ⟨r4, hk⟩ | ⟨a4, r4, hk⟩
   ·exact absurd (EX.out.trans (by rw [hk]; try rfl)) HX.out
   ·rw [hk] at hE
    obtain ⟨he, hb⟩ := hE
    unfold pv at he
    subst he
    have HB := Lib.hid (B_3.out.trans hb)
    have ex := EX.out
    rw [hk] at ex
    try rw [M.Res.bind_bad] at ex
    have EX2 := Lib.hid ex
    clear ex hk hb
    go_wp2_with fail
    rw [EX2.out]
    exact ⟨rfl, rfl, HB.out⟩
   rw [hk] at hE
   obtain ⟨⟨v, he, hv⟩, hp, hb⟩ := hE
   subst he
   obtain ⟨x4, rfl⟩ := hv.v9e
   have RES_4 := Lib.hid (RES_3.out.but hb (by have := HR.out; omega))
   clear RES_3
   have SLE_4 := Lib.hid (Nat.le_trans SLE_3.out hb.size)
   clear SLE_3
   have T4_4 := Lib.hid (hv.lo SLB4.out)
   have P_4 := Lib.hid hp
   have B_4 := Lib.hid (B_3.out.trans hb)
   clear hp hb hv P_3 B_3
   have ex := EX.out
   rw [hk] at ex
   try rw [M.Res.bind_ok] at ex
   clear EX
   have EX := Lib.hid ex
   clear ex hk
   obtain ⟨q0, q1, q2, q3⟩ := RES_4.out.c
   obtain ⟨z0, z1, z2, z3⟩ := RES_4.out.fz
   have lr0 : w.heap.size < w4.heap.size := RES_4.out.lt
   go_wp2_with fail
   refine bodyPost_ret (v := .agg #[.int .i64 x4.kind, .string x4.text, .int .u64 (x4.num : Nat), .slice x4.ka x4.kn x4.kc]) (by simp [results, Tryz.results188, go_sem, q0, q1, q2, q3]) rfl ?_
   rw [EX.out]
   exact tree_end _ _ _ (y := x4) HR.out.2.1 B_4.out T4_4.out P_4.out
theorem primary_any {p : List M.Tok -> M.Res M.Tree} (HE : PC hi R N vTree 147 p) (hl : Less p) (c : Nat) (HN : ∀ (w : World) (ts : List M.Tok), PS hi R N w ts -> M.funB (M.headT ts) = true -> M.namedB p c ts ≠ .out -> Calls Tryz.prog 191 #[.pointer (some ⟨R, 0, none⟩)] w (PEnd hi R N vTree w (M.namedB p c ts))) : PC hi R N vTree 190 (M.primB p c) := by
 intro w ts h hne
 have h := h
 have hud := hud9
 have HR := Lib.hid (show R < hi /\ hi <= w.heap.size /\ ts.length <= 20000 from ⟨h.1, h.2.1, by obtain ⟨_, _, _, _, _, _, _, _, _, _, _, h9, _⟩ := h; exact h9⟩)
 obtain ⟨X, eX⟩ : ∃ X, X = M.primB p c ts := ⟨_, rfl⟩
 rw [<- eX] at hne ⊢
 unfold M.primB at eX
 have EX := Lib.hid eX
 have HX := Lib.hid hne
 clear eX hne
 have P_0 := Lib.hid h
 have B_0 := Lib.hid (But.refl R w)
 clear h
 go_enter Tryz.func190, Tryz.ntmps190
 go_wp2_with fail
 obtain ⟨w0, ew0⟩ : ∃ w0, w0 = w.alloc (.cells #[.int .i64 0, .string ⟨#[]⟩, .int .u64 0, .slice none 0 0] 25) := ⟨_, rfl⟩
 rw [<- ew0]
 have RES_0 := Lib.hid (show Box9 w0 w.heap.size V9.no by rw [ew0]; exact Box9.start w V9.no)
 have SLE_0 := Lib.hid (show w.heap.size + 1 <= w0.heap.size by rw [ew0]; simp)
 have P_00 := Lib.hid (show PS hi R N w0 ts by rw [ew0]; exact P_0.out.alloc _)
 have B_00 := Lib.hid (show But R w w0 by rw [ew0]; exact B_0.out.alloc _)
 clear ew0 P_0 B_0
 have C1 := Lib.hid (accept_word P_00.out ⟨#[40]⟩ (s := [40]) rfl ⟨by decide, by decide⟩)
 (with_reducible refine (C1.out).mono ?_)
 rintro e w1 ⟨he, hp, hb⟩
 have RES_1 := Lib.hid (RES_0.out.but hb (by have := HR.out; omega))
 clear RES_0
 have SLE_1 := Lib.hid (Nat.le_trans SLE_0.out hb.size)
 clear SLE_0
 have B_1 := Lib.hid (B_00.out.trans hb)
 clear hb B_00
 by_cases hc : M.isS [40] ts = true
 ·rw [hc] at he
  rw [if_pos hc] at hp
  subst he
  have ex := EX.out
  rw [if_pos hc] at ex
  try rw [M.Res.bind_ok] at ex
  clear EX
  have EX := Lib.hid ex
  have P_1 := Lib.hid hp
  have HC1 := Lib.hid hc
  clear ex hp hc P_00
  go_wp2_with fail
  have C2 := Lib.hid (HE w1 (ts.tail) P_1.out (fun h => HX.out (EX.out.trans (by rw [h]; try rfl))))
  have SLB2 := Lib.hid (SLE_1.out)
  (with_reducible refine (C2.out).mono ?_)
  intro e w2 hE
  rcases M.Res.em (p (ts.tail)) with hk | ⟨r2, hk⟩ | ⟨a2, r2, hk⟩
  ·exact absurd (EX.out.trans (by rw [hk]; try rfl)) HX.out
  ·rw [hk] at hE
   obtain ⟨he, hb⟩ := hE
   unfold pv at he
   subst he
   have HB := Lib.hid (B_1.out.trans hb)
   have ex := EX.out
   rw [hk] at ex
   try rw [M.Res.bind_bad] at ex
   have EX2 := Lib.hid ex
   clear ex hk hb
   go_wp2_with fail
   rw [EX2.out]
   exact ⟨rfl, rfl, HB.out⟩
  rw [hk] at hE
  obtain ⟨⟨v, he, hv⟩, hp, hb⟩ := hE
  subst he
  obtain ⟨x2, rfl⟩ := hv.v9e
  have RES_2 := Lib.hid (RES_1.out.but hb (by have := HR.out; omega))
  clear RES_1
  have SLE_2 := Lib.hid (Nat.le_trans SLE_1.out hb.size)
  clear SLE_1
  have T2_2 := Lib.hid (hv.lo SLB2.out)
  have P_2 := Lib.hid hp
  have B_2 := Lib.hid (B_1.out.trans hb)
  clear hp hb hv P_1 B_1
  have ex := EX.out
  rw [hk] at ex
  try rw [M.Res.bind_ok] at ex
  clear EX
  have EX := Lib.hid ex
  clear ex hk
  go_wp2_with fail
  obtain ⟨v3, ev3⟩ : ∃ v, v = w2.alloc (.cells #[.int .i64 x2.kind, .string x2.text, .int .u64 (x2.num : Nat), .slice x2.ka x2.kn x2.kc] 25) := ⟨_, rfl⟩
  rw [<- ev3]
  have A3 := Lib.hid (show Below w2.heap.size w2 v3 by rw [ev3]; exact (Below.refl _ _).alloc (Nat.le_refl _) _)
  obtain ⟨b3, eb3⟩ : ∃ b, b = w2.heap.size := ⟨_, rfl⟩
  have X3 := Lib.hid (show Box9 v3 b3 x2 by rw [ev3, eb3]; exact Box9.start _ x2)
  have LBX3 := Lib.hid (show hi <= b3 by rw [eb3]; exact P_2.out.2.1)
  have LWX3 := Lib.hid (show w.heap.size < b3 by rw [eb3]; exact SLE_2.out)
  rw [<- eb3]
  have RES_3 := Lib.hid (RES_2.out.below A3.out)
  clear RES_2
  have SLE_3 := Lib.hid (Nat.le_trans SLE_2.out A3.out.size)
  clear SLE_2
  have T2_3 := Lib.hid (T2_2.out.step (Below.stay A3.out))
  clear T2_2
  have P_3 := Lib.hid (P_2.out.below A3.out)
  clear P_2
  have B_3 := Lib.hid (B_2.out.below A3.out)
  clear B_2
  clear ev3 eb3 A3
  have C4 := Lib.hid (expect_any P_3.out ⟨#[41]⟩ (s := [41]) rfl ⟨by decide, by decide⟩)
  (with_reducible refine (C4.out).mono ?_)
  intro e w4 hE
  rcases M.Res.em (M.take [41] r2) with hk | ⟨r4, hk⟩ | ⟨a4, r4, hk⟩
  ·exact absurd (EX.out.trans (by rw [hk]; try rfl)) HX.out
  ·rw [hk] at hE
   obtain ⟨he, hb⟩ := hE
   unfold pv at he
   subst he
   have HB := Lib.hid (B_3.out.trans hb)
   have ex := EX.out
   rw [hk] at ex
   try rw [M.Res.bind_bad] at ex
   have EX2 := Lib.hid ex
   clear ex hk hb
   go_wp2_with fail
   rw [EX2.out]
   exact ⟨rfl, rfl, HB.out⟩
  rw [hk] at hE
  obtain ⟨he, hp, hb⟩ := hE
  unfold vUnit at he
  subst he
  have RES_4 := Lib.hid (RES_3.out.but hb (by have := HR.out; omega))
  clear RES_3
  have SLE_4 := Lib.hid (Nat.le_trans SLE_3.out hb.size)
  clear SLE_3
  have T2_4 := Lib.hid (T2_3.out.step (hb.stay (by have := HR.out; omega)))
  clear T2_3
  have X3_4 := Lib.hid (X3.out.but hb (by have := HR.out; have := LBX3.out; omega))
  clear X3
  have P_4 := Lib.hid hp
  have B_4 := Lib.hid (B_3.out.trans hb)
  clear hp hb P_3 B_3
  have ex := EX.out
  rw [hk] at ex
  try rw [M.Res.bind_ok] at ex
  clear EX
  have EX := Lib.hid ex
  clear ex hk
  obtain ⟨kb30, kb31, kb32, kb33⟩ := X3_4.out.c
  have lb30 : b3 < w4.heap.size := X3_4.out.lt
  obtain ⟨q0, q1, q2, q3⟩ := RES_4.out.c
  obtain ⟨z0, z1, z2, z3⟩ := RES_4.out.fz
  have lr0 : w.heap.size < w4.heap.size := RES_4.out.lt
  go_wp2_with fail
  refine bodyPost_ret (v := .agg #[.int .i64 x2.kind, .string x2.text, .int .u64 (x2.num : Nat), .slice x2.ka x2.kn x2.kc]) (by simp [results, Tryz.results190, go_sem, q0, q1, q2, q3]) rfl ?_
  rw [EX.out]
  exact tree_end _ _ _ (y := x2) HR.out.2.1 B_4.out T2_4.out P_4.out
 ·rw [if_neg hc] at hp
  rw [show M.isS [40] ts = false by simpa using hc] at he
  subst he
  have ex := EX.out
  rw [if_neg hc] at ex
  clear EX
  have EX := Lib.hid ex
  have P_1 := Lib.hid hp
  have HC1 := Lib.hid hc
  clear ex hp hc P_00
  go_wp2_with fail
  have C2 := Lib.hid (accept_word P_1.out ⟨#[91]⟩ (s := [91]) rfl ⟨by decide, by decide⟩)
  (with_reducible refine (C2.out).mono ?_)
  rintro e w2 ⟨he, hp, hb⟩
  have RES_2 := Lib.hid (RES_1.out.but hb (by have := HR.out; omega))
  clear RES_1
  have SLE_2 := Lib.hid (Nat.le_trans SLE_1.out hb.size)
  clear SLE_1
  have B_2 := Lib.hid (B_1.out.trans hb)
  clear hb B_1
  by_cases hc : M.isS [91] ts = true
  ·rw [hc] at he
   rw [if_pos hc] at hp
   subst he
   have ex := EX.out
   rw [if_pos hc] at ex
   try rw [M.Res.bind_ok] at ex
   clear EX
   have EX := Lib.hid ex
   have P_2 := Lib.hid hp
   have HC2 := Lib.hid hc
   clear ex hp hc P_1
   go_wp2_with fail
   have C3 := Lib.hid (list_any HE (fun args w => Tryz.call147 args w) hl c w2 (ts.tail) P_2.out (fun h => HX.out (EX.out.trans (by rw [h]; try rfl))))
   have SLB3 := Lib.hid (SLE_2.out)
   (with_reducible refine (C3.out).mono ?_)
   intro e w3 hE
   rcases M.Res.em (M.pList p c (ts.tail)) with hk | ⟨r3, hk⟩ | ⟨a3, r3, hk⟩
   ·exact absurd (EX.out.trans (by rw [hk]; try rfl)) HX.out
   ·rw [hk] at hE
    obtain ⟨he, hb⟩ := hE
    unfold pv at he
    subst he
    have HB := Lib.hid (B_2.out.trans hb)
    have ex := EX.out
    rw [hk] at ex
    try rw [M.Res.bind_bad] at ex
    have EX2 := Lib.hid ex
    clear ex hk hb
    go_wp2_with fail
    rw [EX2.out]
    exact ⟨rfl, rfl, HB.out⟩
   rw [hk] at hE
   obtain ⟨⟨v, he, hv, hvl⟩, hp, hb⟩ := hE
   subst he
   obtain ⟨A3, c3, rfl⟩ := hv.sl
   have RES_3 := Lib.hid (RES_2.out.but hb (by have := HR.out; omega))
   clear RES_2
   have SLE_3 := Lib.hid (Nat.le_trans SLE_2.out hb.size)
   clear SLE_2
   have L3_3 := Lib.hid (hv.lo SLB3.out)
   have HL3 := Lib.hid hvl
   have LO3 := Lib.hid hv
   have P_3 := Lib.hid hp
   have B_3 := Lib.hid (B_2.out.trans hb)
   clear hp hb hv hvl P_2 B_2
   have ex := EX.out
   rw [hk] at ex
   try rw [M.Res.bind_ok] at ex
   clear EX
   have EX := Lib.hid ex
   clear ex hk
   go_wp2_with fail
   have C4 := Lib.hid (expect_any P_3.out ⟨#[93]⟩ (s := [93]) rfl ⟨by decide, by decide⟩)
   (with_reducible refine (C4.out).mono ?_)
   intro e w4 hE
   rcases M.Res.em (M.take [93] r3) with hk | ⟨r4, hk⟩ | ⟨a4, r4, hk⟩
   ·exact absurd (EX.out.trans (by rw [hk]; try rfl)) HX.out
   ·rw [hk] at hE
    obtain ⟨he, hb⟩ := hE
    unfold pv at he
    subst he
    have HB := Lib.hid (B_3.out.trans hb)
    have ex := EX.out
    rw [hk] at ex
    try rw [M.Res.bind_bad] at ex
    have EX2 := Lib.hid ex
    clear ex hk hb
    go_wp2_with fail
    rw [EX2.out]
    exact ⟨rfl, rfl, HB.out⟩
   rw [hk] at hE
   obtain ⟨he, hp, hb⟩ := hE
   unfold vUnit at he
   subst he
   have RES_4 := Lib.hid (RES_3.out.but hb (by have := HR.out; omega))
   clear RES_3
   have SLE_4 := Lib.hid (Nat.le_trans SLE_3.out hb.size)
   clear SLE_3
   have L3_4 := Lib.hid (L3_3.out.step (hb.stay (by have := HR.out; omega)))
   clear L3_3
   have P_4 := Lib.hid hp
   have B_4 := Lib.hid (B_3.out.trans hb)
   clear hp hb P_3 B_3
   have ex := EX.out
   rw [hk] at ex
   try rw [M.Res.bind_ok] at ex
   clear EX
   have EX := Lib.hid ex
   clear ex hk
   obtain ⟨q0, q1, q2, q3⟩ := RES_4.out.c
   obtain ⟨z0, z1, z2, z3⟩ := RES_4.out.fz
   have lr0 : w.heap.size < w4.heap.size := RES_4.out.lt
   go_wp2_with fail
   refine bodyPost_ret (v := .agg #[.int .i64 18, .string ⟨#[]⟩, .int .u64 0, .slice A3 a3.length c3]) (by simp [results, Tryz.results190, go_sem, q0, q1, q2, q3]) rfl ?_
   rw [EX.out]
   exact tree_end _ _ _ (y := ⟨18, ⟨#[]⟩, 0, A3, a3.length, c3⟩) HR.out.2.1 B_4.out (NodeN.make (k := 18) (T := ⟨#[]⟩) (n := 0) (L3_4.out.kids (by have := HL3.out; omega)) rfl ⟨by omega, by omega, by decide⟩) P_4.out
  ·rw [if_neg hc] at hp
   rw [show M.isS [91] ts = false by simpa using hc] at he
   subst he
   have ex := EX.out
   rw [if_neg hc] at ex
   clear EX
   have EX := Lib.hid ex
   have P_2 := Lib.hid hp
   have HC2 := Lib.hid hc
   clear ex hp hc P_1
   go_wp2_with fail
   have C3 := Lib.hid (next_any P_2.out)
   (with_reducible refine (C3.out).mono ?_)
   rintro e w3 ⟨⟨T3, rfl, hT, hTs⟩, rfl⟩
   have HT3 := Lib.hid hT
   have HTs3 := Lib.hid hTs
   clear hT hTs
   clear C3
   go_wp2_with fail
   have C4 := Lib.hid (pisFunction_any T3 w3 (by have := HTs3.out; omega))
   rw [HT3.out] at C4
   (with_reducible refine (C4.out).mono ?_)
   rintro e w4 ⟨he, hb0⟩
   have hb := But.of (R := R) hb0
   have RES_4 := Lib.hid (RES_2.out.but hb (by have := HR.out; omega))
   clear RES_2
   have SLE_4 := Lib.hid (Nat.le_trans SLE_2.out hb.size)
   clear SLE_2
   have B_4 := Lib.hid (B_2.out.trans hb)
   have P_4 := Lib.hid (P_2.out.below hb0)
   clear hb hb0 B_2 P_2
   by_cases hc : M.funB (M.headT ts) = true
   ·rw [hc] at he
    subst he
    have ex := EX.out
    rw [if_pos hc] at ex
    clear EX
    have EX := Lib.hid ex
    have HFB := Lib.hid hc
    clear ex hc
    go_wp2_with fail
    have C5 := Lib.hid (HN w4 ts P_4.out HFB.out (fun h => HX.out (EX.out.trans (by rw [h]; try rfl))))
    have SLB5 := Lib.hid (SLE_4.out)
    (with_reducible refine (C5.out).mono ?_)
    intro e w5 hE
    rcases M.Res.em (M.namedB p c ts) with hk | ⟨r5, hk⟩ | ⟨a5, r5, hk⟩
    ·exact absurd (EX.out.trans (by rw [hk]; try rfl)) HX.out
    ·rw [hk] at hE
     obtain ⟨he, hb⟩ := hE
     unfold pv at he
     subst he
     have HB := Lib.hid (B_4.out.trans hb)
     have ex := EX.out
     rw [hk] at ex
     try rw [M.Res.bind_bad] at ex
     have EX2 := Lib.hid ex
     clear ex hk hb
     go_wp2_with fail
     rw [EX2.out]
     exact ⟨rfl, rfl, HB.out⟩
    rw [hk] at hE
    obtain ⟨⟨v, he, hv⟩, hp, hb⟩ := hE
    subst he
    obtain ⟨x5, rfl⟩ := hv.v9e
    have RES_5 := Lib.hid (RES_4.out.but hb (by have := HR.out; omega))
    clear RES_4
    have SLE_5 := Lib.hid (Nat.le_trans SLE_4.out hb.size)
    clear SLE_4
    have T5_5 := Lib.hid (hv.lo SLB5.out)
    have P_5 := Lib.hid hp
    have B_5 := Lib.hid (B_4.out.trans hb)
    clear hp hb hv P_4 B_4
    have ex := EX.out
    rw [hk] at ex
    try rw [M.Res.bind_ok] at ex
    clear EX
    have EX := Lib.hid ex
    clear ex hk
    obtain ⟨q0, q1, q2, q3⟩ := RES_5.out.c
    obtain ⟨z0, z1, z2, z3⟩ := RES_5.out.fz
    have lr0 : w.heap.size < w5.heap.size := RES_5.out.lt
    go_wp2_with fail
    refine bodyPost_ret (v := .agg #[.int .i64 x5.kind, .string x5.text, .int .u64 (x5.num : Nat), .slice x5.ka x5.kn x5.kc]) (by simp [results, Tryz.results190, go_sem, q0, q1, q2, q3]) rfl ?_
    rw [EX.out]
    exact tree_end _ _ _ (y := x5) HR.out.2.1 B_5.out T5_5.out P_5.out
   ·rw [show M.funB (M.headT ts) = false by simpa using hc] at he
    subst he
    have ex := EX.out
    rw [if_neg hc] at ex
    clear EX
    have EX := Lib.hid ex
    clear ex hc
    go_wp2_with fail
    have C5 := Lib.hid (number_any w4 ts P_4.out (fun h => HX.out (EX.out.trans (by rw [h]; try rfl))))
    (with_reducible refine (C5.out).mono ?_)
    intro e w5 hE
    rcases M.Res.em (M.pNumber ts) with hk | ⟨r5, hk⟩ | ⟨a5, r5, hk⟩
    ·exact absurd (EX.out.trans (by rw [hk]; try rfl)) HX.out
    ·rw [hk] at hE
     obtain ⟨he, hb⟩ := hE
     unfold pv at he
     subst he
     have HB := Lib.hid (B_4.out.trans hb)
     have ex := EX.out
     rw [hk] at ex
     try rw [M.Res.bind_bad] at ex
     have EX2 := Lib.hid ex
     clear ex hk hb
     go_wp2_with fail
     rw [EX2.out]
     exact ⟨rfl, rfl, HB.out⟩
    rw [hk] at hE
    obtain ⟨⟨he, hn⟩, hp, hb⟩ := hE
    subst he
    have HN5 := Lib.hid hn
    clear hn
    have RES_5 := Lib.hid (RES_4.out.but hb (by have := HR.out; omega))
    clear RES_4
    have SLE_5 := Lib.hid (Nat.le_trans SLE_4.out hb.size)
    clear SLE_4
    have P_5 := Lib.hid hp
    have B_5 := Lib.hid (B_4.out.trans hb)
    clear hp hb P_4 B_4
    have ex := EX.out
    rw [hk] at ex
    try rw [M.Res.bind_ok] at ex
    clear EX
    have EX := Lib.hid ex
    clear ex hk
    obtain ⟨q0, q1, q2, q3⟩ := RES_5.out.c
    obtain ⟨z0, z1, z2, z3⟩ := RES_5.out.fz
    have lr0 : w.heap.size < w5.heap.size := RES_5.out.lt
    go_wp2_with fail
    refine bodyPost_ret (v := .agg #[.int .i64 14, .string ⟨#[]⟩, .int .u64 (a5 : Nat), .slice none 0 0]) (by simp [results, Tryz.results190, go_sem, q0, q1, q2, q3]) rfl ?_
    rw [EX.out]
    exact tree_end _ _ _ (y := ⟨14, ⟨#[]⟩, a5, none, 0, 0⟩) HR.out.2.1 B_5.out (NodeN.make (k := 14) (T := ⟨#[]⟩) (n := a5) (KidsN.nil _ none _) rfl ⟨by omega, HN5.out, by decide⟩) P_5.out
theorem named_any {p : List M.Tok -> M.Res M.Tree} (HE : PC hi R N vTree 147 p) (hl : Less p) (c : Nat) (w : World) (ts : List M.Tok) (h : PS hi R N w ts) (hf : M.funB (M.headT ts) = true) (hne : M.namedB p c ts ≠ .out) : Calls Tryz.prog 191 #[.pointer (some ⟨R, 0, none⟩)] w (PEnd hi R N vTree w (M.namedB p c ts)) := by
 have HFN := Lib.hid hf
 clear hf
 have h := h
 have hud := hud9
 have HR := Lib.hid (show R < hi /\ hi <= w.heap.size /\ ts.length <= 20000 from ⟨h.1, h.2.1, by obtain ⟨_, _, _, _, _, _, _, _, _, _, _, h9, _⟩ := h; exact h9⟩)
 obtain ⟨X, eX⟩ : ∃ X, X = M.namedB p c ts := ⟨_, rfl⟩
 rw [<- eX] at hne ⊢
 unfold M.namedB at eX
 have EX := Lib.hid eX
 have HX := Lib.hid hne
 clear eX hne
 have P_0 := Lib.hid h
 have B_0 := Lib.hid (But.refl R w)
 clear h
 go_enter Tryz.func191, Tryz.ntmps191
 go_wp2_with fail
 obtain ⟨w0, ew0⟩ : ∃ w0, w0 = w.alloc (.cells #[.int .i64 0, .string ⟨#[]⟩, .int .u64 0, .slice none 0 0] 25) := ⟨_, rfl⟩
 rw [<- ew0]
 have RES_0 := Lib.hid (show Box9 w0 w.heap.size V9.no by rw [ew0]; exact Box9.start w V9.no)
 have SLE_0 := Lib.hid (show w.heap.size + 1 <= w0.heap.size by rw [ew0]; simp)
 have P_00 := Lib.hid (show PS hi R N w0 ts by rw [ew0]; exact P_0.out.alloc _)
 have B_00 := Lib.hid (show But R w w0 by rw [ew0]; exact B_0.out.alloc _)
 clear ew0 P_0 B_0
 have C1 := Lib.hid (next_any P_00.out)
 (with_reducible refine (C1.out).mono ?_)
 rintro e w1 ⟨⟨T1, rfl, hT, hTs⟩, rfl⟩
 have HT1 := Lib.hid hT
 have HTs1 := Lib.hid hTs
 clear hT hTs
 clear C1
 go_wp2_with fail
 have C2 := Lib.hid (expect_raw P_00.out T1 HT1.out (M.fun_ne HFN.out))
 (with_reducible refine (C2.out).mono ?_)
 rintro e w2 ⟨h1, -⟩
 obtain ⟨rfl, hp, hb⟩ := h1 (by trivial)
 clear h1
 have RES_2 := Lib.hid (RES_0.out.but hb (by have := HR.out; omega))
 clear RES_0
 have SLE_2 := Lib.hid (Nat.le_trans SLE_0.out hb.size)
 clear SLE_0
 have B_2 := Lib.hid (B_00.out.trans hb)
 have P_2 := Lib.hid hp
 clear hp hb B_00 P_00
 go_wp2_with fail
 have C3 := Lib.hid (next_any P_2.out)
 (with_reducible refine (C3.out).mono ?_)
 rintro e w3 ⟨⟨T3, rfl, hT, hTs⟩, rfl⟩
 have HT3 := Lib.hid hT
 have HTs3 := Lib.hid hTs
 clear hT hTs
 clear C3
 have HI40 := Lib.hid (isS_text P_2.out (s := [40]) ⟨by decide, by decide⟩)
 by_cases hc : M.isS [40] ts.tail = true
 ·have hq : T3 = ⟨#[40]⟩ := M.bs_inj (by rw [HT3.out]; have := HI40.out; rw [hc] at this; exact of_decide_eq_true this.symm)
  subst hq
  have ex := EX.out
  rw [if_neg (fun h => by rw [hc] at h; exact absurd h.2 (by decide))] at ex
  clear EX
  have EX := Lib.hid ex
  clear ex hc
  go_wp2_with fail
  have C4 := Lib.hid (bracketed_any HE (fun args w => Tryz.call147 args w) hl c w3 (ts.tail) P_2.out (fun h => HX.out (EX.out.trans (by rw [h]; try rfl))))
  have SLB4 := Lib.hid (SLE_2.out)
  (with_reducible refine (C4.out).mono ?_)
  intro e w4 hE
  rcases M.Res.em (M.pBrack p c (ts.tail)) with hk | ⟨r4, hk⟩ | ⟨a4, r4, hk⟩
  ·exact absurd (EX.out.trans (by rw [hk]; try rfl)) HX.out
  ·rw [hk] at hE
   obtain ⟨he, hb⟩ := hE
   unfold pv at he
   subst he
   have HB := Lib.hid (B_2.out.trans hb)
   have ex := EX.out
   rw [hk] at ex
   try rw [M.Res.bind_bad] at ex
   have EX2 := Lib.hid ex
   clear ex hk hb
   go_wp2_with fail
   rw [EX2.out]
   exact ⟨rfl, rfl, HB.out⟩
  rw [hk] at hE
  obtain ⟨⟨v, he, hv, hvl⟩, hp, hb⟩ := hE
  subst he
  obtain ⟨A4, c4, rfl⟩ := hv.sl
  have RES_4 := Lib.hid (RES_2.out.but hb (by have := HR.out; omega))
  clear RES_2
  have SLE_4 := Lib.hid (Nat.le_trans SLE_2.out hb.size)
  clear SLE_2
  have L4_4 := Lib.hid (hv.lo SLB4.out)
  have HL4 := Lib.hid hvl
  have LO4 := Lib.hid hv
  have P_4 := Lib.hid hp
  have B_4 := Lib.hid (B_2.out.trans hb)
  clear hp hb hv hvl P_2 B_2
  have ex := EX.out
  rw [hk] at ex
  try rw [M.Res.bind_ok] at ex
  clear EX
  have EX := Lib.hid ex
  clear ex hk
  obtain ⟨q0, q1, q2, q3⟩ := RES_4.out.c
  obtain ⟨z0, z1, z2, z3⟩ := RES_4.out.fz
  have lr0 : w.heap.size < w4.heap.size := RES_4.out.lt
  go_wp2_with fail
  refine bodyPost_ret (v := .agg #[.int .i64 16, .string T1, .int .u64 0, .slice A4 a4.length c4]) (by simp [results, Tryz.results191, go_sem, q0, q1, q2, q3]) rfl ?_
  rw [EX.out]
  exact tree_end _ _ _ (y := ⟨16, T1, 0, A4, a4.length, c4⟩) HR.out.2.1 B_4.out (NodeN.make (k := 16) (T := T1) (n := 0) (L4_4.out.kids (by have := HL4.out; omega)) HT1.out ⟨by omega, by omega, by have := HTs1.out; omega⟩) P_4.out
 ·have hcf : M.isS [40] ts.tail = false := by simpa using hc
  have hq : (T3.toList == [40]) = false := by have := M.str_ne (x := T3) (s := ⟨#[40]⟩) (fun e => by have h2 := HI40.out; rw [hcf] at h2; exact of_decide_eq_false h2.symm (by rw [<- HT3.out, e]; rfl)); simpa [go_sem] using this
  have HCF := Lib.hid hcf
  clear hc hcf
  go_wp2_with fail
  have C4 := Lib.hid (isReserved_any T1 w3 (by have := HTs1.out; omega))
  rw [HT1.out] at C4
  (with_reducible refine (C4.out).mono ?_)
  rintro e w4 ⟨he, hb0⟩
  have hb := But.of (R := R) hb0
  have RES_4 := Lib.hid (RES_2.out.but hb (by have := HR.out; omega))
  clear RES_2
  have SLE_4 := Lib.hid (Nat.le_trans SLE_2.out hb.size)
  clear SLE_2
  have B_4 := Lib.hid (B_2.out.trans hb)
  have P_4 := Lib.hid (P_2.out.below hb0)
  clear hb hb0 B_2 P_2
  by_cases hw : M.wordB (M.headT ts) = true
  ·have hw2 : decide (M.headT ts ∈ words8.map M.bs) = true := hw
   rw [hw2] at he
   subst he
   have ex := EX.out
   rw [if_neg (fun h => by have := h.1; unfold M.nameOk at this; rw [hw] at this; simp at this)] at ex
   clear EX
   have EX := Lib.hid ex
   clear ex hw hw2
   go_wp2_with fail
   have C5 := Lib.hid (bracketed_any HE (fun args w => Tryz.call147 args w) hl c w4 (ts.tail) P_4.out (fun h => HX.out (EX.out.trans (by rw [h]; try rfl))))
   have SLB5 := Lib.hid (SLE_4.out)
   (with_reducible refine (C5.out).mono ?_)
   intro e w5 hE
   rcases M.Res.em (M.pBrack p c (ts.tail)) with hk | ⟨r5, hk⟩ | ⟨a5, r5, hk⟩
   ·exact absurd (EX.out.trans (by rw [hk]; try rfl)) HX.out
   ·rw [hk] at hE
    obtain ⟨he, hb⟩ := hE
    unfold pv at he
    subst he
    have HB := Lib.hid (B_4.out.trans hb)
    have ex := EX.out
    rw [hk] at ex
    try rw [M.Res.bind_bad] at ex
    have EX2 := Lib.hid ex
    clear ex hk hb
    go_wp2_with fail
    rw [EX2.out]
    exact ⟨rfl, rfl, HB.out⟩
   rw [hk] at hE
   obtain ⟨⟨v, he, hv, hvl⟩, hp, hb⟩ := hE
   subst he
   obtain ⟨A5, c5, rfl⟩ := hv.sl
   have RES_5 := Lib.hid (RES_4.out.but hb (by have := HR.out; omega))
   clear RES_4
   have SLE_5 := Lib.hid (Nat.le_trans SLE_4.out hb.size)
   clear SLE_4
   have L5_5 := Lib.hid (hv.lo SLB5.out)
   have HL5 := Lib.hid hvl
   have LO5 := Lib.hid hv
   have P_5 := Lib.hid hp
   have B_5 := Lib.hid (B_4.out.trans hb)
   clear hp hb hv hvl P_4 B_4
   have ex := EX.out
   rw [hk] at ex
   try rw [M.Res.bind_ok] at ex
   clear EX
   have EX := Lib.hid ex
   clear ex hk
   obtain ⟨q0, q1, q2, q3⟩ := RES_5.out.c
   obtain ⟨z0, z1, z2, z3⟩ := RES_5.out.fz
   have lr0 : w.heap.size < w5.heap.size := RES_5.out.lt
   go_wp2_with fail
   refine bodyPost_ret (v := .agg #[.int .i64 16, .string T1, .int .u64 0, .slice A5 a5.length c5]) (by simp [results, Tryz.results191, go_sem, q0, q1, q2, q3]) rfl ?_
   rw [EX.out]
   exact tree_end _ _ _ (y := ⟨16, T1, 0, A5, a5.length, c5⟩) HR.out.2.1 B_5.out (NodeN.make (k := 16) (T := T1) (n := 0) (L5_5.out.kids (by have := HL5.out; omega)) HT1.out ⟨by omega, by omega, by have := HTs1.out; omega⟩) P_5.out
  ·have hw2 : decide (M.headT ts ∈ words8.map M.bs) = false := by simpa [M.wordB] using hw
   rw [hw2] at he
   subst he
   have ex := EX.out
   rw [if_pos ⟨M.fun_name HFN.out (by simpa using hw), HCF.out⟩] at ex
   clear EX
   have EX := Lib.hid ex
   clear ex hw hw2
   obtain ⟨q0, q1, q2, q3⟩ := RES_4.out.c
   obtain ⟨z0, z1, z2, z3⟩ := RES_4.out.fz
   have lr0 : w.heap.size < w4.heap.size := RES_4.out.lt
   go_wp2_with fail
   refine bodyPost_ret (v := .agg #[.int .i64 15, .string T1, .int .u64 0, .slice none 0 0]) (by simp [results, Tryz.results191, go_sem, q0, q1, q2, q3]) rfl ?_
   rw [EX.out]
   exact tree_end _ _ _ (y := ⟨15, T1, 0, none, 0, 0⟩) HR.out.2.1 B_4.out (NodeN.make (k := 15) (T := T1) (n := 0) (KidsN.nil _ none _) HT1.out ⟨by omega, by omega, by have := HTs1.out; omega⟩) P_4.out
end Go.Proofs.YtngpedcihajepaaGreatDoor
