/-
 Merged out of the texts Tm.
-/
import Derived.Test.YtngpedcihajepaaGreatDoorProg
import Derived.Deep.RegionHeld3
import Derived.WalkKit
import Derived.WalkSpells
import Derived.WalkLawsBesides
import Derived.Lib.Hide
import Derived.Below
import Derived.Deep.QuietTactic
import Derived.BigQuiet
import Derived.ProofKit
import Derived.ChangeMaps5
import Derived.Test.YtngpedcihajepaaGreatDoorBz1
import Derived.Test.YtngpedcihajepaaGreatDoorBz2
import Derived.Test.YtngpedcihajepaaGreatDoorSq9
set_option linter.unusedVariables false
set_option linter.unusedSimpArgs false
set_option maxRecDepth 100000
set_option maxHeartbeats 40000000
namespace Go.Proofs.YtngpedcihajepaaGreatDoor
open Go.RowKit
def PartOk (k : Int) (n : Nat) (T : ByteArray) : Prop := (-9223372036854775808 <= k /\ k <= 9223372036854775807) /\ n < 18446744073709551616 /\ T.size <= 140737488351232
mutual
def NodeAt (w : World) (b : Nat) : Nat -> M.Tree -> Prop
 | off, .node k tx n l => w.cell? ⟨b, off, none⟩ = some (.int .i64 k) /\ (∃ T : ByteArray, w.cell? ⟨b, off + 1, none⟩ = some (.string T) /\ M.bs T = tx /\ PartOk k n T) /\ w.cell? ⟨b, off + 2, none⟩ = some (.int .u64 (n : Nat)) /\
   ∃ A cap, w.cell? ⟨b, off + 3, none⟩ = some (.slice A l.length cap) /\ l.length <= cap /\ l.length <= 17592186043904 /\ (0 < l.length -> ∃ b' off', A = some ⟨b', off', none⟩ /\ b' < w.heap.size /\ KidsAt w b' off' l)
def KidsAt (w : World) (b : Nat) : Nat -> List M.Tree -> Prop
 | _, [] => True
 | off, t :: r => NodeAt w b off t /\ KidsAt w b (off + 4) r
end
def KidsV (w : World) (v : Value) (l : List M.Tree) : Prop :=
 ∃ A cap, v = .slice A l.length cap /\ l.length <= cap /\ l.length <= 17592186043904 /\ (0 < l.length -> ∃ b off, A = some ⟨b, off, none⟩ /\ b < w.heap.size /\ KidsAt w b off l)
def NodeV (w : World) (v : Value) (t : M.Tree) : Prop :=
 ∃ (T : ByteArray) (kv : Value), v = .agg #[.int .i64 t.kind, .string T, .int .u64 (t.num : Nat), kv] /\ M.bs T = t.text /\ PartOk t.kind t.num T /\ KidsV w kv t.kids
theorem NodeAt.open {w : World} {b off : Nat} {t : M.Tree} (h : NodeAt w b off t) : ∃ (T : ByteArray) (kv : Value), w.cell? ⟨b, off, none⟩ = some (.int .i64 t.kind) /\ w.cell? ⟨b, off + 1, none⟩ = some (.string T) /\ w.cell? ⟨b, off + 2, none⟩ = some (.int .u64 (t.num : Nat)) /\ w.cell? ⟨b, off + 3, none⟩ = some kv /\
  NodeV w (.agg #[.int .i64 t.kind, .string T, .int .u64 (t.num : Nat), kv]) t := by
 cases t with
 | node k tx n l =>
  rw [NodeAt] at h
  obtain ⟨h1, ⟨T, h2, h3, h4⟩, h5, A, cap, h6, h7, h8, h9⟩ := h
  exact ⟨T, _, h1, h2, h5, h6, T, _, rfl, h3, h4, A, cap, rfl, h7, h8, h9⟩
theorem NodeAt.shut {w : World} {b off : Nat} {t : M.Tree} {T : ByteArray} {kv : Value} (h1 : w.cell? ⟨b, off, none⟩ = some (.int .i64 t.kind)) (h2 : w.cell? ⟨b, off + 1, none⟩ = some (.string T)) (h3 : w.cell? ⟨b, off + 2, none⟩ = some (.int .u64 (t.num : Nat))) (h4 : w.cell? ⟨b, off + 3, none⟩ = some kv)
  (h : NodeV w (.agg #[.int .i64 t.kind, .string T, .int .u64 (t.num : Nat), kv]) t) : NodeAt w b off t := by
 obtain ⟨T', kv', e, h5, h6, A, cap, rfl, h7, h8, h9⟩ := h
 injection e with e
 have e' := congrArg Array.toList e
 simp at e'
 obtain ⟨rfl, rfl⟩ := e'
 cases t with
 | node k tx n l =>
  rw [NodeAt]
  exact ⟨h1, ⟨T, h2, h5, h6⟩, h3, A, cap, h4, h7, h8, h9⟩
theorem KidsAt.get {w : World} {b : Nat} : ∀ {l : List M.Tree} {off : Nat}, KidsAt w b off l -> ∀ i, i < l.length -> NodeAt w b (off + i * 4) (l.getD i M.Tree.no)
 | [], off, _, i, hi => by simp at hi
 | t :: r, off, h, 0, _ => by
  rw [KidsAt] at h
  exact h.1
 | t :: r, off, h, i + 1, hi => by
  rw [KidsAt] at h
  have := KidsAt.get h.2 i (by simpa using hi)
  rw [show off + (i + 1) * 4 = off + 4 + i * 4 by omega]
  exact this
theorem KidsAt.of {w : World} {b : Nat} : ∀ {l : List M.Tree} {off : Nat}, (∀ i, i < l.length -> NodeAt w b (off + i * 4) (l.getD i M.Tree.no)) -> KidsAt w b off l
 | [], off, _ => by rw [KidsAt]; trivial
 | t :: r, off, h => by
  rw [KidsAt]
  refine ⟨h 0 (by simp), KidsAt.of fun i hi => ?_⟩
  have := h (i + 1) (by simpa using hi)
  rw [show off + (i + 1) * 4 = off + 4 + i * 4 by omega] at this
  exact this
theorem node_lt {w : World} {b off : Nat} {t : M.Tree} (h : NodeAt w b off t) : b < w.heap.size := by
 obtain ⟨T, kv, h1, _⟩ := h.open
 exact World.block_lt_of_cell? w _ h1
mutual
theorem NodeAt.below {w w' : World} (hb : Below w.heap.size w w') : ∀ (t : M.Tree) {b off : Nat}, NodeAt w b off t -> NodeAt w' b off t
 | .node k tx n l, b, off, h => by
  have hlt := node_lt h
  rw [NodeAt] at h ⊢
  obtain ⟨h1, ⟨T, h2, h3, h4⟩, h5, A, cap, h6, h7, h8, h9⟩ := h
  refine ⟨(hb.cell (p := ⟨b, _, none⟩) hlt).trans h1, ⟨T, (hb.cell (p := ⟨b, _, none⟩) hlt).trans h2, h3, h4⟩, (hb.cell (p := ⟨b, _, none⟩) hlt).trans h5, A, cap, (hb.cell (p := ⟨b, _, none⟩) hlt).trans h6, h7, h8, fun h0 => ?_⟩
  obtain ⟨b', off', e, h10, h11⟩ := h9 h0
  exact ⟨b', off', e, Nat.lt_of_lt_of_le h10 hb.size, KidsAt.below hb l h11⟩
theorem KidsAt.below {w w' : World} (hb : Below w.heap.size w w') : ∀ (l : List M.Tree) {b off : Nat}, KidsAt w b off l -> KidsAt w' b off l
 | [], b, off, _ => by rw [KidsAt]; trivial
 | t :: r, b, off, h => by
  rw [KidsAt] at h ⊢
  exact ⟨NodeAt.below hb t h.1, KidsAt.below hb r h.2⟩
end
theorem KidsV.below {w w' : World} {v : Value} {l : List M.Tree} (h : KidsV w v l) (hb : Below w.heap.size w w') : KidsV w' v l := by
 obtain ⟨A, cap, rfl, h1, h2, h3⟩ := h
 refine ⟨A, cap, rfl, h1, h2, fun h0 => ?_⟩
 obtain ⟨b, off, e, h4, h5⟩ := h3 h0
 exact ⟨b, off, e, Nat.lt_of_lt_of_le h4 hb.size, KidsAt.below hb l h5⟩
theorem NodeV.below {w w' : World} {v : Value} {t : M.Tree} (h : NodeV w v t) (hb : Below w.heap.size w w') : NodeV w' v t := by
 obtain ⟨T, kv, rfl, h1, h2, h3⟩ := h
 exact ⟨T, kv, rfl, h1, h2, h3.below hb⟩
theorem KidsV.nil (w : World) : KidsV w (.slice none 0 0) [] := ⟨none, 0, rfl, by simp, by simp, fun h => by simp at h⟩
theorem NodeAt.open2 {w : World} {b off : Nat} {t : M.Tree} (h : NodeAt w b off t) : ∃ (T : ByteArray) (A : Option Addr) (c : Nat), w.cell? ⟨b, off, none⟩ = some (.int .i64 t.kind) /\ w.cell? ⟨b, off + 1, none⟩ = some (.string T) /\ w.cell? ⟨b, off + 2, none⟩ = some (.int .u64 (t.num : Nat)) /\ w.cell? ⟨b, off + 3, none⟩ = some (.slice A t.kids.length c) /\
  M.bs T = t.text /\ PartOk t.kind t.num T /\ KidsV w (.slice A t.kids.length c) t.kids := by
 cases t with
 | node k tx n l =>
  rw [NodeAt] at h
  obtain ⟨h1, ⟨T, h2, h3, h4⟩, h5, A, cap, h6, h7, h8, h9⟩ := h
  exact ⟨T, A, cap, h1, h2, h5, h6, h3, h4, A, cap, rfl, h7, h8, h9⟩
theorem KidsV.kid {w : World} {A : Option Addr} {n cap : Nat} {l : List M.Tree} (h : KidsV w (.slice A n cap) l) : n = l.length /\ n <= cap /\ n <= 17592186043904 /\ (0 < n -> ∃ b off, A = some ⟨b, off, none⟩ /\ b < w.heap.size /\ ∀ i, i < n -> ∃ (T : ByteArray) (A2 : Option Addr) (n2 c2 : Nat),
  w.cell? ⟨b, off + i * 4, none⟩ = some (.int .i64 (l.getD i M.Tree.no).kind) /\ w.cell? ⟨b, off + i * 4 + 1, none⟩ = some (.string T) /\ w.cell? ⟨b, off + i * 4 + 2, none⟩ = some (.int .u64 ((l.getD i M.Tree.no).num : Nat)) /\ w.cell? ⟨b, off + i * 4 + 3, none⟩ = some (.slice A2 n2 c2) /\
  NodeV w (.agg #[.int .i64 (l.getD i M.Tree.no).kind, .string T, .int .u64 ((l.getD i M.Tree.no).num : Nat), .slice A2 n2 c2]) (l.getD i M.Tree.no)) := by
 obtain ⟨A', cap', e, h1, h2, h3⟩ := h
 injection e with e1 e2 e3
 subst e1 e2 e3
 refine ⟨rfl, h1, h2, fun h0 => ?_⟩
 obtain ⟨b, off, e, h4, h5⟩ := h3 h0
 refine ⟨b, off, e, h4, fun i hi => ?_⟩
 obtain ⟨T, A2, c2, q0, q1, q2, q3, q4, q5, q6⟩ := (h5.get i hi).open2
 exact ⟨T, A2, _, c2, q0, q1, q2, q3, T, _, rfl, q4, q5, q6⟩
end Go.Proofs.YtngpedcihajepaaGreatDoor
