/-
 Merged out of the texts As9.
-/
import Derived.OwnWalk
import Derived.Deep.RegionHeld3
import Derived.WalkKit
import Derived.ProofKit
import Derived.ChangeMaps5
import Derived.Test.YtngpedcihajepaaGreatDoorProg
import Derived.Still
import Derived.Lib.MinMax
import Derived.WalkSpells
import Derived.WalkLawsBesides
import Derived.Lib.Hide
import Derived.Below
import Derived.Deep.QuietTactic
import Derived.BigQuiet
import Derived.Test.YtngpedcihajepaaGreatDoorBz1
import Derived.Test.YtngpedcihajepaaGreatDoorBz2
import Derived.Test.YtngpedcihajepaaGreatDoorBz3
import Derived.Test.YtngpedcihajepaaGreatDoorBz4
import Derived.Test.YtngpedcihajepaaGreatDoorBz5
import Derived.Test.YtngpedcihajepaaGreatDoorBz6
import Derived.Test.YtngpedcihajepaaGreatDoorBz11
import Derived.Test.YtngpedcihajepaaGreatDoorBz12
import Derived.Test.YtngpedcihajepaaGreatDoorBz13
import Derived.Test.YtngpedcihajepaaGreatDoorSq9
set_option linter.unusedVariables false
set_option linter.unusedSimpArgs false
set_option maxRecDepth 100000
set_option maxHeartbeats 40000000
namespace Go.Proofs.YtngpedcihajepaaGreatDoor
open Go.RowKit
theorem run_append_strs (w : World) (base : Nat) (ty : TypeId) (v x : Value) (L L2 : List ByteArray) (hown : OwnS w base v L) (hx : StrS w x L2) (hl : L.length + L2.length <= 1000000) (hbase : base <= w.heap.size) :
  ∃ v' w', (Builtin.append_ #[44, 44] ty #[v, x]).run Tryz.prog w = .ok v' w' /\ OwnS w' base v' (L ++ L2) /\ w.grownBy w' v.ownBlock := by
 obtain ⟨i0, hi0, hz0, hz1, hz2⟩ := infoStr2
 obtain ⟨-, A, cap, rfl, hc⟩ := hx
 unfold OwnS at hown ⊢
 have main : ∀ ad, A = some ad -> (∀ j u, (L2.map Value.string)[j]? = some u -> w.cell? (ad.add j) = some u) -> ∃ v' w', (Builtin.append_ #[44, 44] ty #[v, .slice A L2.length cap]).run Tryz.prog w = .ok v' w' /\ w'.ownsRow base 9 1 v' (L ++ L2).length ((L ++ L2).map Value.string) /\ w.grownBy w' v.ownBlock := by
  intro ad e hcell
  subst e
  obtain ⟨v', w', h1, h2, h3, _⟩ := run_append_own (P := Tryz.prog) w base 44 ty 9 i0 (.string ⟨#[]⟩) 1 16 Tryz.underlying44 hi0 hz0 hz1 hz2 rfl (by decide) v L.length _ hown ad L2.length cap (L2.map Value.string) (by rw [List.length_map, Nat.mul_one]) hcell (fun u hu => by obtain ⟨y, _, rfl⟩ := List.mem_map.1 hu; rfl) (by unfold maxLen; omega) (by omega) hbase
  exact ⟨v', w', h1, by rw [List.length_append, List.map_append]; exact h2, h3⟩
 by_cases h0 : 0 < L2.length
 ·obtain ⟨b, off, rfl, hcc⟩ := hc h0
  refine main _ rfl fun j u hu => ?_
  rw [Addr.add_lit]
  rw [List.getElem?_map] at hu
  obtain ⟨y, hy, rfl⟩ := Option.map_eq_some_iff.1 hu
  obtain ⟨hj, e⟩ := List.getElem?_eq_some_iff.1 hy
  have := hcc j hj
  rw [List.getD_eq_getElem?_getD, hy] at this
  exact this
 ·have hn : L2 = [] := List.eq_nil_of_length_eq_zero (by omega)
  subst hn
  cases A with
  | some ad => exact main ad rfl fun j u hu => by simp at hu
  | none =>
   rw [List.append_nil]
   rcases hown.2 with ⟨rfl, h0⟩ | ⟨g, cap', cur, rfl, hbg, hg, hnc, hcm, hcs, htake⟩
   ·refine ⟨.slice none 0 0, w, ?_, ?_, ⟨rfl, rfl, rfl, Nat.le_refl _, fun _ _ _ => rfl⟩⟩
    ·simp [Builtin.append_, run_underlying Tryz.underlying44, sizeOf, typeInfo, hi0, Builtin.lenOf, Builtin.firstCells, loadCells, loadCellsFrom]
    ·exact hown
   ·refine ⟨_, w, ?_, hown, ⟨rfl, rfl, rfl, Nat.le_refl _, fun _ _ _ => rfl⟩⟩
    simp [Builtin.append_, run_underlying Tryz.underlying44, sizeOf, typeInfo, hi0, Builtin.lenOf, Builtin.firstCells, loadCells, loadCellsFrom, hnc, storeCells]
theorem OwnS.grow {w w' : World} {v : Value} {base base' : Nat} {L : List ByteArray} (h : OwnS w base v L) (hg : w.grownBy w' v.ownBlock) (hb : base' <= base) (hbw : base' <= w.heap.size) : Below base' w w' :=
 (Below.refl base' w).grown hg hbw fun j e => by have := (World.ownsRow.lt h j e).1; omega
theorem wp_append_strs {w : World} {o : Oper} {a : Act} {K : Act -> World -> Prop} {Q : Exit -> Act -> World -> Prop} (s x : Operand) (ho : o.op = .call { callee := .builtin .append, args := #[s, x], argTypes := #[44, 44] })
  (base : Nat) (v y : Value) (L L2 : List ByteArray) (hs : a.eval s = v) (hx : a.eval x = y) (hown : OwnS w base v L) (hy : StrS w y L2) (hl : L.length + L2.length <= 1000000) (hbase : base <= w.heap.size)
  (h : ∀ v' w', OwnS w' base v' (L ++ L2) -> Below base w w' -> K (a.put o.dst v') w') : o.wp Tryz.prog a w K Q := by
 obtain ⟨v', w', hr, h2, h3⟩ := run_append_strs w base o.type v y L L2 hown hy hl hbase
 unfold Oper.wp execOp
 simp only [ho, resolve, invoke, builtin, Sem.run_bind, Sem.run_pure, Result.andThen_ok, List.map_toArray, List.map_cons, List.map_nil, hs, hx, hr]
 exact h v' w' h2 (hown.grow h3 (Nat.le_refl _) hbase)
theorem wpList_append_strs {w : World} {ops : Array Oper} {rest : List Oper} {o : Oper} {a : Act} {Q : Exit -> Act -> World -> Prop} (hgd : o.guard = none) (s x : Operand) (ho : o.op = .call { callee := .builtin .append, args := #[s, x], argTypes := #[44, 44] })
  (base : Nat) (v y : Value) (L L2 : List ByteArray) (hs : a.eval s = v) (hx : a.eval x = y) (hown : OwnS w base v L) (hy : StrS w y L2) (hl : L.length + L2.length <= 1000000) (hbase : base <= w.heap.size)
  (h : ∀ v' w', OwnS w' base v' (L ++ L2) -> Below base w w' -> wpList Tryz.prog ops Q rest (a.put o.dst v') w') : wpList Tryz.prog ops Q (o :: rest) a w :=
 wpList_plain hgd fun _ hK => wp_append_strs s x ho base v y L L2 hs hx hown hy hl hbase fun v' w' h2 h3 => hK _ _ (h v' w' h2 h3)
section
variable {P : Program} {ops : Array Oper} {md : Region.Mode} {Q : Exit -> Act -> World -> Prop} {S : World -> Prop}
theorem OrdH.fork {o1 o2 : Oper} {k1 k2 : Nat} {r1 r2 : List Nat} {up : Array Bool} {a : Act} {w : World} (h01 : nthO ops.toList k1 = some o1) (h02 : nthO ops.toList k2 = some o2) (hw1 : Region.wanted o1 (yielded ops a.tmps) = true) (hw2 : Region.wanted o2 (yielded ops a.tmps) = true)
  (hr : Region.ready md ops up = [k1, k2]) (hlen : r2.length = r1.length) (hB2 : ordFrom md ops r2 (up.setIfInBounds k2 true) = true)
  (h1 : ∀ K : Act -> World -> Prop, Shut (∀ a w, S w -> (S w -> OrdH P md ops Q S r1 (up.setIfInBounds k1 true) a w) -> K a w) -> Oper.wp P o1 a w K Q)
  (h2 : ∀ K : Act -> World -> Prop, Shut (∀ a w, S w -> (S w -> OrdH P md ops Q S r2 (up.setIfInBounds k2 true) a w) -> K a w) -> Oper.wp P o2 a w K Q) : OrdH P md ops Q S (k1 :: r1) up a w := by
 intro hs hB hQ hS
 simp only [ordFrom, Bool.and_eq_true] at hB
 obtain ⟨⟨_, hf⟩, hB'⟩ := hB
 refine wpAnyH_ready hr (by simp) (AllReadyH.cons (nthO_at h01) (fun K hK => ?_) (AllReadyH.cons (nthO_at h02) (fun K hK => ?_) AllReadyH.nil))
 ·rw [if_pos hw1]
  exact h1 K fun a w hS h' => hK.out a w hS fun hS' => h' hS hs hB' hQ hS'
 ·rw [if_pos hw2]
  exact h2 K fun a w hS h' => hK.out a w hS fun hS' => by rw [<- hlen]; exact h' hS hs hB2 hQ hS'
end
end Go.Proofs.YtngpedcihajepaaGreatDoor
