/-
 Merged out of the texts Ta9 Tb9 Th9 Tc9 Td9 Te9 Tf9 Tg9 Ti9 To9 Tp9 Tj9 Tq9 Tr9 Ts9.
-/
import Derived.Lib.Builder
import Derived.Lib.AppendStr
import Derived.Lib.UnsafeStr
import Derived.Laws.Externs
import Derived.OwnWalk
import Derived.Deep.RegionHeld3
import Derived.Test.YtngpedcihajepaaGreatDoorProg
import Derived.WalkKit
import Derived.WalkSpells
import Derived.WalkLawsBesides
import Derived.Lib.Hide
import Derived.Below
import Derived.Deep.QuietTactic
import Derived.BigQuiet
import Derived.ProofKit
import Derived.ChangeMaps5
import Derived.Lib.MakeNoZero
import Derived.Laws.IdiomCopy
import Derived.Laws.BitsLemmas
import Derived.Shelf.Strings.BuilderX
import Derived.WalkSmall
import Derived.Test.YtngpedcihajepaaGreatDoorShelf
import Derived.Shelf.LaysM
import Derived.Shelf.Strconv.Itoa1
import Derived.Shelf.Strconv.Itoa2
import Derived.Lib.Walk
import Derived.Lib.ItoaMem
import Derived.BigCall
import Derived.BigGuard
import Derived.Lib.MinMax
import Derived.Still
import Derived.Deep.LoopGhost
import Derived.Test.YtngpedcihajepaaGreatDoorBz1
import Derived.Test.YtngpedcihajepaaGreatDoorBz2
import Derived.Test.YtngpedcihajepaaGreatDoorBz3
import Derived.Test.YtngpedcihajepaaGreatDoorBz4
import Derived.Test.YtngpedcihajepaaGreatDoorBz5
import Derived.Test.YtngpedcihajepaaGreatDoorBz6
import Derived.Test.YtngpedcihajepaaGreatDoorBz7
import Derived.Test.YtngpedcihajepaaGreatDoorBz11
import Derived.Test.YtngpedcihajepaaGreatDoorBz12
import Derived.Test.YtngpedcihajepaaGreatDoorBz13
import Derived.Test.YtngpedcihajepaaGreatDoorBz14
import Derived.Test.YtngpedcihajepaaGreatDoorBz15
import Derived.Test.YtngpedcihajepaaGreatDoorSq9
set_option linter.unusedVariables false
set_option linter.unusedSimpArgs false
set_option maxRecDepth 100000
set_option maxHeartbeats 40000000
namespace Go.Proofs.YtngpedcihajepaaGreatDoor
open Go.RowKit
def PrAt (w : World) (b : Nat) (A v : Value) (l : List UInt8) (n : Int) : Prop :=
 w.heap[b]? = some (.cells #[A, v, .int .i64 n] 60 (0, 0)) /\ w.ownsRow b 5 1 v l.length (Lib.byteCells l) /\ v.ownBlock ≠ some b
def PrS (w : World) (b : Nat) (l : List UInt8) (n : Int) : Prop := ∃ A v, PrAt w b A v l n /\ (A = .pointer none \/ A = .pointer (some ⟨b, 0, none⟩))
def NoRow (w : World) (k : Nat) : Prop := ∀ cur, w.heap[k]? ≠ some (.cells cur 5 (0, 0))
structure PrK (b : Nat) (w w' : World) : Prop where
 os : w'.os = w.os
 tape : w'.tape = w.tape
 output : w'.output = w.output
 size : w.heap.size <= w'.heap.size
 block : ∀ k, k < w.heap.size -> k ≠ b -> (k < b \/ NoRow w k) -> w'.heap[k]? = w.heap[k]?
theorem PrK.refl (b : Nat) (w : World) : PrK b w w := ⟨rfl, rfl, rfl, Nat.le_refl _, fun _ _ _ _ => rfl⟩
theorem PrK.trans {b : Nat} {u v w : World} (h : PrK b u v) (k : PrK b v w) : PrK b u w where
 os := k.os.trans h.os
 tape := k.tape.trans h.tape
 output := k.output.trans h.output
 size := Nat.le_trans h.size k.size
 block i hi hb hg := by
  have e := h.block i hi hb hg
  refine (k.block i (Nat.lt_of_lt_of_le hi h.size) hb ?_).trans e
  rcases hg with hg | hg
  ·exact .inl hg
  ·exact .inr fun cur => by rw [e]; exact hg cur
theorem PrK.of {w w' : World} (b : Nat) (h : Below w.heap.size w w') : PrK b w w' := ⟨h.os, h.tape, h.output, h.size, fun k hk _ _ => h.block k hk⟩
theorem PrK.below {b B : Nat} {w w' : World} (h : PrK b w w') (hB : B <= b) (hw : b < w.heap.size) : Below B w w' := ⟨h.os, h.tape, h.output, h.size, fun k hk => h.block k (by omega) (by omega) (.inl (by omega))⟩
theorem PrAt.lt {w : World} {b : Nat} {A v : Value} {l : List UInt8} {n : Int} (h : PrAt w b A v l n) : b < w.heap.size := by
 rcases Nat.lt_or_ge b w.heap.size with h' | h'
 ·exact h'
 ·have := h.1; simp [Array.getElem?_eq_none h'] at this
theorem PrAt.keep {w w' : World} {b : Nat} {A v : Value} {l : List UInt8} {n : Int} (h : PrAt w b A v l n) (hk : ∀ k, k < w.heap.size -> w'.heap[k]? = w.heap[k]?) (hs : w.heap.size <= w'.heap.size) (ho : w'.os = w.os) (ht : w'.tape = w.tape) (hu : w'.output = w.output) : PrAt w' b A v l n :=
 ⟨by rw [hk b h.lt]; exact h.1, h.2.1.kept (row := none) ⟨ho, ht, hu, hs, fun k hk' _ => hk k hk'⟩ (by cases v.ownBlock <;> simp), h.2.2⟩
theorem PrS.lt {w : World} {b : Nat} {l : List UInt8} {n : Int} (h : PrS w b l n) : b < w.heap.size := by obtain ⟨_, _, h, _⟩ := h; exact h.lt
theorem PrS.below {w w' : World} {b : Nat} {l : List UInt8} {n : Int} (h : PrS w b l n) (hb : Below w.heap.size w w') : PrS w' b l n := by
 obtain ⟨A, v, h1, h2⟩ := h
 exact ⟨A, v, h1.keep hb.block hb.size hb.os hb.tape hb.output, h2⟩
theorem PrAt.used {w : World} {b : Nat} {A v : Value} {l : List UInt8} {n : Int} (h : PrAt w b A v l n) (B : Value) : PrAt (w.setCell ⟨b, 0, none⟩ B) b B v l n := by
 refine ⟨?_, h.2.1.kept (row := some b) ⟨rfl, rfl, rfl, by simp [World.setCell], fun k _ hk => Below.heap_setCell _ _ _ _ (fun e => hk (by simp [e]))⟩ (Or.inr h.2.2), h.2.2⟩
 have := h.1
 simp [World.setCell, Array.getElem?_modify, this]
theorem PrAt.put {w : World} {b : Nat} {A v v' : Value} {l : List UInt8} {n : Int} (hb : w.heap[b]? = some (.cells #[A, v, .int .i64 n] 60 (0, 0))) (hown : w.ownsRow b 5 1 v' l.length (Lib.byteCells l)) : PrAt (w.setCell ⟨b, 1, none⟩ v') b A v' l n := by
 have hne : v'.ownBlock ≠ some b := by
  rcases hown.2 with ⟨rfl, _⟩ | ⟨g, cap, cur, rfl, _, hg, _⟩
  ·simp [Value.ownBlock]
  ·intro e
   simp [Value.ownBlock] at e
   subst e
   rw [hb] at hg
   have := Option.some.inj hg
   simp at this
 refine ⟨?_, hown.kept (row := some b) ⟨rfl, rfl, rfl, by simp [World.setCell], fun k _ hk => Below.heap_setCell _ _ _ _ (fun e => hk (by simp [e]))⟩ (Or.inr hne), hne⟩
 simp [World.setCell, Array.getElem?_modify, hb]
theorem prK_set (b : Nat) (w : World) (j : Nat) (u : Value) : PrK b w (w.setCell ⟨b, j, none⟩ u) := ⟨rfl, rfl, rfl, by simp [World.setCell], fun k _ hk _ => Below.heap_setCell _ _ _ _ hk⟩
theorem PrK.grown {b : Nat} {w w2 : World} {v : Value} {n : Nat} {xs : List Value} (hg : w.grownBy w2 v.ownBlock) (h : w.ownsRow b 5 1 v n xs) : PrK b w w2 := by
 refine ⟨hg.os, hg.tape, hg.output, hg.size, fun k hk hb hn => hg.block k hk fun e => ?_⟩
 rcases h.2 with ⟨rfl, _⟩ | ⟨g, cap, cur, rfl, hg, hc, _⟩
 ·simp [Value.ownBlock] at e
 ·simp [Value.ownBlock] at e
  subst e
  rcases hn with hn | hn
  ·omega
  ·exact hn _ hc
theorem prCopy_used (b : Nat) (w : World) (h0 : w.cell? ⟨b, 0, none⟩ = some (.pointer (some ⟨b, 0, none⟩))) : Calls Tryz.prog 159 #[.pointer (some ⟨b, 0, none⟩)] w fun e w' => e = .returned (.tuple #[]) /\ w' = w := by
 obtain ⟨j, hj, _⟩ := Option.map_eq_some_iff.1 (show (Tryz.prog.info? 58).map (·.size) = some 2 by kernel_rfl)
 go_enter Tryz.func159, Tryz.ntmps159
 go_wp2
 rw [Lib.run_neq_ptr_same w _ Tryz.underlying56 hj]
 go_wp2
 go_end0
 exact ⟨rfl, rfl⟩
theorem prCopy_fresh (b : Nat) (w : World) (h0 : w.cell? ⟨b, 0, none⟩ = some (.pointer none)) (hsh : w.shape? b = some (60, 3)) (hfz : w.frozen? ⟨b, 0, none⟩ = false) : Calls Tryz.prog 159 #[.pointer (some ⟨b, 0, none⟩)] w fun e w' => e = .returned (.tuple #[]) /\ w' = w.setCell ⟨b, 0, none⟩ (.pointer (some ⟨b, 0, none⟩)) := by
 obtain ⟨j, hj, hjs⟩ := Option.map_eq_some_iff.1 (show (Tryz.prog.info? 58).map (·.size) = some 2 by kernel_rfl)
 go_enter Tryz.func159, Tryz.ntmps159
 go_wp2
 rw [Lib.run_to_unsafe w ⟨b, 0, none⟩ Tryz.underlying56 Tryz.underlying124 hj (by rw [hjs]; decide) hsh (Nat.zero_lt_succ 2)]
 simp only [Result.andThen]
 rw [Oper.upon_value]
 go_wp2
 rw [run_callFunc_extern Tryz.func167 (by kernel_rfl) (by kernel_rfl) (by kernel_rfl) (e := Extern.AbiNoEscape.same) (by kernel_rfl)]
 rw [Lib.run_noEscape]
 simp only [Result.andThen]
 rw [Oper.upon_value]
 go_wp2
 rw [Lib.run_from_unsafe w ⟨b, 0, none⟩ Tryz.underlying124 Tryz.underlying56 hj hsh (by kernel_rfl)]
 simp only [Result.andThen]
 rw [Oper.upon_value]
 go_wp2
 go_end0
 exact ⟨rfl, rfl⟩
theorem prCopy_any (b : Nat) (l : List UInt8) (n : Int) (w : World) (h : PrS w b l n) : Calls Tryz.prog 159 #[.pointer (some ⟨b, 0, none⟩)] w fun e w' => e = .returned (.tuple #[]) /\ (∃ v, PrAt w' b (.pointer (some ⟨b, 0, none⟩)) v l n) /\ PrK b w w' := by
 obtain ⟨A, v, h1, rfl | rfl⟩ := h
 ·refine (prCopy_fresh b w (by rw [Lib.cell_of_heap h1.1]; rfl) (by simp [World.shape?, h1.1]) (Lib.frozen_of_heap h1.1 0)).mono ?_
  rintro e w' ⟨rfl, rfl⟩
  exact ⟨rfl, ⟨v, h1.used _⟩, prK_set b w 0 _⟩
 ·refine (prCopy_used b w (by rw [Lib.cell_of_heap h1.1]; rfl)).mono ?_
  rintro e w' ⟨rfl, rfl⟩
  exact ⟨rfl, ⟨v, h1⟩, PrK.refl _ _⟩
theorem prWrite_any (b : Nat) (l : List UInt8) (n : Int) (s : ByteArray) (w : World) (h : PrS w b l n) (hlen : l.length + s.size <= 140737488355328) : Calls Tryz.prog 133 #[.pointer (some ⟨b, 0, none⟩), .string s] w fun e w' => e = .returned (.tuple #[.int .i64 s.size, .nilIface]) /\ PrS w' b (l ++ s.data.toList) n /\ PrK b w w' := by
 obtain ⟨i0, hi0, hz0, hz1, hz2⟩ := info_parts (show (Tryz.prog.info? 5).map (fun i => (i.zero, i.size, i.bytes)) = some (some (.int .u8 0), 1, 1) by kernel_rfl)
 have CC := Lib.hid (prCopy_any b l n w h)
 have HL := Lib.hid hlen
 clear hlen h
 go_enter Tryz.func133, Tryz.ntmps133
 go_wp2_with fail
 (with_reducible refine (CC.out).mono ?_)
 rintro e w1 ⟨rfl, ⟨v, h1⟩, hk⟩
 have H1 := Lib.hid h1
 have HK := Lib.hid hk
 have c1 : w1.cell? ⟨b, 1, none⟩ = some v := by rw [Lib.cell_of_heap h1.1]; rfl
 have hown := Lib.hid h1.2.1
 clear h1 hk CC
 go_wp2_with (at_builtin; refine Lib.wpList_append_own_string _ rfl _ _ 38 9 rfl b 5 i0 Tryz.underlying38 Tryz.underlying9 hi0 hz0 hz1 hz2 _ _ _ rfl hown.out s rfl ?c3 ?c4 ?c5 ?_)
 case c3 => have := HL.out; unfold maxLen; omega
 case c4 => have := HL.out; omega
 case c5 => have := H1.out.lt; omega
 intro v' w2 hown' hgrow _
 have hb2 : w2.heap[b]? = some (.cells #[.pointer (some ⟨b, 0, none⟩), v, .int .i64 n] 60 (0, 0)) := by
  rw [hgrow.block b H1.out.lt (fun e => H1.out.2.2 e.symm)]
  exact H1.out.1
 have d1 : w2.cell? ⟨b, 1, none⟩ = some v := by rw [Lib.cell_of_heap hb2]; rfl
 have f1 : w2.frozen? ⟨b, 1, none⟩ = false := Lib.frozen_of_heap hb2 1
 have HO := Lib.hid hown'
 have HG := Lib.hid hgrow
 have HB2 := Lib.hid hb2
 obtain ⟨ao, n', cap, rfl⟩ : ∃ ao n' cap, v' = .slice ao n' cap := by
  rcases hown'.2 with ⟨hv, _⟩ | ⟨g, cap, cur, hv, _⟩
  ·exact ⟨_, _, _, hv⟩
  ·exact ⟨_, _, _, hv⟩
 clear hown' hgrow hb2
 go_wp2_with fail
 go_ret2
 refine ⟨rfl, ⟨_, _, PrAt.put (l := l ++ s.data.toList) HB2.out ?_, .inr rfl⟩, (HK.out.trans (PrK.grown HG.out hown.out)).trans (prK_set b w2 1 _)⟩
 rw [Lib.byteCells_append]
 simpa [Lib.strCells_eq] using HO.out
theorem prByte_any (b : Nat) (l : List UInt8) (n : Int) (c : UInt8) (w : World) (h : PrS w b l n) (hlen : l.length + 1 <= 140737488355328) : Calls Tryz.prog 134 #[.pointer (some ⟨b, 0, none⟩), .int .u8 (c.toNat : Nat)] w fun e w' => e = .returned .nilIface /\ PrS w' b (l ++ [c]) n /\ PrK b w w' := by
 obtain ⟨i0, hi0, hz0, hz1, hz2⟩ := info_parts (show (Tryz.prog.info? 5).map (fun i => (i.zero, i.size, i.bytes)) = some (some (.int .u8 0), 1, 1) by kernel_rfl)
 have CC := Lib.hid (prCopy_any b l n w h)
 have HL := Lib.hid hlen
 clear hlen h
 generalize hcc : ((c.toNat : Nat) : Int) = C
 have HC := Lib.hid hcc
 clear hcc
 go_enter Tryz.func134, Tryz.ntmps134
 go_wp2_with fail
 (with_reducible refine (CC.out).mono ?_)
 rintro e w1 ⟨rfl, ⟨v, h1⟩, hk⟩
 have H1 := Lib.hid h1
 have HK := Lib.hid hk
 have c1 : w1.cell? ⟨b, 1, none⟩ = some v := by rw [Lib.cell_of_heap h1.1]; rfl
 have hown := Lib.hid h1.2.1
 clear h1 hk CC
 go_wp2_with (at_builtin; refine wpList_append_own _ rfl _ _ 38 rfl b 5 i0 (.int .u8 0) 1 1 Tryz.underlying38 hi0 hz0 hz1 hz2 rfl (by decide) _ _ _ rfl (hown.out.alloc _) ⟨w1.heap.size, 0, none⟩ 1 1 [.int .u8 C] rfl rfl ?c1 ?c2 ?c3 ?c4 ?c5 ?_)
 case c1 =>
  intro j u hj
  match j, hj with
  | 0, hj => simp at hj; subst hj; simp [Addr.add]
 case c2 => intro u hu; simp at hu; subst hu; rfl
 case c3 => have := HL.out; unfold maxLen; omega
 case c4 => have := HL.out; omega
 case c5 => have := H1.out.lt; simp; omega
 intro v' w2 hown' hgrow _
 have hb2 : w2.heap[b]? = some (.cells #[.pointer (some ⟨b, 0, none⟩), v, .int .i64 n] 60 (0, 0)) := by
  rw [hgrow.block b (by have := H1.out.lt; simp; omega) (fun e => H1.out.2.2 e.symm), Lib.alloc_old w1 _ b H1.out.lt]
  exact H1.out.1
 have d1 : w2.cell? ⟨b, 1, none⟩ = some v := by rw [Lib.cell_of_heap hb2]; rfl
 have f1 : w2.frozen? ⟨b, 1, none⟩ = false := Lib.frozen_of_heap hb2 1
 have HO := Lib.hid hown'
 have HG := Lib.hid (PrK.grown hgrow (hown.out.alloc _))
 have HA := Lib.hid (PrK.of b (balloc8 w1 (.cells #[.int .u8 C] 5)))
 have HB2 := Lib.hid hb2
 obtain ⟨ao, n', cap, rfl⟩ : ∃ ao n' cap, v' = .slice ao n' cap := by
  rcases hown'.2 with ⟨hv, _⟩ | ⟨g, cap, cur, hv, _⟩
  ·exact ⟨_, _, _, hv⟩
  ·exact ⟨_, _, _, hv⟩
 clear hown' hgrow hb2
 go_wp2_with fail
 go_ret
 refine ⟨rfl, ⟨_, _, PrAt.put (l := l ++ [c]) HB2.out ?_, .inr rfl⟩, ((HK.out.trans HA.out).trans HG.out).trans (prK_set b w2 1 _)⟩
 rw [Lib.byteCells_append]
 have := HO.out
 rw [<- HC.out] at this
 simpa [Lib.byteCells] using this
theorem prLen_any (b : Nat) (l : List UInt8) (n : Int) (w : World) (h : PrS w b l n) : Calls Tryz.prog 33 #[.pointer (some ⟨b, 0, none⟩)] w fun e w' => e = .returned (.int .i64 (l.length : Nat)) /\ w' = w := by
 obtain ⟨A, v, h1, _⟩ := h
 have c1 : w.cell? ⟨b, 1, none⟩ = some v := by rw [Lib.cell_of_heap h1.1]; rfl
 obtain ⟨ao, cap, rfl⟩ : ∃ ao cap, v = .slice ao l.length cap := by
  rcases h1.2.1.2 with ⟨hv, e⟩ | ⟨g, cap, cur, hv, _⟩
  ·exact ⟨_, _, by rw [hv, e]⟩
  ·exact ⟨_, _, hv⟩
 clear h1
 go_enter Tryz.func33, Tryz.ntmps33
 go_wp2_with fail
 go_ret
 exact ⟨rfl, rfl⟩
theorem prString_some (b : Nat) (l : List UInt8) (n : Int) (w : World) (h : PrS w b l n) (h0 : l ≠ []) : Calls Tryz.prog 34 #[.pointer (some ⟨b, 0, none⟩)] w fun e w' => e = .returned (.string ⟨l.toArray⟩) /\ Below b w w' := by
 obtain ⟨p, v, ⟨hbk, hown, hne⟩, _⟩ := h
 have hl0 : l.length ≠ 0 := by simpa using h0
 obtain ⟨g, cap, cur, rfl, hbg, hg, hnc, hcm, hcs, htake⟩ : ∃ g cap cur, v = .slice (some ⟨g, 0, none⟩) l.length cap /\ b <= g /\ w.heap[g]? = some (.cells cur 5 (0, 0)) /\ l.length <= cap /\ cap <= maxLen /\ cur.size = cap * 1 /\ cur.toList.take (l.length * 1) = Lib.byteCells l := by
  rcases hown.2 with ⟨_, hz⟩ | ⟨g, cap, cur, hv, r⟩
  ·exact absurd hz hl0
  ·exact ⟨g, cap, cur, hv, r⟩
 have c1 : w.drew.cell? ⟨b, 1, none⟩ = some (.slice (some ⟨g, 0, none⟩) l.length cap) := by
  have : w.drew.heap[b]? = some (.cells #[p, .slice (some ⟨g, 0, none⟩) l.length cap, .int .i64 n] 60 (0, 0)) := hbk
  rw [Lib.cell_of_heap this]; rfl
 have hSD : (Builtin.unsafeSliceData_ #[38] 82 #[.slice (some ⟨g, 0, none⟩) l.length cap]).run Tryz.prog w.drew = .ok (.pointer (some ⟨g, 0, none⟩)) w.drew :=
  Lib.run_unsafeSliceData_row _ _ _ _ _ _ (by omega)
 have hUS : (Builtin.unsafeString_ #[82, 3] 9 #[.pointer (some ⟨g, 0, none⟩), .int .i64 l.length]).run Tryz.prog w.drew = .ok (.string ⟨l.toArray⟩) (w.drew.freeze ⟨g, 0, none⟩ l.length) := by
  refine Lib.run_unsafeString_row w.drew 82 3 9 5 Tryz.underlying82 (by kernel_rfl) g cur.size (by have hg' : w.drew.heap[g]? = some (.cells cur 5 (0, 0)) := hg; simp [World.shape?, hg']) l h0 (by omega) (by unfold maxLen at hcm; omega) ?_
  intro j x hx
  have := hown.cells (g := g) rfl j (.int .u8 x.toNat) (by simp [Lib.byteCells, hx])
  exact this
 have HBG := Lib.hid hbg
 clear hbk hown hne hbg hg hnc hcm hcs htake hl0 h0
 go_enter Tryz.func34, Tryz.ntmps34
 go_wp2_with fail
 go_region
 all_goals (go_wp2_with fail; go_ret; exact ⟨rfl, Lib.below_freeze (Below.drew (Below.refl b w)) (p := ⟨g, 0, none⟩) HBG.out _⟩)
theorem prString_nil (b : Nat) (p : Value) (n : Int) (w : World) (hbk : w.heap[b]? = some (.cells #[p, .slice none 0 0, .int .i64 n] 60 (0, 0))) : Calls Tryz.prog 34 #[.pointer (some ⟨b, 0, none⟩)] w fun e w' => e = .returned (.string ⟨#[]⟩) /\ Below b w w' := by
 have hUS := fun W q => Lib.run_unsafeString_none (P := Tryz.prog) W 82 3 9 q
 have c1 : w.drew.cell? ⟨b, 1, none⟩ = some (.slice none 0 0) := by
  have : w.drew.heap[b]? = some (.cells #[p, .slice none 0 0, .int .i64 n] 60 (0, 0)) := hbk
  rw [Lib.cell_of_heap this]; rfl
 have hSD : (Builtin.unsafeSliceData_ #[38] 82 #[.slice none 0 0]).run Tryz.prog w.drew = .ok (.pointer none) w.drew := rfl
 clear hbk
 go_enter Tryz.func34, Tryz.ntmps34
 go_wp2_with fail
 go_region
 all_goals (go_wp2_with fail; go_ret; exact ⟨rfl, Below.drew (Below.refl b w)⟩)
theorem prString_noroom (b g : Nat) (p : Value) (n : Int) (cur : Array Value) (w : World) (hbk : w.heap[b]? = some (.cells #[p, .slice (some ⟨g, 0, none⟩) 0 0, .int .i64 n] 60 (0, 0))) (hg : w.heap[g]? = some (.cells cur 5 (0, 0))) : Calls Tryz.prog 34 #[.pointer (some ⟨b, 0, none⟩)] w fun e w' => e = .returned (.string ⟨#[]⟩) /\ Below b w w' := by
 have hUS := fun W q => Lib.run_unsafeString_none (P := Tryz.prog) W 82 3 9 q
 have hlt : b < w.heap.size := by
  rcases Nat.lt_or_ge b w.heap.size with h' | h'
  ·exact h'
  ·simp [Array.getElem?_eq_none h'] at hbk
 have c1 : w.drew.cell? ⟨b, 1, none⟩ = some (.slice (some ⟨g, 0, none⟩) 0 0) := by
  have : w.drew.heap[b]? = some (.cells #[p, .slice (some ⟨g, 0, none⟩) 0 0, .int .i64 n] 60 (0, 0)) := hbk
  rw [Lib.cell_of_heap this]; rfl
 have hSD : (Builtin.unsafeSliceData_ #[38] 82 #[.slice (some ⟨g, 0, none⟩) 0 0]).run Tryz.prog w.drew = .ok (.pointer (some ⟨w.drew.heap.size, 0, none⟩)) (w.drew.alloc (.view ⟨g, 0, none⟩ 5)) :=
  Lib.run_unsafeSliceData_zero w.drew _ _ 5 Tryz.underlying82 ⟨g, 0, none⟩ 0 (5, cur.size) (by have hg' : w.drew.heap[g]? = some (.cells cur 5 (0, 0)) := hg; simp [World.shape?, hg'])
 have c2 : (w.drew.alloc (.view ⟨g, 0, none⟩ 5)).cell? ⟨b, 1, none⟩ = some (.slice (some ⟨g, 0, none⟩) 0 0) := by
  have : (w.drew.alloc (.view ⟨g, 0, none⟩ 5)).heap[b]? = _ := (Lib.alloc_old w.drew _ b hlt).trans hbk
  rw [Lib.cell_of_heap this]; rfl
 have c3 : (w.alloc (.view ⟨g, 0, none⟩ 5)).drew.cell? ⟨b, 1, none⟩ = some (.slice (some ⟨g, 0, none⟩) 0 0) := c2
 have c0 : w.cell? ⟨b, 1, none⟩ = some (.slice (some ⟨g, 0, none⟩) 0 0) := c1
 have HLT := Lib.hid (Nat.le_of_lt hlt)
 clear hbk hg hlt
 go_enter Tryz.func34, Tryz.ntmps34
 go_wp2_with fail
 go_region
 all_goals (go_wp2_with fail; go_ret; exact ⟨rfl, (Below.drew (Below.refl b w)).alloc HLT.out _⟩)
theorem prString_room (b g cap : Nat) (p : Value) (n : Int) (w : World) (hc0 : cap ≠ 0) (hbk : w.heap[b]? = some (.cells #[p, .slice (some ⟨g, 0, none⟩) 0 cap, .int .i64 n] 60 (0, 0))) : Calls Tryz.prog 34 #[.pointer (some ⟨b, 0, none⟩)] w fun e w' => e = .returned (.string ⟨#[]⟩) /\ Below b w w' := by
 have hUS := fun W q => Lib.run_unsafeString_none (P := Tryz.prog) W 82 3 9 q
 have c1 : w.drew.cell? ⟨b, 1, none⟩ = some (.slice (some ⟨g, 0, none⟩) 0 cap) := by
  have : w.drew.heap[b]? = some (.cells #[p, .slice (some ⟨g, 0, none⟩) 0 cap, .int .i64 n] 60 (0, 0)) := hbk
  rw [Lib.cell_of_heap this]; rfl
 have hSD : (Builtin.unsafeSliceData_ #[38] 82 #[.slice (some ⟨g, 0, none⟩) 0 cap]).run Tryz.prog w.drew = .ok (.pointer (some ⟨g, 0, none⟩)) w.drew :=
  Lib.run_unsafeSliceData_row _ _ _ _ _ _ hc0
 clear hbk hc0
 go_enter Tryz.func34, Tryz.ntmps34
 go_wp2_with fail
 go_region
 all_goals (go_wp2_with fail; go_ret; exact ⟨rfl, Below.drew (Below.refl b w)⟩)
theorem prString_any (b : Nat) (l : List UInt8) (n : Int) (w : World) (h : PrS w b l n) : Calls Tryz.prog 34 #[.pointer (some ⟨b, 0, none⟩)] w fun e w' => e = .returned (.string ⟨l.toArray⟩) /\ Below b w w' := by
 cases l with
 | cons x r => exact prString_some b _ n w h (by simp)
 | nil =>
  obtain ⟨p, v, ⟨hbk, hown, hne⟩, _⟩ := h
  rcases hown.2 with ⟨rfl, _⟩ | ⟨g, cap, cur, rfl, hbg, hg, _, _, _, _⟩
  ·exact prString_nil b p n w hbk
  ·by_cases hc0 : cap = 0
   ·subst hc0
    exact prString_noroom b g p n cur w hbk hg
   ·exact prString_room b g cap p n w hc0 hbk
open Go.RowKit
def spaces : Nat -> List UInt8
 | 0 => []
 | k + 1 => spaces k ++ [32, 32]
theorem spaces_len : ∀ k, (spaces k).length = 2 * k
 | 0 => rfl
 | k + 1 => by rw [spaces, List.length_append, spaces_len k]; simp; omega
def glued (L : List ByteArray) : List UInt8 := (L.map (·.data.toList)).flatten
theorem glued_take {L : List ByteArray} {k : Nat} (h : k < L.length) : glued (L.take (k + 1)) = glued (L.take k) ++ (L.getD k ByteArray.empty).data.toList := by
 unfold glued
 rw [List.take_add_one, List.getD_eq_getElem?_getD, List.getElem?_eq_getElem h, List.map_append, List.flatten_append]
 simp
theorem glued_take_len (L : List ByteArray) : ∀ k, (glued (L.take k)).length <= (glued L).length := by
 intro k
 conv => rhs; rw [<- List.take_append_drop k L]
 unfold glued
 rw [List.map_append, List.flatten_append, List.length_append]
 omega
theorem PrS.cell2 {w : World} {b : Nat} {l : List UInt8} {n : Int} (h : PrS w b l n) : w.cell? ⟨b, 2, none⟩ = some (.int .i64 n) := by
 obtain ⟨A, v, h1, _⟩ := h
 rw [Lib.cell_of_heap h1.1]; rfl
theorem PrK.cell {b : Nat} {w w' : World} (h : PrK b w w') {k : Nat} (hk : k < w.heap.size) (hb : k ≠ b) (hr : k < b \/ NoRow w k) (j : Nat) : w'.cell? ⟨k, j, none⟩ = w.cell? ⟨k, j, none⟩ := World.cell?_of_block (h.block k hk hb hr)
theorem line9_any (b : Nat) (l : List UInt8) (n : Nat) (L : List ByteArray) (pk : Nat) (w : World) (h : PrS w b l n) (hcells : ∀ j, j < L.length -> w.cell? ⟨pk, j, none⟩ = some (.string (L.getD j ByteArray.empty))) (hpk : pk < w.heap.size) (hpb : pk ≠ b) (hpr : NoRow w pk) (hL : L.length <= 100) (hlen : l.length + 2 * n + (glued L).length + 1 <= 140737488355328) :
  Calls Tryz.prog 92 #[.pointer (some ⟨b, 0, none⟩), .slice (some ⟨pk, 0, none⟩) L.length L.length] w fun e w' => e = .returned (.tuple #[]) /\ PrS w' b (l ++ spaces n ++ glued L ++ [10]) n /\ PrK b w w' := by
 have hud := hud9
 have P0 := Lib.hid h
 have HC := Lib.hid hcells
 have HPK := Lib.hid (show pk < w.heap.size /\ pk ≠ b /\ NoRow w pk from ⟨hpk, hpb, hpr⟩)
 have HLEN := Lib.hid hlen
 have c2 := P0.out.cell2
 have hn63 : (n : Int) < 9223372036854775807 := by omega
 clear h hcells hpk hpb hpr hlen
 go_enter Tryz.func92, Tryz.ntmps92
 go_wp2_with fail
 go_loopw [10] (fun ti wr => ∃ k : Nat, k <= n /\ ti = .int .i64 k /\ PrS wr b (l ++ spaces k) n /\ PrK b w wr) (fun ti _ => n - (intOf ti).toNat)
 case atStart => exact ⟨0, Nat.zero_le _, rfl, by rw [spaces, List.append_nil]; exact P0.out, PrK.refl _ _⟩
 case round =>
  obtain ⟨k, hk, rfl, hp, hkk⟩ := hrel
  have HP := Lib.hid hp
  have HK := Lib.hid hkk
  clear hp hkk c2
  by_cases hlt : k < n
  ·have WS := Lib.hid (prWrite_any b (l ++ spaces k) n ⟨#[32, 32]⟩ wr HP.out (by have := HLEN.out; rw [List.length_append, spaces_len]; show _ + 2 <= _; omega))
   go_wp2_with fail
   (with_reducible refine (WS.out).mono ?_)
   rintro e w2 ⟨rfl, hp2, hk2⟩
   have HP2 := Lib.hid hp2
   have HK2 := Lib.hid (HK.out.trans hk2)
   clear hp2 hk2
   go_wp2_with fail
   go_roundw
   case rel => exact ⟨k + 1, by omega, by go_num, by rw [spaces, <- List.append_assoc]; exact HP2.out, HK2.out⟩
   case measure => simp [intOf]; omega
  ·obtain rfl : k = n := by omega
   go_wp2_with fail
   go_loopw [19] (fun ti wr => ∃ j : Nat, j <= L.length /\ ti = .int .i64 j /\ PrS wr b (l ++ spaces k ++ glued (L.take j)) k /\ PrK b w wr) (fun ti _ => L.length - (intOf ti).toNat)
   case atStart => exact ⟨0, Nat.zero_le _, rfl, by rw [List.take_zero]; show PrS _ b (l ++ spaces k ++ []) k; rw [List.append_nil]; exact HP.out, HK.out⟩
   case round =>
    obtain ⟨j, hj, rfl, hp, hkk⟩ := hrel
    have HP1 := Lib.hid hp
    have HK1 := Lib.hid hkk
    clear hp hkk
    by_cases hjt : j < L.length
    ·have x0 := (HK1.out.cell HPK.out.1 HPK.out.2.1 (.inr HPK.out.2.2) j).trans (HC.out j hjt)
     have HG := Lib.hid (glued_take hjt)
     have hgl := glued_take_len L (j + 1)
     rw [HG.out, List.length_append] at hgl
     obtain ⟨S, eS⟩ : ∃ S, S = L.getD j ByteArray.empty := ⟨_, rfl⟩
     rw [<- eS] at x0 HG hgl
     have hSs : S.data.toList.length = S.size := rfl
     have WS := Lib.hid (prWrite_any b (l ++ spaces k ++ glued (L.take j)) k S _ HP1.out (by have := HLEN.out; rw [List.length_append, List.length_append, spaces_len]; omega))
     clear eS hgl hSs
     go_wp2_with fail
     (with_reducible refine (WS.out).mono ?_)
     rintro e w2 ⟨rfl, hp2, hk2⟩
     have HP2 := Lib.hid hp2
     have HK2 := Lib.hid (HK1.out.trans hk2)
     clear hp2 hk2
     go_wp2_with fail
     go_roundw
     case rel => exact ⟨j + 1, by omega, by go_num, by rw [HG.out, <- List.append_assoc]; exact HP2.out, HK2.out⟩
     case measure => simp [intOf]; omega
    ·obtain rfl : j = L.length := by omega
     have WB := Lib.hid (show Calls Tryz.prog 134 #[.pointer (some ⟨b, 0, none⟩), .int .u8 10] _ fun e w' => e = .returned .nilIface /\ PrS w' b (l ++ spaces k ++ glued L ++ [10]) k /\ PrK b _ w' from prByte_any b (l ++ spaces k ++ glued L) k 10 _ (by have := HP1.out; rwa [List.take_length] at this) (by have := HLEN.out; rw [List.length_append, List.length_append, spaces_len]; omega))
     go_wp2_with fail
     (with_reducible refine (WB.out).mono ?_)
     rintro e w2 ⟨rfl, hp2, hk2⟩
     have HP2 := Lib.hid hp2
     have HK2 := Lib.hid (HK1.out.trans hk2)
     clear hp2 hk2
     go_wp2_with fail
     go_end0
     exact ⟨rfl, HP2.out, HK2.out⟩
open Go.RowKit
def Tab9 (w : World) : Prop := Lib.TabIs Tryz.prog w "internal/strconv.uint64pow10" .u64 Lib.pow10Tab
theorem Tab9.below {w w' : World} (h : Tab9 w) (hb : Below w.heap.size w w') : Tab9 w' := by
 unfold Tab9 Lib.TabIs at h ⊢
 cases hg : Tryz.prog.globalNamed "internal/strconv.uint64pow10" with
 | none => unfold World.var? at h; rw [hg] at h; cases h
 | some g =>
  refine var?_below hb hg ?_ h
  rcases Nat.lt_or_ge g w.heap.size with hl | hl
  ·exact hl
  ·unfold World.var? at h
   rw [hg] at h
   simp [Array.getElem?_eq_none hl] at h
theorem pdig9 (n : Nat) (w : World) (hn : n < 18446744073709551616) (ht : Tab9 w) : Calls Tryz.prog 94 #[.int .u64 n] w fun e w' => ∃ T : ByteArray, e = .returned (.string T) /\ M.bs T = M.digitsL n /\ T.size <= 20 /\ Below w.heap.size w w' :=
 (digits_any n hn w ht).mono fun e w' ⟨T, h1, h2, h3⟩ => ⟨T, h1, h2, by rw [<- M.bs_len, h2]; exact M.digitsL_len20 hn, h3⟩
def FnT (f : Nat) (p : M.Tree -> List Nat) (t : M.Tree) : Prop := ∀ (v : Value) (w : World), NodeV w v t -> Tab9 w -> Calls Tryz.prog f #[v] w fun e w' => (∃ T, e = .returned (.string T) /\ M.bs T = p t) /\ Below w.heap.size w w'
theorem M.typeT_len {t : M.Tree} (h0 : (t.kids.getD 0 M.Tree.no).num < 18446744073709551616) (h1 : (t.kids.getD 1 M.Tree.no).num < 18446744073709551616) : (M.typeT t).length <= 64 := by
 have a := M.digitsL_len20 h0
 have b := M.digitsL_len20 h1
 unfold M.typeT
 repeat' split
 all_goals (simp only [List.length_append, List.length_cons, List.length_nil]; omega)
theorem typeText_any (t : M.Tree) (hl2 : t.kids.length = 2) (hnum : t.num = 1 \/ t.num = 2 \/ t.num = 3) : FnT 135 M.typeT t := by
 intro v w hv htab
 have hud := hud9
 obtain ⟨T, kv, rfl, hT, hok, hk⟩ := hv
 obtain ⟨r, er⟩ : ∃ r, r = M.typeT t := ⟨_, rfl⟩
 rw [<- er]
 unfold M.typeT at er
 obtain ⟨K, eK⟩ : ∃ K, K = t.kind := ⟨_, rfl⟩
 obtain ⟨n, en⟩ : ∃ n, n = t.num := ⟨_, rfl⟩
 obtain ⟨l, el⟩ : ∃ l, l = t.kids := ⟨_, rfl⟩
 rw [<- en, <- el] at er
 rw [<- eK, <- en]
 rw [<- en] at hnum
 rw [<- el] at hk hl2
 obtain ⟨A, cap, rfl, _⟩ := id hk
 have hn := hok.2.1
 rw [<- en] at hn
 have HT0 := Lib.hid htab
 have S0 := Lib.hid (NB.start w K T n (.slice A l.length cap))
 have HKK := Lib.hid hk
 have HN := Lib.hid hnum
 clear hT hok hk eK en el htab hnum
 obtain ⟨ba, oa, Ta, Aa, ma, cca, hAa, al, a0, a1, a2, a3, av⟩ := HKK.out.at 0 (by omega)
 cases hAa
 obtain ⟨ua, eua⟩ : ∃ u, u = l.getD 0 M.Tree.no := ⟨_, rfl⟩
 rw [<- eua] at a0 a2 av er
 obtain ⟨ka, eka⟩ : ∃ k, k = ua.kind := ⟨_, rfl⟩
 obtain ⟨na, ena⟩ : ∃ k, k = ua.num := ⟨_, rfl⟩
 rw [<- eka] at a0 av
 rw [<- ena] at a2 av
 simp only [show 0 * 4 = 0 from rfl, Nat.add_zero] at a0 a1 a2 a3
 have hia : 0 < l.length := by omega
 have Va := Lib.hid av
 have ba := Va.out.num
 rw [<- ena] at ba er
 have Da := Lib.hid fun w' (hb : Below w.heap.size w w') => pdig9 na w' ba (HT0.out.below hb)
 clear ba
 clear av eua eka ena
 obtain ⟨qa0, qa1, qa2, qa3⟩ := bel4 S0.out.below al a0 a1 a2 a3
 obtain ⟨bb, ob, Tb, Ab, mb, ccb, hAb, bl, b0, b1, b2, b3, bv⟩ := HKK.out.at 1 (by omega)
 cases hAb
 obtain ⟨ub, eub⟩ : ∃ u, u = l.getD 1 M.Tree.no := ⟨_, rfl⟩
 rw [<- eub] at b0 b2 bv er
 obtain ⟨kb, ekb⟩ : ∃ k, k = ub.kind := ⟨_, rfl⟩
 obtain ⟨nb, enb⟩ : ∃ k, k = ub.num := ⟨_, rfl⟩
 rw [<- ekb] at b0 bv
 rw [<- enb] at b2 bv
 simp only [show 1 * 4 = 4 from rfl] at b0 b1 b2 b3
 have hib : 1 < l.length := by omega
 have Vb := Lib.hid bv
 have bb := Vb.out.num
 rw [<- enb] at bb er
 have Db := Lib.hid fun w' (hb : Below w.heap.size w w') => pdig9 nb w' bb (HT0.out.below hb)
 clear bb
 clear bv eub ekb enb
 obtain ⟨qb0, qb1, qb2, qb3⟩ := bel4 S0.out.below bl b0 b1 b2 b3
 clear hl2
 by_cases c0 : n = 2
 ·have g2 : ((n : Int) == 2) = true := by rw [beq_iff_eq]; omega
  have g1 : ((n : Int) == 1) = false := by rw [beq_eq_false_iff_ne]; omega
  have C0 := Lib.hid c0
  clear c0
  by_cases c1 : 0 < nb
  ·have g0 : decide ((nb : Int) > 0) = true := by rw [decide_eq_true_eq]; omega
   have C1 := Lib.hid c1
   clear c1
   rw [if_pos C0.out, if_pos C1.out] at er
   have ER := Lib.hid er
   clear er
   go_enter Tryz.func135, Tryz.ntmps135
   go_wp2_with fail
   (with_reducible refine (Db.out _ S0.out.below).mono ?_)
   rintro e w1 ⟨T1, rfl, hT1, hz1, hb⟩
   have S1 := Lib.hid (S0.out.next hb)
   have Eb := Lib.hid hT1
   obtain ⟨-, -, y0, y1, y2, y3⟩ := id S1.out
   obtain ⟨qa0, qa1, qa2, qa3⟩ := bel4 S1.out.below al a0 a1 a2 a3
   obtain ⟨qb0, qb1, qb2, qb3⟩ := bel4 S1.out.below bl b0 b1 b2 b3
   clear hb hT1
   go_wp2_with fail
   go_ret
   exact ⟨⟨_, rfl, by rw [ER.out]; first | rfl | (simp only [M.bs_append, Ea.out, Eb.out, List.append_nil]; done) | (simp only [M.bs_append, Ea.out, Eb.out, List.append_nil]; rfl) | (simp only [M.bs_append, Ea.out, show M.bs ⟨#[]⟩ = [] from rfl, List.append_nil]; done) | (simp only [M.bs_append, Ea.out, show M.bs ⟨#[]⟩ = [] from rfl, List.append_nil]; rfl) | (simp only [M.bs_append, Eb.out, List.append_nil]; rfl)⟩, S1.out.below⟩
  ·have g0 : decide ((nb : Int) > 0) = false := by rw [decide_eq_false_iff_not]; omega
   have C1 := Lib.hid c1
   clear c1
   rw [if_pos C0.out, if_neg C1.out] at er
   have ER := Lib.hid er
   clear er
   go_enter Tryz.func135, Tryz.ntmps135
   go_wp2_with fail
   go_ret
   exact ⟨⟨_, rfl, by rw [ER.out]; first | rfl | (simp only [M.bs_append, Ea.out, Eb.out, List.append_nil]; done) | (simp only [M.bs_append, Ea.out, Eb.out, List.append_nil]; rfl) | (simp only [M.bs_append, Ea.out, show M.bs ⟨#[]⟩ = [] from rfl, List.append_nil]; done) | (simp only [M.bs_append, Ea.out, show M.bs ⟨#[]⟩ = [] from rfl, List.append_nil]; rfl) | (simp only [M.bs_append, Eb.out, List.append_nil]; rfl)⟩, S0.out.below⟩
 ·have g2 : ((n : Int) == 2) = false := by rw [beq_eq_false_iff_ne]; omega
  have C0 := Lib.hid c0
  clear c0
  by_cases c1 : n = 3
  ·have g1 : ((n : Int) == 1) = false := by rw [beq_eq_false_iff_ne]; omega
   have C1 := Lib.hid c1
   clear c1
   by_cases c2 : 0 < nb
   ·have g0 : decide ((nb : Int) > 0) = true := by rw [decide_eq_true_eq]; omega
    have C2 := Lib.hid c2
    clear c2
    rw [if_neg C0.out, if_pos C1.out, if_pos C2.out] at er
    have ER := Lib.hid er
    clear er
    go_enter Tryz.func135, Tryz.ntmps135
    go_wp2_with fail
    (with_reducible refine (Db.out _ S0.out.below).mono ?_)
    rintro e w1 ⟨T1, rfl, hT1, hz1, hb⟩
    have S1 := Lib.hid (S0.out.next hb)
    have Eb := Lib.hid hT1
    obtain ⟨-, -, y0, y1, y2, y3⟩ := id S1.out
    obtain ⟨qa0, qa1, qa2, qa3⟩ := bel4 S1.out.below al a0 a1 a2 a3
    obtain ⟨qb0, qb1, qb2, qb3⟩ := bel4 S1.out.below bl b0 b1 b2 b3
    clear hb hT1
    go_wp2_with fail
    (with_reducible refine (Da.out _ S1.out.below).mono ?_)
    rintro e w2 ⟨T2, rfl, hT2, hz2, hb⟩
    have S2 := Lib.hid (S1.out.next hb)
    have Ea := Lib.hid hT2
    obtain ⟨-, -, y0, y1, y2, y3⟩ := id S2.out
    obtain ⟨qa0, qa1, qa2, qa3⟩ := bel4 S2.out.below al a0 a1 a2 a3
    obtain ⟨qb0, qb1, qb2, qb3⟩ := bel4 S2.out.below bl b0 b1 b2 b3
    clear hb hT2
    go_wp2_with fail
    go_ret
    exact ⟨⟨_, rfl, by rw [ER.out]; first | rfl | (simp only [M.bs_append, Ea.out, Eb.out, List.append_nil]; done) | (simp only [M.bs_append, Ea.out, Eb.out, List.append_nil]; rfl) | (simp only [M.bs_append, Ea.out, show M.bs ⟨#[]⟩ = [] from rfl, List.append_nil]; done) | (simp only [M.bs_append, Ea.out, show M.bs ⟨#[]⟩ = [] from rfl, List.append_nil]; rfl) | (simp only [M.bs_append, Eb.out, List.append_nil]; rfl)⟩, S2.out.below⟩
   ·have g0 : decide ((nb : Int) > 0) = false := by rw [decide_eq_false_iff_not]; omega
    have C2 := Lib.hid c2
    clear c2
    rw [if_neg C0.out, if_pos C1.out, if_neg C2.out] at er
    have ER := Lib.hid er
    clear er
    go_enter Tryz.func135, Tryz.ntmps135
    go_wp2_with fail
    (with_reducible refine (Da.out _ S0.out.below).mono ?_)
    rintro e w1 ⟨T1, rfl, hT1, hz1, hb⟩
    have S1 := Lib.hid (S0.out.next hb)
    have Ea := Lib.hid hT1
    obtain ⟨-, -, y0, y1, y2, y3⟩ := id S1.out
    obtain ⟨qa0, qa1, qa2, qa3⟩ := bel4 S1.out.below al a0 a1 a2 a3
    obtain ⟨qb0, qb1, qb2, qb3⟩ := bel4 S1.out.below bl b0 b1 b2 b3
    clear hb hT1
    go_wp2_with fail
    go_ret
    exact ⟨⟨_, rfl, by rw [ER.out]; first | rfl | (simp only [M.bs_append, Ea.out, Eb.out, List.append_nil]; done) | (simp only [M.bs_append, Ea.out, Eb.out, List.append_nil]; rfl) | (simp only [M.bs_append, Ea.out, show M.bs ⟨#[]⟩ = [] from rfl, List.append_nil]; done) | (simp only [M.bs_append, Ea.out, show M.bs ⟨#[]⟩ = [] from rfl, List.append_nil]; rfl) | (simp only [M.bs_append, Eb.out, List.append_nil]; rfl)⟩, S1.out.below⟩
  ·have g1 : ((n : Int) == 1) = true := by rw [beq_iff_eq]; have := HN.out; have := C0.out; omega
   have C1 := Lib.hid c1
   clear c1
   by_cases c2 : 0 < nb
   ·have g0 : decide ((nb : Int) > 0) = true := by rw [decide_eq_true_eq]; omega
    have C2 := Lib.hid c2
    clear c2
    rw [if_neg C0.out, if_neg C1.out, if_pos C2.out] at er
    have ER := Lib.hid er
    clear er
    go_enter Tryz.func135, Tryz.ntmps135
    go_wp2_with fail
    (with_reducible refine (Db.out _ S0.out.below).mono ?_)
    rintro e w1 ⟨T1, rfl, hT1, hz1, hb⟩
    have S1 := Lib.hid (S0.out.next hb)
    have Eb := Lib.hid hT1
    obtain ⟨-, -, y0, y1, y2, y3⟩ := id S1.out
    obtain ⟨qa0, qa1, qa2, qa3⟩ := bel4 S1.out.below al a0 a1 a2 a3
    obtain ⟨qb0, qb1, qb2, qb3⟩ := bel4 S1.out.below bl b0 b1 b2 b3
    clear hb hT1
    go_wp2_with fail
    go_ret
    exact ⟨⟨_, rfl, by rw [ER.out]; first | rfl | (simp only [M.bs_append, Ea.out, Eb.out, List.append_nil]; done) | (simp only [M.bs_append, Ea.out, Eb.out, List.append_nil]; rfl) | (simp only [M.bs_append, Ea.out, show M.bs ⟨#[]⟩ = [] from rfl, List.append_nil]; done) | (simp only [M.bs_append, Ea.out, show M.bs ⟨#[]⟩ = [] from rfl, List.append_nil]; rfl) | (simp only [M.bs_append, Eb.out, List.append_nil]; rfl)⟩, S1.out.below⟩
   ·have g0 : decide ((nb : Int) > 0) = false := by rw [decide_eq_false_iff_not]; omega
    have C2 := Lib.hid c2
    clear c2
    rw [if_neg C0.out, if_neg C1.out, if_neg C2.out] at er
    have ER := Lib.hid er
    clear er
    go_enter Tryz.func135, Tryz.ntmps135
    go_wp2_with fail
    go_ret
    exact ⟨⟨_, rfl, by rw [ER.out]; first | rfl | (simp only [M.bs_append, Ea.out, Eb.out, List.append_nil]; done) | (simp only [M.bs_append, Ea.out, Eb.out, List.append_nil]; rfl) | (simp only [M.bs_append, Ea.out, show M.bs ⟨#[]⟩ = [] from rfl, List.append_nil]; done) | (simp only [M.bs_append, Ea.out, show M.bs ⟨#[]⟩ = [] from rfl, List.append_nil]; rfl) | (simp only [M.bs_append, Eb.out, List.append_nil]; rfl)⟩, S0.out.below⟩
open Go.RowKit
theorem ptype9 {u : M.Tree} (h : M.typeB u = true) {v : Value} {w : World} (hv : NodeV w v u) (ht : Tab9 w) : Calls Tryz.prog 135 #[v] w fun e w' => ∃ T : ByteArray, e = .returned (.string T) /\ M.bs T = M.typeT u /\ T.size <= 100 /\ Below w.heap.size w w' := by
 have h2 := (of_decide_eq_true h).1.2.2.1
 have hn : ∀ i, i < 2 -> (u.kids.getD i M.Tree.no).num < 18446744073709551616 := fun i hi => by
  have h3 := (of_decide_eq_true h).1.2.2.2
  have h4 := List.all_eq_true.1 h3 _ (kid_mem (l := u.kids) (i := i) (by omega))
  have := (of_decide_eq_true h4).2.2.1
  omega
 refine (typeText_any u h2 (by have := (of_decide_eq_true h).2; omega) v w hv ht).mono fun e w' ⟨⟨T, h1, h2⟩, h3⟩ => ⟨T, h1, h2, ?_, h3⟩
 have := M.typeT_len (hn 0 (by omega)) (hn 1 (by omega))
 rw [<- M.bs_len, h2]
 omega
theorem declText_any (t : M.Tree) (hl : 0 < t.kids.length) (hty : M.typeB (t.kids.getD 0 M.Tree.no) = true) (hwt : t.text.length <= 3000000000000000000) : FnT 93 M.argT t := by
 intro v w hv htab
 have hud := hud9
 obtain ⟨T, kv, rfl, hT, hok, hk⟩ := hv
 obtain ⟨r, er⟩ : ∃ r, r = M.argT t := ⟨_, rfl⟩
 rw [<- er]
 unfold M.argT at er
 obtain ⟨K, eK⟩ : ∃ K, K = t.kind := ⟨_, rfl⟩
 obtain ⟨tx, ex⟩ : ∃ x, x = t.text := ⟨_, rfl⟩
 obtain ⟨n, en⟩ : ∃ n, n = t.num := ⟨_, rfl⟩
 obtain ⟨l, el⟩ : ∃ l, l = t.kids := ⟨_, rfl⟩
 rw [<- ex, <- el] at er
 rw [<- eK, <- en]
 rw [<- ex] at hT hwt
 rw [<- el] at hk hl hty
 have hsz : T.size <= 3000000000000000000 := by rw [<- M.bs_len, hT]; exact hwt
 obtain ⟨A, cap, rfl, _⟩ := id hk
 have HTX := Lib.hid hT
 have HT0 := Lib.hid htab
 have S0 := Lib.hid (NB.start w K T n (.slice A l.length cap))
 have HKK := Lib.hid hk
 clear hT hok hk eK ex en el htab hwt
 obtain ⟨ba, oa, Ta, Aa, ma, cca, hAa, al, a0, a1, a2, a3, av⟩ := HKK.out.at 0 (by omega)
 cases hAa
 obtain ⟨ua, eua⟩ : ∃ u, u = l.getD 0 M.Tree.no := ⟨_, rfl⟩
 rw [<- eua] at a0 a2 av er
 obtain ⟨ka, eka⟩ : ∃ k, k = ua.kind := ⟨_, rfl⟩
 obtain ⟨na, ena⟩ : ∃ k, k = ua.num := ⟨_, rfl⟩
 rw [<- eka] at a0 av
 rw [<- ena] at a2 av
 simp only [show 0 * 4 = 0 from rfl, Nat.add_zero] at a0 a1 a2 a3
 have hia : 0 < l.length := by omega
 have Va := Lib.hid av
 rw [<- eua] at hty
 have TYA := Lib.hid fun w' (hb : Below w.heap.size w w') => ptype9 hty (Va.out.below hb) (HT0.out.below hb)
 clear hty
 clear av eua eka ena
 obtain ⟨qa0, qa1, qa2, qa3⟩ := bel4 S0.out.below al a0 a1 a2 a3
 have ER := Lib.hid er
 clear er
 have HSC := Lib.hid fun W' (h : NB w K T n (.slice (some ⟨ba, oa, none⟩) l.length cap) W') => (show NB w K T n (.slice (some ⟨ba, oa, none⟩) l.length cap) W' /\ W'.cell? ⟨w.heap.size, 0, none⟩ = some (.int .i64 K) /\ W'.cell? ⟨w.heap.size, 1, none⟩ = some (.string T) /\ W'.cell? ⟨w.heap.size, 2, none⟩ = some (.int .u64 (n : Nat)) /\ W'.cell? ⟨w.heap.size, 3, none⟩ = some (.slice (some ⟨ba, oa, none⟩) l.length cap) /\ W'.cell? ⟨ba, oa, none⟩ = some (.int .i64 ka) /\ W'.cell? ⟨ba, oa + 1, none⟩ = some (.string Ta) /\ W'.cell? ⟨ba, oa + 2, none⟩ = some (.int .u64 (na : Nat)) /\ W'.cell? ⟨ba, oa + 3, none⟩ = some (.slice Aa ma cca) from ⟨h, h.c0, h.c1, h.c2, h.c3, (h.below.cell (p := ⟨_, _, none⟩) al).trans a0, (h.below.cell (p := ⟨_, _, none⟩) al).trans a1, (h.below.cell (p := ⟨_, _, none⟩) al).trans a2, (h.below.cell (p := ⟨_, _, none⟩) al).trans a3⟩)
 go_enter Tryz.func93, Tryz.ntmps93
 go_wp2_with fail
 have D0 := Lib.hid S0.out.drew
 try dsimp only [List.append]
 refine wp_region_ord (S := fun W' => NB w K T n (.slice (some ⟨ba, oa, none⟩) l.length cap) W' /\ W'.cell? ⟨w.heap.size, 0, none⟩ = some (.int .i64 K) /\ W'.cell? ⟨w.heap.size, 1, none⟩ = some (.string T) /\ W'.cell? ⟨w.heap.size, 2, none⟩ = some (.int .u64 (n : Nat)) /\ W'.cell? ⟨w.heap.size, 3, none⟩ = some (.slice (some ⟨ba, oa, none⟩) l.length cap) /\ W'.cell? ⟨ba, oa, none⟩ = some (.int .i64 ka) /\ W'.cell? ⟨ba, oa + 1, none⟩ = some (.string Ta) /\ W'.cell? ⟨ba, oa + 2, none⟩ = some (.int .u64 (na : Nat)) /\ W'.cell? ⟨ba, oa + 3, none⟩ = some (.slice Aa ma cca)) [0, 1, 2, 3, 4, 5, 6, 7, 8, 9] (by kernel_rfl) (by kernel_rfl) (by kernel_rfl) (fun _ _ _ _ _ h => h) ?_ ?_
 ·exact HSC.out _ D0.out
 repeat (first
  | (refine OrdH.pass (by rfl) (by rfl) ?_; (try simp only [Act.put, List.setIfInBounds_toArray, List.set_cons_zero, List.set_cons_succ]))
  | (refine OrdH.yield (v := ?_) (by rfl) (by rfl) ?_ ?_; rotate_left 1; (· intro w hSw; (try dsimp only at hSw); go_simp; (try rw [if_neg (by first | omega | (simp only [M.size_app]; omega))]); (try rw [if_pos (by omega)]); try with_reducible rfl); (try simp only [Act.put, List.setIfInBounds_toArray, List.set_cons_zero, List.set_cons_succ]))
  | (refine OrdH.alone (by rfl) (by rfl) (by kernel_rfl) (fun K hKK => ?_); go_simp; (first | (go_at_call 135; (with_reducible refine (TYA.out _ D0.out.below).mono ?_); rintro e w1 ⟨Xa, rfl, hX, hza, hb⟩; have D1 := Lib.hid (D0.out.next hb); have Ea := Lib.hid hX; clear hb hX)); go_wp2_with fail; refine hKK.out _ _ ?_ (fun hHeld => ?_); (· (first | exact HSC.out _ D1.out | exact HSC.out _ D0.out)); clear hKK K hHeld; (try simp only [Act.put, List.setIfInBounds_toArray, List.set_cons_zero, List.set_cons_succ])))
 refine OrdH.nil ?_
 go_wp2_with fail
 go_ret
 exact ⟨⟨_, rfl, by rw [ER.out]; simp only [M.bs_append, HTX.out, Ea.out]; rfl⟩, D1.out.below⟩
open Go.RowKit
def strK (L : List ByteArray) (m : Nat) : List Value := L.map Value.string ++ List.replicate m (.string ⟨#[]⟩)
theorem strK_len (L : List ByteArray) (m : Nat) : (strK L m).length = L.length + m := by simp [strK]
theorem strK_start (n : Nat) : (madeCells #[Value.string ⟨#[]⟩] n).toList = strK [] n := by
 apply List.ext_getElem?
 intro j
 by_cases hj : j < n
 ·simp [madeCells, strK, hj, Nat.mod_one]
 ·rw [List.getElem?_eq_none (l := strK [] n) (by rw [strK_len]; simp; omega), List.getElem?_eq_none (by simp [madeCells]; omega)]
theorem strK_get (L : List ByteArray) (m : Nat) {j : Nat} (h : j < L.length) : (strK L m)[j]? = some (.string (L.getD j ByteArray.empty)) := by
 unfold strK
 rw [List.getElem?_append_left (by simpa using h), List.getElem?_map, List.getD_eq_getElem?_getD, List.getElem?_eq_getElem h]; rfl
theorem strK_next (L : List ByteArray) (m : Nat) : (strK L (m + 1))[L.length]? = some (.string ⟨#[]⟩) := by
 unfold strK
 rw [List.getElem?_append_right (by simp)]
 simp
theorem strK_step (L : List ByteArray) (m : Nat) (T : ByteArray) : (strK L (m + 1)).set L.length (.string T) = strK (L ++ [T]) m := by
 unfold strK
 rw [List.set_append_right _ _ (by simp), List.map_append, List.append_assoc]
 simp [List.replicate_succ]
theorem M.join_w (sep : List UInt8) (hsep : sep = [44, 32]) : ∀ xs : List ByteArray, (Lib.join (xs.map (·.data.toList)) sep).map UInt8.toNat = M.joinW [44, 32] (xs.map M.bs)
 | [] => rfl
 | [a] => by simp [Lib.join_one, M.joinW, M.bs]
 | a :: b :: r => by
  have ih := join_w sep hsep (b :: r)
  show (Lib.join (a.data.toList :: b.data.toList :: r.map (·.data.toList)) sep).map UInt8.toNat = M.bs a ++ [44, 32] ++ M.joinW [44, 32] ((b :: r).map M.bs)
  rw [<- ih]
  show _ = M.bs a ++ [44, 32] ++ (Lib.join (b.data.toList :: r.map (·.data.toList)) sep).map UInt8.toNat
  rw [Lib.join_cons, Lib.join_cons]
  unfold Lib.joinTail
  subst hsep
  simp [M.bs]
theorem joined9_any {G : Nat} {p : M.Tree -> List Nat} (l : List M.Tree) (hl : l.length <= 1000000) (hp : ∀ i, i < l.length -> FnT G p (l.getD i M.Tree.no)) (hG : Ent G) (hjw : (M.joinW [44, 32] (l.map p)).length <= 70368744177664) (v : Value) (w : World) (hv : KidsV w v l) (htab : Tab9 w) : Calls Tryz.prog 137 #[v, .func (.func G) #[] #[]] w fun e w' => (∃ T, e = .returned (.string T) /\ M.bs T = M.joinW [44, 32] (l.map p)) /\ Below w.heap.size w w' := by
 have hud := hud9
 obtain ⟨A, cap, rfl, _⟩ := id hv
 obtain ⟨-, h1, h2, h3⟩ := hv.kid
 have HK := Lib.hid h3
 have HX := Lib.hid hp
 have HT0 := Lib.hid htab
 have HJW := Lib.hid hjw
 have HB0 := Lib.hid (Below.refl w.heap.size w)
 have hG1 := hG
 unfold Ent at hG1
 obtain ⟨i0, hi0, hz0, hz1, hz2⟩ := infoStr2
 clear h3 hp hv htab hjw hG
 go_enter Tryz.func137, Tryz.ntmps137
 go_wp2_with (refine wpList_make_full _ rfl _ _ 44 rfl w.heap.size 9 i0 (.string ⟨#[]⟩) 1 Tryz.underlying44 hi0 hz0 hz1 .i64 .i64 _ _ l.length rfl rfl rfl rfl ?c1 ?c2 ?c3 ?_)
 case c1 => rw [hz2]; omega
 case c2 => unfold maxLen; omega
 case c3 => exact Nat.le_refl _
 intro w1 hown hgrow
 have HB1 := Lib.hid ((Below.refl w.heap.size w).grown hgrow (Nat.le_refl _) (by simp))
 have HO1 := Lib.hid (show w1.ownsRow w.heap.size 9 1 (.slice (some ⟨w.heap.size, 0, none⟩) l.length l.length) l.length (strK [] l.length) by rw [strK_start] at hown; exact hown)
 have HG := Lib.hid (HO1.out.lt _ rfl).2
 clear hown hgrow hi0 hz0 hz1 hz2
 go_wp2_with fail
 go_loopw [13] (fun ti wr => ∃ (k : Nat) (L : List ByteArray), k <= l.length /\ ti = .int .i64 k /\ L.length = k /\ wr.ownsRow w.heap.size 9 1 (.slice (some ⟨w.heap.size, 0, none⟩) l.length l.length) l.length (strK L (l.length - k)) /\ L.map M.bs = (l.take k).map p /\ Below w.heap.size w wr) (fun ti _ => l.length - (intOf ti).toNat)
 case atStart => exact ⟨0, [], Nat.zero_le _, rfl, rfl, HO1.out, rfl, HB1.out⟩
 case round =>
  obtain ⟨k, L, hk, rfl, hL, hown, hM, hB⟩ := hrel
  have HO := Lib.hid hown
  have HB := Lib.hid hB
  have HM := Lib.hid hM
  have HL := Lib.hid hL
  have hwr := HB.out.size
  clear hown hB hM hL
  by_cases hlt : k < l.length
  ·obtain ⟨b, off, rfl, hbl, hcell⟩ := HK.out (by omega)
   obtain ⟨T2, A2, n3, c3, x0, x1, x2, x3, hn⟩ := hcell k hlt
   have p0 := (HB.out.cell (p := ⟨b, off + k * 4, none⟩) hbl).trans x0
   have p1 := (HB.out.cell (p := ⟨b, off + k * 4 + 1, none⟩) hbl).trans x1
   have p2 := (HB.out.cell (p := ⟨b, off + k * 4 + 2, none⟩) hbl).trans x2
   have p3 := (HB.out.cell (p := ⟨b, off + k * 4 + 3, none⟩) hbl).trans x3
   have hc := HX.out k hlt
   have HT := Lib.hid (show (l.take (k + 1)).map p = (l.take k).map p ++ [p (l.getD k M.Tree.no)] by
    rw [List.take_add_one, List.getD_eq_getElem?_getD, List.getElem?_eq_getElem hlt, List.map_append]; rfl)
   obtain ⟨u, eu⟩ : ∃ u, u = l.getD k M.Tree.no := ⟨_, rfl⟩
   rw [<- eu] at p0 p2 hn hc HT
   obtain ⟨K2, eK2⟩ : ∃ K, K = u.kind := ⟨_, rfl⟩
   obtain ⟨n2, en2⟩ : ∃ n, n = u.num := ⟨_, rfl⟩
   rw [<- eK2] at p0 hn
   rw [<- en2] at p2 hn
   have HN := Lib.hid hn
   have HBX := Lib.hid fun o => HB.out.alloc HB.out.size o
   have HOX := Lib.hid fun o => HO.out.alloc o
   have CK := Lib.hid fun w' (hb : Below w.heap.size w w') => hc _ w' (HN.out.below hb) (HT0.out.below hb)
   have LK := Lib.hid hlt
   clear hcell x0 x1 x2 x3 eu eK2 en2 hn hc
   go_wp2_with fail
   (with_reducible refine (CK.out _ (HBX.out _)).mono ?_)
   rintro e w2 ⟨⟨T, rfl, hT⟩, hb2⟩
   have HB2 := Lib.hid ((HBX.out _).trans (hb2.mono (HBX.out _).size))
   have HO2 := Lib.hid (own_below (HOX.out _) hb2)
   have HTT := Lib.hid hT
   obtain ⟨m, em⟩ : ∃ m, l.length - k = m + 1 := ⟨l.length - k - 1, by omega⟩
   have hsn : (strK L (l.length - k))[k]? = some (.string ⟨#[]⟩) := by
    have := strK_next L m
    rw [HL.out] at this
    rw [em]; exact this
   have c2 : w2.cell? ⟨w.heap.size, k, none⟩ = some (.string ⟨#[]⟩) := (HO2.out.cellAt k (by omega)).trans hsn
   have f2 := HO2.out.frozenAt k
   have hst := HO2.out.stored k (.string T)
   rw [em, <- HL.out, strK_step] at hst
   rw [HL.out] at hst
   have HS2 := Lib.hid hst.1
   have HB3 := Lib.hid (HB2.out.setCell (p := ⟨w.heap.size, k, none⟩) (Nat.le_refl _) (.string T))
   have EM := Lib.hid (show l.length - (k + 1) = m by omega)
   clear hst hb2 hT em hsn
   go_wp2_with fail
   go_roundw
   case rel => exact ⟨k + 1, L ++ [T], by omega, by go_num, by simp [HL.out], by rw [EM.out]; exact HS2.out, by rw [HT.out, List.map_append, HM.out, List.map_singleton, HTT.out], HB3.out⟩
   case measure => simp [intOf]; omega
  ·obtain rfl : k = l.length := by omega
   have hLM : L.map M.bs = l.map p := by have := HM.out; rwa [List.take_length] at this
   have hLl := HL.out
   have hcell : ∀ (j : Nat) x, L[j]? = some x -> wr.cell? ⟨w.heap.size, 0 + j, none⟩ = some (.string x) := by
    intro j x hx
    have hj : j < L.length := (List.getElem?_eq_some_iff.1 hx).1
    rw [Nat.zero_add, HO.out.cellAt j (by omega), strK_get L _ hj, List.getD_eq_getElem?_getD, hx]; rfl
   have hjl : (Lib.join (L.map (·.data.toList)) [44, 32]).map UInt8.toNat = M.joinW [44, 32] (l.map p) := by rw [M.join_w [44, 32] rfl, hLM]
   have hjl2 : (Lib.join (L.map (·.data.toList)) [44, 32]).length = (M.joinW [44, 32] (l.map p)).length := by rw [<- hjl, List.length_map]
   have JO := Lib.hid (Tryz.strings_Join w.heap.size 0 l.length L ⟨#[44, 32]⟩ wr hcell (HO.out.lt _ rfl).2 (by omega) (by omega) (by show (Lib.join (L.map (·.data.toList)) [44, 32]).length <= _; have := HJW.out; omega))
   rw [hLl] at JO
   obtain ⟨J, eJ⟩ : ∃ J : ByteArray, J = ⟨(Lib.join (L.map (·.data.toList)) [44, 32]).toArray⟩ := ⟨_, rfl⟩
   have JO2 := Lib.hid (show Calls Tryz.prog 161 #[.slice (some ⟨w.heap.size, 0, none⟩) l.length l.length, .string ⟨#[44, 32]⟩] wr fun e w' => e = .returned (.string J) /\ Below wr.heap.size wr w' by rw [eJ]; exact JO.out)
   have HJ := Lib.hid (show M.bs J = M.joinW [44, 32] (l.map p) by rw [eJ, <- hjl]; rfl)
   clear hcell hjl hLl hjl2 JO eJ hLM
   go_wp2_with fail
   (with_reducible refine (JO2.out).mono ?_)
   rintro e w2 ⟨rfl, hb2⟩
   have HB2 := Lib.hid (HB.out.trans (hb2.mono HB.out.size))
   clear hb2
   go_wp2_with fail
   go_ret
   exact ⟨⟨J, rfl, HJ.out⟩, HB2.out⟩
open Go.RowKit
abbrev TextC (f : Nat) (q : List Nat) (args : Array Value) (w : World) : Prop := Calls Tryz.prog f args w fun e w' => ∃ T : ByteArray, e = .returned (.string T) /\ M.bs T = q /\ T.size <= 70368744177664 /\ Below w.heap.size w w'
theorem FnT.len {f : Nat} {p : M.Tree -> List Nat} {t : M.Tree} (h : FnT f p t) (hl : (p t).length <= 70368744177664) {v : Value} {w : World} (hv : NodeV w v t) (ht : Tab9 w) : TextC f (p t) #[v] w :=
 (h v w hv ht).mono fun e w' ⟨⟨T, h1, h2⟩, h3⟩ => ⟨T, h1, h2, by rw [<- M.bs_len, h2]; exact hl, h3⟩
theorem ent_expr : Ent 95 := Tryz.call95
theorem joined9_len {G : Nat} {p : M.Tree -> List Nat} (l : List M.Tree) (hl : l.length <= 1000000) (hp : ∀ i, i < l.length -> FnT G p (l.getD i M.Tree.no)) (hG : Ent G) (hjw : (M.joinW [44, 32] (l.map p)).length <= 70368744177664) {v : Value} {w : World} (hv : KidsV w v l) (htab : Tab9 w) : TextC 137 (M.joinW [44, 32] (l.map p)) #[v, .func (.func G) #[] #[]] w :=
 (joined9_any l hl hp hG hjw v w hv htab).mono fun e w' ⟨⟨T, h1, h2⟩, h3⟩ => ⟨T, h1, h2, by rw [<- M.bs_len, h2]; exact hjw, h3⟩
theorem ptext_14 (t : M.Tree) (hkind : t.kind = 14) (hwt : M.weight t <= 70368744177664) : FnT 95 M.exprT t := by
 intro v w hv htab
 have hud := hud9
 obtain ⟨T, kv, rfl, hT, hok, hk⟩ := hv
 have hsz : T.size <= 70368744177664 := by have := M.weight_eq t; rw [<- M.bs_len, hT]; omega
 obtain ⟨r, er⟩ : ∃ r, r = M.exprT t := ⟨_, rfl⟩
 rw [<- er]
 rw [M.exprT_eq] at er
 unfold M.exprW at er
 rw [if_pos hkind] at er
 obtain ⟨K, eK⟩ : ∃ K, K = t.kind := ⟨_, rfl⟩
 obtain ⟨tx, ex⟩ : ∃ x, x = t.text := ⟨_, rfl⟩
 obtain ⟨n, en⟩ : ∃ n, n = t.num := ⟨_, rfl⟩
 obtain ⟨l, el⟩ : ∃ l, l = t.kids := ⟨_, rfl⟩
 try rw [<- eK] at er
 try rw [<- ex] at er
 try rw [<- en] at er
 try rw [<- el] at er
 rw [<- eK, <- en]
 rw [<- ex] at hT
 rw [<- el] at hk 
 try rw [<- eK] at hkind
 obtain ⟨A, cap, rfl, _⟩ := id hk
 have HTX := Lib.hid hT
 have HT0 := Lib.hid htab
 have hn := hok.2.1
 rw [<- en] at hn
 have S0 := Lib.hid (NB.start w K T n (.slice A l.length cap))
 have HKK := Lib.hid hk
 clear hT hok hk eK ex en el htab
 have gk14 : (K == 14) = true := by rw [beq_iff_eq]; omega
 have gk16 : (K == 16) = false := by rw [beq_eq_false_iff_ne]; omega
 have gk17 : (K == 17) = false := by rw [beq_eq_false_iff_ne]; omega
 have gk18 : (K == 18) = false := by rw [beq_eq_false_iff_ne]; omega
 have gk19 : (K == 19) = false := by rw [beq_eq_false_iff_ne]; omega
 have gk20 : (K == 20) = false := by rw [beq_eq_false_iff_ne]; omega
 have DN := Lib.hid fun w' (hb : Below w.heap.size w w') => pdig9 n w' hn (HT0.out.below hb)
 clear hn
 have HSC := Lib.hid fun W' (h : NB w K T n (.slice A l.length cap) W') => (show NB w K T n (.slice A l.length cap) W' /\ W'.cell? ⟨w.heap.size, 0, none⟩ = some (.int .i64 K) /\ W'.cell? ⟨w.heap.size, 1, none⟩ = some (.string T) /\ W'.cell? ⟨w.heap.size, 2, none⟩ = some (.int .u64 (n : Nat)) /\ W'.cell? ⟨w.heap.size, 3, none⟩ = some (.slice A l.length cap) from ⟨h, h.c0, h.c1, h.c2, h.c3⟩)
 have ER := Lib.hid er
 clear er hkind hwt
 go_enter Tryz.func95, Tryz.ntmps95
 go_wp2_with fail
 (with_reducible refine (DN.out _ S0.out.below).mono ?_)
 rintro e w1 ⟨X, rfl, hX, hz, hb⟩
 have S1 := Lib.hid (S0.out.next hb)
 clear hb
 go_wp2_with fail
 go_ret
 exact ⟨⟨_, rfl, by rw [ER.out]; exact hX⟩, S1.out.below⟩
theorem ptext_15 (t : M.Tree) (hkind : t.kind = 15) (hwt : M.weight t <= 70368744177664) : FnT 95 M.exprT t := by
 intro v w hv htab
 have hud := hud9
 obtain ⟨T, kv, rfl, hT, hok, hk⟩ := hv
 have hsz : T.size <= 70368744177664 := by have := M.weight_eq t; rw [<- M.bs_len, hT]; omega
 obtain ⟨r, er⟩ : ∃ r, r = M.exprT t := ⟨_, rfl⟩
 rw [<- er]
 rw [M.exprT_eq] at er
 unfold M.exprW at er
 rw [if_neg (show ¬ t.kind = 14 by omega), if_pos hkind] at er
 obtain ⟨K, eK⟩ : ∃ K, K = t.kind := ⟨_, rfl⟩
 obtain ⟨tx, ex⟩ : ∃ x, x = t.text := ⟨_, rfl⟩
 obtain ⟨n, en⟩ : ∃ n, n = t.num := ⟨_, rfl⟩
 obtain ⟨l, el⟩ : ∃ l, l = t.kids := ⟨_, rfl⟩
 try rw [<- eK] at er
 try rw [<- ex] at er
 try rw [<- en] at er
 try rw [<- el] at er
 rw [<- eK, <- en]
 rw [<- ex] at hT
 rw [<- el] at hk 
 try rw [<- eK] at hkind
 obtain ⟨A, cap, rfl, _⟩ := id hk
 have HTX := Lib.hid hT
 have HT0 := Lib.hid htab
 have hn := hok.2.1
 rw [<- en] at hn
 have S0 := Lib.hid (NB.start w K T n (.slice A l.length cap))
 have HKK := Lib.hid hk
 clear hT hok hk eK ex en el htab
 have gk14 : (K == 14) = false := by rw [beq_eq_false_iff_ne]; omega
 have gk16 : (K == 16) = false := by rw [beq_eq_false_iff_ne]; omega
 have gk17 : (K == 17) = false := by rw [beq_eq_false_iff_ne]; omega
 have gk18 : (K == 18) = false := by rw [beq_eq_false_iff_ne]; omega
 have gk19 : (K == 19) = false := by rw [beq_eq_false_iff_ne]; omega
 have gk20 : (K == 20) = false := by rw [beq_eq_false_iff_ne]; omega
 have HSC := Lib.hid fun W' (h : NB w K T n (.slice A l.length cap) W') => (show NB w K T n (.slice A l.length cap) W' /\ W'.cell? ⟨w.heap.size, 0, none⟩ = some (.int .i64 K) /\ W'.cell? ⟨w.heap.size, 1, none⟩ = some (.string T) /\ W'.cell? ⟨w.heap.size, 2, none⟩ = some (.int .u64 (n : Nat)) /\ W'.cell? ⟨w.heap.size, 3, none⟩ = some (.slice A l.length cap) from ⟨h, h.c0, h.c1, h.c2, h.c3⟩)
 have ER := Lib.hid er
 clear er hkind hwt
 go_enter Tryz.func95, Tryz.ntmps95
 go_wp2_with fail
 go_ret
 exact ⟨⟨_, rfl, by rw [ER.out]; exact HTX.out⟩, S0.out.below⟩
theorem ptext_16 (t : M.Tree) (hkind : t.kind = 16) (hwt : M.weight t <= 70368744177664) (hl : t.kids.length <= 1000000) (hp : ∀ i, i < t.kids.length -> FnT 95 M.exprT (t.kids.getD i M.Tree.no)) (hjw : (M.joinW [44, 32] (t.kids.map M.exprT)).length <= 70368744177664) : FnT 95 M.exprT t := by
 intro v w hv htab
 have hud := hud9
 obtain ⟨T, kv, rfl, hT, hok, hk⟩ := hv
 have hsz : T.size <= 70368744177664 := by have := M.weight_eq t; rw [<- M.bs_len, hT]; omega
 obtain ⟨r, er⟩ : ∃ r, r = M.exprT t := ⟨_, rfl⟩
 rw [<- er]
 rw [M.exprT_eq] at er
 unfold M.exprW at er
 rw [if_neg (show ¬ t.kind = 14 by omega), if_neg (show ¬ t.kind = 15 by omega), if_pos hkind] at er
 obtain ⟨K, eK⟩ : ∃ K, K = t.kind := ⟨_, rfl⟩
 obtain ⟨tx, ex⟩ : ∃ x, x = t.text := ⟨_, rfl⟩
 obtain ⟨n, en⟩ : ∃ n, n = t.num := ⟨_, rfl⟩
 obtain ⟨l, el⟩ : ∃ l, l = t.kids := ⟨_, rfl⟩
 try rw [<- eK] at er
 try rw [<- ex] at er
 try rw [<- en] at er
 try rw [<- el] at er
 rw [<- eK, <- en]
 rw [<- ex] at hT
 rw [<- el] at hk hl hp hjw
 try rw [<- eK] at hkind
 obtain ⟨A, cap, rfl, _⟩ := id hk
 have HTX := Lib.hid hT
 have HT0 := Lib.hid htab
 have hn := hok.2.1
 rw [<- en] at hn
 have S0 := Lib.hid (NB.start w K T n (.slice A l.length cap))
 have HKK := Lib.hid hk
 clear hT hok hk eK ex en el htab
 have gk14 : (K == 14) = false := by rw [beq_eq_false_iff_ne]; omega
 have gk16 : (K == 16) = true := by rw [beq_iff_eq]; omega
 have gk17 : (K == 17) = false := by rw [beq_eq_false_iff_ne]; omega
 have gk18 : (K == 18) = false := by rw [beq_eq_false_iff_ne]; omega
 have gk19 : (K == 19) = false := by rw [beq_eq_false_iff_ne]; omega
 have gk20 : (K == 20) = false := by rw [beq_eq_false_iff_ne]; omega
 have JN := Lib.hid fun w' (hb : Below w.heap.size w w') => joined9_len l hl hp ent_expr hjw (HKK.out.below hb) (HT0.out.below hb)
 clear hp hjw hn
 have HSC := Lib.hid fun W' (h : NB w K T n (.slice A l.length cap) W') => (show NB w K T n (.slice A l.length cap) W' /\ W'.cell? ⟨w.heap.size, 0, none⟩ = some (.int .i64 K) /\ W'.cell? ⟨w.heap.size, 1, none⟩ = some (.string T) /\ W'.cell? ⟨w.heap.size, 2, none⟩ = some (.int .u64 (n : Nat)) /\ W'.cell? ⟨w.heap.size, 3, none⟩ = some (.slice A l.length cap) from ⟨h, h.c0, h.c1, h.c2, h.c3⟩)
 have ER := Lib.hid er
 clear er hkind hwt
 go_enter Tryz.func95, Tryz.ntmps95
 go_wp2_with fail
 have D0 := Lib.hid S0.out.drew
 try dsimp only [List.append]
 refine wp_region_ord (S := fun W' => NB w K T n (.slice A l.length cap) W' /\ W'.cell? ⟨w.heap.size, 0, none⟩ = some (.int .i64 K) /\ W'.cell? ⟨w.heap.size, 1, none⟩ = some (.string T) /\ W'.cell? ⟨w.heap.size, 2, none⟩ = some (.int .u64 (n : Nat)) /\ W'.cell? ⟨w.heap.size, 3, none⟩ = some (.slice A l.length cap)) [0, 1, 2, 3, 4, 5, 6, 7, 8] (by kernel_rfl) (by kernel_rfl) (by kernel_rfl) (fun _ _ _ _ _ h => h) ?_ ?_
 ·exact HSC.out _ D0.out
 repeat (first
  | (refine OrdH.pass (by rfl) (by rfl) ?_; (try simp only [Act.put, List.setIfInBounds_toArray, List.set_cons_zero, List.set_cons_succ]))
  | (refine OrdH.yield (v := ?_) (by rfl) (by rfl) ?_ ?_; rotate_left 1; (· intro w hSw; (try dsimp only at hSw); go_simp; (try rw [if_neg (by first | omega | (simp only [M.size_app]; omega))]); (try rw [if_pos (by omega)]); try with_reducible rfl); (try simp only [Act.put, List.setIfInBounds_toArray, List.set_cons_zero, List.set_cons_succ]))
  | (refine OrdH.alone (by rfl) (by rfl) (by kernel_rfl) (fun K hKK => ?_); go_simp; (first | (go_at_call 137; (with_reducible refine (JN.out _ D0.out.below).mono ?_); rintro e w1 ⟨Xj, rfl, hXj, hzj, hb⟩; have D1 := Lib.hid (D0.out.next hb); have Ej := Lib.hid hXj; clear hb hXj)); go_wp2_with fail; refine hKK.out _ _ ?_ (fun hHeld => ?_); (· (first | exact HSC.out _ D1.out | exact HSC.out _ D0.out)); clear hKK K hHeld; (try simp only [Act.put, List.setIfInBounds_toArray, List.set_cons_zero, List.set_cons_succ])))
 refine OrdH.nil ?_
 go_wp2_with fail
 go_ret
 exact ⟨⟨_, rfl, by rw [ER.out]; first | (simp only [M.bs_append, HTX.out, Ej.out]; done) | (simp only [M.bs_append, HTX.out, Ej.out]; rfl)⟩, D1.out.below⟩
theorem ptext_18 (t : M.Tree) (hkind : t.kind = 18) (hwt : M.weight t <= 70368744177664) (hl : t.kids.length <= 1000000) (hp : ∀ i, i < t.kids.length -> FnT 95 M.exprT (t.kids.getD i M.Tree.no)) (hjw : (M.joinW [44, 32] (t.kids.map M.exprT)).length <= 70368744177664) : FnT 95 M.exprT t := by
 intro v w hv htab
 have hud := hud9
 obtain ⟨T, kv, rfl, hT, hok, hk⟩ := hv
 have hsz : T.size <= 70368744177664 := by have := M.weight_eq t; rw [<- M.bs_len, hT]; omega
 obtain ⟨r, er⟩ : ∃ r, r = M.exprT t := ⟨_, rfl⟩
 rw [<- er]
 rw [M.exprT_eq] at er
 unfold M.exprW at er
 rw [if_neg (show ¬ t.kind = 14 by omega), if_neg (show ¬ t.kind = 15 by omega), if_neg (show ¬ t.kind = 16 by omega), if_pos hkind] at er
 obtain ⟨K, eK⟩ : ∃ K, K = t.kind := ⟨_, rfl⟩
 obtain ⟨tx, ex⟩ : ∃ x, x = t.text := ⟨_, rfl⟩
 obtain ⟨n, en⟩ : ∃ n, n = t.num := ⟨_, rfl⟩
 obtain ⟨l, el⟩ : ∃ l, l = t.kids := ⟨_, rfl⟩
 try rw [<- eK] at er
 try rw [<- ex] at er
 try rw [<- en] at er
 try rw [<- el] at er
 rw [<- eK, <- en]
 rw [<- ex] at hT
 rw [<- el] at hk hl hp hjw
 try rw [<- eK] at hkind
 obtain ⟨A, cap, rfl, _⟩ := id hk
 have HTX := Lib.hid hT
 have HT0 := Lib.hid htab
 have hn := hok.2.1
 rw [<- en] at hn
 have S0 := Lib.hid (NB.start w K T n (.slice A l.length cap))
 have HKK := Lib.hid hk
 clear hT hok hk eK ex en el htab
 have gk14 : (K == 14) = false := by rw [beq_eq_false_iff_ne]; omega
 have gk16 : (K == 16) = false := by rw [beq_eq_false_iff_ne]; omega
 have gk17 : (K == 17) = false := by rw [beq_eq_false_iff_ne]; omega
 have gk18 : (K == 18) = true := by rw [beq_iff_eq]; omega
 have gk19 : (K == 19) = false := by rw [beq_eq_false_iff_ne]; omega
 have gk20 : (K == 20) = false := by rw [beq_eq_false_iff_ne]; omega
 have JN := Lib.hid fun w' (hb : Below w.heap.size w w') => joined9_len l hl hp ent_expr hjw (HKK.out.below hb) (HT0.out.below hb)
 clear hp hjw hn
 have HSC := Lib.hid fun W' (h : NB w K T n (.slice A l.length cap) W') => (show NB w K T n (.slice A l.length cap) W' /\ W'.cell? ⟨w.heap.size, 0, none⟩ = some (.int .i64 K) /\ W'.cell? ⟨w.heap.size, 1, none⟩ = some (.string T) /\ W'.cell? ⟨w.heap.size, 2, none⟩ = some (.int .u64 (n : Nat)) /\ W'.cell? ⟨w.heap.size, 3, none⟩ = some (.slice A l.length cap) from ⟨h, h.c0, h.c1, h.c2, h.c3⟩)
 have ER := Lib.hid er
 clear er hkind hwt
 go_enter Tryz.func95, Tryz.ntmps95
 go_wp2_with fail
 (with_reducible refine (JN.out _ S0.out.below).mono ?_)
 rintro e w1 ⟨Xj, rfl, hX, hzj, hb⟩
 have D1 := Lib.hid (S0.out.next hb)
 have Ej := Lib.hid hX
 clear hb hX
 go_wp2_with fail
 go_ret
 exact ⟨⟨_, rfl, by rw [ER.out]; first | (simp only [M.bs_append, Ej.out]; done) | (simp only [M.bs_append, Ej.out]; rfl)⟩, D1.out.below⟩
theorem ptext_19 (t : M.Tree) (hkind : t.kind = 19) (hwt : M.weight t <= 70368744177664) (hl : 0 < t.kids.length) (hX : ∀ i, i < t.kids.length -> ∀ v w, NodeV w v (t.kids.getD i M.Tree.no) -> Tab9 w -> TextC 95 (M.exprT (t.kids.getD i M.Tree.no)) #[v] w) : FnT 95 M.exprT t := by
 intro v w hv htab
 have hud := hud9
 obtain ⟨T, kv, rfl, hT, hok, hk⟩ := hv
 have hsz : T.size <= 70368744177664 := by have := M.weight_eq t; rw [<- M.bs_len, hT]; omega
 obtain ⟨r, er⟩ : ∃ r, r = M.exprT t := ⟨_, rfl⟩
 rw [<- er]
 rw [M.exprT_eq] at er
 unfold M.exprW at er
 rw [if_neg (show ¬ t.kind = 14 by omega), if_neg (show ¬ t.kind = 15 by omega), if_neg (show ¬ t.kind = 16 by omega), if_neg (show ¬ t.kind = 18 by omega), if_pos hkind] at er
 rw [M.map_getD hl] at er
 obtain ⟨K, eK⟩ : ∃ K, K = t.kind := ⟨_, rfl⟩
 obtain ⟨tx, ex⟩ : ∃ x, x = t.text := ⟨_, rfl⟩
 obtain ⟨n, en⟩ : ∃ n, n = t.num := ⟨_, rfl⟩
 obtain ⟨l, el⟩ : ∃ l, l = t.kids := ⟨_, rfl⟩
 try rw [<- eK] at er
 try rw [<- ex] at er
 try rw [<- en] at er
 try rw [<- el] at er
 rw [<- eK, <- en]
 rw [<- ex] at hT
 rw [<- el] at hk hl hX
 try rw [<- eK] at hkind
 obtain ⟨A, cap, rfl, _⟩ := id hk
 have HTX := Lib.hid hT
 have HT0 := Lib.hid htab
 have hn := hok.2.1
 rw [<- en] at hn
 have S0 := Lib.hid (NB.start w K T n (.slice A l.length cap))
 have HKK := Lib.hid hk
 clear hT hok hk eK ex en el htab
 have gk14 : (K == 14) = false := by rw [beq_eq_false_iff_ne]; omega
 have gk16 : (K == 16) = false := by rw [beq_eq_false_iff_ne]; omega
 have gk17 : (K == 17) = false := by rw [beq_eq_false_iff_ne]; omega
 have gk18 : (K == 18) = false := by rw [beq_eq_false_iff_ne]; omega
 have gk19 : (K == 19) = true := by rw [beq_iff_eq]; omega
 have gk20 : (K == 20) = false := by rw [beq_eq_false_iff_ne]; omega
 clear hn
 obtain ⟨ba, oa, Ta, Aa, ma, cca, hAa, al, a0, a1, a2, a3, av⟩ := HKK.out.at 0 (by omega)
 cases hAa
 obtain ⟨ua, eua⟩ : ∃ u, u = l.getD 0 M.Tree.no := ⟨_, rfl⟩
 rw [<- eua] at a0 a2 av er
 obtain ⟨ka, eka⟩ : ∃ k, k = ua.kind := ⟨_, rfl⟩
 obtain ⟨na, ena⟩ : ∃ k, k = ua.num := ⟨_, rfl⟩
 rw [<- eka] at a0 av
 rw [<- ena] at a2 av
 simp only [show 0 * 4 = 0 from rfl, Nat.add_zero] at a0 a1 a2 a3
 have hia : 0 < l.length := by omega
 have Va := Lib.hid av
 have Wa := Lib.hid fun w' (hb : Below w.heap.size w w') => (Va.out.below hb)
 have EaC := Lib.hid fun w' (hb : Below w.heap.size w w') => hX 0 hia _ w' (by rw [<- eua]; exact Va.out.below hb) (HT0.out.below hb)
 rw [<- eua] at EaC
 clear av eua eka ena
 obtain ⟨qa0, qa1, qa2, qa3⟩ := bel4 S0.out.below al a0 a1 a2 a3
 have HSC := Lib.hid fun W' (h : NB w K T n (.slice (some ⟨ba, oa, none⟩) l.length cap) W') => (show NB w K T n (.slice (some ⟨ba, oa, none⟩) l.length cap) W' /\ W'.cell? ⟨w.heap.size, 0, none⟩ = some (.int .i64 K) /\ W'.cell? ⟨w.heap.size, 1, none⟩ = some (.string T) /\ W'.cell? ⟨w.heap.size, 2, none⟩ = some (.int .u64 (n : Nat)) /\ W'.cell? ⟨w.heap.size, 3, none⟩ = some (.slice (some ⟨ba, oa, none⟩) l.length cap) /\ W'.cell? ⟨ba, oa, none⟩ = some (.int .i64 ka) /\ W'.cell? ⟨ba, oa + 1, none⟩ = some (.string Ta) /\ W'.cell? ⟨ba, oa + 2, none⟩ = some (.int .u64 (na : Nat)) /\ W'.cell? ⟨ba, oa + 3, none⟩ = some (.slice Aa ma cca) from ⟨h, h.c0, h.c1, h.c2, h.c3, (h.below.cell (p := ⟨_, _, none⟩) al).trans a0, (h.below.cell (p := ⟨_, _, none⟩) al).trans a1, (h.below.cell (p := ⟨_, _, none⟩) al).trans a2, (h.below.cell (p := ⟨_, _, none⟩) al).trans a3⟩)
 have ER := Lib.hid er
 clear er hkind hwt hX
 go_enter Tryz.func95, Tryz.ntmps95
 go_wp2_with fail
 have D0 := Lib.hid S0.out.drew
 try dsimp only [List.append]
 refine wp_region_ord (S := fun W' => NB w K T n (.slice (some ⟨ba, oa, none⟩) l.length cap) W' /\ W'.cell? ⟨w.heap.size, 0, none⟩ = some (.int .i64 K) /\ W'.cell? ⟨w.heap.size, 1, none⟩ = some (.string T) /\ W'.cell? ⟨w.heap.size, 2, none⟩ = some (.int .u64 (n : Nat)) /\ W'.cell? ⟨w.heap.size, 3, none⟩ = some (.slice (some ⟨ba, oa, none⟩) l.length cap) /\ W'.cell? ⟨ba, oa, none⟩ = some (.int .i64 ka) /\ W'.cell? ⟨ba, oa + 1, none⟩ = some (.string Ta) /\ W'.cell? ⟨ba, oa + 2, none⟩ = some (.int .u64 (na : Nat)) /\ W'.cell? ⟨ba, oa + 3, none⟩ = some (.slice Aa ma cca)) [0, 1, 2, 3, 4, 5, 6, 7, 8] (by kernel_rfl) (by kernel_rfl) (by kernel_rfl) (fun _ _ _ _ _ h => h) ?_ ?_
 ·exact HSC.out _ D0.out
 repeat (first
  | (refine OrdH.pass (by rfl) (by rfl) ?_; (try simp only [Act.put, List.setIfInBounds_toArray, List.set_cons_zero, List.set_cons_succ]))
  | (refine OrdH.yield (v := ?_) (by rfl) (by rfl) ?_ ?_; rotate_left 1; (· intro w hSw; (try dsimp only at hSw); go_simp; (try rw [if_neg (by first | omega | (simp only [M.size_app]; omega))]); (try rw [if_pos (by omega)]); try with_reducible rfl); (try simp only [Act.put, List.setIfInBounds_toArray, List.set_cons_zero, List.set_cons_succ]))
  | (refine OrdH.alone (by rfl) (by rfl) (by kernel_rfl) (fun K hKK => ?_); go_simp; (first | (go_at_call 95; (with_reducible refine (EaC.out _ D0.out.below).mono ?_); rintro e w1 ⟨Xa, rfl, hXa, hza, hb⟩; have D1 := Lib.hid (D0.out.next hb); have Ea := Lib.hid hXa; clear hb hXa)); go_wp2_with fail; refine hKK.out _ _ ?_ (fun hHeld => ?_); (· (first | exact HSC.out _ D1.out | exact HSC.out _ D0.out)); clear hKK K hHeld; (try simp only [Act.put, List.setIfInBounds_toArray, List.set_cons_zero, List.set_cons_succ])))
 refine OrdH.nil ?_
 go_wp2_with fail
 go_ret
 exact ⟨⟨_, rfl, by rw [ER.out]; first | (simp only [M.bs_append, HTX.out, Ea.out]; done) | (simp only [M.bs_append, HTX.out, Ea.out]; rfl)⟩, D1.out.below⟩
theorem ptext_20 (t : M.Tree) (hkind : t.kind = 20) (hwt : M.weight t <= 70368744177664) (hl : 1 < t.kids.length) (hX : ∀ i, i < t.kids.length -> ∀ v w, NodeV w v (t.kids.getD i M.Tree.no) -> Tab9 w -> TextC 95 (M.exprT (t.kids.getD i M.Tree.no)) #[v] w) : FnT 95 M.exprT t := by
 intro v w hv htab
 have hud := hud9
 obtain ⟨T, kv, rfl, hT, hok, hk⟩ := hv
 have hsz : T.size <= 70368744177664 := by have := M.weight_eq t; rw [<- M.bs_len, hT]; omega
 obtain ⟨r, er⟩ : ∃ r, r = M.exprT t := ⟨_, rfl⟩
 rw [<- er]
 rw [M.exprT_eq] at er
 unfold M.exprW at er
 rw [if_neg (show ¬ t.kind = 14 by omega), if_neg (show ¬ t.kind = 15 by omega), if_neg (show ¬ t.kind = 16 by omega), if_neg (show ¬ t.kind = 18 by omega), if_neg (show ¬ t.kind = 19 by omega), if_pos hkind] at er
 rw [M.map_getD (show 0 < t.kids.length by omega), M.map_getD hl] at er
 obtain ⟨K, eK⟩ : ∃ K, K = t.kind := ⟨_, rfl⟩
 obtain ⟨tx, ex⟩ : ∃ x, x = t.text := ⟨_, rfl⟩
 obtain ⟨n, en⟩ : ∃ n, n = t.num := ⟨_, rfl⟩
 obtain ⟨l, el⟩ : ∃ l, l = t.kids := ⟨_, rfl⟩
 try rw [<- eK] at er
 try rw [<- ex] at er
 try rw [<- en] at er
 try rw [<- el] at er
 rw [<- eK, <- en]
 rw [<- ex] at hT
 rw [<- el] at hk hl hX
 try rw [<- eK] at hkind
 obtain ⟨A, cap, rfl, _⟩ := id hk
 have HTX := Lib.hid hT
 have HT0 := Lib.hid htab
 have hn := hok.2.1
 rw [<- en] at hn
 have S0 := Lib.hid (NB.start w K T n (.slice A l.length cap))
 have HKK := Lib.hid hk
 clear hT hok hk eK ex en el htab
 have gk14 : (K == 14) = false := by rw [beq_eq_false_iff_ne]; omega
 have gk16 : (K == 16) = false := by rw [beq_eq_false_iff_ne]; omega
 have gk17 : (K == 17) = false := by rw [beq_eq_false_iff_ne]; omega
 have gk18 : (K == 18) = false := by rw [beq_eq_false_iff_ne]; omega
 have gk19 : (K == 19) = false := by rw [beq_eq_false_iff_ne]; omega
 have gk20 : (K == 20) = true := by rw [beq_iff_eq]; omega
 clear hn
 obtain ⟨ba, oa, Ta, Aa, ma, cca, hAa, al, a0, a1, a2, a3, av⟩ := HKK.out.at 0 (by omega)
 cases hAa
 obtain ⟨ua, eua⟩ : ∃ u, u = l.getD 0 M.Tree.no := ⟨_, rfl⟩
 rw [<- eua] at a0 a2 av er
 obtain ⟨ka, eka⟩ : ∃ k, k = ua.kind := ⟨_, rfl⟩
 obtain ⟨na, ena⟩ : ∃ k, k = ua.num := ⟨_, rfl⟩
 rw [<- eka] at a0 av
 rw [<- ena] at a2 av
 simp only [show 0 * 4 = 0 from rfl, Nat.add_zero] at a0 a1 a2 a3
 have hia : 0 < l.length := by omega
 have Va := Lib.hid av
 have Wa := Lib.hid fun w' (hb : Below w.heap.size w w') => (Va.out.below hb)
 have EaC := Lib.hid fun w' (hb : Below w.heap.size w w') => hX 0 hia _ w' (by rw [<- eua]; exact Va.out.below hb) (HT0.out.below hb)
 rw [<- eua] at EaC
 clear av eua eka ena
 obtain ⟨qa0, qa1, qa2, qa3⟩ := bel4 S0.out.below al a0 a1 a2 a3
 obtain ⟨bb, ob, Tb, Ab, mb, ccb, hAb, bl, b0, b1, b2, b3, bv⟩ := HKK.out.at 1 (by omega)
 cases hAb
 obtain ⟨ub, eub⟩ : ∃ u, u = l.getD 1 M.Tree.no := ⟨_, rfl⟩
 rw [<- eub] at b0 b2 bv er
 obtain ⟨kb, ekb⟩ : ∃ k, k = ub.kind := ⟨_, rfl⟩
 obtain ⟨nb, enb⟩ : ∃ k, k = ub.num := ⟨_, rfl⟩
 rw [<- ekb] at b0 bv
 rw [<- enb] at b2 bv
 simp only [show 1 * 4 = 4 from rfl] at b0 b1 b2 b3
 have hib : 1 < l.length := by omega
 have Vb := Lib.hid bv
 have Wb := Lib.hid fun w' (hb : Below w.heap.size w w') => (Vb.out.below hb)
 have EbC := Lib.hid fun w' (hb : Below w.heap.size w w') => hX 1 hib _ w' (by rw [<- eub]; exact Vb.out.below hb) (HT0.out.below hb)
 rw [<- eub] at EbC
 clear bv eub ekb enb
 obtain ⟨qb0, qb1, qb2, qb3⟩ := bel4 S0.out.below bl b0 b1 b2 b3
 have HSC := Lib.hid fun W' (h : NB w K T n (.slice (some ⟨ba, oa, none⟩) l.length cap) W') => (show NB w K T n (.slice (some ⟨ba, oa, none⟩) l.length cap) W' /\ W'.cell? ⟨w.heap.size, 0, none⟩ = some (.int .i64 K) /\ W'.cell? ⟨w.heap.size, 1, none⟩ = some (.string T) /\ W'.cell? ⟨w.heap.size, 2, none⟩ = some (.int .u64 (n : Nat)) /\ W'.cell? ⟨w.heap.size, 3, none⟩ = some (.slice (some ⟨ba, oa, none⟩) l.length cap) /\ W'.cell? ⟨ba, oa, none⟩ = some (.int .i64 ka) /\ W'.cell? ⟨ba, oa + 1, none⟩ = some (.string Ta) /\ W'.cell? ⟨ba, oa + 2, none⟩ = some (.int .u64 (na : Nat)) /\ W'.cell? ⟨ba, oa + 3, none⟩ = some (.slice Aa ma cca) /\ W'.cell? ⟨ba, oa + 4, none⟩ = some (.int .i64 kb) /\ W'.cell? ⟨ba, oa + 4 + 1, none⟩ = some (.string Tb) /\ W'.cell? ⟨ba, oa + 4 + 2, none⟩ = some (.int .u64 (nb : Nat)) /\ W'.cell? ⟨ba, oa + 4 + 3, none⟩ = some (.slice Ab mb ccb) from ⟨h, h.c0, h.c1, h.c2, h.c3, (h.below.cell (p := ⟨_, _, none⟩) al).trans a0, (h.below.cell (p := ⟨_, _, none⟩) al).trans a1, (h.below.cell (p := ⟨_, _, none⟩) al).trans a2, (h.below.cell (p := ⟨_, _, none⟩) al).trans a3, (h.below.cell (p := ⟨_, _, none⟩) bl).trans b0, (h.below.cell (p := ⟨_, _, none⟩) bl).trans b1, (h.below.cell (p := ⟨_, _, none⟩) bl).trans b2, (h.below.cell (p := ⟨_, _, none⟩) bl).trans b3⟩)
 have ER := Lib.hid er
 clear er hkind hwt hX
 go_enter Tryz.func95, Tryz.ntmps95
 go_wp2_with fail
 have D0 := Lib.hid S0.out.drew
 try dsimp only [List.append]
 refine wp_region_ord (S := fun W' => NB w K T n (.slice (some ⟨ba, oa, none⟩) l.length cap) W' /\ W'.cell? ⟨w.heap.size, 0, none⟩ = some (.int .i64 K) /\ W'.cell? ⟨w.heap.size, 1, none⟩ = some (.string T) /\ W'.cell? ⟨w.heap.size, 2, none⟩ = some (.int .u64 (n : Nat)) /\ W'.cell? ⟨w.heap.size, 3, none⟩ = some (.slice (some ⟨ba, oa, none⟩) l.length cap) /\ W'.cell? ⟨ba, oa, none⟩ = some (.int .i64 ka) /\ W'.cell? ⟨ba, oa + 1, none⟩ = some (.string Ta) /\ W'.cell? ⟨ba, oa + 2, none⟩ = some (.int .u64 (na : Nat)) /\ W'.cell? ⟨ba, oa + 3, none⟩ = some (.slice Aa ma cca) /\ W'.cell? ⟨ba, oa + 4, none⟩ = some (.int .i64 kb) /\ W'.cell? ⟨ba, oa + 4 + 1, none⟩ = some (.string Tb) /\ W'.cell? ⟨ba, oa + 4 + 2, none⟩ = some (.int .u64 (nb : Nat)) /\ W'.cell? ⟨ba, oa + 4 + 3, none⟩ = some (.slice Ab mb ccb)) [0, 1, 2, 3, 7, 8, 11, 12, 13, 14, 4, 5, 6, 9, 10, 15, 16, 17, 18] (by kernel_rfl) (by kernel_rfl) (by kernel_rfl) (fun _ _ _ _ _ h => h) ?_ ?_
 ·exact HSC.out _ D0.out
 repeat (first
  | (refine OrdH.pass (by rfl) (by rfl) ?_; (try simp only [Act.put, List.setIfInBounds_toArray, List.set_cons_zero, List.set_cons_succ]))
  | (refine OrdH.yield (v := ?_) (by rfl) (by rfl) ?_ ?_; rotate_left 1; (· intro w hSw; (try dsimp only at hSw); go_simp; (try rw [if_neg (by first | omega | (simp only [M.size_app]; omega))]); (try rw [if_pos (by omega)]); try with_reducible rfl); (try simp only [Act.put, List.setIfInBounds_toArray, List.set_cons_zero, List.set_cons_succ]))
  | (refine OrdH.alone (by rfl) (by rfl) (by kernel_rfl) (fun K hKK => ?_); go_simp; (first | (go_at_call 95; (with_reducible refine (EbC.out _ D1.out.below).mono ?_); rintro e w2 ⟨Xb, rfl, hXb, hzb, hb⟩; have D2 := Lib.hid (D1.out.next hb); have Eb := Lib.hid hXb; clear hb hXb) | (go_at_call 95; (with_reducible refine (EaC.out _ D0.out.below).mono ?_); rintro e w1 ⟨Xa, rfl, hXa, hza, hb⟩; have D1 := Lib.hid (D0.out.next hb); have Ea := Lib.hid hXa; clear hb hXa)); go_wp2_with fail; refine hKK.out _ _ ?_ (fun hHeld => ?_); (· (first | exact HSC.out _ D2.out | exact HSC.out _ D1.out | exact HSC.out _ D0.out)); clear hKK K hHeld; (try simp only [Act.put, List.setIfInBounds_toArray, List.set_cons_zero, List.set_cons_succ])))
 refine OrdH.nil ?_
 go_wp2_with fail
 go_ret
 exact ⟨⟨_, rfl, by rw [ER.out]; first | (simp only [M.bs_append, HTX.out, Ea.out, Eb.out]; done) | (simp only [M.bs_append, HTX.out, Ea.out, Eb.out]; rfl)⟩, D2.out.below⟩
def M.idxT (t : M.Tree) : List Nat := if t.kind = 19 then [40] ++ M.exprT t ++ [41] else M.exprT t
theorem pidx_19 (t : M.Tree) (hkind : t.kind = 19) (hwt : M.weight t <= 70368744177664) (hX : ∀ v w, NodeV w v t -> Tab9 w -> TextC 95 (M.exprT t) #[v] w) : FnT 138 M.idxT t := by
 intro v w hv htab
 have hud := hud9
 obtain ⟨T, kv, rfl, hT, hok, hk⟩ := hv
 have hsz : T.size <= 70368744177664 := by have := M.weight_eq t; rw [<- M.bs_len, hT]; omega
 obtain ⟨r, er⟩ : ∃ r, r = M.idxT t := ⟨_, rfl⟩
 rw [<- er]
 unfold M.idxT at er
 rw [if_pos hkind] at er
 have hv0 : NodeV w (.agg #[.int .i64 t.kind, .string T, .int .u64 (t.num : Nat), kv]) t := ⟨T, kv, rfl, hT, hok, hk⟩
 have XN := Lib.hid fun w' (hb : Below w.heap.size w w') => hX _ w' (hv0.below hb) (htab.below hb)
 clear hv0 hX
 obtain ⟨q, eq⟩ : ∃ q, q = M.exprT t := ⟨_, rfl⟩
 rw [<- eq] at er XN
 clear eq
 obtain ⟨K, eK⟩ : ∃ K, K = t.kind := ⟨_, rfl⟩
 obtain ⟨tx, ex⟩ : ∃ x, x = t.text := ⟨_, rfl⟩
 obtain ⟨n, en⟩ : ∃ n, n = t.num := ⟨_, rfl⟩
 obtain ⟨l, el⟩ : ∃ l, l = t.kids := ⟨_, rfl⟩
 try rw [<- eK] at er
 try rw [<- ex] at er
 try rw [<- en] at er
 try rw [<- el] at er
 rw [<- eK, <- en] at XN ⊢
 rw [<- ex] at hT
 rw [<- el] at hk
 try rw [<- eK] at hkind
 obtain ⟨A, cap, rfl, _⟩ := id hk
 have HTX := Lib.hid hT
 have HT0 := Lib.hid htab
 have hn := hok.2.1
 rw [<- en] at hn
 have S0 := Lib.hid (NB.start w K T n (.slice A l.length cap))
 have HKK := Lib.hid hk
 clear hT hok hk eK ex en el htab
 have gk19 : (K == 19) = true := by rw [beq_iff_eq]; omega
 have HSC := Lib.hid fun W' (h : NB w K T n (.slice A l.length cap) W') => (show NB w K T n (.slice A l.length cap) W' /\ W'.cell? ⟨w.heap.size, 0, none⟩ = some (.int .i64 K) /\ W'.cell? ⟨w.heap.size, 1, none⟩ = some (.string T) /\ W'.cell? ⟨w.heap.size, 2, none⟩ = some (.int .u64 (n : Nat)) /\ W'.cell? ⟨w.heap.size, 3, none⟩ = some (.slice A l.length cap) from ⟨h, h.c0, h.c1, h.c2, h.c3⟩)
 have ER := Lib.hid er
 clear er hkind hwt
 go_enter Tryz.func138, Tryz.ntmps138
 go_wp2_with fail
 (with_reducible refine (XN.out _ S0.out.below).mono ?_)
 rintro e w1 ⟨Xa, rfl, hX, hza, hb⟩
 have D1 := Lib.hid (S0.out.next hb)
 have Ea := Lib.hid hX
 clear hb hX
 go_wp2_with fail
 go_ret
 exact ⟨⟨_, rfl, by rw [ER.out]; first | (simp only [M.bs_append, Ea.out]; done) | (simp only [M.bs_append, Ea.out]; rfl)⟩, D1.out.below⟩
theorem pidx_no (t : M.Tree) (hkind : t.kind ≠ 19) (hwt : M.weight t <= 70368744177664) (hX : ∀ v w, NodeV w v t -> Tab9 w -> TextC 95 (M.exprT t) #[v] w) : FnT 138 M.idxT t := by
 intro v w hv htab
 have hud := hud9
 obtain ⟨T, kv, rfl, hT, hok, hk⟩ := hv
 have hsz : T.size <= 70368744177664 := by have := M.weight_eq t; rw [<- M.bs_len, hT]; omega
 obtain ⟨r, er⟩ : ∃ r, r = M.idxT t := ⟨_, rfl⟩
 rw [<- er]
 unfold M.idxT at er
 rw [if_neg hkind] at er
 have hv0 : NodeV w (.agg #[.int .i64 t.kind, .string T, .int .u64 (t.num : Nat), kv]) t := ⟨T, kv, rfl, hT, hok, hk⟩
 have XN := Lib.hid fun w' (hb : Below w.heap.size w w') => hX _ w' (hv0.below hb) (htab.below hb)
 clear hv0 hX
 obtain ⟨q, eq⟩ : ∃ q, q = M.exprT t := ⟨_, rfl⟩
 rw [<- eq] at er XN
 clear eq
 obtain ⟨K, eK⟩ : ∃ K, K = t.kind := ⟨_, rfl⟩
 obtain ⟨tx, ex⟩ : ∃ x, x = t.text := ⟨_, rfl⟩
 obtain ⟨n, en⟩ : ∃ n, n = t.num := ⟨_, rfl⟩
 obtain ⟨l, el⟩ : ∃ l, l = t.kids := ⟨_, rfl⟩
 try rw [<- eK] at er
 try rw [<- ex] at er
 try rw [<- en] at er
 try rw [<- el] at er
 rw [<- eK, <- en] at XN ⊢
 rw [<- ex] at hT
 rw [<- el] at hk
 try rw [<- eK] at hkind
 obtain ⟨A, cap, rfl, _⟩ := id hk
 have HTX := Lib.hid hT
 have HT0 := Lib.hid htab
 have hn := hok.2.1
 rw [<- en] at hn
 have S0 := Lib.hid (NB.start w K T n (.slice A l.length cap))
 have HKK := Lib.hid hk
 clear hT hok hk eK ex en el htab
 have gk19 : (K == 19) = false := by rw [beq_eq_false_iff_ne]; omega
 have HSC := Lib.hid fun W' (h : NB w K T n (.slice A l.length cap) W') => (show NB w K T n (.slice A l.length cap) W' /\ W'.cell? ⟨w.heap.size, 0, none⟩ = some (.int .i64 K) /\ W'.cell? ⟨w.heap.size, 1, none⟩ = some (.string T) /\ W'.cell? ⟨w.heap.size, 2, none⟩ = some (.int .u64 (n : Nat)) /\ W'.cell? ⟨w.heap.size, 3, none⟩ = some (.slice A l.length cap) from ⟨h, h.c0, h.c1, h.c2, h.c3⟩)
 have ER := Lib.hid er
 clear er hkind hwt
 go_enter Tryz.func138, Tryz.ntmps138
 go_wp2_with fail
 (with_reducible refine (XN.out _ S0.out.below).mono ?_)
 rintro e w1 ⟨Xa, rfl, hX, hza, hb⟩
 have D1 := Lib.hid (S0.out.next hb)
 have Ea := Lib.hid hX
 clear hb hX
 go_wp2_with fail
 go_ret
 exact ⟨⟨_, rfl, by rw [ER.out]; first | (simp only [M.bs_append, Ea.out]; done) | (simp only [M.bs_append, Ea.out]; rfl)⟩, D1.out.below⟩
open Go.RowKit
theorem M.exprT_17 {t : M.Tree} (hk : t.kind = 17) (hl : 1 < t.kids.length) : M.exprT t = M.idxT (t.kids.getD 0 M.Tree.no) ++ [91] ++ M.exprT (t.kids.getD 1 M.Tree.no) ++ [93] := by
 rw [M.exprT_eq]
 unfold M.exprW M.idxT
 rw [if_neg (show ¬ t.kind = 14 by omega), if_neg (show ¬ t.kind = 15 by omega), if_neg (show ¬ t.kind = 16 by omega), if_neg (show ¬ t.kind = 18 by omega), if_neg (show ¬ t.kind = 19 by omega), if_neg (show ¬ t.kind = 20 by omega), M.map_getD (show 0 < t.kids.length by omega), M.map_getD hl]
 by_cases h : (t.kids.getD 0 M.Tree.no).kind = 19
 ·rw [if_pos h, if_pos h]; simp
 ·rw [if_neg h, if_neg h]
theorem ptext_17 (t : M.Tree) (hkind : t.kind = 17) (hwt : M.weight t <= 70368744177664) (hl : 1 < t.kids.length) (hI : ∀ v w, NodeV w v (t.kids.getD 0 M.Tree.no) -> Tab9 w -> TextC 138 (M.idxT (t.kids.getD 0 M.Tree.no)) #[v] w) (hX : ∀ i, i < t.kids.length -> ∀ v w, NodeV w v (t.kids.getD i M.Tree.no) -> Tab9 w -> TextC 95 (M.exprT (t.kids.getD i M.Tree.no)) #[v] w) : FnT 95 M.exprT t := by
 intro v w hv htab
 have hud := hud9
 obtain ⟨T, kv, rfl, hT, hok, hk⟩ := hv
 have hsz : T.size <= 70368744177664 := by have := M.weight_eq t; rw [<- M.bs_len, hT]; omega
 obtain ⟨r, er⟩ : ∃ r, r = M.exprT t := ⟨_, rfl⟩
 rw [<- er]
 rw [M.exprT_17 hkind hl] at er
 obtain ⟨K, eK⟩ : ∃ K, K = t.kind := ⟨_, rfl⟩
 obtain ⟨tx, ex⟩ : ∃ x, x = t.text := ⟨_, rfl⟩
 obtain ⟨n, en⟩ : ∃ n, n = t.num := ⟨_, rfl⟩
 obtain ⟨l, el⟩ : ∃ l, l = t.kids := ⟨_, rfl⟩
 try rw [<- eK] at er
 try rw [<- ex] at er
 try rw [<- en] at er
 try rw [<- el] at er
 rw [<- eK, <- en]
 rw [<- ex] at hT
 rw [<- el] at hk hl hX hI
 try rw [<- eK] at hkind
 obtain ⟨A, cap, rfl, _⟩ := id hk
 have HTX := Lib.hid hT
 have HT0 := Lib.hid htab
 have hn := hok.2.1
 rw [<- en] at hn
 have S0 := Lib.hid (NB.start w K T n (.slice A l.length cap))
 have HKK := Lib.hid hk
 clear hT hok hk eK ex en el htab
 have gk14 : (K == 14) = false := by rw [beq_eq_false_iff_ne]; omega
 have gk16 : (K == 16) = false := by rw [beq_eq_false_iff_ne]; omega
 have gk17 : (K == 17) = true := by rw [beq_iff_eq]; omega
 have gk18 : (K == 18) = false := by rw [beq_eq_false_iff_ne]; omega
 have gk19 : (K == 19) = false := by rw [beq_eq_false_iff_ne]; omega
 have gk20 : (K == 20) = false := by rw [beq_eq_false_iff_ne]; omega
 clear hn
 obtain ⟨ba, oa, Ta, Aa, ma, cca, hAa, al, a0, a1, a2, a3, av⟩ := HKK.out.at 0 (by omega)
 cases hAa
 obtain ⟨ua, eua⟩ : ∃ u, u = l.getD 0 M.Tree.no := ⟨_, rfl⟩
 rw [<- eua] at a0 a2 av er
 obtain ⟨ka, eka⟩ : ∃ k, k = ua.kind := ⟨_, rfl⟩
 obtain ⟨na, ena⟩ : ∃ k, k = ua.num := ⟨_, rfl⟩
 rw [<- eka] at a0 av
 rw [<- ena] at a2 av
 simp only [show 0 * 4 = 0 from rfl, Nat.add_zero] at a0 a1 a2 a3
 have hia : 0 < l.length := by omega
 have Va := Lib.hid av
 have Wa := Lib.hid fun w' (hb : Below w.heap.size w w') => (Va.out.below hb)
 have EaC := Lib.hid fun w' (hb : Below w.heap.size w w') => hX 0 hia _ w' (by rw [<- eua]; exact Va.out.below hb) (HT0.out.below hb)
 rw [<- eua] at EaC
 have EaI := Lib.hid fun w' (hb : Below w.heap.size w w') => hI _ w' (by rw [<- eua]; exact Va.out.below hb) (HT0.out.below hb)
 rw [<- eua] at EaI
 clear hI
 clear av eua eka ena
 obtain ⟨qa0, qa1, qa2, qa3⟩ := bel4 S0.out.below al a0 a1 a2 a3
 obtain ⟨bb, ob, Tb, Ab, mb, ccb, hAb, bl, b0, b1, b2, b3, bv⟩ := HKK.out.at 1 (by omega)
 cases hAb
 obtain ⟨ub, eub⟩ : ∃ u, u = l.getD 1 M.Tree.no := ⟨_, rfl⟩
 rw [<- eub] at b0 b2 bv er
 obtain ⟨kb, ekb⟩ : ∃ k, k = ub.kind := ⟨_, rfl⟩
 obtain ⟨nb, enb⟩ : ∃ k, k = ub.num := ⟨_, rfl⟩
 rw [<- ekb] at b0 bv
 rw [<- enb] at b2 bv
 simp only [show 1 * 4 = 4 from rfl] at b0 b1 b2 b3
 have hib : 1 < l.length := by omega
 have Vb := Lib.hid bv
 have Wb := Lib.hid fun w' (hb : Below w.heap.size w w') => (Vb.out.below hb)
 have EbC := Lib.hid fun w' (hb : Below w.heap.size w w') => hX 1 hib _ w' (by rw [<- eub]; exact Vb.out.below hb) (HT0.out.below hb)
 rw [<- eub] at EbC
 clear bv eub ekb enb
 obtain ⟨qb0, qb1, qb2, qb3⟩ := bel4 S0.out.below bl b0 b1 b2 b3
 have HSC := Lib.hid fun W' (h : NB w K T n (.slice (some ⟨ba, oa, none⟩) l.length cap) W') => (show NB w K T n (.slice (some ⟨ba, oa, none⟩) l.length cap) W' /\ W'.cell? ⟨w.heap.size, 0, none⟩ = some (.int .i64 K) /\ W'.cell? ⟨w.heap.size, 1, none⟩ = some (.string T) /\ W'.cell? ⟨w.heap.size, 2, none⟩ = some (.int .u64 (n : Nat)) /\ W'.cell? ⟨w.heap.size, 3, none⟩ = some (.slice (some ⟨ba, oa, none⟩) l.length cap) /\ W'.cell? ⟨ba, oa, none⟩ = some (.int .i64 ka) /\ W'.cell? ⟨ba, oa + 1, none⟩ = some (.string Ta) /\ W'.cell? ⟨ba, oa + 2, none⟩ = some (.int .u64 (na : Nat)) /\ W'.cell? ⟨ba, oa + 3, none⟩ = some (.slice Aa ma cca) /\ W'.cell? ⟨ba, oa + 4, none⟩ = some (.int .i64 kb) /\ W'.cell? ⟨ba, oa + 4 + 1, none⟩ = some (.string Tb) /\ W'.cell? ⟨ba, oa + 4 + 2, none⟩ = some (.int .u64 (nb : Nat)) /\ W'.cell? ⟨ba, oa + 4 + 3, none⟩ = some (.slice Ab mb ccb) from ⟨h, h.c0, h.c1, h.c2, h.c3, (h.below.cell (p := ⟨_, _, none⟩) al).trans a0, (h.below.cell (p := ⟨_, _, none⟩) al).trans a1, (h.below.cell (p := ⟨_, _, none⟩) al).trans a2, (h.below.cell (p := ⟨_, _, none⟩) al).trans a3, (h.below.cell (p := ⟨_, _, none⟩) bl).trans b0, (h.below.cell (p := ⟨_, _, none⟩) bl).trans b1, (h.below.cell (p := ⟨_, _, none⟩) bl).trans b2, (h.below.cell (p := ⟨_, _, none⟩) bl).trans b3⟩)
 have ER := Lib.hid er
 clear er hkind hwt hX
 go_enter Tryz.func95, Tryz.ntmps95
 go_wp2_with fail
 have D0 := Lib.hid S0.out.drew
 try dsimp only [List.append]
 refine wp_region_ord (S := fun W' => NB w K T n (.slice (some ⟨ba, oa, none⟩) l.length cap) W' /\ W'.cell? ⟨w.heap.size, 0, none⟩ = some (.int .i64 K) /\ W'.cell? ⟨w.heap.size, 1, none⟩ = some (.string T) /\ W'.cell? ⟨w.heap.size, 2, none⟩ = some (.int .u64 (n : Nat)) /\ W'.cell? ⟨w.heap.size, 3, none⟩ = some (.slice (some ⟨ba, oa, none⟩) l.length cap) /\ W'.cell? ⟨ba, oa, none⟩ = some (.int .i64 ka) /\ W'.cell? ⟨ba, oa + 1, none⟩ = some (.string Ta) /\ W'.cell? ⟨ba, oa + 2, none⟩ = some (.int .u64 (na : Nat)) /\ W'.cell? ⟨ba, oa + 3, none⟩ = some (.slice Aa ma cca) /\ W'.cell? ⟨ba, oa + 4, none⟩ = some (.int .i64 kb) /\ W'.cell? ⟨ba, oa + 4 + 1, none⟩ = some (.string Tb) /\ W'.cell? ⟨ba, oa + 4 + 2, none⟩ = some (.int .u64 (nb : Nat)) /\ W'.cell? ⟨ba, oa + 4 + 3, none⟩ = some (.slice Ab mb ccb)) [0, 1, 2, 3, 6, 7, 8, 9, 4, 5, 10, 11, 12, 13] (by kernel_rfl) (by kernel_rfl) (by kernel_rfl) (fun _ _ _ _ _ h => h) ?_ ?_
 ·exact HSC.out _ D0.out
 repeat (first
  | (refine OrdH.pass (by rfl) (by rfl) ?_; (try simp only [Act.put, List.setIfInBounds_toArray, List.set_cons_zero, List.set_cons_succ]))
  | (refine OrdH.yield (v := ?_) (by rfl) (by rfl) ?_ ?_; rotate_left 1; (· intro w hSw; (try dsimp only at hSw); go_simp; (try rw [if_neg (by first | omega | (simp only [M.size_app]; omega))]); (try rw [if_pos (by omega)]); try with_reducible rfl); (try simp only [Act.put, List.setIfInBounds_toArray, List.set_cons_zero, List.set_cons_succ]))
  | (refine OrdH.alone (by rfl) (by rfl) (by kernel_rfl) (fun K hKK => ?_); go_simp; (first | (go_at_call 95; (with_reducible refine (EbC.out _ D1.out.below).mono ?_); rintro e w2 ⟨Xb, rfl, hXb, hzb, hb⟩; have D2 := Lib.hid (D1.out.next hb); have Eb := Lib.hid hXb; clear hb hXb) | (go_at_call 138; (with_reducible refine (EaI.out _ D0.out.below).mono ?_); rintro e w1 ⟨Xa, rfl, hXa, hza, hb⟩; have D1 := Lib.hid (D0.out.next hb); have Ea := Lib.hid hXa; clear hb hXa)); go_wp2_with fail; refine hKK.out _ _ ?_ (fun hHeld => ?_); (· (first | exact HSC.out _ D2.out | exact HSC.out _ D1.out | exact HSC.out _ D0.out)); clear hKK K hHeld; (try simp only [Act.put, List.setIfInBounds_toArray, List.set_cons_zero, List.set_cons_succ])))
 refine OrdH.nil ?_
 go_wp2_with fail
 go_ret
 exact ⟨⟨_, rfl, by rw [ER.out]; first | (simp only [M.bs_append, Ea.out, Eb.out]; done) | (simp only [M.bs_append, Ea.out, Eb.out]; rfl)⟩, D2.out.below⟩

theorem pexpr_step (f : Nat) (ih : ∀ u, M.exprF f u = true -> M.count u <= 1000000 -> M.weight u <= 70368744177664 -> FnT 95 M.exprT u)
  (t : M.Tree) (hF : M.exprF (f + 1) t = true) (hcnt : M.count t <= 1000000) (hwt : M.weight t <= 70368744177664) : FnT 95 M.exprT t := by
 obtain ⟨hS, hK, hkinds⟩ := M.exprF_shape hF
 have hkl := M.kids_len t
 have hWT := M.weight_eq t
 have hJ := M.joinW_weight M.exprT t.kids (fun u hu => M.exprT_weight f u (hK u hu))
 have hp : ∀ i, i < t.kids.length -> FnT 95 M.exprT (t.kids.getD i M.Tree.no) := fun i hi =>
  ih _ (hK _ (kid_mem hi)) (by have := M.count_kid (t := t) (kid_mem hi); omega) (by have := M.weight_kid (t := t) (kid_mem hi); omega)
 have hX : ∀ i, i < t.kids.length -> ∀ v w, NodeV w v (t.kids.getD i M.Tree.no) -> Tab9 w -> TextC 95 (M.exprT (t.kids.getD i M.Tree.no)) #[v] w := fun i hi v w hv ht =>
  (hp i hi).len (by have := M.exprT_weight f _ (hK _ (kid_mem hi)); have := M.weight_kid (t := t) (kid_mem hi); omega) hv ht
 rcases hkinds with h | h | h | h | h | h | h
 ·exact ptext_14 t h hwt
 ·exact ptext_15 t h hwt
 ·exact ptext_16 t h hwt (by omega) hp (by omega)
 ·have h2 := hS.2.1 (by omega) (by omega) (by omega) (by omega) (by omega)
  refine ptext_17 t h hwt (by omega) (fun v w hv ht => ?_) hX
  have hw0 := M.weight_kid (t := t) (kid_mem (l := t.kids) (i := 0) (by omega))
  have he0 := M.exprT_weight f _ (hK _ (kid_mem (l := t.kids) (i := 0) (by omega)))
  have hi0 : FnT 138 M.idxT (t.kids.getD 0 M.Tree.no) := by
   by_cases h19 : (t.kids.getD 0 M.Tree.no).kind = 19
   ·exact pidx_19 _ h19 (by omega) (hX 0 (by omega))
   ·exact pidx_no _ h19 (by omega) (hX 0 (by omega))
  refine hi0.len ?_ hv ht
  unfold M.idxT
  by_cases h19 : (t.kids.getD 0 M.Tree.no).kind = 19
  ·rw [if_pos h19]; simp only [List.length_append, List.length_cons, List.length_nil]; omega
  ·rw [if_neg h19]; omega
 ·exact ptext_18 t h hwt (by omega) hp (by omega)
 ·have h1 := hS.1 h
  exact ptext_19 t h hwt (by omega) hX
 ·have h2 := hS.2.1 (by omega) (by omega) (by omega) (by omega) (by omega)
  exact ptext_20 t h hwt (by omega) hX
theorem pexpr_any : ∀ (f : Nat) (t : M.Tree), M.exprF f t = true -> M.count t <= 1000000 -> M.weight t <= 70368744177664 -> FnT 95 M.exprT t
 | 0, t, h, _, _ => by rw [M.exprF] at h; cases h
 | f + 1, t, h, hc, hw => pexpr_step f (pexpr_any f) t h hc hw
open Go.RowKit
def PrN (w : World) (b : Nat) (l : List Nat) (n : Nat) : Prop := ∃ l8 : List UInt8, l8.map UInt8.toNat = l /\ PrS w b l8 n
theorem PrN.below {w w' : World} {b : Nat} {l : List Nat} {n : Nat} (h : PrN w b l n) (hb : Below w.heap.size w w') : PrN w' b l n := by
 obtain ⟨l8, e, h⟩ := h
 exact ⟨l8, e, h.below hb⟩
theorem PrN.lt {w : World} {b : Nat} {l : List Nat} {n : Nat} (h : PrN w b l n) : b < w.heap.size := by obtain ⟨_, _, h⟩ := h; exact h.lt
namespace M
def lineN (d : Nat) (q : List Nat) : List Nat := List.replicate (2 * d) 32 ++ q ++ [10]
def textL (d : Nat) (L : List (List Nat)) : List Nat := (L.map (lineN d)).flatten
theorem textL_nil (d : Nat) : textL d [] = [] := rfl
theorem textL_app (d : Nat) (L K : List (List Nat)) : textL d (L ++ K) = textL d L ++ textL d K := by simp [textL]
theorem textL_one (d : Nat) (q : List Nat) : textL d [q] = lineN d q := by simp [textL]
theorem textL_deep (d : Nat) (L : List (List Nat)) : textL d (deepT L) = textL (d + 1) L := by
 unfold textL deepT
 rw [List.map_map]
 congr 1
 apply List.map_congr_left
 intro q _
 show List.replicate (2 * d) 32 ++ ([32, 32] ++ q) ++ [10] = List.replicate (2 * (d + 1)) 32 ++ q ++ [10]
 rw [show 2 * (d + 1) = 2 * d + 2 by omega, <- List.replicate_append_replicate]
 simp [List.replicate]
theorem lineN_len (d : Nat) (q : List Nat) : (lineN d q).length = 2 * d + q.length + 1 := by simp [lineN]; omega
end M
theorem spaces_num : ∀ k, (spaces k).map UInt8.toNat = List.replicate (2 * k) 32
 | 0 => rfl
 | k + 1 => by
  rw [spaces, List.map_append, spaces_num k, show 2 * (k + 1) = 2 * k + 2 by omega, <- List.replicate_append_replicate]; rfl
theorem glued_num (L : List ByteArray) : (glued L).map UInt8.toNat = (L.map M.bs).flatten := by
 induction L with
 | nil => rfl
 | cons a r ih =>
  rw [show glued (a :: r) = a.data.toList ++ glued r from rfl, List.map_append, ih]; rfl
theorem line10_any (b : Nat) (l : List Nat) (n : Nat) (L : List ByteArray) (pk : Nat) (w : World) (h : PrN w b l n) (hcells : ∀ j, j < L.length -> w.cell? ⟨pk, j, none⟩ = some (.string (L.getD j ByteArray.empty))) (hpk : pk < w.heap.size) (hpb : pk ≠ b) (hpr : NoRow w pk) (hL : L.length <= 100) (hlen : (l ++ M.lineN n (L.map M.bs).flatten).length <= 140737488355328) :
  Calls Tryz.prog 92 #[.pointer (some ⟨b, 0, none⟩), .slice (some ⟨pk, 0, none⟩) L.length L.length] w fun e w' => e = .returned (.tuple #[]) /\ PrN w' b (l ++ M.lineN n (L.map M.bs).flatten) n /\ PrK b w w' := by
 obtain ⟨l8, rfl, h⟩ := h
 rw [List.length_append, M.lineN_len, <- glued_num, List.length_map, List.length_map] at hlen
 refine (line9_any b l8 n L pk w h hcells hpk hpb hpr hL (by omega)).mono ?_
 rintro e w' ⟨rfl, h1, h2⟩
 refine ⟨rfl, ⟨_, ?_, h1⟩, h2⟩
 rw [List.map_append, List.map_append, List.map_append, spaces_num, glued_num]
 unfold M.lineN
 simp only [List.append_assoc]
 rfl
theorem noRow_strs (w : World) (a : Array Value) : NoRow (w.alloc (.cells a 9)) w.heap.size := by
 intro cur e
 rw [heap_alloc_new] at e
 have := Option.some.inj e
 injection this with h1 h2
 exact absurd h2 (by decide)
def ItemP (t : M.Tree) : Prop := ∀ (wb w : World) (b : Nat) (l : List Nat) (d : Nat) (v : Value), NodeV wb v t -> Tab9 wb -> Below wb.heap.size wb w -> wb.heap.size <= b -> PrN w b l d -> (l ++ M.textL d (M.itemT t)).length <= 70368744177664 ->
 Calls Tryz.prog 47 #[.pointer (some ⟨b, 0, none⟩), v] w fun e w' => e = .returned (.tuple #[]) /\ PrN w' b (l ++ M.textL d (M.itemT t)) d /\ PrK b w w'
open Go.RowKit
namespace M
theorem linesL_app : ∀ (a c : List Tree), linesL (a ++ c) = linesL a ++ linesL c
 | [], c => by rw [List.nil_append, linesL, List.nil_append]
 | t :: r, c => by rw [List.cons_append, linesL, linesL, linesL_app r c, List.append_assoc]
theorem linesL_take9 {l : List Tree} {k : Nat} (h : k < l.length) : linesL (l.take (k + 1)) = linesL (l.take k) ++ itemT (l.getD k Tree.no) := by
 rw [List.take_add_one, List.getD_eq_getElem?_getD, List.getElem?_eq_getElem h, linesL_app]
 show _ ++ linesL [_] = _
 rw [linesL, linesL, List.append_nil]
 rfl
theorem textL_take_len (d : Nat) (l : List Tree) (k : Nat) : (textL d (linesL (l.take k))).length <= (textL d (linesL l)).length := by
 conv => rhs; rw [<- List.take_append_drop k l]
 rw [linesL_app, textL_app, List.length_append]
 omega
end M
theorem items10_any (l : List M.Tree) (hp : ∀ i, i < l.length -> ItemP (l.getD i M.Tree.no)) (wb w : World) (b : Nat) (lo : List Nat) (d : Nat) (v : Value) (hv : KidsV wb v l) (htb : Tab9 wb) (hbw : Below wb.heap.size wb w) (hbb : wb.heap.size <= b) (hP : PrN w b lo d) (hlen : (lo ++ M.textL d (M.linesL l)).length <= 70368744177664) :
  Calls Tryz.prog 32 #[.pointer (some ⟨b, 0, none⟩), v] w fun e w' => e = .returned (.tuple #[]) /\ PrN w' b (lo ++ M.textL d (M.linesL l)) d /\ PrK b w w' := by
 have hud := hud9
 obtain ⟨A, cap, rfl, _⟩ := id hv
 obtain ⟨-, h1, h2, h3⟩ := hv.kid
 have HK := Lib.hid h3
 have HX := Lib.hid hp
 have HTB := Lib.hid htb
 have HBW := Lib.hid hbw
 have HBB := Lib.hid hbb
 have HP := Lib.hid hP
 have HBL := Lib.hid hP.lt
 have HLEN := Lib.hid hlen
 clear h3 hp hv htb hbw hbb hP hlen
 go_enter Tryz.func32, Tryz.ntmps32
 go_wp2_with fail
 go_loopw [8] (fun ti wr => ∃ k : Nat, k <= l.length /\ ti = .int .i64 k /\ PrN wr b (lo ++ M.textL d (M.linesL (l.take k))) d /\ PrK b w wr) (fun ti _ => l.length - (intOf ti).toNat)
 case atStart => exact ⟨0, Nat.zero_le _, rfl, by rw [List.take_zero, M.linesL, M.textL_nil, List.append_nil]; exact HP.out, PrK.refl _ _⟩
 case round =>
  obtain ⟨k, hk, rfl, hq, hK⟩ := hrel
  have HQ := Lib.hid hq
  have HKK := Lib.hid hK
  have HB := Lib.hid (HBW.out.trans (hK.below HBB.out HBL.out))
  clear hq hK
  by_cases hlt : k < l.length
  ·obtain ⟨bb, off, rfl, hbl, hcell⟩ := HK.out (by omega)
   obtain ⟨T2, A2, n3, c3, x0, x1, x2, x3, hn⟩ := hcell k hlt
   have p0 := (HB.out.cell (p := ⟨bb, off + k * 4, none⟩) hbl).trans x0
   have p1 := (HB.out.cell (p := ⟨bb, off + k * 4 + 1, none⟩) hbl).trans x1
   have p2 := (HB.out.cell (p := ⟨bb, off + k * 4 + 2, none⟩) hbl).trans x2
   have p3 := (HB.out.cell (p := ⟨bb, off + k * 4 + 3, none⟩) hbl).trans x3
   have hc := HX.out k hlt
   have HT := Lib.hid (M.linesL_take9 hlt)
   have hbd := M.textL_take_len d l (k + 1)
   rw [HT.out] at hbd
   obtain ⟨u, eu⟩ : ∃ u, u = l.getD k M.Tree.no := ⟨_, rfl⟩
   rw [<- eu] at p0 p2 hn hc HT hbd
   obtain ⟨K2, eK2⟩ : ∃ K, K = u.kind := ⟨_, rfl⟩
   obtain ⟨n2, en2⟩ : ∃ n, n = u.num := ⟨_, rfl⟩
   rw [<- eK2] at p0 hn
   rw [<- en2] at p2 hn
   have HN := Lib.hid hn
   have CK := Lib.hid fun o => hc wb (World.alloc _ o) b _ d _ HN.out HTB.out (HB.out.trans ((balloc8 _ o).mono HB.out.size)) HBB.out (HQ.out.below (balloc8 _ o)) (by have := HLEN.out; rw [List.append_assoc, <- M.textL_app]; rw [List.length_append] at this ⊢; omega)
   have HA := Lib.hid fun o => HKK.out.trans (PrK.of b (balloc8 _ o))
   clear hcell x0 x1 x2 x3 eu eK2 en2 hn hc hbd
   go_wp2_with fail
   (with_reducible refine (CK.out _).mono ?_)
   rintro e w2 ⟨rfl, hq2, hk2⟩
   have HQ2 := Lib.hid hq2
   have HK2 := Lib.hid ((HA.out _).trans hk2)
   clear hq2 hk2
   go_wp2_with fail
   go_roundw
   case rel => exact ⟨k + 1, by omega, by go_num, by rw [HT.out, M.textL_app, <- List.append_assoc]; exact HQ2.out, HK2.out⟩
   case measure => simp [intOf]; omega
  ·obtain rfl : k = l.length := by omega
   go_wp2_with fail
   go_end0
   exact ⟨rfl, by have := HQ.out; rwa [List.take_length] at this, HKK.out⟩
open Go.RowKit
theorem PrS.open {w : World} {b : Nat} {l : List UInt8} {n : Int} (h : PrS w b l n) (m : Int) : PrS (w.setCell ⟨b, 2, none⟩ (.int .i64 m)) b l m := by
 obtain ⟨A, v, h, hA⟩ := h
 refine ⟨A, v, ⟨?_, h.2.1.kept (row := some b) ⟨rfl, rfl, rfl, by simp [World.setCell], fun k _ hk => Below.heap_setCell _ _ _ _ (fun e => hk (by simp [e]))⟩ (Or.inr h.2.2), h.2.2⟩, hA⟩
 have := h.1
 simp [World.setCell, Array.getElem?_modify, this]
theorem PrN.open {w : World} {b : Nat} {l : List Nat} {n : Nat} (h : PrN w b l n) (m : Nat) : PrN (w.setCell ⟨b, 2, none⟩ (.int .i64 (m : Nat))) b l m := by
 obtain ⟨l8, e, h⟩ := h
 exact ⟨l8, e, h.open _⟩
theorem PrN.cell2 {w : World} {b : Nat} {l : List Nat} {n : Nat} (h : PrN w b l n) : w.cell? ⟨b, 2, none⟩ = some (.int .i64 (n : Nat)) := by
 obtain ⟨_, _, h⟩ := h
 exact h.cell2
theorem PrN.fz {w : World} {b : Nat} {l : List Nat} {n : Nat} (h : PrN w b l n) (j : Nat) : w.frozen? ⟨b, j, none⟩ = false := by
 obtain ⟨_, _, _, _, h, _⟩ := h
 exact Lib.frozen_of_heap h.1 j
theorem block9_any (t : M.Tree) (hp : ∀ i, i < t.kids.length -> ItemP (t.kids.getD i M.Tree.no)) (wb w : World) (b : Nat) (lo : List Nat) (d : Nat) (v : Value) (hv : NodeV wb v t) (htb : Tab9 wb) (hbw : Below wb.heap.size wb w) (hbb : wb.heap.size <= b) (hd : d <= 70368744177664) (hP : PrN w b lo d) (hlen : (lo ++ M.textL (d + 1) (M.linesL t.kids)).length <= 70368744177664) :
  Calls Tryz.prog 97 #[.pointer (some ⟨b, 0, none⟩), v] w fun e w' => e = .returned (.tuple #[]) /\ PrN w' b (lo ++ M.textL (d + 1) (M.linesL t.kids)) d /\ PrK b w w' := by
 have hud := hud9
 obtain ⟨T, kv, rfl, hT, hok, hk⟩ := hv
 have HI := Lib.hid fun w1 hb1 hp1 => items10_any t.kids hp wb w1 b lo (d + 1) kv hk htb hb1 hbb hp1 hlen
 obtain ⟨A, cap, rfl, _⟩ := id hk
 obtain ⟨K, eK⟩ : ∃ K, K = t.kind := ⟨_, rfl⟩
 obtain ⟨n, en⟩ : ∃ n, n = t.num := ⟨_, rfl⟩
 obtain ⟨q, eq⟩ : ∃ q, q = M.textL (d + 1) (M.linesL t.kids) := ⟨_, rfl⟩
 obtain ⟨m, em⟩ : ∃ m, m = t.kids.length := ⟨_, rfl⟩
 rw [<- eK, <- en, <- em, <- eq]
 rw [<- eq, <- em] at HI
 have HBW := Lib.hid hbw
 have HBB := Lib.hid hbb
 have HBL := Lib.hid hP.lt
 obtain ⟨w1, ew1⟩ : ∃ w1, w1 = w.alloc (.cells #[.int .i64 K, .string T, .int .u64 (n : Nat), .slice A m cap] 25) := ⟨_, rfl⟩
 have S0 := Lib.hid (show NB w K T n (.slice A m cap) w1 by rw [ew1]; exact NB.start w K T n (.slice A m cap))
 have P1 := Lib.hid (hP.below S0.out.below)
 have K1 := Lib.hid (PrK.of b S0.out.below)
 have p2 := P1.out.cell2
 have pf := P1.out.fz 2
 have P2 := Lib.hid (P1.out.open (d + 1))
 have K2 := Lib.hid (K1.out.trans (prK_set b w1 2 (.int .i64 ((d + 1 : Nat) : Int))))
 have B2 := Lib.hid (HBW.out.trans (K2.out.below HBB.out HBL.out))
 have hc3 : (w1.setCell ⟨b, 2, none⟩ (.int .i64 ((d + 1 : Nat) : Int))).cell? ⟨w.heap.size, 3, none⟩ = some (.slice A m cap) := by
  rw [World.cell?_of_block (a := ⟨w.heap.size, 3, none⟩) (w := w1) (Below.heap_setCell _ _ _ _ (by have := HBL.out; show w.heap.size ≠ b; omega))]
  exact S0.out.c3
 have HI2 := Lib.hid (HI.out _ B2.out P2.out)
 have hsum : ((d : Int) + 1) = ((d + 1 : Nat) : Int) := by omega
 rw [<- hsum] at P2 K2 B2 hc3 HI2
 clear hT hok hk hp hbw hbb htb hP hlen eK en eq em HI
 have HS := Lib.hid hsum
 clear hsum
 subst ew1
 go_enter Tryz.func97, Tryz.ntmps97
 go_wp2_with fail
 (with_reducible refine (HI2.out).mono ?_)
 rintro e w2 ⟨rfl, hq2, hk2⟩
 have HQ2 := Lib.hid hq2
 have HK2 := Lib.hid (K2.out.trans hk2)
 have r2 : w2.cell? ⟨b, 2, none⟩ = some (.int .i64 ((d : Int) + 1)) := by rw [HS.out]; exact HQ2.out.cell2
 have rf := HQ2.out.fz 2
 have HF := Lib.hid (HQ2.out.open d)
 have HKF := Lib.hid (HK2.out.trans (prK_set b w2 2 (.int .i64 ((d : Nat) : Int))))
 clear hq2 hk2 HS
 go_wp2_with fail
 go_end0
 first
  | exact ⟨rfl, HF.out, HKF.out⟩
  | (rw [show (d : Int) + 1 - 1 = ((d : Nat) : Int) by omega]; exact ⟨rfl, HF.out, HKF.out⟩)
open Go.RowKit
theorem M.typeB_len {u : M.Tree} (h : M.typeB u = true) : (M.typeT u).length <= 64 := by
 have h2 := (of_decide_eq_true h).1.2.2.1
 have hn : ∀ i, i < 2 -> (u.kids.getD i M.Tree.no).num < 18446744073709551616 := fun i hi => by
  have h3 := (of_decide_eq_true h).1.2.2.2
  have h4 := List.all_eq_true.1 h3 _ (kid_mem (l := u.kids) (i := i) (by omega))
  have := (of_decide_eq_true h4).2.2.1
  omega
 exact M.typeT_len (hn 0 (by omega)) (hn 1 (by omega))
structure NX (w : World) (K : Int) (T : ByteArray) (n : Nat) (kv : Value) (W : World) : Prop extends NB w K T n kv W where
 nr : NoRow W w.heap.size
theorem NX.start (w : World) (K : Int) (T : ByteArray) (n : Nat) (kv : Value) : NX w K T n kv (w.alloc (.cells #[.int .i64 K, .string T, .int .u64 (n : Nat), kv] 25)) :=
 ⟨NB.start w K T n kv, fun cur e => by
  rw [heap_alloc_new] at e
  have := Option.some.inj e
  injection this with h1 h2
  exact absurd h2 (by decide)⟩
theorem NX.next {w : World} {K : Int} {T : ByteArray} {n : Nat} {kv : Value} {W W' : World} (h : NX w K T n kv W) (hb : Below W.heap.size W W') : NX w K T n kv W' :=
 ⟨h.toNB.next hb, fun cur => by rw [hb.block _ h.lt]; exact h.nr cur⟩
theorem NX.drew {w : World} {K : Int} {T : ByteArray} {n : Nat} {kv : Value} {W : World} (h : NX w K T n kv W) : NX w K T n kv W.drew := h.next (Below.refl _ _).drew
theorem pitem_4 (t : M.Tree) (hkind : t.kind = 4) (hwt : M.weight t <= 70368744177664) (hl : 0 < t.kids.length) (hX : ∀ i, i < t.kids.length -> ∀ v w, NodeV w v (t.kids.getD i M.Tree.no) -> Tab9 w -> TextC 95 (M.exprT (t.kids.getD i M.Tree.no)) #[v] w) : ItemP t := by
 intro wb w b lo d v hvb htb hbw hbb hP hlen
 have hv := hvb.below hbw
 have htab := htb.below hbw
 have hud := hud9
 obtain ⟨T, kv, rfl, hT, hok, hk⟩ := hv
 have hkb : KidsV wb kv t.kids := by
  obtain ⟨T', kv', e, _, _, h⟩ := hvb
  injection e with e
  have e' := congrArg Array.toList e
  simp at e'
  rw [e'.2]; exact h
 have hsz : T.size <= 70368744177664 := by have := M.weight_eq t; rw [<- M.bs_len, hT]; omega
 have hsz2 : 0 < t.kids.length -> T.size + 128 <= 70368744177664 := fun h => by have := M.weight_eq t; have := M.weight_mem (kid_mem (l := t.kids) (i := 0) h); have := M.weight_eq (t.kids.getD 0 M.Tree.no); rw [<- M.bs_len, hT]; omega
 obtain ⟨r, er⟩ : ∃ r, r = M.itemT t := ⟨_, rfl⟩
 rw [<- er] at hlen ⊢
 rw [M.itemT_eq] at er
 unfold M.itemW at er
 rw [if_neg (show ¬ t.kind = 2 by omega), if_neg (show ¬ t.kind = 3 by omega), if_pos hkind] at er
 obtain ⟨K, eK⟩ : ∃ K, K = t.kind := ⟨_, rfl⟩
 obtain ⟨tx, ex⟩ : ∃ x, x = t.text := ⟨_, rfl⟩
 obtain ⟨n, en⟩ : ∃ n, n = t.num := ⟨_, rfl⟩
 obtain ⟨l, el⟩ : ∃ l, l = t.kids := ⟨_, rfl⟩
 try rw [<- ex] at er
 try rw [<- en] at er
 try rw [<- el] at er
 rw [<- eK, <- en]
 rw [<- ex] at hT
 rw [<- el] at hk hkb hsz2 hl hX
 rw [<- eK] at hkind
 obtain ⟨A, cap, rfl, _⟩ := id hk
 have HBA := Lib.hid (show ∀ ba oa, A = some ⟨ba, oa, none⟩ -> 0 < l.length -> ba < b from fun ba oa e h => by
  obtain ⟨_, _, _, h3⟩ := hkb.kid
  obtain ⟨b', o', e', h4, _⟩ := h3 h
  rw [e] at e'; cases e'; omega)
 clear hkb
 have HTX := Lib.hid hT
 have HT0 := Lib.hid htab
 have HP := Lib.hid hP
 have HBL := Lib.hid hP.lt
 have HLEN := Lib.hid hlen
 have hn := hok.2.1
 rw [<- en] at hn
 have HOK := Lib.hid (show PartOk K n T by rw [eK, en]; exact hok)
 have S0 := Lib.hid (NX.start w K T n (.slice A l.length cap))
 have HKK := Lib.hid hk
 clear hT hok hk eK ex en el htab hvb htb hbw hbb hP hlen
 have gk2 : (K == 2) = false := by rw [beq_eq_false_iff_ne]; omega
 have gk3 : (K == 3) = false := by rw [beq_eq_false_iff_ne]; omega
 have gk4 : (K == 4) = true := by rw [beq_iff_eq]; omega
 have gk5 : (K == 5) = false := by rw [beq_eq_false_iff_ne]; omega
 have gk6 : (K == 6) = false := by rw [beq_eq_false_iff_ne]; omega
 have gk7 : (K == 7) = false := by rw [beq_eq_false_iff_ne]; omega
 have gk8 : (K == 8) = false := by rw [beq_eq_false_iff_ne]; omega
 have gk9 : (K == 9) = false := by rw [beq_eq_false_iff_ne]; omega
 clear hn
 clear hsz2
 obtain ⟨ba, oa, Ta, Aa, ma, cca, hAa, al, a0, a1, a2, a3, av⟩ := HKK.out.at 0 (by omega)
 cases hAa
 obtain ⟨ua, eua⟩ : ∃ u, u = l.getD 0 M.Tree.no := ⟨_, rfl⟩
 rw [<- eua] at a0 a2 av er
 obtain ⟨ka, eka⟩ : ∃ k, k = ua.kind := ⟨_, rfl⟩
 obtain ⟨na, ena⟩ : ∃ k, k = ua.num := ⟨_, rfl⟩
 rw [<- eka] at a0 av
 rw [<- ena] at a2 av
 simp only [show 0 * 4 = 0 from rfl, Nat.add_zero] at a0 a1 a2 a3
 have hia : 0 < l.length := by omega
 have Va := Lib.hid av
 have EaC := Lib.hid fun w' (hb : Below w.heap.size w w') => hX 0 hia _ w' (by rw [<- eua]; exact Va.out.below hb) (HT0.out.below hb)
 rw [<- eua] at EaC
 clear av eua eka ena
 obtain ⟨qa0, qa1, qa2, qa3⟩ := bel4 S0.out.below al a0 a1 a2 a3
 have HSC := Lib.hid fun W' (h : NX w K T n (.slice (some ⟨ba, oa, none⟩) l.length cap) W') => (show W'.cell? ⟨w.heap.size, 0, none⟩ = some (.int .i64 K) /\ W'.cell? ⟨w.heap.size, 1, none⟩ = some (.string T) /\ W'.cell? ⟨w.heap.size, 2, none⟩ = some (.int .u64 (n : Nat)) /\ W'.cell? ⟨w.heap.size, 3, none⟩ = some (.slice (some ⟨ba, oa, none⟩) l.length cap) /\ W'.cell? ⟨ba, oa, none⟩ = some (.int .i64 ka) /\ W'.cell? ⟨ba, oa + 1, none⟩ = some (.string Ta) /\ W'.cell? ⟨ba, oa + 2, none⟩ = some (.int .u64 (na : Nat)) /\ W'.cell? ⟨ba, oa + 3, none⟩ = some (.slice Aa ma cca) from ⟨h.c0, h.c1, h.c2, h.c3, (h.below.cell (p := ⟨_, _, none⟩) al).trans a0, (h.below.cell (p := ⟨_, _, none⟩) al).trans a1, (h.below.cell (p := ⟨_, _, none⟩) al).trans a2, (h.below.cell (p := ⟨_, _, none⟩) al).trans a3⟩)
 have hba : ba < b := HBA.out ba oa rfl hia
 have HSL := Lib.hid fun W1 W' (hk : PrK b W1 W') (hw : w.heap.size < W1.heap.size) (hr : NoRow W1 w.heap.size) (h : (fun W' => W'.cell? ⟨w.heap.size, 0, none⟩ = some (.int .i64 K) /\ W'.cell? ⟨w.heap.size, 1, none⟩ = some (.string T) /\ W'.cell? ⟨w.heap.size, 2, none⟩ = some (.int .u64 (n : Nat)) /\ W'.cell? ⟨w.heap.size, 3, none⟩ = some (.slice (some ⟨ba, oa, none⟩) l.length cap) /\ W'.cell? ⟨ba, oa, none⟩ = some (.int .i64 ka) /\ W'.cell? ⟨ba, oa + 1, none⟩ = some (.string Ta) /\ W'.cell? ⟨ba, oa + 2, none⟩ = some (.int .u64 (na : Nat)) /\ W'.cell? ⟨ba, oa + 3, none⟩ = some (.slice Aa ma cca)) W1) => (show W'.cell? ⟨w.heap.size, 0, none⟩ = some (.int .i64 K) /\ W'.cell? ⟨w.heap.size, 1, none⟩ = some (.string T) /\ W'.cell? ⟨w.heap.size, 2, none⟩ = some (.int .u64 (n : Nat)) /\ W'.cell? ⟨w.heap.size, 3, none⟩ = some (.slice (some ⟨ba, oa, none⟩) l.length cap) /\ W'.cell? ⟨ba, oa, none⟩ = some (.int .i64 ka) /\ W'.cell? ⟨ba, oa + 1, none⟩ = some (.string Ta) /\ W'.cell? ⟨ba, oa + 2, none⟩ = some (.int .u64 (na : Nat)) /\ W'.cell? ⟨ba, oa + 3, none⟩ = some (.slice Aa ma cca) from by
  have e : ∀ j, W'.cell? ⟨w.heap.size, j, none⟩ = W1.cell? ⟨w.heap.size, j, none⟩ := hk.cell hw (by have := HBL.out; omega) (.inr hr)
  have e2 : ∀ j, W'.cell? ⟨ba, j, none⟩ = W1.cell? ⟨ba, j, none⟩ := hk.cell (by have := HBL.out; omega) (by omega) (.inl hba)
  simp only [e, e2]
  exact h)
 have ER := Lib.hid er
 clear er hkind hwt hX
 go_enter Tryz.func47, Tryz.ntmps47
 go_wp2_with fail
 have D0 := Lib.hid S0.out.drew
 try dsimp only [List.append]
 refine wp_region_ord (S := fun W' => W'.cell? ⟨w.heap.size, 0, none⟩ = some (.int .i64 K) /\ W'.cell? ⟨w.heap.size, 1, none⟩ = some (.string T) /\ W'.cell? ⟨w.heap.size, 2, none⟩ = some (.int .u64 (n : Nat)) /\ W'.cell? ⟨w.heap.size, 3, none⟩ = some (.slice (some ⟨ba, oa, none⟩) l.length cap) /\ W'.cell? ⟨ba, oa, none⟩ = some (.int .i64 ka) /\ W'.cell? ⟨ba, oa + 1, none⟩ = some (.string Ta) /\ W'.cell? ⟨ba, oa + 2, none⟩ = some (.int .u64 (na : Nat)) /\ W'.cell? ⟨ba, oa + 3, none⟩ = some (.slice Aa ma cca)) [0, 1, 2, 3, 4, 5, 6, 7, 8, 9] (by kernel_rfl) (by kernel_rfl) (by kernel_rfl) (fun _ _ _ _ _ h => h) ?_ ?_
 ·exact HSC.out _ D0.out
 repeat (first
  | (refine OrdH.pass (by rfl) (by rfl) ?_; (try simp only [Act.put, List.setIfInBounds_toArray, List.set_cons_zero, List.set_cons_succ]))
  | (refine OrdH.yield (v := ?_) (by rfl) (by rfl) ?_ ?_; rotate_left 1; (· intro w hSw; (try dsimp only at hSw); go_simp; (try rw [if_neg (by first | omega | (simp only [M.size_app]; omega))]); (try rw [if_pos (by omega)]); try with_reducible rfl); (try simp only [Act.put, List.setIfInBounds_toArray, List.set_cons_zero, List.set_cons_succ]))
  | (refine OrdH.alone (by rfl) (by rfl) (by kernel_rfl) (fun KK hKK => ?_); go_simp; (first | (go_at_call 95; (with_reducible refine (EaC.out _ D0.out.below).mono ?_); rintro e w1 ⟨Xa, rfl, hXa, hza, hb⟩; have D1 := Lib.hid (D0.out.next hb); have Ea := Lib.hid hXa; clear hb hXa)); go_wp2_with fail; refine hKK.out _ _ ?_ (fun hHeld => ?_); (· (first | exact HSC.out _ D1.out | exact HSC.out _ D0.out)); clear hKK KK hHeld; (try simp only [Act.put, List.setIfInBounds_toArray, List.set_cons_zero, List.set_cons_succ]))
  | (refine OrdH.alone (by rfl) (by rfl) (by kernel_rfl) (fun KK hKK => ?_); go_simp; (try go_wp2_with fail); have D2 := Lib.hid (D1.out.next ((Below.refl _ _).alloc (Nat.le_refl _) (.cells #[.string T, .string ⟨#[32, 61, 32]⟩, .string Xa, .string ⟨#[59]⟩] 9))); have HQ := Lib.hid (show (List.map M.bs [T, ⟨#[32, 61, 32]⟩, Xa, ⟨#[59]⟩]).flatten = tx ++ [32, 61, 32] ++ M.exprT ua ++ [59] by simp only [List.map_cons, List.map_nil, List.flatten_cons, List.flatten_nil, List.append_nil, List.append_assoc, HTX.out, Ea.out]; rfl); refine hKK.out _ _ ?_ (fun hHeld => ?_); (· exact HSC.out _ D2.out); clear hKK KK hHeld; (try simp only [Act.put, List.setIfInBounds_toArray, List.set_cons_zero, List.set_cons_succ])))
 refine OrdH.alone (by rfl) (by rfl) (by kernel_rfl) (fun KK hKK => ?_)
 go_simp
 go_at_call 92
 refine (line10_any b lo d [T, ⟨#[32, 61, 32]⟩, Xa, ⟨#[59]⟩] w1.heap.size _ (HP.out.below D2.out.below) (fun j hj => by rcases (show j = 0 \/ j = 1 \/ j = 2 \/ j = 3 by simp at hj; omega) with rfl | rfl | rfl | rfl <;> simp) (by simp) (by have := D1.out.below.size; have := HBL.out; omega) (noRow_strs _ _) (by simp) (by rw [HQ.out]; have := HLEN.out; rw [ER.out, M.textL_one] at this; omega)).mono ?_
 rintro e w9 ⟨rfl, hPP, hK9⟩
 rw [HQ.out] at hPP
 have PP := Lib.hid hPP
 have K9 := Lib.hid hK9
 clear hPP hK9
 go_wp2_with fail
 refine hKK.out _ _ ?_ (fun hHeld => ?_)
 ·exact HSL.out _ _ K9.out D2.out.lt D2.out.nr (HSC.out _ D2.out)
 clear hKK KK hHeld
 (try simp only [Act.put, List.setIfInBounds_toArray, List.set_cons_zero, List.set_cons_succ])
 refine OrdH.nil ?_
 go_wp2_with fail
 go_end0
 exact ⟨rfl, by rw [ER.out, M.textL_one]; exact PP.out, (PrK.of b (D2.out.below)).trans K9.out⟩
theorem pitem_3 (t : M.Tree) (hkind : t.kind = 3) (hwt : M.weight t <= 70368744177664) (hl : 0 < t.kids.length) (hX : ∀ i, i < t.kids.length -> ∀ v w, NodeV w v (t.kids.getD i M.Tree.no) -> Tab9 w -> TextC 95 (M.exprT (t.kids.getD i M.Tree.no)) #[v] w) : ItemP t := by
 intro wb w b lo d v hvb htb hbw hbb hP hlen
 have hv := hvb.below hbw
 have htab := htb.below hbw
 have hud := hud9
 obtain ⟨T, kv, rfl, hT, hok, hk⟩ := hv
 have hkb : KidsV wb kv t.kids := by
  obtain ⟨T', kv', e, _, _, h⟩ := hvb
  injection e with e
  have e' := congrArg Array.toList e
  simp at e'
  rw [e'.2]; exact h
 have hsz : T.size <= 70368744177664 := by have := M.weight_eq t; rw [<- M.bs_len, hT]; omega
 have hsz2 : 0 < t.kids.length -> T.size + 128 <= 70368744177664 := fun h => by have := M.weight_eq t; have := M.weight_mem (kid_mem (l := t.kids) (i := 0) h); have := M.weight_eq (t.kids.getD 0 M.Tree.no); rw [<- M.bs_len, hT]; omega
 obtain ⟨r, er⟩ : ∃ r, r = M.itemT t := ⟨_, rfl⟩
 rw [<- er] at hlen ⊢
 rw [M.itemT_eq] at er
 unfold M.itemW at er
 rw [if_neg (show ¬ t.kind = 2 by omega), if_pos hkind] at er
 obtain ⟨K, eK⟩ : ∃ K, K = t.kind := ⟨_, rfl⟩
 obtain ⟨tx, ex⟩ : ∃ x, x = t.text := ⟨_, rfl⟩
 obtain ⟨n, en⟩ : ∃ n, n = t.num := ⟨_, rfl⟩
 obtain ⟨l, el⟩ : ∃ l, l = t.kids := ⟨_, rfl⟩
 try rw [<- ex] at er
 try rw [<- en] at er
 try rw [<- el] at er
 rw [<- eK, <- en]
 rw [<- ex] at hT
 rw [<- el] at hk hkb hsz2 hl hX
 rw [<- eK] at hkind
 obtain ⟨A, cap, rfl, _⟩ := id hk
 have HBA := Lib.hid (show ∀ ba oa, A = some ⟨ba, oa, none⟩ -> 0 < l.length -> ba < b from fun ba oa e h => by
  obtain ⟨_, _, _, h3⟩ := hkb.kid
  obtain ⟨b', o', e', h4, _⟩ := h3 h
  rw [e] at e'; cases e'; omega)
 clear hkb
 have HTX := Lib.hid hT
 have HT0 := Lib.hid htab
 have HP := Lib.hid hP
 have HBL := Lib.hid hP.lt
 have HLEN := Lib.hid hlen
 have hn := hok.2.1
 rw [<- en] at hn
 have HOK := Lib.hid (show PartOk K n T by rw [eK, en]; exact hok)
 have S0 := Lib.hid (NX.start w K T n (.slice A l.length cap))
 have HKK := Lib.hid hk
 clear hT hok hk eK ex en el htab hvb htb hbw hbb hP hlen
 have gk2 : (K == 2) = false := by rw [beq_eq_false_iff_ne]; omega
 have gk3 : (K == 3) = true := by rw [beq_iff_eq]; omega
 have gk4 : (K == 4) = false := by rw [beq_eq_false_iff_ne]; omega
 have gk5 : (K == 5) = false := by rw [beq_eq_false_iff_ne]; omega
 have gk6 : (K == 6) = false := by rw [beq_eq_false_iff_ne]; omega
 have gk7 : (K == 7) = false := by rw [beq_eq_false_iff_ne]; omega
 have gk8 : (K == 8) = false := by rw [beq_eq_false_iff_ne]; omega
 have gk9 : (K == 9) = false := by rw [beq_eq_false_iff_ne]; omega
 clear hn
 clear hsz2
 obtain ⟨ba, oa, Ta, Aa, ma, cca, hAa, al, a0, a1, a2, a3, av⟩ := HKK.out.at 0 (by omega)
 cases hAa
 obtain ⟨ua, eua⟩ : ∃ u, u = l.getD 0 M.Tree.no := ⟨_, rfl⟩
 rw [<- eua] at a0 a2 av er
 obtain ⟨ka, eka⟩ : ∃ k, k = ua.kind := ⟨_, rfl⟩
 obtain ⟨na, ena⟩ : ∃ k, k = ua.num := ⟨_, rfl⟩
 rw [<- eka] at a0 av
 rw [<- ena] at a2 av
 simp only [show 0 * 4 = 0 from rfl, Nat.add_zero] at a0 a1 a2 a3
 have hia : 0 < l.length := by omega
 have Va := Lib.hid av
 have EaC := Lib.hid fun w' (hb : Below w.heap.size w w') => hX 0 hia _ w' (by rw [<- eua]; exact Va.out.below hb) (HT0.out.below hb)
 rw [<- eua] at EaC
 clear av eua eka ena
 obtain ⟨qa0, qa1, qa2, qa3⟩ := bel4 S0.out.below al a0 a1 a2 a3
 have HSC := Lib.hid fun W' (h : NX w K T n (.slice (some ⟨ba, oa, none⟩) l.length cap) W') => (show W'.cell? ⟨w.heap.size, 0, none⟩ = some (.int .i64 K) /\ W'.cell? ⟨w.heap.size, 1, none⟩ = some (.string T) /\ W'.cell? ⟨w.heap.size, 2, none⟩ = some (.int .u64 (n : Nat)) /\ W'.cell? ⟨w.heap.size, 3, none⟩ = some (.slice (some ⟨ba, oa, none⟩) l.length cap) /\ W'.cell? ⟨ba, oa, none⟩ = some (.int .i64 ka) /\ W'.cell? ⟨ba, oa + 1, none⟩ = some (.string Ta) /\ W'.cell? ⟨ba, oa + 2, none⟩ = some (.int .u64 (na : Nat)) /\ W'.cell? ⟨ba, oa + 3, none⟩ = some (.slice Aa ma cca) from ⟨h.c0, h.c1, h.c2, h.c3, (h.below.cell (p := ⟨_, _, none⟩) al).trans a0, (h.below.cell (p := ⟨_, _, none⟩) al).trans a1, (h.below.cell (p := ⟨_, _, none⟩) al).trans a2, (h.below.cell (p := ⟨_, _, none⟩) al).trans a3⟩)
 have hba : ba < b := HBA.out ba oa rfl hia
 have HSL := Lib.hid fun W1 W' (hk : PrK b W1 W') (hw : w.heap.size < W1.heap.size) (hr : NoRow W1 w.heap.size) (h : (fun W' => W'.cell? ⟨w.heap.size, 0, none⟩ = some (.int .i64 K) /\ W'.cell? ⟨w.heap.size, 1, none⟩ = some (.string T) /\ W'.cell? ⟨w.heap.size, 2, none⟩ = some (.int .u64 (n : Nat)) /\ W'.cell? ⟨w.heap.size, 3, none⟩ = some (.slice (some ⟨ba, oa, none⟩) l.length cap) /\ W'.cell? ⟨ba, oa, none⟩ = some (.int .i64 ka) /\ W'.cell? ⟨ba, oa + 1, none⟩ = some (.string Ta) /\ W'.cell? ⟨ba, oa + 2, none⟩ = some (.int .u64 (na : Nat)) /\ W'.cell? ⟨ba, oa + 3, none⟩ = some (.slice Aa ma cca)) W1) => (show W'.cell? ⟨w.heap.size, 0, none⟩ = some (.int .i64 K) /\ W'.cell? ⟨w.heap.size, 1, none⟩ = some (.string T) /\ W'.cell? ⟨w.heap.size, 2, none⟩ = some (.int .u64 (n : Nat)) /\ W'.cell? ⟨w.heap.size, 3, none⟩ = some (.slice (some ⟨ba, oa, none⟩) l.length cap) /\ W'.cell? ⟨ba, oa, none⟩ = some (.int .i64 ka) /\ W'.cell? ⟨ba, oa + 1, none⟩ = some (.string Ta) /\ W'.cell? ⟨ba, oa + 2, none⟩ = some (.int .u64 (na : Nat)) /\ W'.cell? ⟨ba, oa + 3, none⟩ = some (.slice Aa ma cca) from by
  have e : ∀ j, W'.cell? ⟨w.heap.size, j, none⟩ = W1.cell? ⟨w.heap.size, j, none⟩ := hk.cell hw (by have := HBL.out; omega) (.inr hr)
  have e2 : ∀ j, W'.cell? ⟨ba, j, none⟩ = W1.cell? ⟨ba, j, none⟩ := hk.cell (by have := HBL.out; omega) (by omega) (.inl hba)
  simp only [e, e2]
  exact h)
 have ER := Lib.hid er
 clear er hkind hwt hX
 go_enter Tryz.func47, Tryz.ntmps47
 go_wp2_with fail
 have D0 := Lib.hid S0.out.drew
 try dsimp only [List.append]
 refine wp_region_ord (S := fun W' => W'.cell? ⟨w.heap.size, 0, none⟩ = some (.int .i64 K) /\ W'.cell? ⟨w.heap.size, 1, none⟩ = some (.string T) /\ W'.cell? ⟨w.heap.size, 2, none⟩ = some (.int .u64 (n : Nat)) /\ W'.cell? ⟨w.heap.size, 3, none⟩ = some (.slice (some ⟨ba, oa, none⟩) l.length cap) /\ W'.cell? ⟨ba, oa, none⟩ = some (.int .i64 ka) /\ W'.cell? ⟨ba, oa + 1, none⟩ = some (.string Ta) /\ W'.cell? ⟨ba, oa + 2, none⟩ = some (.int .u64 (na : Nat)) /\ W'.cell? ⟨ba, oa + 3, none⟩ = some (.slice Aa ma cca)) [0, 1, 2, 3, 4, 5, 6, 7, 8, 9] (by kernel_rfl) (by kernel_rfl) (by kernel_rfl) (fun _ _ _ _ _ h => h) ?_ ?_
 ·exact HSC.out _ D0.out
 repeat (first
  | (refine OrdH.pass (by rfl) (by rfl) ?_; (try simp only [Act.put, List.setIfInBounds_toArray, List.set_cons_zero, List.set_cons_succ]))
  | (refine OrdH.yield (v := ?_) (by rfl) (by rfl) ?_ ?_; rotate_left 1; (· intro w hSw; (try dsimp only at hSw); go_simp; (try rw [if_neg (by first | omega | (simp only [M.size_app]; omega))]); (try rw [if_pos (by omega)]); try with_reducible rfl); (try simp only [Act.put, List.setIfInBounds_toArray, List.set_cons_zero, List.set_cons_succ]))
  | (refine OrdH.alone (by rfl) (by rfl) (by kernel_rfl) (fun KK hKK => ?_); go_simp; (first | (go_at_call 95; (with_reducible refine (EaC.out _ D0.out.below).mono ?_); rintro e w1 ⟨Xa, rfl, hXa, hza, hb⟩; have D1 := Lib.hid (D0.out.next hb); have Ea := Lib.hid hXa; clear hb hXa)); go_wp2_with fail; refine hKK.out _ _ ?_ (fun hHeld => ?_); (· (first | exact HSC.out _ D1.out | exact HSC.out _ D0.out)); clear hKK KK hHeld; (try simp only [Act.put, List.setIfInBounds_toArray, List.set_cons_zero, List.set_cons_succ]))
  | (refine OrdH.alone (by rfl) (by rfl) (by kernel_rfl) (fun KK hKK => ?_); go_simp; (try go_wp2_with fail); have D2 := Lib.hid (D1.out.next ((Below.refl _ _).alloc (Nat.le_refl _) (.cells #[.string ⟨#[108, 101, 116, 32]⟩, .string T, .string ⟨#[32, 61, 32]⟩, .string Xa, .string ⟨#[59]⟩] 9))); have HQ := Lib.hid (show (List.map M.bs [⟨#[108, 101, 116, 32]⟩, T, ⟨#[32, 61, 32]⟩, Xa, ⟨#[59]⟩]).flatten = [108, 101, 116, 32] ++ tx ++ [32, 61, 32] ++ M.exprT ua ++ [59] by simp only [List.map_cons, List.map_nil, List.flatten_cons, List.flatten_nil, List.append_nil, List.append_assoc, HTX.out, Ea.out]; rfl); refine hKK.out _ _ ?_ (fun hHeld => ?_); (· exact HSC.out _ D2.out); clear hKK KK hHeld; (try simp only [Act.put, List.setIfInBounds_toArray, List.set_cons_zero, List.set_cons_succ])))
 refine OrdH.alone (by rfl) (by rfl) (by kernel_rfl) (fun KK hKK => ?_)
 go_simp
 go_at_call 92
 refine (line10_any b lo d [⟨#[108, 101, 116, 32]⟩, T, ⟨#[32, 61, 32]⟩, Xa, ⟨#[59]⟩] w1.heap.size _ (HP.out.below D2.out.below) (fun j hj => by rcases (show j = 0 \/ j = 1 \/ j = 2 \/ j = 3 \/ j = 4 by simp at hj; omega) with rfl | rfl | rfl | rfl | rfl <;> simp) (by simp) (by have := D1.out.below.size; have := HBL.out; omega) (noRow_strs _ _) (by simp) (by rw [HQ.out]; have := HLEN.out; rw [ER.out, M.textL_one] at this; omega)).mono ?_
 rintro e w9 ⟨rfl, hPP, hK9⟩
 rw [HQ.out] at hPP
 have PP := Lib.hid hPP
 have K9 := Lib.hid hK9
 clear hPP hK9
 go_wp2_with fail
 refine hKK.out _ _ ?_ (fun hHeld => ?_)
 ·exact HSL.out _ _ K9.out D2.out.lt D2.out.nr (HSC.out _ D2.out)
 clear hKK KK hHeld
 (try simp only [Act.put, List.setIfInBounds_toArray, List.set_cons_zero, List.set_cons_succ])
 refine OrdH.nil ?_
 go_wp2_with fail
 go_end0
 exact ⟨rfl, by rw [ER.out, M.textL_one]; exact PP.out, (PrK.of b (D2.out.below)).trans K9.out⟩
theorem pitem_5 (t : M.Tree) (hkind : t.kind = 5) (hwt : M.weight t <= 70368744177664) (hl : 1 < t.kids.length) (hX : ∀ i, i < t.kids.length -> ∀ v w, NodeV w v (t.kids.getD i M.Tree.no) -> Tab9 w -> TextC 95 (M.exprT (t.kids.getD i M.Tree.no)) #[v] w) : ItemP t := by
 intro wb w b lo d v hvb htb hbw hbb hP hlen
 have hv := hvb.below hbw
 have htab := htb.below hbw
 have hud := hud9
 obtain ⟨T, kv, rfl, hT, hok, hk⟩ := hv
 have hkb : KidsV wb kv t.kids := by
  obtain ⟨T', kv', e, _, _, h⟩ := hvb
  injection e with e
  have e' := congrArg Array.toList e
  simp at e'
  rw [e'.2]; exact h
 have hsz : T.size <= 70368744177664 := by have := M.weight_eq t; rw [<- M.bs_len, hT]; omega
 have hsz2 : 0 < t.kids.length -> T.size + 128 <= 70368744177664 := fun h => by have := M.weight_eq t; have := M.weight_mem (kid_mem (l := t.kids) (i := 0) h); have := M.weight_eq (t.kids.getD 0 M.Tree.no); rw [<- M.bs_len, hT]; omega
 obtain ⟨r, er⟩ : ∃ r, r = M.itemT t := ⟨_, rfl⟩
 rw [<- er] at hlen ⊢
 rw [M.itemT_eq] at er
 unfold M.itemW at er
 rw [if_neg (show ¬ t.kind = 2 by omega), if_neg (show ¬ t.kind = 3 by omega), if_neg (show ¬ t.kind = 4 by omega), if_pos hkind] at er
 obtain ⟨K, eK⟩ : ∃ K, K = t.kind := ⟨_, rfl⟩
 obtain ⟨tx, ex⟩ : ∃ x, x = t.text := ⟨_, rfl⟩
 obtain ⟨n, en⟩ : ∃ n, n = t.num := ⟨_, rfl⟩
 obtain ⟨l, el⟩ : ∃ l, l = t.kids := ⟨_, rfl⟩
 try rw [<- ex] at er
 try rw [<- en] at er
 try rw [<- el] at er
 rw [<- eK, <- en]
 rw [<- ex] at hT
 rw [<- el] at hk hkb hsz2 hl hX
 rw [<- eK] at hkind
 obtain ⟨A, cap, rfl, _⟩ := id hk
 have HBA := Lib.hid (show ∀ ba oa, A = some ⟨ba, oa, none⟩ -> 0 < l.length -> ba < b from fun ba oa e h => by
  obtain ⟨_, _, _, h3⟩ := hkb.kid
  obtain ⟨b', o', e', h4, _⟩ := h3 h
  rw [e] at e'; cases e'; omega)
 clear hkb
 have HTX := Lib.hid hT
 have HT0 := Lib.hid htab
 have HP := Lib.hid hP
 have HBL := Lib.hid hP.lt
 have HLEN := Lib.hid hlen
 have hn := hok.2.1
 rw [<- en] at hn
 have HOK := Lib.hid (show PartOk K n T by rw [eK, en]; exact hok)
 have S0 := Lib.hid (NX.start w K T n (.slice A l.length cap))
 have HKK := Lib.hid hk
 clear hT hok hk eK ex en el htab hvb htb hbw hbb hP hlen
 have gk2 : (K == 2) = false := by rw [beq_eq_false_iff_ne]; omega
 have gk3 : (K == 3) = false := by rw [beq_eq_false_iff_ne]; omega
 have gk4 : (K == 4) = false := by rw [beq_eq_false_iff_ne]; omega
 have gk5 : (K == 5) = true := by rw [beq_iff_eq]; omega
 have gk6 : (K == 6) = false := by rw [beq_eq_false_iff_ne]; omega
 have gk7 : (K == 7) = false := by rw [beq_eq_false_iff_ne]; omega
 have gk8 : (K == 8) = false := by rw [beq_eq_false_iff_ne]; omega
 have gk9 : (K == 9) = false := by rw [beq_eq_false_iff_ne]; omega
 clear hn
 clear hsz2
 obtain ⟨ba, oa, Ta, Aa, ma, cca, hAa, al, a0, a1, a2, a3, av⟩ := HKK.out.at 0 (by omega)
 cases hAa
 obtain ⟨ua, eua⟩ : ∃ u, u = l.getD 0 M.Tree.no := ⟨_, rfl⟩
 rw [<- eua] at a0 a2 av er
 obtain ⟨ka, eka⟩ : ∃ k, k = ua.kind := ⟨_, rfl⟩
 obtain ⟨na, ena⟩ : ∃ k, k = ua.num := ⟨_, rfl⟩
 rw [<- eka] at a0 av
 rw [<- ena] at a2 av
 simp only [show 0 * 4 = 0 from rfl, Nat.add_zero] at a0 a1 a2 a3
 have hia : 0 < l.length := by omega
 have Va := Lib.hid av
 have EaC := Lib.hid fun w' (hb : Below w.heap.size w w') => hX 0 hia _ w' (by rw [<- eua]; exact Va.out.below hb) (HT0.out.below hb)
 rw [<- eua] at EaC
 clear av eua eka ena
 obtain ⟨qa0, qa1, qa2, qa3⟩ := bel4 S0.out.below al a0 a1 a2 a3
 obtain ⟨bb, ob, Tb, Ab, mb, ccb, hAb, bl, b0, b1, b2, b3, bv⟩ := HKK.out.at 1 (by omega)
 cases hAb
 obtain ⟨ub, eub⟩ : ∃ u, u = l.getD 1 M.Tree.no := ⟨_, rfl⟩
 rw [<- eub] at b0 b2 bv er
 obtain ⟨kb, ekb⟩ : ∃ k, k = ub.kind := ⟨_, rfl⟩
 obtain ⟨nb, enb⟩ : ∃ k, k = ub.num := ⟨_, rfl⟩
 rw [<- ekb] at b0 bv
 rw [<- enb] at b2 bv
 simp only [show 1 * 4 = 4 from rfl] at b0 b1 b2 b3
 have hib : 1 < l.length := by omega
 have Vb := Lib.hid bv
 have EbC := Lib.hid fun w' (hb : Below w.heap.size w w') => hX 1 hib _ w' (by rw [<- eub]; exact Vb.out.below hb) (HT0.out.below hb)
 rw [<- eub] at EbC
 clear bv eub ekb enb
 obtain ⟨qb0, qb1, qb2, qb3⟩ := bel4 S0.out.below bl b0 b1 b2 b3
 have HSC := Lib.hid fun W' (h : NX w K T n (.slice (some ⟨ba, oa, none⟩) l.length cap) W') => (show W'.cell? ⟨w.heap.size, 0, none⟩ = some (.int .i64 K) /\ W'.cell? ⟨w.heap.size, 1, none⟩ = some (.string T) /\ W'.cell? ⟨w.heap.size, 2, none⟩ = some (.int .u64 (n : Nat)) /\ W'.cell? ⟨w.heap.size, 3, none⟩ = some (.slice (some ⟨ba, oa, none⟩) l.length cap) /\ W'.cell? ⟨ba, oa, none⟩ = some (.int .i64 ka) /\ W'.cell? ⟨ba, oa + 1, none⟩ = some (.string Ta) /\ W'.cell? ⟨ba, oa + 2, none⟩ = some (.int .u64 (na : Nat)) /\ W'.cell? ⟨ba, oa + 3, none⟩ = some (.slice Aa ma cca) /\ W'.cell? ⟨ba, oa + 4, none⟩ = some (.int .i64 kb) /\ W'.cell? ⟨ba, oa + 4 + 1, none⟩ = some (.string Tb) /\ W'.cell? ⟨ba, oa + 4 + 2, none⟩ = some (.int .u64 (nb : Nat)) /\ W'.cell? ⟨ba, oa + 4 + 3, none⟩ = some (.slice Ab mb ccb) from ⟨h.c0, h.c1, h.c2, h.c3, (h.below.cell (p := ⟨_, _, none⟩) al).trans a0, (h.below.cell (p := ⟨_, _, none⟩) al).trans a1, (h.below.cell (p := ⟨_, _, none⟩) al).trans a2, (h.below.cell (p := ⟨_, _, none⟩) al).trans a3, (h.below.cell (p := ⟨_, _, none⟩) bl).trans b0, (h.below.cell (p := ⟨_, _, none⟩) bl).trans b1, (h.below.cell (p := ⟨_, _, none⟩) bl).trans b2, (h.below.cell (p := ⟨_, _, none⟩) bl).trans b3⟩)
 have hba : ba < b := HBA.out ba oa rfl hia
 have HSL := Lib.hid fun W1 W' (hk : PrK b W1 W') (hw : w.heap.size < W1.heap.size) (hr : NoRow W1 w.heap.size) (h : (fun W' => W'.cell? ⟨w.heap.size, 0, none⟩ = some (.int .i64 K) /\ W'.cell? ⟨w.heap.size, 1, none⟩ = some (.string T) /\ W'.cell? ⟨w.heap.size, 2, none⟩ = some (.int .u64 (n : Nat)) /\ W'.cell? ⟨w.heap.size, 3, none⟩ = some (.slice (some ⟨ba, oa, none⟩) l.length cap) /\ W'.cell? ⟨ba, oa, none⟩ = some (.int .i64 ka) /\ W'.cell? ⟨ba, oa + 1, none⟩ = some (.string Ta) /\ W'.cell? ⟨ba, oa + 2, none⟩ = some (.int .u64 (na : Nat)) /\ W'.cell? ⟨ba, oa + 3, none⟩ = some (.slice Aa ma cca) /\ W'.cell? ⟨ba, oa + 4, none⟩ = some (.int .i64 kb) /\ W'.cell? ⟨ba, oa + 4 + 1, none⟩ = some (.string Tb) /\ W'.cell? ⟨ba, oa + 4 + 2, none⟩ = some (.int .u64 (nb : Nat)) /\ W'.cell? ⟨ba, oa + 4 + 3, none⟩ = some (.slice Ab mb ccb)) W1) => (show W'.cell? ⟨w.heap.size, 0, none⟩ = some (.int .i64 K) /\ W'.cell? ⟨w.heap.size, 1, none⟩ = some (.string T) /\ W'.cell? ⟨w.heap.size, 2, none⟩ = some (.int .u64 (n : Nat)) /\ W'.cell? ⟨w.heap.size, 3, none⟩ = some (.slice (some ⟨ba, oa, none⟩) l.length cap) /\ W'.cell? ⟨ba, oa, none⟩ = some (.int .i64 ka) /\ W'.cell? ⟨ba, oa + 1, none⟩ = some (.string Ta) /\ W'.cell? ⟨ba, oa + 2, none⟩ = some (.int .u64 (na : Nat)) /\ W'.cell? ⟨ba, oa + 3, none⟩ = some (.slice Aa ma cca) /\ W'.cell? ⟨ba, oa + 4, none⟩ = some (.int .i64 kb) /\ W'.cell? ⟨ba, oa + 4 + 1, none⟩ = some (.string Tb) /\ W'.cell? ⟨ba, oa + 4 + 2, none⟩ = some (.int .u64 (nb : Nat)) /\ W'.cell? ⟨ba, oa + 4 + 3, none⟩ = some (.slice Ab mb ccb) from by
  have e : ∀ j, W'.cell? ⟨w.heap.size, j, none⟩ = W1.cell? ⟨w.heap.size, j, none⟩ := hk.cell hw (by have := HBL.out; omega) (.inr hr)
  have e2 : ∀ j, W'.cell? ⟨ba, j, none⟩ = W1.cell? ⟨ba, j, none⟩ := hk.cell (by have := HBL.out; omega) (by omega) (.inl hba)
  simp only [e, e2]
  exact h)
 have ER := Lib.hid er
 clear er hkind hwt hX
 go_enter Tryz.func47, Tryz.ntmps47
 go_wp2_with fail
 have D0 := Lib.hid S0.out.drew
 try dsimp only [List.append]
 refine wp_region_ord (S := fun W' => W'.cell? ⟨w.heap.size, 0, none⟩ = some (.int .i64 K) /\ W'.cell? ⟨w.heap.size, 1, none⟩ = some (.string T) /\ W'.cell? ⟨w.heap.size, 2, none⟩ = some (.int .u64 (n : Nat)) /\ W'.cell? ⟨w.heap.size, 3, none⟩ = some (.slice (some ⟨ba, oa, none⟩) l.length cap) /\ W'.cell? ⟨ba, oa, none⟩ = some (.int .i64 ka) /\ W'.cell? ⟨ba, oa + 1, none⟩ = some (.string Ta) /\ W'.cell? ⟨ba, oa + 2, none⟩ = some (.int .u64 (na : Nat)) /\ W'.cell? ⟨ba, oa + 3, none⟩ = some (.slice Aa ma cca) /\ W'.cell? ⟨ba, oa + 4, none⟩ = some (.int .i64 kb) /\ W'.cell? ⟨ba, oa + 4 + 1, none⟩ = some (.string Tb) /\ W'.cell? ⟨ba, oa + 4 + 2, none⟩ = some (.int .u64 (nb : Nat)) /\ W'.cell? ⟨ba, oa + 4 + 3, none⟩ = some (.slice Ab mb ccb)) [0, 1, 2, 3, 4, 5, 6, 8, 9, 10, 11, 7, 12, 13, 14] (by kernel_rfl) (by kernel_rfl) (by kernel_rfl) (fun _ _ _ _ _ h => h) ?_ ?_
 ·exact HSC.out _ D0.out
 repeat (first
  | (refine OrdH.pass (by rfl) (by rfl) ?_; (try simp only [Act.put, List.setIfInBounds_toArray, List.set_cons_zero, List.set_cons_succ]))
  | (refine OrdH.yield (v := ?_) (by rfl) (by rfl) ?_ ?_; rotate_left 1; (· intro w hSw; (try dsimp only at hSw); go_simp; (try rw [if_neg (by first | omega | (simp only [M.size_app]; omega))]); (try rw [if_pos (by omega)]); try with_reducible rfl); (try simp only [Act.put, List.setIfInBounds_toArray, List.set_cons_zero, List.set_cons_succ]))
  | (refine OrdH.alone (by rfl) (by rfl) (by kernel_rfl) (fun KK hKK => ?_); go_simp; (first | (go_at_call 95; (with_reducible refine (EbC.out _ D1.out.below).mono ?_); rintro e w2 ⟨Xb, rfl, hXb, hzb, hb⟩; have D2 := Lib.hid (D1.out.next hb); have Eb := Lib.hid hXb; clear hb hXb) | (go_at_call 95; (with_reducible refine (EaC.out _ D0.out.below).mono ?_); rintro e w1 ⟨Xa, rfl, hXa, hza, hb⟩; have D1 := Lib.hid (D0.out.next hb); have Ea := Lib.hid hXa; clear hb hXa)); go_wp2_with fail; refine hKK.out _ _ ?_ (fun hHeld => ?_); (· (first | exact HSC.out _ D2.out | exact HSC.out _ D1.out | exact HSC.out _ D0.out)); clear hKK KK hHeld; (try simp only [Act.put, List.setIfInBounds_toArray, List.set_cons_zero, List.set_cons_succ]))
  | (refine OrdH.alone (by rfl) (by rfl) (by kernel_rfl) (fun KK hKK => ?_); go_simp; (try go_wp2_with fail); have D3 := Lib.hid (D2.out.next ((Below.refl _ _).alloc (Nat.le_refl _) (.cells #[.string T, .string ⟨#[91]⟩, .string Xa, .string ⟨#[93, 32, 61, 32]⟩, .string Xb, .string ⟨#[59]⟩] 9))); have HQ := Lib.hid (show (List.map M.bs [T, ⟨#[91]⟩, Xa, ⟨#[93, 32, 61, 32]⟩, Xb, ⟨#[59]⟩]).flatten = tx ++ [91] ++ M.exprT ua ++ [93, 32, 61, 32] ++ M.exprT ub ++ [59] by simp only [List.map_cons, List.map_nil, List.flatten_cons, List.flatten_nil, List.append_nil, List.append_assoc, HTX.out, Ea.out, Eb.out]; rfl); refine hKK.out _ _ ?_ (fun hHeld => ?_); (· exact HSC.out _ D3.out); clear hKK KK hHeld; (try simp only [Act.put, List.setIfInBounds_toArray, List.set_cons_zero, List.set_cons_succ])))
 refine OrdH.alone (by rfl) (by rfl) (by kernel_rfl) (fun KK hKK => ?_)
 go_simp
 go_at_call 92
 refine (line10_any b lo d [T, ⟨#[91]⟩, Xa, ⟨#[93, 32, 61, 32]⟩, Xb, ⟨#[59]⟩] w2.heap.size _ (HP.out.below D3.out.below) (fun j hj => by rcases (show j = 0 \/ j = 1 \/ j = 2 \/ j = 3 \/ j = 4 \/ j = 5 by simp at hj; omega) with rfl | rfl | rfl | rfl | rfl | rfl <;> simp) (by simp) (by have := D2.out.below.size; have := HBL.out; omega) (noRow_strs _ _) (by simp) (by rw [HQ.out]; have := HLEN.out; rw [ER.out, M.textL_one] at this; omega)).mono ?_
 rintro e w9 ⟨rfl, hPP, hK9⟩
 rw [HQ.out] at hPP
 have PP := Lib.hid hPP
 have K9 := Lib.hid hK9
 clear hPP hK9
 go_wp2_with fail
 refine hKK.out _ _ ?_ (fun hHeld => ?_)
 ·exact HSL.out _ _ K9.out D3.out.lt D3.out.nr (HSC.out _ D3.out)
 clear hKK KK hHeld
 (try simp only [Act.put, List.setIfInBounds_toArray, List.set_cons_zero, List.set_cons_succ])
 refine OrdH.nil ?_
 go_wp2_with fail
 go_end0
 exact ⟨rfl, by rw [ER.out, M.textL_one]; exact PP.out, (PrK.of b (D3.out.below)).trans K9.out⟩
open Go.RowKit
structure NY (w : World) (b : Nat) (K : Int) (T : ByteArray) (n : Nat) (kv : Value) (W : World) : Prop where
 pk : PrK b w W
 lt : w.heap.size < W.heap.size
 nr : NoRow W w.heap.size
 c0 : W.cell? ⟨w.heap.size, 0, none⟩ = some (.int .i64 K)
 c1 : W.cell? ⟨w.heap.size, 1, none⟩ = some (.string T)
 c2 : W.cell? ⟨w.heap.size, 2, none⟩ = some (.int .u64 (n : Nat))
 c3 : W.cell? ⟨w.heap.size, 3, none⟩ = some kv
theorem NY.start (w : World) (b : Nat) (K : Int) (T : ByteArray) (n : Nat) (kv : Value) : NY w b K T n kv (w.alloc (.cells #[.int .i64 K, .string T, .int .u64 (n : Nat), kv] 25)) :=
 ⟨PrK.of b (balloc8 w _), by simp, (NX.start w K T n kv).nr, by simp, by simp, by simp, by simp⟩
theorem NY.next {w : World} {b : Nat} {K : Int} {T : ByteArray} {n : Nat} {kv : Value} {W W' : World} (h : NY w b K T n kv W) (hb : Below W.heap.size W W') : NY w b K T n kv W' :=
 ⟨h.pk.trans (PrK.of b hb), Nat.lt_of_lt_of_le h.lt hb.size, (fun cur => by rw [hb.block _ h.lt]; exact h.nr cur), (hb.cell (p := ⟨w.heap.size, 0, none⟩) h.lt).trans h.c0, (hb.cell (p := ⟨w.heap.size, 1, none⟩) h.lt).trans h.c1, (hb.cell (p := ⟨w.heap.size, 2, none⟩) h.lt).trans h.c2, (hb.cell (p := ⟨w.heap.size, 3, none⟩) h.lt).trans h.c3⟩
theorem NY.drew {w : World} {b : Nat} {K : Int} {T : ByteArray} {n : Nat} {kv : Value} {W : World} (h : NY w b K T n kv W) : NY w b K T n kv W.drew := h.next (Below.refl _ _).drew
theorem NY.prk {w : World} {b : Nat} {K : Int} {T : ByteArray} {n : Nat} {kv : Value} {W W' : World} (h : NY w b K T n kv W) (hk : PrK b W W') (hb : b < w.heap.size) : NY w b K T n kv W' :=
 have hne : w.heap.size ≠ b := by omega
 ⟨h.pk.trans hk, Nat.lt_of_lt_of_le h.lt hk.size, (fun cur => by rw [hk.block _ h.lt hne (.inr h.nr)]; exact h.nr cur), (hk.cell h.lt hne (.inr h.nr) 0).trans h.c0, (hk.cell h.lt hne (.inr h.nr) 1).trans h.c1, (hk.cell h.lt hne (.inr h.nr) 2).trans h.c2, (hk.cell h.lt hne (.inr h.nr) 3).trans h.c3⟩
theorem NY.base {wb w : World} {b : Nat} {K : Int} {T : ByteArray} {n : Nat} {kv : Value} {W : World} (h : NY w b K T n kv W) (hbw : Below wb.heap.size wb w) (hbb : wb.heap.size <= b) (hb : b < w.heap.size) : Below wb.heap.size wb W := hbw.trans (h.pk.below hbb hb)
theorem NodeV.klen {w : World} {t : M.Tree} {K : Int} {T : ByteArray} {n m c : Nat} {A : Option Addr} (h : NodeV w (.agg #[.int .i64 K, .string T, .int .u64 (n : Nat), .slice A m c]) t) : m = t.kids.length := by
 obtain ⟨T', kv', e, _, _, A', c', rfl, _⟩ := h
 injection e with e
 have e' := congrArg Array.toList e
 simp at e'
 omega
theorem NodeV.kids' {w : World} {t : M.Tree} {K : Int} {T : ByteArray} {n : Nat} {kv : Value} (h : NodeV w (.agg #[.int .i64 K, .string T, .int .u64 (n : Nat), kv]) t) : KidsV w kv t.kids := by
 obtain ⟨T', kv', e, _, _, h⟩ := h
 injection e with e
 have e' := congrArg Array.toList e
 simp at e'
 rw [e'.2.2.2]; exact h
theorem line1_any (b : Nat) (lo : List Nat) (d : Nat) (X : ByteArray) (q : List Nat) (w : World) (pk : Nat) (hpk : pk = w.heap.size) (h : PrN w b lo d) (hX : M.bs X = q) (hlen : (lo ++ M.lineN d q).length <= 140737488355328) :
  Calls Tryz.prog 92 #[.pointer (some ⟨b, 0, none⟩), .slice (some ⟨pk, 0, none⟩) 1 1] (w.alloc (.cells #[.string X] 9)) fun e w' => e = .returned (.tuple #[]) /\ PrN w' b (lo ++ M.lineN d q) d /\ PrK b w w' := by
 subst hpk
 have hq : (List.map M.bs [X]).flatten = q := by simp [hX]
 have := line10_any b lo d [X] w.heap.size (w.alloc (.cells #[.string X] 9)) (h.below (balloc8 w _)) (fun j hj => by obtain rfl : j = 0 := (by simp at hj; omega); simp) (by simp) (by have := h.lt; omega) (noRow_strs _ _) (by simp) (by rw [hq]; exact hlen)
 rw [hq] at this
 exact this.mono fun e w' ⟨h1, h2, h3⟩ => ⟨h1, h2, (PrK.of b (balloc8 w _)).trans h3⟩
theorem line3_any (b : Nat) (lo : List Nat) (d : Nat) (X Y Z : ByteArray) (q : List Nat) (w : World) (pk : Nat) (hpk : pk = w.heap.size) (h : PrN w b lo d) (hX : M.bs X ++ M.bs Y ++ M.bs Z = q) (hlen : (lo ++ M.lineN d q).length <= 140737488355328) :
  Calls Tryz.prog 92 #[.pointer (some ⟨b, 0, none⟩), .slice (some ⟨pk, 0, none⟩) 3 3] (w.alloc (.cells #[.string X, .string Y, .string Z] 9)) fun e w' => e = .returned (.tuple #[]) /\ PrN w' b (lo ++ M.lineN d q) d /\ PrK b w w' := by
 subst hpk
 have hq : (List.map M.bs [X, Y, Z]).flatten = q := by simp [<- hX]
 have := line10_any b lo d [X, Y, Z] w.heap.size (w.alloc (.cells #[.string X, .string Y, .string Z] 9)) (h.below (balloc8 w _)) (fun j hj => by rcases (show j = 0 \/ j = 1 \/ j = 2 by simp at hj; omega) with rfl | rfl | rfl <;> simp) (by simp) (by have := h.lt; omega) (noRow_strs _ _) (by simp) (by rw [hq]; exact hlen)
 rw [hq] at this
 exact this.mono fun e w' ⟨h1, h2, h3⟩ => ⟨h1, h2, (PrK.of b (balloc8 w _)).trans h3⟩
def PartP (f : Nat) (t : M.Tree) : Prop := ∀ (wb w : World) (b : Nat) (l : List Nat) (d : Nat) (v : Value), NodeV wb v t -> Tab9 wb -> Below wb.heap.size wb w -> wb.heap.size <= b -> PrN w b l d -> (l ++ M.textL d (M.itemT t)).length <= 70368744177664 ->
 Calls Tryz.prog f #[.pointer (some ⟨b, 0, none⟩), v] w fun e w' => e = .returned (.tuple #[]) /\ PrN w' b (l ++ M.textL d (M.itemT t)) d /\ PrK b w w'
open Go.RowKit
theorem pbranch (t : M.Tree) (hkind : t.kind = 6) (hwt : M.weight t <= 70368744177664) (hl : t.kids.length = 3) (hX0 : ∀ v w, NodeV w v (t.kids.getD 0 M.Tree.no) -> Tab9 w -> TextC 95 (M.exprT (t.kids.getD 0 M.Tree.no)) #[v] w) (hP1 : ∀ i, i < (t.kids.getD 1 M.Tree.no).kids.length -> ItemP ((t.kids.getD 1 M.Tree.no).kids.getD i M.Tree.no)) (hP2 : ∀ i, i < (t.kids.getD 2 M.Tree.no).kids.length -> ItemP ((t.kids.getD 2 M.Tree.no).kids.getD i M.Tree.no)) : PartP 96 t := by
 intro wb w b lo d v hvb htb hbw hbb hP hlen
 have hud := hud9
 obtain ⟨T, kv, rfl, hT, hok, hk⟩ := hvb
 have hsz : T.size <= 70368744177664 := by have := M.weight_eq t; rw [<- M.bs_len, hT]; omega
 obtain ⟨r, er⟩ : ∃ r, r = M.itemT t := ⟨_, rfl⟩
 rw [<- er] at hlen ⊢
 rw [M.itemT_eq] at er
 unfold M.itemW at er
 rw [if_neg (show ¬ t.kind = 2 by omega), if_neg (show ¬ t.kind = 3 by omega), if_neg (show ¬ t.kind = 4 by omega), if_neg (show ¬ t.kind = 5 by omega), if_pos hkind] at er
 obtain ⟨K, eK⟩ : ∃ K, K = t.kind := ⟨_, rfl⟩
 obtain ⟨tx, ex⟩ : ∃ x, x = t.text := ⟨_, rfl⟩
 obtain ⟨n, en⟩ : ∃ n, n = t.num := ⟨_, rfl⟩
 obtain ⟨l, el⟩ : ∃ l, l = t.kids := ⟨_, rfl⟩
 try rw [<- ex] at er
 try rw [<- en] at er
 try rw [<- el] at er
 rw [<- eK, <- en]
 rw [<- ex] at hT
 rw [<- el] at hk hl hX0 hP1 hP2
 rw [<- eK] at hkind
 obtain ⟨A, cap, rfl, _⟩ := id hk
 have HTX := Lib.hid hT
 have HTB := Lib.hid htb
 have HBL := Lib.hid hP.lt
 have HBB := Lib.hid hbb
 have HBW := Lib.hid hbw
 have HP := Lib.hid hP
 have HLEN := Lib.hid hlen
 have HKK := Lib.hid hk
 have HBS := Lib.hid fun W (h : NY w b K T n (.slice A l.length cap) W) => h.base hbw hbb hP.lt
 have S0 := Lib.hid (NY.start w b K T n (.slice A l.length cap))
 clear hT hok hk eK ex en el htb hbw hbb hP hlen
 have hl0 : 0 < l.length /\ 1 < l.length /\ 2 < l.length /\ l.length < 4 := by omega
 rw [M.mapB_getD hl0.2.1, M.mapB_getD hl0.2.2.1, M.blockT_eq, M.blockT_eq] at er
 obtain ⟨be, oe, Te, Ae, me, cce, hAe, el, e0, e1, e2, e3, ev⟩ := HKK.out.at (0) (by omega)
 cases hAe
 obtain ⟨ue, eue⟩ : ∃ u, u = l.getD (0) M.Tree.no := ⟨_, rfl⟩
 rw [<- eue] at e0 e2 ev
 try rw [<- eue] at er
 obtain ⟨ke, eke⟩ : ∃ k, k = ue.kind := ⟨_, rfl⟩
 obtain ⟨ne, ene⟩ : ∃ k, k = ue.num := ⟨_, rfl⟩
 rw [<- eke] at e0 ev
 rw [<- ene] at e2 ev
 simp only [show 0 * 4 = 0 from rfl, Nat.add_zero] at e0 e1 e2 e3
 have hie : 0 < l.length := by omega
 have Ve := Lib.hid ev
 have meE := Lib.hid ev.klen
 have EeC := Lib.hid fun w' (hb : Below wb.heap.size wb w') => hX0 _ w' (by rw [<- eue]; exact Ve.out.below hb) (HTB.out.below hb)
 rw [<- eue] at EeC
 clear ev eue eke ene
 obtain ⟨bf, of, Tf, Af, mf, ccf, hAf, fl, f0, f1, f2, f3, fv⟩ := HKK.out.at (1) (by omega)
 cases hAf
 obtain ⟨uf, euf⟩ : ∃ u, u = l.getD (1) M.Tree.no := ⟨_, rfl⟩
 rw [<- euf] at f0 f2 fv
 try rw [<- euf] at er
 rw [<- euf] at hP1
 obtain ⟨kf, ekf⟩ : ∃ k, k = uf.kind := ⟨_, rfl⟩
 obtain ⟨nf, enf⟩ : ∃ k, k = uf.num := ⟨_, rfl⟩
 rw [<- ekf] at f0 fv
 rw [<- enf] at f2 fv
 simp only [show 1 * 4 = 4 from rfl] at f0 f1 f2 f3
 have hif : 1 < l.length := by omega
 have Vf := Lib.hid fv
 have mfE := Lib.hid fv.klen
 clear fv euf ekf enf
 obtain ⟨bg, og, Tg, Ag, mg, ccg, hAg, gl, g0, g1, g2, g3, gv⟩ := HKK.out.at (2) (by omega)
 cases hAg
 obtain ⟨ug, eug⟩ : ∃ u, u = l.getD (2) M.Tree.no := ⟨_, rfl⟩
 rw [<- eug] at g0 g2 gv
 try rw [<- eug] at er
 rw [<- eug] at hP2
 obtain ⟨kg, ekg⟩ : ∃ k, k = ug.kind := ⟨_, rfl⟩
 obtain ⟨ng, eng⟩ : ∃ k, k = ug.num := ⟨_, rfl⟩
 rw [<- ekg] at g0 gv
 rw [<- eng] at g2 gv
 simp only [show 2 * 4 = 8 from rfl] at g0 g1 g2 g3
 have hig : 2 < l.length := by omega
 have Vg := Lib.hid gv
 have mgE := Lib.hid gv.klen
 clear gv eug ekg eng
 have ER := Lib.hid (show M.textL d r = M.lineN d ([105, 102, 32] ++ M.exprT ue ++ [32, 123]) ++ M.textL (d + 1) (M.linesL uf.kids) ++ (if 0 < mg then M.lineN d [125, 32, 101, 108, 115, 101, 32, 123] ++ M.textL (d + 1) (M.linesL ug.kids) else []) ++ M.lineN d [125] from by
  rw [er, M.textL_app, M.textL_app, M.textL_app, M.textL_one, M.textL_one, M.textL_deep, mgE.out]
  congr 1
  congr 1
  split
  ·rw [M.textL_app, M.textL_one, M.textL_deep]
  ·rfl)
 have HD := Lib.hid (show d <= 70368744177664 by have := HLEN.out; rw [ER.out] at this; simp only [List.length_append, M.lineN_len] at this; omega)
 have HP1 := Lib.hid hP1
 have HP2 := Lib.hid hP2
 have B0 := Lib.hid (show Below w.heap.size w _ from balloc8 w (.cells #[.int .i64 K, .string T, .int .u64 (n : Nat), .slice (some ⟨be, oe, none⟩) l.length cap] 25))
 have HSC := Lib.hid fun W' (h : NY w b K T n (.slice (some ⟨be, oe, none⟩) l.length cap) W') => (show W'.cell? ⟨w.heap.size, 0, none⟩ = some (.int .i64 K) /\ W'.cell? ⟨w.heap.size, 1, none⟩ = some (.string T) /\ W'.cell? ⟨w.heap.size, 2, none⟩ = some (.int .u64 (n : Nat)) /\ W'.cell? ⟨w.heap.size, 3, none⟩ = some (.slice (some ⟨be, oe, none⟩) l.length cap) /\ W'.cell? ⟨be, oe, none⟩ = some (.int .i64 ke) /\ W'.cell? ⟨be, oe + 1, none⟩ = some (.string Te) /\ W'.cell? ⟨be, oe + 2, none⟩ = some (.int .u64 (ne : Nat)) /\ W'.cell? ⟨be, oe + 3, none⟩ = some (.slice Ae me cce) /\ W'.cell? ⟨be, oe + 4, none⟩ = some (.int .i64 kf) /\ W'.cell? ⟨be, oe + 4 + 1, none⟩ = some (.string Tf) /\ W'.cell? ⟨be, oe + 4 + 2, none⟩ = some (.int .u64 (nf : Nat)) /\ W'.cell? ⟨be, oe + 4 + 3, none⟩ = some (.slice Af mf ccf) /\ W'.cell? ⟨be, oe + 8, none⟩ = some (.int .i64 kg) /\ W'.cell? ⟨be, oe + 8 + 1, none⟩ = some (.string Tg) /\ W'.cell? ⟨be, oe + 8 + 2, none⟩ = some (.int .u64 (ng : Nat)) /\ W'.cell? ⟨be, oe + 8 + 3, none⟩ = some (.slice Ag mg ccg) from ⟨h.c0, h.c1, h.c2, h.c3, ((HBS.out _ h).cell (p := ⟨_, _, none⟩) el).trans e0, ((HBS.out _ h).cell (p := ⟨_, _, none⟩) el).trans e1, ((HBS.out _ h).cell (p := ⟨_, _, none⟩) el).trans e2, ((HBS.out _ h).cell (p := ⟨_, _, none⟩) el).trans e3, ((HBS.out _ h).cell (p := ⟨_, _, none⟩) fl).trans f0, ((HBS.out _ h).cell (p := ⟨_, _, none⟩) fl).trans f1, ((HBS.out _ h).cell (p := ⟨_, _, none⟩) fl).trans f2, ((HBS.out _ h).cell (p := ⟨_, _, none⟩) fl).trans f3, ((HBS.out _ h).cell (p := ⟨_, _, none⟩) gl).trans g0, ((HBS.out _ h).cell (p := ⟨_, _, none⟩) gl).trans g1, ((HBS.out _ h).cell (p := ⟨_, _, none⟩) gl).trans g2, ((HBS.out _ h).cell (p := ⟨_, _, none⟩) gl).trans g3⟩)
 clear er hkind hwt hX0 hP1 hP2 hsz hl
 have hsz := HSC.out _ S0.out
 obtain ⟨s0, s1, s2, s3, s4, s5, s6, s7, s8, s9, s10, s11, s12, s13, s14, s15⟩ := hsz
 go_enter Tryz.func96, Tryz.ntmps96
 go_wp2_with fail
 (with_reducible refine (EeC.out _ (HBS.out _ S0.out)).mono ?_)
 rintro e w1 ⟨Xe, rfl, hXe, hze, hb⟩
 have D1 := Lib.hid (S0.out.next hb)
 have P1 := Lib.hid (HP.out.below (B0.out.trans (hb.mono B0.out.size)))
 have Ee := Lib.hid hXe
 clear hb hXe
 clear s0 s1 s2 s3 s4 s5 s6 s7 s8 s9 s10 s11 s12 s13 s14 s15
 have hsz := HSC.out _ D1.out
 obtain ⟨s0, s1, s2, s3, s4, s5, s6, s7, s8, s9, s10, s11, s12, s13, s14, s15⟩ := hsz
 go_wp2_with fail
 refine (line3_any b (lo) d ⟨#[105, 102, 32]⟩ Xe ⟨#[32, 123]⟩ ([105, 102, 32] ++ M.exprT ue ++ [32, 123]) _ _ (by simp) P1.out (by rw [Ee.out]; rfl) (by have := HLEN.out; rw [ER.out] at this; simp only [List.length_append] at this ⊢; omega)).mono ?_
 rintro e w2 ⟨rfl, hPP, hK⟩
 have P2 := Lib.hid hPP
 have D2 := Lib.hid (D1.out.prk hK HBL.out)
 clear hPP hK
 clear s0 s1 s2 s3 s4 s5 s6 s7 s8 s9 s10 s11 s12 s13 s14 s15
 have hsz := HSC.out _ D2.out
 obtain ⟨s0, s1, s2, s3, s4, s5, s6, s7, s8, s9, s10, s11, s12, s13, s14, s15⟩ := hsz
 go_wp2_with fail
 refine (block9_any uf HP1.out wb _ b (lo ++ M.lineN d ([105, 102, 32] ++ M.exprT ue ++ [32, 123])) d _ Vf.out HTB.out (HBS.out _ D2.out) HBB.out HD.out P2.out (by have := HLEN.out; rw [ER.out] at this; simp only [List.length_append] at this ⊢; omega)).mono ?_
 rintro e w3 ⟨rfl, hPP, hK⟩
 have P3 := Lib.hid hPP
 have D3 := Lib.hid (D2.out.prk hK HBL.out)
 clear hPP hK
 clear s0 s1 s2 s3 s4 s5 s6 s7 s8 s9 s10 s11 s12 s13 s14 s15
 have hsz := HSC.out _ D3.out
 obtain ⟨s0, s1, s2, s3, s4, s5, s6, s7, s8, s9, s10, s11, s12, s13, s14, s15⟩ := hsz
 rcases Nat.lt_or_ge 0 mg with h0 | h0
 ·have gl : decide ((mg : Int) > 0) = true := by rw [decide_eq_true_eq]; omega
  have ER := Lib.hid (show M.textL d r = M.lineN d ([105, 102, 32] ++ M.exprT ue ++ [32, 123]) ++ M.textL (d + 1) (M.linesL uf.kids) ++ (M.lineN d [125, 32, 101, 108, 115, 101, 32, 123] ++ M.textL (d + 1) (M.linesL ug.kids)) ++ M.lineN d [125] from by rw [ER.out, if_pos h0])
  go_wp2_with fail
  refine (line1_any b (lo ++ M.lineN d ([105, 102, 32] ++ M.exprT ue ++ [32, 123]) ++ M.textL (d + 1) (M.linesL uf.kids)) d ⟨#[125, 32, 101, 108, 115, 101, 32, 123]⟩ ([125, 32, 101, 108, 115, 101, 32, 123]) _ _ (by simp) (P3.out.below (balloc8 _ _)) (rfl) (by have := HLEN.out; rw [ER.out] at this; simp only [List.length_append] at this ⊢; omega)).mono ?_
  rintro e w4 ⟨rfl, hPP, hK⟩
  have P4 := Lib.hid hPP
  have D4 := Lib.hid ((D3.out.next (balloc8 _ _)).prk hK HBL.out)
  have Z4 := Lib.hid ((NY.start w3 b kg Tg ng (.slice Ag mg ccg)).prk hK (by have := D3.out.lt; have := HBL.out; omega))
  have z0 := Z4.out.c0
  have z1 := Z4.out.c1
  have z2 := Z4.out.c2
  have z3 := Z4.out.c3
  clear hPP hK
  clear s0 s1 s2 s3 s4 s5 s6 s7 s8 s9 s10 s11 s12 s13 s14 s15
  have hsz := HSC.out _ D4.out
  obtain ⟨s0, s1, s2, s3, s4, s5, s6, s7, s8, s9, s10, s11, s12, s13, s14, s15⟩ := hsz
  go_wp2_with fail
  refine (block9_any ug HP2.out wb _ b (lo ++ M.lineN d ([105, 102, 32] ++ M.exprT ue ++ [32, 123]) ++ M.textL (d + 1) (M.linesL uf.kids) ++ M.lineN d ([125, 32, 101, 108, 115, 101, 32, 123])) d _ Vg.out HTB.out (HBS.out _ D4.out) HBB.out HD.out P4.out (by have := HLEN.out; rw [ER.out] at this; simp only [List.length_append] at this ⊢; omega)).mono ?_
  rintro e w5 ⟨rfl, hPP, hK⟩
  have P5 := Lib.hid hPP
  have D5 := Lib.hid (D4.out.prk hK HBL.out)
  clear hPP hK
  clear s0 s1 s2 s3 s4 s5 s6 s7 s8 s9 s10 s11 s12 s13 s14 s15
  have hsz := HSC.out _ D5.out
  obtain ⟨s0, s1, s2, s3, s4, s5, s6, s7, s8, s9, s10, s11, s12, s13, s14, s15⟩ := hsz
  go_wp2_with fail
  refine (line1_any b (lo ++ M.lineN d ([105, 102, 32] ++ M.exprT ue ++ [32, 123]) ++ M.textL (d + 1) (M.linesL uf.kids) ++ M.lineN d ([125, 32, 101, 108, 115, 101, 32, 123]) ++ M.textL (d + 1) (M.linesL ug.kids)) d ⟨#[125]⟩ ([125]) _ _ (by simp) P5.out (rfl) (by have := HLEN.out; rw [ER.out] at this; simp only [List.length_append] at this ⊢; omega)).mono ?_
  rintro e w6 ⟨rfl, hPP, hK⟩
  have P6 := Lib.hid hPP
  have D6 := Lib.hid (D5.out.prk hK HBL.out)
  clear hPP hK
  clear s0 s1 s2 s3 s4 s5 s6 s7 s8 s9 s10 s11 s12 s13 s14 s15
  have hsz := HSC.out _ D6.out
  obtain ⟨s0, s1, s2, s3, s4, s5, s6, s7, s8, s9, s10, s11, s12, s13, s14, s15⟩ := hsz
  go_wp2_with fail
  go_end0
  exact ⟨rfl, by rw [ER.out]; simpa only [List.append_assoc] using P6.out, D6.out.pk⟩
 ·have gl : decide ((mg : Int) > 0) = false := by rw [decide_eq_false_iff_not]; omega
  have ER := Lib.hid (show M.textL d r = M.lineN d ([105, 102, 32] ++ M.exprT ue ++ [32, 123]) ++ M.textL (d + 1) (M.linesL uf.kids) ++ M.lineN d [125] from by rw [ER.out, if_neg (by omega), List.append_nil])
  go_wp2_with fail
  refine (line1_any b (lo ++ M.lineN d ([105, 102, 32] ++ M.exprT ue ++ [32, 123]) ++ M.textL (d + 1) (M.linesL uf.kids)) d ⟨#[125]⟩ ([125]) _ _ (by simp) (P3.out.below (balloc8 _ _)) (rfl) (by have := HLEN.out; rw [ER.out] at this; simp only [List.length_append] at this ⊢; omega)).mono ?_
  rintro e w4 ⟨rfl, hPP, hK⟩
  have P4 := Lib.hid hPP
  have D4 := Lib.hid ((D3.out.next (balloc8 _ _)).prk hK HBL.out)
  clear hPP hK
  clear s0 s1 s2 s3 s4 s5 s6 s7 s8 s9 s10 s11 s12 s13 s14 s15
  have hsz := HSC.out _ D4.out
  obtain ⟨s0, s1, s2, s3, s4, s5, s6, s7, s8, s9, s10, s11, s12, s13, s14, s15⟩ := hsz
  go_wp2_with fail
  go_end0
  exact ⟨rfl, by rw [ER.out]; simpa only [List.append_assoc] using P4.out, D4.out.pk⟩
open Go.RowKit
theorem pitem_7 (t : M.Tree) (hkind : t.kind = 7) (hwt : M.weight t <= 70368744177664) (hl : t.kids.length = 3) (hX0 : ∀ v w, NodeV w v (t.kids.getD 0 M.Tree.no) -> Tab9 w -> TextC 95 (M.exprT (t.kids.getD 0 M.Tree.no)) #[v] w) (hX1 : ∀ v w, NodeV w v (t.kids.getD 1 M.Tree.no) -> Tab9 w -> TextC 95 (M.exprT (t.kids.getD 1 M.Tree.no)) #[v] w) (hP2 : ∀ i, i < (t.kids.getD 2 M.Tree.no).kids.length -> ItemP ((t.kids.getD 2 M.Tree.no).kids.getD i M.Tree.no)) : ItemP t := by
 intro wb w b lo d v hvb htb hbw hbb hP hlen
 have hud := hud9
 obtain ⟨T, kv, rfl, hT, hok, hk⟩ := hvb
 have hsz : T.size <= 70368744177664 := by have := M.weight_eq t; rw [<- M.bs_len, hT]; omega
 obtain ⟨r, er⟩ : ∃ r, r = M.itemT t := ⟨_, rfl⟩
 rw [<- er] at hlen ⊢
 rw [M.itemT_eq] at er
 unfold M.itemW at er
 rw [if_neg (show ¬ t.kind = 2 by omega), if_neg (show ¬ t.kind = 3 by omega), if_neg (show ¬ t.kind = 4 by omega), if_neg (show ¬ t.kind = 5 by omega), if_neg (show ¬ t.kind = 6 by omega), if_pos hkind] at er
 obtain ⟨K, eK⟩ : ∃ K, K = t.kind := ⟨_, rfl⟩
 obtain ⟨tx, ex⟩ : ∃ x, x = t.text := ⟨_, rfl⟩
 obtain ⟨n, en⟩ : ∃ n, n = t.num := ⟨_, rfl⟩
 obtain ⟨l, el⟩ : ∃ l, l = t.kids := ⟨_, rfl⟩
 try rw [<- ex] at er
 try rw [<- en] at er
 try rw [<- el] at er
 rw [<- eK, <- en]
 rw [<- ex] at hT
 rw [<- el] at hk hl hX0 hX1 hP2
 rw [<- eK] at hkind
 obtain ⟨A, cap, rfl, _⟩ := id hk
 have HTX := Lib.hid hT
 have HTB := Lib.hid htb
 have HBL := Lib.hid hP.lt
 have HBB := Lib.hid hbb
 have HBW := Lib.hid hbw
 have HP := Lib.hid hP
 have HLEN := Lib.hid hlen
 have HKK := Lib.hid hk
 have HBS := Lib.hid fun W (h : NY w b K T n (.slice A l.length cap) W) => h.base hbw hbb hP.lt
 have S0 := Lib.hid (NY.start w b K T n (.slice A l.length cap))
 clear hT hok hk eK ex en el htb hbw hbb hP hlen
 have gk2 : (K == 2) = false := by rw [beq_eq_false_iff_ne]; omega
 have gk3 : (K == 3) = false := by rw [beq_eq_false_iff_ne]; omega
 have gk4 : (K == 4) = false := by rw [beq_eq_false_iff_ne]; omega
 have gk5 : (K == 5) = false := by rw [beq_eq_false_iff_ne]; omega
 have gk6 : (K == 6) = false := by rw [beq_eq_false_iff_ne]; omega
 have gk7 : (K == 7) = true := by rw [beq_iff_eq]; omega
 have gk8 : (K == 8) = false := by rw [beq_eq_false_iff_ne]; omega
 have gk9 : (K == 9) = false := by rw [beq_eq_false_iff_ne]; omega
 have hl0 : 0 < l.length /\ 1 < l.length /\ 2 < l.length /\ l.length < 4 := by omega
 rw [M.mapB_getD hl0.2.2.1, M.blockT_eq] at er
 obtain ⟨be, oe, Te, Ae, me, cce, hAe, el, e0, e1, e2, e3, ev⟩ := HKK.out.at (0) (by omega)
 cases hAe
 obtain ⟨ue, eue⟩ : ∃ u, u = l.getD (0) M.Tree.no := ⟨_, rfl⟩
 rw [<- eue] at e0 e2 ev
 try rw [<- eue] at er
 obtain ⟨ke, eke⟩ : ∃ k, k = ue.kind := ⟨_, rfl⟩
 obtain ⟨ne, ene⟩ : ∃ k, k = ue.num := ⟨_, rfl⟩
 rw [<- eke] at e0 ev
 rw [<- ene] at e2 ev
 simp only [show 0 * 4 = 0 from rfl, Nat.add_zero] at e0 e1 e2 e3
 have hie : 0 < l.length := by omega
 have Ve := Lib.hid ev
 have meE := Lib.hid ev.klen
 have EeC := Lib.hid fun w' (hb : Below wb.heap.size wb w') => hX0 _ w' (by rw [<- eue]; exact Ve.out.below hb) (HTB.out.below hb)
 rw [<- eue] at EeC
 clear ev eue eke ene
 obtain ⟨bf, of, Tf, Af, mf, ccf, hAf, fl, f0, f1, f2, f3, fv⟩ := HKK.out.at (1) (by omega)
 cases hAf
 obtain ⟨uf, euf⟩ : ∃ u, u = l.getD (1) M.Tree.no := ⟨_, rfl⟩
 rw [<- euf] at f0 f2 fv
 try rw [<- euf] at er
 obtain ⟨kf, ekf⟩ : ∃ k, k = uf.kind := ⟨_, rfl⟩
 obtain ⟨nf, enf⟩ : ∃ k, k = uf.num := ⟨_, rfl⟩
 rw [<- ekf] at f0 fv
 rw [<- enf] at f2 fv
 simp only [show 1 * 4 = 4 from rfl] at f0 f1 f2 f3
 have hif : 1 < l.length := by omega
 have Vf := Lib.hid fv
 have mfE := Lib.hid fv.klen
 have EfC := Lib.hid fun w' (hb : Below wb.heap.size wb w') => hX1 _ w' (by rw [<- euf]; exact Vf.out.below hb) (HTB.out.below hb)
 rw [<- euf] at EfC
 clear fv euf ekf enf
 obtain ⟨bg, og, Tg, Ag, mg, ccg, hAg, gl, g0, g1, g2, g3, gv⟩ := HKK.out.at (2) (by omega)
 cases hAg
 obtain ⟨ug, eug⟩ : ∃ u, u = l.getD (2) M.Tree.no := ⟨_, rfl⟩
 rw [<- eug] at g0 g2 gv
 try rw [<- eug] at er
 rw [<- eug] at hP2
 obtain ⟨kg, ekg⟩ : ∃ k, k = ug.kind := ⟨_, rfl⟩
 obtain ⟨ng, eng⟩ : ∃ k, k = ug.num := ⟨_, rfl⟩
 rw [<- ekg] at g0 gv
 rw [<- eng] at g2 gv
 simp only [show 2 * 4 = 8 from rfl] at g0 g1 g2 g3
 have hig : 2 < l.length := by omega
 have Vg := Lib.hid gv
 have mgE := Lib.hid gv.klen
 clear gv eug ekg eng
 have ER := Lib.hid (show M.textL d r = M.lineN d ([102, 111, 114, 32] ++ tx ++ [32, 61, 32] ++ M.exprT ue ++ [32, 116, 111, 32] ++ M.exprT uf ++ [32, 123]) ++ M.textL (d + 1) (M.linesL ug.kids) ++ M.lineN d [125] from by rw [er, M.textL_app, M.textL_app, M.textL_one, M.textL_one, M.textL_deep])
 have HD := Lib.hid (show d <= 70368744177664 by have := HLEN.out; rw [ER.out] at this; simp only [List.length_append, M.lineN_len] at this; omega)
 have HP2 := Lib.hid hP2
 have B0 := Lib.hid (show Below w.heap.size w _ from balloc8 w (.cells #[.int .i64 K, .string T, .int .u64 (n : Nat), .slice (some ⟨be, oe, none⟩) l.length cap] 25))
 have HSC := Lib.hid fun W' (h : NY w b K T n (.slice (some ⟨be, oe, none⟩) l.length cap) W') => (show W'.cell? ⟨w.heap.size, 0, none⟩ = some (.int .i64 K) /\ W'.cell? ⟨w.heap.size, 1, none⟩ = some (.string T) /\ W'.cell? ⟨w.heap.size, 2, none⟩ = some (.int .u64 (n : Nat)) /\ W'.cell? ⟨w.heap.size, 3, none⟩ = some (.slice (some ⟨be, oe, none⟩) l.length cap) /\ W'.cell? ⟨be, oe, none⟩ = some (.int .i64 ke) /\ W'.cell? ⟨be, oe + 1, none⟩ = some (.string Te) /\ W'.cell? ⟨be, oe + 2, none⟩ = some (.int .u64 (ne : Nat)) /\ W'.cell? ⟨be, oe + 3, none⟩ = some (.slice Ae me cce) /\ W'.cell? ⟨be, oe + 4, none⟩ = some (.int .i64 kf) /\ W'.cell? ⟨be, oe + 4 + 1, none⟩ = some (.string Tf) /\ W'.cell? ⟨be, oe + 4 + 2, none⟩ = some (.int .u64 (nf : Nat)) /\ W'.cell? ⟨be, oe + 4 + 3, none⟩ = some (.slice Af mf ccf) /\ W'.cell? ⟨be, oe + 8, none⟩ = some (.int .i64 kg) /\ W'.cell? ⟨be, oe + 8 + 1, none⟩ = some (.string Tg) /\ W'.cell? ⟨be, oe + 8 + 2, none⟩ = some (.int .u64 (ng : Nat)) /\ W'.cell? ⟨be, oe + 8 + 3, none⟩ = some (.slice Ag mg ccg) from ⟨h.c0, h.c1, h.c2, h.c3, ((HBS.out _ h).cell (p := ⟨_, _, none⟩) el).trans e0, ((HBS.out _ h).cell (p := ⟨_, _, none⟩) el).trans e1, ((HBS.out _ h).cell (p := ⟨_, _, none⟩) el).trans e2, ((HBS.out _ h).cell (p := ⟨_, _, none⟩) el).trans e3, ((HBS.out _ h).cell (p := ⟨_, _, none⟩) fl).trans f0, ((HBS.out _ h).cell (p := ⟨_, _, none⟩) fl).trans f1, ((HBS.out _ h).cell (p := ⟨_, _, none⟩) fl).trans f2, ((HBS.out _ h).cell (p := ⟨_, _, none⟩) fl).trans f3, ((HBS.out _ h).cell (p := ⟨_, _, none⟩) gl).trans g0, ((HBS.out _ h).cell (p := ⟨_, _, none⟩) gl).trans g1, ((HBS.out _ h).cell (p := ⟨_, _, none⟩) gl).trans g2, ((HBS.out _ h).cell (p := ⟨_, _, none⟩) gl).trans g3⟩)
 clear er hkind hwt hX0 hX1 hP2 hl
 have hsz2 := HSC.out _ S0.out
 obtain ⟨s0, s1, s2, s3, s4, s5, s6, s7, s8, s9, s10, s11, s12, s13, s14, s15⟩ := hsz2
 go_enter Tryz.func47, Tryz.ntmps47
 go_wp2_with fail
 have D0 := Lib.hid S0.out.drew
 have B0 := Lib.hid B0.out.drew
 try dsimp only [List.append]
 refine wp_region_ord (S := fun W' => W'.cell? ⟨w.heap.size, 0, none⟩ = some (.int .i64 K) /\ W'.cell? ⟨w.heap.size, 1, none⟩ = some (.string T) /\ W'.cell? ⟨w.heap.size, 2, none⟩ = some (.int .u64 (n : Nat)) /\ W'.cell? ⟨w.heap.size, 3, none⟩ = some (.slice (some ⟨be, oe, none⟩) l.length cap) /\ W'.cell? ⟨be, oe, none⟩ = some (.int .i64 ke) /\ W'.cell? ⟨be, oe + 1, none⟩ = some (.string Te) /\ W'.cell? ⟨be, oe + 2, none⟩ = some (.int .u64 (ne : Nat)) /\ W'.cell? ⟨be, oe + 3, none⟩ = some (.slice Ae me cce) /\ W'.cell? ⟨be, oe + 4, none⟩ = some (.int .i64 kf) /\ W'.cell? ⟨be, oe + 4 + 1, none⟩ = some (.string Tf) /\ W'.cell? ⟨be, oe + 4 + 2, none⟩ = some (.int .u64 (nf : Nat)) /\ W'.cell? ⟨be, oe + 4 + 3, none⟩ = some (.slice Af mf ccf) /\ W'.cell? ⟨be, oe + 8, none⟩ = some (.int .i64 kg) /\ W'.cell? ⟨be, oe + 8 + 1, none⟩ = some (.string Tg) /\ W'.cell? ⟨be, oe + 8 + 2, none⟩ = some (.int .u64 (ng : Nat)) /\ W'.cell? ⟨be, oe + 8 + 3, none⟩ = some (.slice Ag mg ccg)) [0, 1, 2, 3, 4, 5, 6, 8, 9, 10, 11, 7, 12, 13, 14] (by kernel_rfl) (by kernel_rfl) (by kernel_rfl) (fun _ _ _ _ _ h => h) ?_ ?_
 ·exact HSC.out _ D0.out
 repeat (first
  | (refine OrdH.pass (by rfl) (by rfl) ?_; (try simp only [Act.put, List.setIfInBounds_toArray, List.set_cons_zero, List.set_cons_succ]))
  | (refine OrdH.yield (v := ?_) (by rfl) (by rfl) ?_ ?_; rotate_left 1; (· intro w hSw; (try dsimp only at hSw); go_simp; (try rw [if_neg (by first | omega | (simp only [M.size_app]; omega))]); (try rw [if_pos (by omega)]); try with_reducible rfl); (try simp only [Act.put, List.setIfInBounds_toArray, List.set_cons_zero, List.set_cons_succ]))
  | (refine OrdH.alone (by rfl) (by rfl) (by kernel_rfl) (fun KK hKK => ?_); go_simp; (first | (go_at_call 95; (with_reducible refine (EfC.out _ (HBS.out _ D1.out)).mono ?_); rintro e w2 ⟨Xf, rfl, hXf, hzf, hb⟩; have D2 := Lib.hid (D1.out.next hb); have B2 := Lib.hid (B1.out.trans (hb.mono B1.out.size)); have Ef := Lib.hid hXf; clear hb hXf) | (go_at_call 95; (with_reducible refine (EeC.out _ (HBS.out _ D0.out)).mono ?_); rintro e w1 ⟨Xe, rfl, hXe, hze, hb⟩; have D1 := Lib.hid (D0.out.next hb); have B1 := Lib.hid (B0.out.trans (hb.mono B0.out.size)); have Ee := Lib.hid hXe; clear hb hXe)); go_wp2_with fail; refine hKK.out _ _ ?_ (fun hHeld => ?_); (· (first | exact HSC.out _ D2.out | exact HSC.out _ D1.out | exact HSC.out _ D0.out)); clear hKK KK hHeld; (try simp only [Act.put, List.setIfInBounds_toArray, List.set_cons_zero, List.set_cons_succ]))
  | (refine OrdH.alone (by rfl) (by rfl) (by kernel_rfl) (fun KK hKK => ?_); go_simp; (try go_wp2_with fail); have D3 := Lib.hid (D2.out.next (balloc8 _ (.cells #[.string ⟨#[102, 111, 114, 32]⟩, .string T, .string ⟨#[32, 61, 32]⟩, .string Xe, .string ⟨#[32, 116, 111, 32]⟩, .string Xf, .string ⟨#[32, 123]⟩] 9))); have B3 := Lib.hid (B2.out.trans ((balloc8 _ (.cells #[.string ⟨#[102, 111, 114, 32]⟩, .string T, .string ⟨#[32, 61, 32]⟩, .string Xe, .string ⟨#[32, 116, 111, 32]⟩, .string Xf, .string ⟨#[32, 123]⟩] 9)).mono B2.out.size)); have HQ0 := Lib.hid (show (List.map M.bs [⟨#[102, 111, 114, 32]⟩, T, ⟨#[32, 61, 32]⟩, Xe, ⟨#[32, 116, 111, 32]⟩, Xf, ⟨#[32, 123]⟩]).flatten = [102, 111, 114, 32] ++ tx ++ [32, 61, 32] ++ M.exprT ue ++ [32, 116, 111, 32] ++ M.exprT uf ++ [32, 123] by simp only [List.map_cons, List.map_nil, List.flatten_cons, List.flatten_nil, List.append_nil, List.append_assoc, HTX.out, Ee.out, Ef.out]; rfl); refine hKK.out _ _ ?_ (fun hHeld => ?_); (· exact HSC.out _ D3.out); clear hKK KK hHeld; (try simp only [Act.put, List.setIfInBounds_toArray, List.set_cons_zero, List.set_cons_succ])))
 refine OrdH.alone (by rfl) (by rfl) (by kernel_rfl) (fun KK hKK => ?_)
 go_simp
 go_at_call 92
 refine (line10_any b (lo) d [⟨#[102, 111, 114, 32]⟩, T, ⟨#[32, 61, 32]⟩, Xe, ⟨#[32, 116, 111, 32]⟩, Xf, ⟨#[32, 123]⟩] w2.heap.size _ (HP.out.below B3.out) (fun j hj => by rcases (show j = 0 \/ j = 1 \/ j = 2 \/ j = 3 \/ j = 4 \/ j = 5 \/ j = 6 by simp at hj; omega) with rfl | rfl | rfl | rfl | rfl | rfl | rfl <;> simp) (by simp) (by have := D2.out.lt; have := HBL.out; omega) (noRow_strs _ _) (by simp) (by rw [HQ0.out]; have := HLEN.out; rw [ER.out] at this; simp only [List.length_append] at this ⊢; omega)).mono ?_
 rintro e w9PP ⟨rfl, hPP, hK9⟩
 rw [HQ0.out] at hPP
 have PP := Lib.hid hPP
 have D9PP := Lib.hid (D3.out.prk hK9 HBL.out)
 clear hPP hK9
 go_wp2_with fail
 refine hKK.out _ _ ?_ (fun hHeld => ?_)
 ·exact HSC.out _ D9PP.out
 clear hKK KK hHeld
 (try simp only [Act.put, List.setIfInBounds_toArray, List.set_cons_zero, List.set_cons_succ])
 refine OrdH.nil ?_
 clear s0 s1 s2 s3 s4 s5 s6 s7 s8 s9 s10 s11 s12 s13 s14 s15
 have hsz := HSC.out _ D9PP.out
 obtain ⟨s0, s1, s2, s3, s4, s5, s6, s7, s8, s9, s10, s11, s12, s13, s14, s15⟩ := hsz
 go_wp2_with fail
 refine (block9_any ug HP2.out wb _ b (lo ++ M.lineN d ([102, 111, 114, 32] ++ tx ++ [32, 61, 32] ++ M.exprT ue ++ [32, 116, 111, 32] ++ M.exprT uf ++ [32, 123])) d _ Vg.out HTB.out (HBS.out _ D9PP.out) HBB.out HD.out PP.out (by have := HLEN.out; rw [ER.out] at this; simp only [List.length_append] at this ⊢; omega)).mono ?_
 rintro e w11 ⟨rfl, hPP, hK⟩
 have P11 := Lib.hid hPP
 have D11 := Lib.hid (D9PP.out.prk hK HBL.out)
 clear hPP hK
 clear s0 s1 s2 s3 s4 s5 s6 s7 s8 s9 s10 s11 s12 s13 s14 s15
 have hsz := HSC.out _ D11.out
 obtain ⟨s0, s1, s2, s3, s4, s5, s6, s7, s8, s9, s10, s11, s12, s13, s14, s15⟩ := hsz
 go_wp2_with fail
 refine (line1_any b (lo ++ M.lineN d ([102, 111, 114, 32] ++ tx ++ [32, 61, 32] ++ M.exprT ue ++ [32, 116, 111, 32] ++ M.exprT uf ++ [32, 123]) ++ M.textL (d + 1) (M.linesL ug.kids)) d ⟨#[125]⟩ ([125]) _ _ (by simp) P11.out (rfl) (by have := HLEN.out; rw [ER.out] at this; simp only [List.length_append] at this ⊢; omega)).mono ?_
 rintro e w12 ⟨rfl, hPP, hK⟩
 have P12 := Lib.hid hPP
 have D12 := Lib.hid (D11.out.prk hK HBL.out)
 clear hPP hK
 clear s0 s1 s2 s3 s4 s5 s6 s7 s8 s9 s10 s11 s12 s13 s14 s15
 have hsz := HSC.out _ D12.out
 obtain ⟨s0, s1, s2, s3, s4, s5, s6, s7, s8, s9, s10, s11, s12, s13, s14, s15⟩ := hsz
 go_wp2_with fail
 go_end0
 exact ⟨rfl, by rw [ER.out]; simpa only [List.append_assoc] using P12.out, D12.out.pk⟩
theorem pitem_6 (t : M.Tree) (hkind : t.kind = 6) (hB : PartP 96 t) : ItemP t := by
 intro wb w b lo d v hvb htb hbw hbb hP hlen
 have hud := hud9
 have HC := Lib.hid fun W (hb : Below wb.heap.size wb W) hP => hB wb W b lo d v hvb htb hb hbb hP hlen
 obtain ⟨T, kv, rfl, hT, hok, hk⟩ := hvb
 obtain ⟨K, eK⟩ : ∃ K, K = t.kind := ⟨_, rfl⟩
 obtain ⟨n, en⟩ : ∃ n, n = t.num := ⟨_, rfl⟩
 obtain ⟨r, er⟩ : ∃ r, r = M.textL d (M.itemT t) := ⟨_, rfl⟩
 obtain ⟨l, el⟩ : ∃ l, l = t.kids := ⟨_, rfl⟩
 rw [<- er, <- eK, <- en] at HC
 rw [<- er, <- eK, <- en]
 rw [<- eK] at hkind
 rw [<- el] at hk
 obtain ⟨A, cap, rfl, _⟩ := id hk
 have B0 := Lib.hid (show Below w.heap.size w _ from balloc8 w (.cells #[.int .i64 K, .string T, .int .u64 (n : Nat), .slice A l.length cap] 25))
 have HC2 := Lib.hid (HC.out _ (hbw.trans (B0.out.mono hbw.size)) (hP.below B0.out))
 have HK := Lib.hid (PrK.of b B0.out)
 have gk2 : (K == 2) = false := by rw [beq_eq_false_iff_ne]; omega
 have gk3 : (K == 3) = false := by rw [beq_eq_false_iff_ne]; omega
 have gk4 : (K == 4) = false := by rw [beq_eq_false_iff_ne]; omega
 have gk5 : (K == 5) = false := by rw [beq_eq_false_iff_ne]; omega
 have gk6 : (K == 6) = true := by rw [beq_iff_eq]; omega
 have gk7 : (K == 7) = false := by rw [beq_eq_false_iff_ne]; omega
 have gk8 : (K == 8) = false := by rw [beq_eq_false_iff_ne]; omega
 have gk9 : (K == 9) = false := by rw [beq_eq_false_iff_ne]; omega
 clear hT hok hk eK en er el hbw hbb hP hlen htb hB HC hkind B0
 go_enter Tryz.func47, Tryz.ntmps47
 go_wp2_with fail
 (with_reducible refine (HC2.out).mono ?_)
 rintro e w2 ⟨rfl, hPP, hK⟩
 have P2 := Lib.hid hPP
 have K2 := Lib.hid (HK.out.trans hK)
 clear hPP hK
 go_wp2_with fail
 go_end0
 exact ⟨rfl, P2.out, K2.out⟩
theorem pitem_9 (t : M.Tree) (hkind : t.kind = 9) (hB : PartP 99 t) : ItemP t := by
 intro wb w b lo d v hvb htb hbw hbb hP hlen
 have hud := hud9
 have HC := Lib.hid fun W (hb : Below wb.heap.size wb W) hP => hB wb W b lo d v hvb htb hb hbb hP hlen
 obtain ⟨T, kv, rfl, hT, hok, hk⟩ := hvb
 obtain ⟨K, eK⟩ : ∃ K, K = t.kind := ⟨_, rfl⟩
 obtain ⟨n, en⟩ : ∃ n, n = t.num := ⟨_, rfl⟩
 obtain ⟨r, er⟩ : ∃ r, r = M.textL d (M.itemT t) := ⟨_, rfl⟩
 obtain ⟨l, el⟩ : ∃ l, l = t.kids := ⟨_, rfl⟩
 rw [<- er, <- eK, <- en] at HC
 rw [<- er, <- eK, <- en]
 rw [<- eK] at hkind
 rw [<- el] at hk
 obtain ⟨A, cap, rfl, _⟩ := id hk
 have B0 := Lib.hid (show Below w.heap.size w _ from balloc8 w (.cells #[.int .i64 K, .string T, .int .u64 (n : Nat), .slice A l.length cap] 25))
 have HC2 := Lib.hid (HC.out _ (hbw.trans (B0.out.mono hbw.size)) (hP.below B0.out))
 have HK := Lib.hid (PrK.of b B0.out)
 have gk2 : (K == 2) = false := by rw [beq_eq_false_iff_ne]; omega
 have gk3 : (K == 3) = false := by rw [beq_eq_false_iff_ne]; omega
 have gk4 : (K == 4) = false := by rw [beq_eq_false_iff_ne]; omega
 have gk5 : (K == 5) = false := by rw [beq_eq_false_iff_ne]; omega
 have gk6 : (K == 6) = false := by rw [beq_eq_false_iff_ne]; omega
 have gk7 : (K == 7) = false := by rw [beq_eq_false_iff_ne]; omega
 have gk8 : (K == 8) = false := by rw [beq_eq_false_iff_ne]; omega
 have gk9 : (K == 9) = true := by rw [beq_iff_eq]; omega
 clear hT hok hk eK en er el hbw hbb hP hlen htb hB HC hkind B0
 go_enter Tryz.func47, Tryz.ntmps47
 go_wp2_with fail
 (with_reducible refine (HC2.out).mono ?_)
 rintro e w2 ⟨rfl, hPP, hK⟩
 have P2 := Lib.hid hPP
 have K2 := Lib.hid (HK.out.trans hK)
 clear hPP hK
 go_wp2_with fail
 go_end0
 exact ⟨rfl, P2.out, K2.out⟩
end Go.Proofs.YtngpedcihajepaaGreatDoor
