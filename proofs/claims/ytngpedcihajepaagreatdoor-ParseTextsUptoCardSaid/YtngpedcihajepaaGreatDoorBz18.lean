/-
 Merged out of the texts L9 La9.
-/
import Derived.OwnWalk
import Derived.WalkMore
import Derived.Deep.LoopGhost
import Derived.Lib.MakeNoZero
import Derived.WalkKit
import Derived.Laws.IdiomCopy
import Derived.Laws.BitsLemmas
import Derived.Shelf.Strings.BuilderX
import Derived.ProofKit
import Derived.ChangeMaps5
import Derived.Defers
import Derived.Recover
import Derived.Deep.RegionHeld3
import Derived.Still
import Derived.Lib.Builder
import Derived.Lib.AppendStr
import Derived.Lib.UnsafeStr
import Derived.Laws.Externs
import Derived.Lib.MinMax
import Derived.Test.YtngpedcihajepaaGreatDoorProg
import Derived.WalkSpells
import Derived.WalkLawsBesides
import Derived.Lib.Hide
import Derived.Below
import Derived.Deep.QuietTactic
import Derived.BigQuiet
import Derived.WalkSmall
import Derived.Test.YtngpedcihajepaaGreatDoorShelf
import Derived.Maps.Own
import Derived.Maps.OwnOps
import Derived.Maps.Views
import Derived.Deep.AppendLies
import Derived.Shelf.LaysM
import Derived.Shelf.Strconv.Itoa1
import Derived.Shelf.Strconv.Itoa2
import Derived.Lib.Walk
import Derived.Lib.ItoaMem
import Derived.BigCall
import Derived.BigGuard
import Derived.Test.YtngpedcihajepaaGreatDoorBz1
import Derived.Test.YtngpedcihajepaaGreatDoorBz2
import Derived.Test.YtngpedcihajepaaGreatDoorBz3
import Derived.Test.YtngpedcihajepaaGreatDoorBz4
import Derived.Test.YtngpedcihajepaaGreatDoorBz5
import Derived.Test.YtngpedcihajepaaGreatDoorBz6
import Derived.Test.YtngpedcihajepaaGreatDoorBz7
import Derived.Test.YtngpedcihajepaaGreatDoorBz8
import Derived.Test.YtngpedcihajepaaGreatDoorBz9
import Derived.Test.YtngpedcihajepaaGreatDoorBz10
import Derived.Test.YtngpedcihajepaaGreatDoorBz11
import Derived.Test.YtngpedcihajepaaGreatDoorBz12
import Derived.Test.YtngpedcihajepaaGreatDoorBz13
import Derived.Test.YtngpedcihajepaaGreatDoorBz14
import Derived.Test.YtngpedcihajepaaGreatDoorBz15
import Derived.Test.YtngpedcihajepaaGreatDoorBz16
import Derived.Test.YtngpedcihajepaaGreatDoorBz17
import Derived.Test.YtngpedcihajepaaGreatDoorSq9
set_option linter.unusedVariables false
set_option linter.unusedSimpArgs false
set_option maxRecDepth 100000
set_option maxHeartbeats 40000000
namespace Go.Proofs.YtngpedcihajepaaGreatDoor
open Go.RowKit
def ParseC (s : ByteArray) (t : M.Tree) (a : Nat) (E : Int) (w : World) : Prop := Calls Tryz.prog 10 #[.string s] w fun e w' => (∃ nv, e = .returned (.tuple #[nv, .int .i64 (a : Nat), .int .i64 E]) /\ NodeV w' nv t) /\ Below w.heap.size w w'
theorem ParseIs.calls {s : ByteArray} {t : M.Tree} {a : Nat} {E : Int} (h : ParseIs (M.bs s) t a E) (hs : s.size <= 140737488351232) (w : World) : ParseC s t a E w := by
 refine (parse_any s w hs).mono ?_
 rintro e w' ⟨nv, a', E', t', rfl, hn, hb, h'⟩
 obtain ⟨rfl, rfl, rfl⟩ := h'.one h
 exact ⟨⟨nv, rfl, hn⟩, hb⟩
theorem parse_fix {s : ByteArray} (ps : List M.Pc) {t : M.Tree} {a : Nat} {E : Int} (h1 : M.bs s = M.flat ps) (h2 : M.okB ps [] = true) (hs : s.size <= 20000) (h3 : M.parseR s.size (M.TN s.size ps) = (t, a, E)) : ParseIs (M.bs s) t a E := by
 refine ⟨M.TN s.size ps, 0, 0, .inr ⟨by rw [M.bs_len]; exact hs, ?_⟩, by rw [if_pos rfl, M.bs_len, h3]⟩
 rw [M.bs_len, h1]
 exact M.reads_at s.size ps (M.okB_ok h2)
def s9a : ByteArray := ⟨#[108, 101, 116, 32, 97, 61, 98, 43, 99, 42, 45, 100, 91, 49, 93, 59, 32, 111, 117, 116, 32, 97, 32, 116, 111, 32, 49, 44, 50, 59]⟩
def t9a : M.Tree := .node 1 [] 0 [.node 3 [97] 0 [.node 20 [43] 0 [.node 15 [98] 0 [], .node 20 [42] 0 [.node 15 [99] 0 [], .node 19 [45] 0 [.node 17 [] 0 [.node 15 [100] 0 [], .node 14 [] 1 []]]]]], .node 8 [] 0 [.node 15 [97] 0 [], .node 12 [] 1 [], .node 12 [] 2 []]]
theorem p9a : ParseIs (M.bs s9a) t9a 0 0 := parse_fix [M.nm [108, 101, 116], M.bl, M.nm [97], M.sg 61, M.nm [98], M.sg 43, M.nm [99], M.sg 42, M.sg 45, M.nm [100], M.sg 91, .t 2 [49], M.sg 93, M.sg 59, M.bl, M.nm [111, 117, 116], M.bl, M.nm [97], M.bl, M.nm [116, 111], M.bl, .t 2 [49], M.sg 44, .t 2 [50], M.sg 59] (by decide) (by decide) (by decide) (by kernel_rfl)
def s9c : ByteArray := ⟨#[108, 101, 116, 32, 97, 32, 61, 32, 59]⟩
theorem p9c : ParseIs (M.bs s9c) M.Tree.no 8 4 := parse_fix [M.nm [108, 101, 116], M.bl, M.nm [97], M.bl, M.sg 61, M.bl, M.sg 59] (by decide) (by decide) (by decide) (by kernel_rfl)
def s9b : ByteArray := ⟨#[105, 110, 32, 120, 58, 32, 119, 111, 114, 100, 32, 56, 91, 52, 93, 32, 102, 114, 111, 109, 32, 50, 59, 32, 105, 102, 32, 120, 91, 48, 93, 60, 120, 91, 49, 93, 32, 123, 32, 108, 101, 116, 32, 121, 32, 61, 32, 49, 59, 32, 125, 32, 101, 108, 115, 101, 32, 123, 125]⟩
def t9b : M.Tree := .node 1 [] 0 [.node 2 [120] 2 [.node 11 [] 3 [.node 14 [] 8 [], .node 14 [] 4 []]], .node 6 [] 0 [.node 20 [60] 0 [.node 17 [] 0 [.node 15 [120] 0 [], .node 14 [] 0 []], .node 17 [] 0 [.node 15 [120] 0 [], .node 14 [] 1 []]], .node 10 [] 0 [.node 3 [121] 0 [.node 14 [] 1 []]], .node 10 [] 0 []]]
theorem p9b : ParseIs (M.bs s9b) t9b 0 0 := parse_fix [M.nm [105, 110], M.bl, M.nm [120], M.sg 58, M.bl, M.nm [119, 111, 114, 100], M.bl, .t 2 [56], M.sg 91, .t 2 [52], M.sg 93, M.bl, M.nm [102, 114, 111, 109], M.bl, .t 2 [50], M.sg 59, M.bl, M.nm [105, 102], M.bl, M.nm [120], M.sg 91, .t 2 [48], M.sg 93, M.sg 60, M.nm [120], M.sg 91, .t 2 [49], M.sg 93, M.bl, M.sg 123, M.bl, M.nm [108, 101, 116], M.bl, M.nm [121], M.bl, M.sg 61, M.bl, .t 2 [49], M.sg 59, M.bl, M.sg 125, M.bl, M.nm [101, 108, 115, 101], M.bl, M.sg 123, M.sg 125] (by decide) (by decide) (by decide) (by kernel_rfl)
def x9a : ByteArray := ⟨#[108, 101, 116, 32, 97, 32, 61, 32, 40, 98, 32, 43, 32, 40, 99, 32, 42, 32, 45, 100, 91, 49, 93, 41, 41, 59, 10, 111, 117, 116, 32, 97, 32, 116, 111, 32, 49, 44, 32, 50, 59, 10]⟩
def x9b : ByteArray := ⟨#[105, 110, 32, 120, 58, 32, 119, 111, 114, 100, 32, 56, 91, 52, 93, 32, 102, 114, 111, 109, 32, 50, 59, 10, 105, 102, 32, 40, 120, 91, 48, 93, 32, 60, 32, 120, 91, 49, 93, 41, 32, 123, 10, 32, 32, 108, 101, 116, 32, 121, 32, 61, 32, 49, 59, 10, 125, 10]⟩
theorem dig1 {n : Nat} (h : n < 10) : M.digitsL n = [48 + n] := by rw [M.digitsL, if_pos h]
theorem g9a : M.progT t9a = M.bs x9a := by
 have d1 := dig1 (n := 1) (by decide)
 have d2 := dig1 (n := 2) (by decide)
 unfold M.progT
 rw [<- M.flat_linesP]
 simp [t9a, M.Tree.kids, M.linesP, M.itemP, M.itemPW, M.exprP, M.exprPL, M.exprPW, M.blocksP, M.blockP, M.joinP, M.nu, d1, d2, M.flat, M.lineP, M.Pc.text, M.nm, M.sg, M.bl, M.Tree.no, M.Tree.kind, M.Tree.num, x9a, M.bs, List.getD]
theorem g9b : M.progT t9b = M.bs x9b := by
 have d0 := dig1 (n := 0) (by decide)
 have d1 := dig1 (n := 1) (by decide)
 have d2 := dig1 (n := 2) (by decide)
 have d4 := dig1 (n := 4) (by decide)
 have d8 := dig1 (n := 8) (by decide)
 unfold M.progT
 rw [<- M.flat_linesP]
 simp [t9b, M.Tree.kids, M.linesP, M.itemP, M.itemPW, M.exprP, M.exprPL, M.exprPW, M.blocksP, M.blockP, M.joinP, M.nu, M.typeP, d0, d1, d2, d4, d8, M.flat, M.lineP, M.Pc.text, M.nm, M.sg, M.bl, M.Tree.no, M.Tree.kind, M.Tree.num, x9b, M.bs, List.getD, List.replicate]
theorem c9a : M.checkE t9a = 0 := by kernel_rfl
theorem c9b : M.checkE t9b = 0 := by kernel_rfl
def TextC9 (t : M.Tree) (T : ByteArray) (E : Int) (v : Value) (w : World) : Prop := Calls Tryz.prog 20 #[v] w fun e w' => e = .returned (.tuple #[.string T, .int .i64 E]) /\ Below w.heap.size w w'
theorem text_fix {t : M.Tree} {T : ByteArray} (hc : M.checkE t = 0) (hg : M.progT t = M.bs T) (hn : M.count t <= 4611686018427387904) (hs : T.size <= 20000) {v : Value} {w : World} (hv : NodeV w v t) (ht : Tab9 w) : TextC9 t T 0 v w := by
 have hE : M.textE t = 0 := by unfold M.textE; rw [if_pos hc, hg, M.bs_len, if_neg (by omega)]
 refine (text9_any t hn v w hv ht).mono ?_
 rintro e w' ⟨⟨X, rfl, hX⟩, hb⟩
 rw [hE, if_pos rfl, hg] at hX
 rw [M.bs_inj hX, hE]
 exact ⟨rfl, hb⟩
theorem NodeV.v9e {w : World} {v : Value} {t : M.Tree} (h : NodeV w v t) : ∃ x : V9, v = .agg #[.int .i64 x.kind, .string x.text, .int .u64 (x.num : Nat), .slice x.ka x.kn x.kc] := by
 obtain ⟨T, kv, rfl, _, _, A, c, rfl, _⟩ := h
 exact ⟨⟨_, T, _, A, _, c⟩, rfl⟩
structure Laid9 (w : World) (x : V9) (W : World) : Prop where
 below : Below w.heap.size w W
 lt : w.heap.size < W.heap.size
 c0 : W.cell? ⟨w.heap.size, 0, none⟩ = some (.int .i64 x.kind)
 c1 : W.cell? ⟨w.heap.size, 1, none⟩ = some (.string x.text)
 c2 : W.cell? ⟨w.heap.size, 2, none⟩ = some (.int .u64 (x.num : Nat))
 c3 : W.cell? ⟨w.heap.size, 3, none⟩ = some (.slice x.ka x.kn x.kc)
abbrev put9z (w : World) (x : V9) : World := w.alloc (.cells #[.int .i64 x.kind, .string x.text, .int .u64 (x.num : Nat), .slice x.ka x.kn x.kc] 25)
theorem Laid9.start (w : World) (x : V9) : Laid9 w x (put9z w x) := by
 obtain ⟨c0, c1, c2, c3⟩ := (Box9.start w x).c
 exact ⟨balloc8 w _, by simp [put9z], c0, c1, c2, c3⟩
theorem Laid9.next {w : World} {x : V9} {W W' : World} (h : Laid9 w x W) (hb : Below W.heap.size W W') : Laid9 w x W' :=
 ⟨h.below.trans (hb.mono h.below.size), Nat.lt_of_lt_of_le h.lt hb.size, (hb.cell (p := ⟨w.heap.size, 0, none⟩) h.lt).trans h.c0, (hb.cell (p := ⟨w.heap.size, 1, none⟩) h.lt).trans h.c1, (hb.cell (p := ⟨w.heap.size, 2, none⟩) h.lt).trans h.c2, (hb.cell (p := ⟨w.heap.size, 3, none⟩) h.lt).trans h.c3⟩
theorem alive9_any (w : World) (htab : Tab9 w) : Calls Tryz.prog 13 #[] w fun e w' => e = .returned (.bool true) /\ Below w.heap.size w w' := by
 have hud := hud9
 have PA := Lib.hid fun W => ParseIs.calls p9a (by decide) W
 have PB := Lib.hid fun W => ParseIs.calls p9b (by decide) W
 have PC := Lib.hid fun W => ParseIs.calls p9c (by decide) W
 have TA := Lib.hid fun v W (hv : NodeV W v t9a) (ht : Tab9 W) => text_fix c9a g9a (by decide) (by decide) hv ht
 have TB := Lib.hid fun v W (hv : NodeV W v t9b) (ht : Tab9 W) => text_fix c9b g9b (by decide) (by decide) hv ht
 have HTB := Lib.hid htab
 unfold ParseC s9a at PA
 unfold ParseC s9b at PB
 unfold ParseC s9c at PC
 unfold TextC9 at TA TB
 have qa : x9a.toList = [108, 101, 116, 32, 97, 32, 61, 32, 40, 98, 32, 43, 32, 40, 99, 32, 42, 32, 45, 100, 91, 49, 93, 41, 41, 59, 10, 111, 117, 116, 32, 97, 32, 116, 111, 32, 49, 44, 32, 50, 59, 10] := by rw [show x9a = ⟨#[108, 101, 116, 32, 97, 32, 61, 32, 40, 98, 32, 43, 32, 40, 99, 32, 42, 32, 45, 100, 91, 49, 93, 41, 41, 59, 10, 111, 117, 116, 32, 97, 32, 116, 111, 32, 49, 44, 32, 50, 59, 10]⟩ from rfl]; simp [go_sem]
 have qb : x9b.toList = [105, 110, 32, 120, 58, 32, 119, 111, 114, 100, 32, 56, 91, 52, 93, 32, 102, 114, 111, 109, 32, 50, 59, 10, 105, 102, 32, 40, 120, 91, 48, 93, 32, 60, 32, 120, 91, 49, 93, 41, 32, 123, 10, 32, 32, 108, 101, 116, 32, 121, 32, 61, 32, 49, 59, 10, 125, 10] := by rw [show x9b = ⟨#[105, 110, 32, 120, 58, 32, 119, 111, 114, 100, 32, 56, 91, 52, 93, 32, 102, 114, 111, 109, 32, 50, 59, 10, 105, 102, 32, 40, 120, 91, 48, 93, 32, 60, 32, 120, 91, 49, 93, 41, 32, 123, 10, 32, 32, 108, 101, 116, 32, 121, 32, 61, 32, 49, 59, 10, 125, 10]⟩ from rfl]; simp [go_sem]
 clear htab
 go_enter Tryz.func13, Tryz.ntmps13
 go_wp2_with fail
 (with_reducible refine (PA.out w).mono ?_)
 rintro e w1 ⟨⟨nv, rfl, hn⟩, hb⟩
 obtain ⟨x1, rfl⟩ := hn.v9e
 have L1 := Lib.hid (Laid9.start w1 x1)
 have N1 := Lib.hid (hn.below L1.out.below)
 have T1 := Lib.hid ((HTB.out.below hb).below L1.out.below)
 have B1 := Lib.hid (hb.trans (L1.out.below.mono hb.size))
 clear hn hb
 go_wp2_with fail
 refine (TA.out _ (put9z w1 x1) N1.out T1.out).mono ?_
 rintro e w2 ⟨rfl, hb⟩
 have B2 := Lib.hid (B1.out.trans (hb.mono B1.out.size))
 clear hb
 go_wp2_with fail
 (with_reducible refine (PB.out w2).mono ?_)
 rintro e w3 ⟨⟨nv, rfl, hn⟩, hb⟩
 obtain ⟨x3, rfl⟩ := hn.v9e
 have L3 := Lib.hid (Laid9.start w3 x3)
 have N3 := Lib.hid (hn.below L3.out.below)
 have B3 := Lib.hid ((B2.out.trans (hb.mono B2.out.size)).trans (L3.out.below.mono (Nat.le_trans B2.out.size hb.size)))
 have T3 := Lib.hid (HTB.out.below B3.out)
 clear hn hb
 go_wp2_with fail
 refine (TB.out _ (put9z w3 x3) N3.out T3.out).mono ?_
 rintro e w4 ⟨rfl, hb⟩
 have B4 := Lib.hid (B3.out.trans (hb.mono B3.out.size))
 clear hb
 go_wp2_with fail
 (with_reducible refine (PC.out w4).mono ?_)
 rintro e w5 ⟨⟨nv, rfl, hn⟩, hb⟩
 have B5 := Lib.hid (B4.out.trans (hb.mono B4.out.size))
 obtain ⟨x5, rfl⟩ := hn.v9e
 clear hn hb
 go_wp2_with fail
 go_ret
 exact ⟨by first | rfl | (simp; done), by first | exact B5.out | exact (B5.out.alloc B5.out.size _)⟩
end Go.Proofs.YtngpedcihajepaaGreatDoor
