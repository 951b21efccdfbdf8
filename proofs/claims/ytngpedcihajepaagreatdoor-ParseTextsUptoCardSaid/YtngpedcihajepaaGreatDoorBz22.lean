/-
 Merged out of the texts Si9 Sj9 Sk9.
-/
import Derived.OwnWalk
import Derived.Deep.RegionHeld3
import Derived.WalkKit
import Derived.ProofKit
import Derived.ChangeMaps5
import Derived.Test.YtngpedcihajepaaGreatDoorProg
import Derived.Still
import Derived.Lib.MinMax
import Derived.WalkSpells
import Derived.WalkLawsBesides
import Derived.Lib.Hide
import Derived.Below
import Derived.Deep.QuietTactic
import Derived.BigQuiet
import Derived.Lib.MakeNoZero
import Derived.Laws.IdiomCopy
import Derived.Laws.BitsLemmas
import Derived.Shelf.Strings.BuilderX
import Derived.Lib.Builder
import Derived.Lib.AppendStr
import Derived.Lib.UnsafeStr
import Derived.Laws.Externs
import Derived.WalkSmall
import Derived.Test.YtngpedcihajepaaGreatDoorShelf
import Derived.Maps.Own
import Derived.Maps.OwnOps
import Derived.Maps.Views
import Derived.Deep.LoopGhost
import Derived.Deep.AppendLies
import Derived.Shelf.LaysM
import Derived.Shelf.Strconv.Itoa1
import Derived.Shelf.Strconv.Itoa2
import Derived.Lib.Walk
import Derived.Lib.ItoaMem
import Derived.BigCall
import Derived.BigGuard
import Derived.Test.YtngpedcihajepaaGreatDoorBz1
import Derived.Test.YtngpedcihajepaaGreatDoorBz2
import Derived.Test.YtngpedcihajepaaGreatDoorBz3
import Derived.Test.YtngpedcihajepaaGreatDoorBz4
import Derived.Test.YtngpedcihajepaaGreatDoorBz5
import Derived.Test.YtngpedcihajepaaGreatDoorBz6
import Derived.Test.YtngpedcihajepaaGreatDoorBz7
import Derived.Test.YtngpedcihajepaaGreatDoorBz8
import Derived.Test.YtngpedcihajepaaGreatDoorBz10
import Derived.Test.YtngpedcihajepaaGreatDoorBz11
import Derived.Test.YtngpedcihajepaaGreatDoorBz12
import Derived.Test.YtngpedcihajepaaGreatDoorBz13
import Derived.Test.YtngpedcihajepaaGreatDoorBz14
import Derived.Test.YtngpedcihajepaaGreatDoorBz15
import Derived.Test.YtngpedcihajepaaGreatDoorBz16
import Derived.Test.YtngpedcihajepaaGreatDoorBz17
import Derived.Test.YtngpedcihajepaaGreatDoorBz19
import Derived.Test.YtngpedcihajepaaGreatDoorBz20
import Derived.Test.YtngpedcihajepaaGreatDoorBz21
import Derived.Test.YtngpedcihajepaaGreatDoorSq9
set_option linter.unusedVariables false
set_option linter.unusedSimpArgs false
set_option maxRecDepth 100000
set_option maxHeartbeats 40000000
namespace Go.Proofs.YtngpedcihajepaaGreatDoor
open Go.RowKit

theorem ritem_6 (t : M.Tree) (f : Nat) (ih : ItemF f) (hkind : t.kind = 6) (hF : M.itemF (f + 1) t = true) (hcnt : M.count t <= 20000) (hwt : M.weight t <= 3000000000000000000) : ItemC t := by
 intro v w hv
 have hud := hud9
 rw [M.itemF, if_neg (show ¬ t.kind = 2 by omega), if_neg (show ¬ t.kind = 3 by omega), if_neg (show ¬ t.kind = 4 by omega), if_neg (show ¬ t.kind = 5 by omega), if_pos hkind] at hF
 have hF := of_decide_eq_true hF
 have hcn : ∀ i, i < t.kids.length -> M.count (t.kids.getD i M.Tree.no) <= 20000 := fun i hi => by have := M.count_kid (t := t) (kid_mem hi); omega
 have hwn : ∀ i, i < t.kids.length -> M.weight (t.kids.getD i M.Tree.no) <= 3000000000000000000 := fun i hi => by have := M.weight_kid (t := t) (kid_mem hi); omega
 obtain ⟨T, kv, rfl, hT, hok, hk⟩ := hv
 obtain ⟨r, er⟩ : ∃ r, r = M.itemT t := ⟨_, rfl⟩
 rw [<- er]
 rw [M.itemT_eq] at er
 unfold M.itemW at er
 rw [if_neg (show ¬ t.kind = 2 by omega), if_neg (show ¬ t.kind = 3 by omega), if_neg (show ¬ t.kind = 4 by omega), if_neg (show ¬ t.kind = 5 by omega), if_pos hkind] at er
 obtain ⟨K, eK⟩ : ∃ K, K = t.kind := ⟨_, rfl⟩
 obtain ⟨tx, ex⟩ : ∃ x, x = t.text := ⟨_, rfl⟩
 obtain ⟨n, en⟩ : ∃ n, n = t.num := ⟨_, rfl⟩
 obtain ⟨l, el⟩ : ∃ l, l = t.kids := ⟨_, rfl⟩
 try rw [<- eK] at er
 try rw [<- ex] at er
 try rw [<- en] at er
 try rw [<- el] at er
 rw [<- eK, <- en]
 rw [<- ex] at hT
 rw [<- el] at hk hF hcn hwn
 obtain ⟨A, cap, rfl, _⟩ := id hk
 have HTX := Lib.hid hT
 have hn := hok.2.1
 have hsz := hok.2.2
 rw [<- en] at hn
 have S0 := Lib.hid (NB.start w K T n (.slice A l.length cap))
 have hK : K = 6 := eK.trans hkind
 have gk2 : (K == 2) = false := by rw [beq_eq_false_iff_ne]; omega
 have gk3 : (K == 3) = false := by rw [beq_eq_false_iff_ne]; omega
 have gk4 : (K == 4) = false := by rw [beq_eq_false_iff_ne]; omega
 have gk5 : (K == 5) = false := by rw [beq_eq_false_iff_ne]; omega
 have gk6 : (K == 6) = true := by rw [beq_iff_eq]; omega
 have HKK := Lib.hid hk
 clear hT hok hk eK ex en el hK
 have hl : 2 < l.length := by have := hF.2.2.1; omega
 have hea := hF.2.2.2.1
 have hl2 := List.all_eq_true.1 hF.2.2.2.2
 have hbk : ∀ i, 0 < i -> i < 3 -> M.blockB (M.itemF f) (l.getD i M.Tree.no) = true := fun i h0 hi => hl2 _ (by
  have e : l.getD i M.Tree.no = (l.drop 1).getD (i - 1) M.Tree.no := by rw [drop_getD, show 1 + (i - 1) = i by omega]
  rw [e]; exact kid_mem (by rw [List.length_drop]; omega))
 have heb := hbk 1 (by omega) (by omega)
 have hec := hbk 2 (by omega) (by omega)
 rw [M.mapB_getD (by omega), M.mapB_getD (by omega)] at er
 obtain ⟨ba, oa, Ta, Aa, ma, cca, hAa, al, a0, a1, a2, a3, av⟩ := HKK.out.at 0 (by omega)
 cases hAa
 obtain ⟨ua, eua⟩ : ∃ u, u = l.getD 0 M.Tree.no := ⟨_, rfl⟩
 rw [<- eua] at a0 a2 av er
 obtain ⟨ka, eka⟩ : ∃ k, k = ua.kind := ⟨_, rfl⟩
 obtain ⟨na, ena⟩ : ∃ k, k = ua.num := ⟨_, rfl⟩
 rw [<- eka] at a0 av
 rw [<- ena] at a2 av
 simp only [show 0 * 4 = 0 from rfl, Nat.add_zero] at a0 a1 a2 a3
 have hia : 0 < l.length := by omega
 have Va := Lib.hid av
 have hca := hcn 0 (by omega)
 have hwa := hwn 0 (by omega)
 rw [<- eua] at hca hwa hea
 have EXA := Lib.hid fun w' (hb : Below w.heap.size w w') => rexpr9 hea hca hwa (Va.out.below hb)
 clear hca hwa hea
 clear av eua eka ena
 obtain ⟨qa0, qa1, qa2, qa3⟩ := bel4 S0.out.below al a0 a1 a2 a3
 obtain ⟨bb, ob, Tb, Ab, mb, ccb, hAb, bl, b0, b1, b2, b3, bv⟩ := HKK.out.at 1 (by omega)
 cases hAb
 obtain ⟨ub, eub⟩ : ∃ u, u = l.getD 1 M.Tree.no := ⟨_, rfl⟩
 rw [<- eub] at b0 b2 bv er
 obtain ⟨kb, ekb⟩ : ∃ k, k = ub.kind := ⟨_, rfl⟩
 obtain ⟨nb, enb⟩ : ∃ k, k = ub.num := ⟨_, rfl⟩
 rw [<- ekb] at b0 bv
 rw [<- enb] at b2 bv
 simp only [show 1 * 4 = 4 from rfl] at b0 b1 b2 b3
 have hib : 1 < l.length := by omega
 have Vb := Lib.hid bv
 have hcb := hcn 1 (by omega)
 have hwb := hwn 1 (by omega)
 rw [<- eub] at hcb hwb heb
 have LNb := Lib.hid fun w' (hb : Below w.heap.size w w') => rblock9 ih heb hcb hwb (Vb.out.below hb)
 clear hcb hwb heb
 clear bv eub ekb enb
 obtain ⟨qb0, qb1, qb2, qb3⟩ := bel4 S0.out.below bl b0 b1 b2 b3
 obtain ⟨bc, oc, Tc, Ac, mc, ccc, hAc, cl, c0, c1, c2, c3, cv⟩ := HKK.out.at 2 (by omega)
 cases hAc
 obtain ⟨uc, euc⟩ : ∃ u, u = l.getD 2 M.Tree.no := ⟨_, rfl⟩
 rw [<- euc] at c0 c2 cv er
 obtain ⟨kc, ekc⟩ : ∃ k, k = uc.kind := ⟨_, rfl⟩
 obtain ⟨nc, enc⟩ : ∃ k, k = uc.num := ⟨_, rfl⟩
 rw [<- ekc] at c0 cv
 rw [<- enc] at c2 cv
 simp only [show 2 * 4 = 8 from rfl] at c0 c1 c2 c3
 have hic : 2 < l.length := by omega
 have Vc := Lib.hid cv
 have hcc := hcn 2 (by omega)
 have hwc := hwn 2 (by omega)
 rw [<- euc] at hcc hwc hec
 have LNc := Lib.hid fun w' (hb : Below w.heap.size w w') => rblock9 ih hec hcc hwc (Vc.out.below hb)
 clear hcc hwc hec
 clear cv euc ekc enc
 obtain ⟨qc0, qc1, qc2, qc3⟩ := bel4 S0.out.below cl c0 c1 c2 c3
 have hmc := (NodeV.kidsV Vc.out).kid.1
 rw [<- hmc] at er
 have ER0 := Lib.hid er
 clear er hF hcn hwn hkind hcnt hwt hl2 hbk ih hmc
 have HSC := Lib.hid fun W' (h : NB w K T n (.slice (some ⟨ba, oa, none⟩) l.length cap) W') => (show NB w K T n (.slice (some ⟨ba, oa, none⟩) l.length cap) W' /\ W'.cell? ⟨w.heap.size, 0, none⟩ = some (.int .i64 K) /\ W'.cell? ⟨w.heap.size, 1, none⟩ = some (.string T) /\ W'.cell? ⟨w.heap.size, 2, none⟩ = some (.int .u64 (n : Nat)) /\ W'.cell? ⟨w.heap.size, 3, none⟩ = some (.slice (some ⟨ba, oa, none⟩) l.length cap) /\ W'.cell? ⟨ba, oa, none⟩ = some (.int .i64 ka) /\ W'.cell? ⟨ba, oa + 1, none⟩ = some (.string Ta) /\ W'.cell? ⟨ba, oa + 2, none⟩ = some (.int .u64 (na : Nat)) /\ W'.cell? ⟨ba, oa + 3, none⟩ = some (.slice Aa ma cca) /\ W'.cell? ⟨ba, oa + 4, none⟩ = some (.int .i64 kb) /\ W'.cell? ⟨ba, oa + 4 + 1, none⟩ = some (.string Tb) /\ W'.cell? ⟨ba, oa + 4 + 2, none⟩ = some (.int .u64 (nb : Nat)) /\ W'.cell? ⟨ba, oa + 4 + 3, none⟩ = some (.slice Ab mb ccb) /\ W'.cell? ⟨ba, oa + 8, none⟩ = some (.int .i64 kc) /\ W'.cell? ⟨ba, oa + 8 + 1, none⟩ = some (.string Tc) /\ W'.cell? ⟨ba, oa + 8 + 2, none⟩ = some (.int .u64 (nc : Nat)) /\ W'.cell? ⟨ba, oa + 8 + 3, none⟩ = some (.slice Ac mc ccc) from ⟨h, h.c0, h.c1, h.c2, h.c3, (h.below.cell (p := ⟨_, _, none⟩) al).trans a0, (h.below.cell (p := ⟨_, _, none⟩) al).trans a1, (h.below.cell (p := ⟨_, _, none⟩) al).trans a2, (h.below.cell (p := ⟨_, _, none⟩) al).trans a3, (h.below.cell (p := ⟨_, _, none⟩) bl).trans b0, (h.below.cell (p := ⟨_, _, none⟩) bl).trans b1, (h.below.cell (p := ⟨_, _, none⟩) bl).trans b2, (h.below.cell (p := ⟨_, _, none⟩) bl).trans b3, (h.below.cell (p := ⟨_, _, none⟩) cl).trans c0, (h.below.cell (p := ⟨_, _, none⟩) cl).trans c1, (h.below.cell (p := ⟨_, _, none⟩) cl).trans c2, (h.below.cell (p := ⟨_, _, none⟩) cl).trans c3⟩)
 by_cases h1 : 0 < mc
 ·have er := ER0.out
  clear ER0
  rw [if_pos h1] at er
  have ER := Lib.hid er
  clear er
  have gl : decide ((mc : Int) > 0) = true := by rw [decide_eq_true_eq]; omega
  go_enter Tryz.func48, Tryz.ntmps48
  go_wp2_with fail
  have D0 := Lib.hid S0.out.drew
  try dsimp only [List.append]
  refine wp_region_ord (S := fun W' => NB w K T n (.slice (some ⟨ba, oa, none⟩) l.length cap) W' /\ W'.cell? ⟨w.heap.size, 0, none⟩ = some (.int .i64 K) /\ W'.cell? ⟨w.heap.size, 1, none⟩ = some (.string T) /\ W'.cell? ⟨w.heap.size, 2, none⟩ = some (.int .u64 (n : Nat)) /\ W'.cell? ⟨w.heap.size, 3, none⟩ = some (.slice (some ⟨ba, oa, none⟩) l.length cap) /\ W'.cell? ⟨ba, oa, none⟩ = some (.int .i64 ka) /\ W'.cell? ⟨ba, oa + 1, none⟩ = some (.string Ta) /\ W'.cell? ⟨ba, oa + 2, none⟩ = some (.int .u64 (na : Nat)) /\ W'.cell? ⟨ba, oa + 3, none⟩ = some (.slice Aa ma cca) /\ W'.cell? ⟨ba, oa + 4, none⟩ = some (.int .i64 kb) /\ W'.cell? ⟨ba, oa + 4 + 1, none⟩ = some (.string Tb) /\ W'.cell? ⟨ba, oa + 4 + 2, none⟩ = some (.int .u64 (nb : Nat)) /\ W'.cell? ⟨ba, oa + 4 + 3, none⟩ = some (.slice Ab mb ccb) /\ W'.cell? ⟨ba, oa + 8, none⟩ = some (.int .i64 kc) /\ W'.cell? ⟨ba, oa + 8 + 1, none⟩ = some (.string Tc) /\ W'.cell? ⟨ba, oa + 8 + 2, none⟩ = some (.int .u64 (nc : Nat)) /\ W'.cell? ⟨ba, oa + 8 + 3, none⟩ = some (.slice Ac mc ccc)) [0, 1, 2, 7, 8, 9, 10, 3, 4, 5, 6, 11, 12, 13, 14] (by kernel_rfl) (by kernel_rfl) (by kernel_rfl) (fun _ _ _ _ _ h => h) ?_ ?_
  ·exact HSC.out _ D0.out
  iterate 7 (refine OrdH.yield (v := ?_) (by rfl) (by rfl) ?_ ?_; rotate_left 1; (· intro w hSw; (try dsimp only at hSw); go_simp; (try rw [if_neg (by first | omega | (simp only [M.size_app]; omega))]); (try rw [if_pos (by omega)]); try with_reducible rfl); (try simp only [Act.put, List.setIfInBounds_toArray, List.set_cons_zero, List.set_cons_succ]))
  refine OrdH.alone (by rfl) (by rfl) (by kernel_rfl) (fun K hKK => ?_)
  go_simp
  go_at_call 102
  (with_reducible refine (EXA.out _ D0.out.below).mono ?_)
  rintro e w1 ⟨Xa, rfl, hX, hza, hb⟩
  have D1 := Lib.hid (D0.out.next hb)
  have Ea := Lib.hid hX
  clear hb hX
  go_wp2_with fail
  refine hKK.out _ _ ?_ (fun hHeld => ?_)
  ·exact HSC.out _ D1.out
  clear hKK K hHeld
  (try simp only [Act.put, List.setIfInBounds_toArray, List.set_cons_zero, List.set_cons_succ])
  iterate 2 (refine OrdH.yield (v := ?_) (by rfl) (by rfl) ?_ ?_; rotate_left 1; (· intro w hSw; (try dsimp only at hSw); go_simp; (try rw [if_neg (by first | omega | (simp only [M.size_app]; omega))]); (try rw [if_pos (by omega)]); try with_reducible rfl); (try simp only [Act.put, List.setIfInBounds_toArray, List.set_cons_zero, List.set_cons_succ]))
  refine OrdH.fork (k2 := 11) (r2 := [6, 12, 13, 14]) (by rfl) (by rfl) (by rfl) (by rfl) (by kernel_rfl) (by rfl) (by kernel_rfl) (fun K hKK => ?_) (fun K hKK => ?_)
  ·go_simp
   (try go_wp2_with fail)
   have D2 := Lib.hid (D1.out.next ((Below.refl _ _).alloc (Nat.le_refl _) (.cells #[.string (⟨#[105, 102, 32]⟩ ++ Xa ++ ⟨#[32, 123]⟩)] 9)))
   have H0 := Lib.hid (OwnS.one (T := ⟨#[105, 102, 32]⟩ ++ Xa ++ ⟨#[32, 123]⟩) (base := w.heap.size + 1) D1.out.lt _ rfl)
   refine hKK.out _ _ ?_ (fun hHeld => ?_)
   ·exact HSC.out _ D2.out
   clear hKK K hHeld
   (try simp only [Act.put, List.setIfInBounds_toArray, List.set_cons_zero, List.set_cons_succ])
   refine OrdH.alone (by rfl) (by rfl) (by kernel_rfl) (fun K hKK => ?_)
   go_simp
   go_at_call 35
   (with_reducible refine (LNb.out _ D2.out.below).mono ?_)
   rintro e w3 ⟨vlb, Lb, rfl, hO, hL, hlnb, hszb, hb⟩
   have D3 := Lib.hid (D2.out.next hb)
   have Eb := Lib.hid hL
   have Zb := Lib.hid hszb
   have H0_3 := Lib.hid (OwnS.below H0.out hb)
   have Rb := Lib.hid hO
   clear hb hO hL hszb
   go_wp2_with fail
   refine hKK.out _ _ ?_ (fun hHeld => ?_)
   ·exact HSC.out _ D3.out
   clear hKK K hHeld
   (try simp only [Act.put, List.setIfInBounds_toArray, List.set_cons_zero, List.set_cons_succ])
   refine OrdH.alone (by rfl) (by rfl) (by kernel_rfl) (fun K hKK => ?_)
   go_simp
   go_at_call 103
   (with_reducible refine (deeper_any _ Lb _ (OwnS.strs (by omega) Rb.out) Zb.out).mono ?_)
   rintro e w4 ⟨⟨vdb, rfl, hO⟩, hb⟩
   have D4 := Lib.hid (D3.out.next hb)
   have H0_4 := Lib.hid (OwnS.below H0_3.out hb)
   have Gb := Lib.hid hO
   clear hb hO
   go_wp2_with fail
   refine hKK.out _ _ ?_ (fun hHeld => ?_)
   ·exact HSC.out _ D4.out
   clear hKK K hHeld
   (try simp only [Act.put, List.setIfInBounds_toArray, List.set_cons_zero, List.set_cons_succ])
   refine OrdH.alone (by rfl) (by rfl) (by kernel_rfl) (fun K hKK => ?_)
   refine wp_append_strs _ _ rfl (w.heap.size + 1) _ _ _ (Lb.map fun x => (⟨#[32, 32]⟩ : ByteArray) ++ x) rfl rfl H0_4.out (OwnS.strs (by rw [List.length_map]; omega) Gb.out) (by simp only [List.length_map, List.length_cons, List.length_append, List.length_nil]; omega) D4.out.lt ?_
   intro vo w5 hO hb
   have D5 := Lib.hid (D4.out.next2 hb)
   have HO := Lib.hid hO
   clear hb hO
   refine hKK.out _ _ ?_ (fun hHeld => ?_)
   ·exact HSC.out _ D5.out
   clear hKK K hHeld
   (try simp only [Act.put, List.setIfInBounds_toArray, List.set_cons_zero, List.set_cons_succ])
   (refine OrdH.yield (v := ?_) (by rfl) (by rfl) ?_ ?_; rotate_left 1; (· intro w hSw; (try dsimp only at hSw); go_simp; (try rw [if_neg (by first | omega | (simp only [M.size_app]; omega))]); (try rw [if_pos (by omega)]); try with_reducible rfl); (try simp only [Act.put, List.setIfInBounds_toArray, List.set_cons_zero, List.set_cons_succ]))
   refine OrdH.nil ?_
   obtain ⟨-, -, y0, y1, y2, y3⟩ := id D5.out
   obtain ⟨qa0, qa1, qa2, qa3⟩ := bel4 D5.out.below al a0 a1 a2 a3
   obtain ⟨qb0, qb1, qb2, qb3⟩ := bel4 D5.out.below bl b0 b1 b2 b3
   obtain ⟨qc0, qc1, qc2, qc3⟩ := bel4 D5.out.below cl c0 c1 c2 c3
   go_wp2_with fail
   have D6 := Lib.hid D5.out.drew
   have HO_d6 := Lib.hid (World.ownsRow.drew HO.out)
   try dsimp only [List.append]
   refine wp_region_ord (S := fun W' => NB w K T n (.slice (some ⟨ba, oa, none⟩) l.length cap) W' /\ W'.cell? ⟨w.heap.size, 0, none⟩ = some (.int .i64 K) /\ W'.cell? ⟨w.heap.size, 1, none⟩ = some (.string T) /\ W'.cell? ⟨w.heap.size, 2, none⟩ = some (.int .u64 (n : Nat)) /\ W'.cell? ⟨w.heap.size, 3, none⟩ = some (.slice (some ⟨ba, oa, none⟩) l.length cap) /\ W'.cell? ⟨ba, oa, none⟩ = some (.int .i64 ka) /\ W'.cell? ⟨ba, oa + 1, none⟩ = some (.string Ta) /\ W'.cell? ⟨ba, oa + 2, none⟩ = some (.int .u64 (na : Nat)) /\ W'.cell? ⟨ba, oa + 3, none⟩ = some (.slice Aa ma cca) /\ W'.cell? ⟨ba, oa + 4, none⟩ = some (.int .i64 kb) /\ W'.cell? ⟨ba, oa + 4 + 1, none⟩ = some (.string Tb) /\ W'.cell? ⟨ba, oa + 4 + 2, none⟩ = some (.int .u64 (nb : Nat)) /\ W'.cell? ⟨ba, oa + 4 + 3, none⟩ = some (.slice Ab mb ccb) /\ W'.cell? ⟨ba, oa + 8, none⟩ = some (.int .i64 kc) /\ W'.cell? ⟨ba, oa + 8 + 1, none⟩ = some (.string Tc) /\ W'.cell? ⟨ba, oa + 8 + 2, none⟩ = some (.int .u64 (nc : Nat)) /\ W'.cell? ⟨ba, oa + 8 + 3, none⟩ = some (.slice Ac mc ccc)) [0, 3, 4, 5, 6, 1, 2, 7, 8, 9, 10] (by kernel_rfl) (by kernel_rfl) (by kernel_rfl) (fun _ _ _ _ _ h => h) ?_ ?_
   ·exact HSC.out _ D6.out
   generalize w5.drew = wd at D6 HO_d6 ⊢
   iterate 5 (refine OrdH.yield (v := ?_) (by rfl) (by rfl) ?_ ?_; rotate_left 1; (· intro w hSw; (try dsimp only at hSw); go_simp; (try rw [if_neg (by first | omega | (simp only [M.size_app]; omega))]); (try rw [if_pos (by omega)]); try with_reducible rfl); (try simp only [Act.put, List.setIfInBounds_toArray, List.set_cons_zero, List.set_cons_succ]))
   refine OrdH.alone (by rfl) (by rfl) (by kernel_rfl) (fun K hKK => ?_)
   go_simp
   (try go_wp2_with fail)
   have D7 := Lib.hid (D6.out.next ((Below.refl _ _).alloc (Nat.le_refl _) (.cells #[.string (⟨#[125, 32, 101, 108, 115, 101, 32, 123]⟩)] 9)))
   have HB := Lib.hid (OwnS.one (T := ⟨#[125, 32, 101, 108, 115, 101, 32, 123]⟩) (base := w.heap.size + 1) D6.out.lt _ rfl)
   have HO_7 := Lib.hid (OwnS.alloc HO_d6.out (.cells #[.string (⟨#[125, 32, 101, 108, 115, 101, 32, 123]⟩)] 9))
   refine hKK.out _ _ ?_ (fun hHeld => ?_)
   ·exact HSC.out _ D7.out
   clear hKK K hHeld
   (try simp only [Act.put, List.setIfInBounds_toArray, List.set_cons_zero, List.set_cons_succ])
   refine OrdH.alone (by rfl) (by rfl) (by kernel_rfl) (fun K hKK => ?_)
   refine wp_append_strs2 _ _ rfl (w.heap.size + 1) _ _ _ [⟨#[125, 32, 101, 108, 115, 101, 32, 123]⟩] rfl rfl HO_7.out (OwnS.strs (by decide) HB.out) (by simp only [List.length_map, List.length_cons, List.length_append, List.length_nil]; omega) D7.out.lt ?_
   intro vo2 w8 hO hb hgr
   have D8 := Lib.hid (D7.out.next2 hb)
   have HP := Lib.hid hO
   clear hb hO hgr
   refine hKK.out _ _ ?_ (fun hHeld => ?_)
   ·exact HSC.out _ D8.out
   clear hKK K hHeld
   (try simp only [Act.put, List.setIfInBounds_toArray, List.set_cons_zero, List.set_cons_succ])
   refine OrdH.alone (by rfl) (by rfl) (by kernel_rfl) (fun K hKK => ?_)
   go_simp
   go_at_call 35
   (with_reducible refine (LNc.out _ D8.out.below).mono ?_)
   rintro e w9 ⟨vlc, Lc, rfl, hO, hL, hlnc, hszc, hb⟩
   have D9 := Lib.hid (D8.out.next hb)
   have Ec := Lib.hid hL
   have Zc := Lib.hid hszc
   have HP_9 := Lib.hid (OwnS.below HP.out hb)
   have Rc := Lib.hid hO
   clear hb hO hL hszc
   go_wp2_with fail
   refine hKK.out _ _ ?_ (fun hHeld => ?_)
   ·exact HSC.out _ D9.out
   clear hKK K hHeld
   (try simp only [Act.put, List.setIfInBounds_toArray, List.set_cons_zero, List.set_cons_succ])
   refine OrdH.alone (by rfl) (by rfl) (by kernel_rfl) (fun K hKK => ?_)
   go_simp
   go_at_call 103
   (with_reducible refine (deeper_any _ Lc _ (OwnS.strs (by omega) Rc.out) Zc.out).mono ?_)
   rintro e w10 ⟨⟨vdc, rfl, hO⟩, hb⟩
   have D10 := Lib.hid (D9.out.next hb)
   have HP_10 := Lib.hid (OwnS.below HP_9.out hb)
   have Gc := Lib.hid hO
   clear hb hO
   go_wp2_with fail
   refine hKK.out _ _ ?_ (fun hHeld => ?_)
   ·exact HSC.out _ D10.out
   clear hKK K hHeld
   (try simp only [Act.put, List.setIfInBounds_toArray, List.set_cons_zero, List.set_cons_succ])
   refine OrdH.alone (by rfl) (by rfl) (by kernel_rfl) (fun K hKK => ?_)
   refine wp_append_strs _ _ rfl (w.heap.size + 1) _ _ _ (Lc.map fun x => (⟨#[32, 32]⟩ : ByteArray) ++ x) rfl rfl HP_10.out (OwnS.strs (by rw [List.length_map]; omega) Gc.out) (by simp only [List.length_map, List.length_cons, List.length_append, List.length_nil]; omega) D10.out.lt ?_
   intro vo w11 hO hb
   have D11 := Lib.hid (D10.out.next2 hb)
   have HQ := Lib.hid hO
   clear hb hO
   refine hKK.out _ _ ?_ (fun hHeld => ?_)
   ·exact HSC.out _ D11.out
   clear hKK K hHeld
   (try simp only [Act.put, List.setIfInBounds_toArray, List.set_cons_zero, List.set_cons_succ])
   (refine OrdH.yield (v := ?_) (by rfl) (by rfl) ?_ ?_; rotate_left 1; (· intro w hSw; (try dsimp only at hSw); go_simp; (try rw [if_neg (by first | omega | (simp only [M.size_app]; omega))]); (try rw [if_pos (by omega)]); try with_reducible rfl); (try simp only [Act.put, List.setIfInBounds_toArray, List.set_cons_zero, List.set_cons_succ]))
   refine OrdH.nil ?_
   go_wp2_with (at_builtin; refine wpList_append_strs rfl _ _ rfl (w.heap.size + 1) _ _ _ [⟨#[125]⟩] rfl rfl (OwnS.alloc HQ.out _) (strS_new _ [⟨#[125]⟩] _ (by decide)) ?d1 ?d2 ?_)
   case d1 => simp only [List.length_map, List.length_cons, List.length_append, List.length_nil]; omega
   case d2 => have := D11.out.lt; simp; omega
   intro v9 w9 h9 hb9
   have D9 := Lib.hid ((D11.out.next ((Below.refl _ _).alloc (Nat.le_refl _) _)).next2 hb9)
   have H9 := Lib.hid (h9.mono (Nat.le_succ _))
   clear h9 hb9
   go_wp2_with fail
   go_ret
   refine ⟨⟨_, _, rfl, H9.out, ?_⟩, D9.out.below⟩
   rw [ER.out]; simp only [List.map_append, List.map_cons, List.map_nil, deepB Eb.out, deepB Ec.out, M.bs_append, Ea.out, List.append_assoc]; rfl
  ·go_simp
   go_at_call 35
   (with_reducible refine (LNb.out _ D1.out.below).mono ?_)
   rintro e w2 ⟨vlb, Lb, rfl, hO, hL, hlnb, hszb, hb⟩
   have D2 := Lib.hid (D1.out.next hb)
   have Eb := Lib.hid hL
   have Zb := Lib.hid hszb
   have Rb := Lib.hid hO
   clear hb hO hL hszb
   go_wp2_with fail
   refine hKK.out _ _ ?_ (fun hHeld => ?_)
   ·exact HSC.out _ D2.out
   clear hKK K hHeld
   (try simp only [Act.put, List.setIfInBounds_toArray, List.set_cons_zero, List.set_cons_succ])
   refine OrdH.fork (k2 := 12) (r2 := [6, 13, 14]) (by rfl) (by rfl) (by rfl) (by rfl) (by kernel_rfl) (by rfl) (by kernel_rfl) (fun K hKK => ?_) (fun K hKK => ?_)
   ·go_simp
    (try go_wp2_with fail)
    have D3 := Lib.hid (D2.out.next ((Below.refl _ _).alloc (Nat.le_refl _) (.cells #[.string (⟨#[105, 102, 32]⟩ ++ Xa ++ ⟨#[32, 123]⟩)] 9)))
    have H0 := Lib.hid (OwnS.one (T := ⟨#[105, 102, 32]⟩ ++ Xa ++ ⟨#[32, 123]⟩) (base := w.heap.size + 1) D2.out.lt _ rfl)
    have Rb_3 := Lib.hid (OwnS.alloc Rb.out (.cells #[.string (⟨#[105, 102, 32]⟩ ++ Xa ++ ⟨#[32, 123]⟩)] 9))
    refine hKK.out _ _ ?_ (fun hHeld => ?_)
    ·exact HSC.out _ D3.out
    clear hKK K hHeld
    (try simp only [Act.put, List.setIfInBounds_toArray, List.set_cons_zero, List.set_cons_succ])
    refine OrdH.alone (by rfl) (by rfl) (by kernel_rfl) (fun K hKK => ?_)
    go_simp
    go_at_call 103
    (with_reducible refine (deeper_any _ Lb _ (OwnS.strs (by omega) Rb_3.out) Zb.out).mono ?_)
    rintro e w4 ⟨⟨vdb, rfl, hO⟩, hb⟩
    have D4 := Lib.hid (D3.out.next hb)
    have H0_4 := Lib.hid (OwnS.below H0.out hb)
    have Gb := Lib.hid hO
    clear hb hO
    go_wp2_with fail
    refine hKK.out _ _ ?_ (fun hHeld => ?_)
    ·exact HSC.out _ D4.out
    clear hKK K hHeld
    (try simp only [Act.put, List.setIfInBounds_toArray, List.set_cons_zero, List.set_cons_succ])
    refine OrdH.alone (by rfl) (by rfl) (by kernel_rfl) (fun K hKK => ?_)
    refine wp_append_strs _ _ rfl (w.heap.size + 1) _ _ _ (Lb.map fun x => (⟨#[32, 32]⟩ : ByteArray) ++ x) rfl rfl H0_4.out (OwnS.strs (by rw [List.length_map]; omega) Gb.out) (by simp only [List.length_map, List.length_cons, List.length_append, List.length_nil]; omega) D4.out.lt ?_
    intro vo w5 hO hb
    have D5 := Lib.hid (D4.out.next2 hb)
    have HO := Lib.hid hO
    clear hb hO
    refine hKK.out _ _ ?_ (fun hHeld => ?_)
    ·exact HSC.out _ D5.out
    clear hKK K hHeld
    (try simp only [Act.put, List.setIfInBounds_toArray, List.set_cons_zero, List.set_cons_succ])
    (refine OrdH.yield (v := ?_) (by rfl) (by rfl) ?_ ?_; rotate_left 1; (· intro w hSw; (try dsimp only at hSw); go_simp; (try rw [if_neg (by first | omega | (simp only [M.size_app]; omega))]); (try rw [if_pos (by omega)]); try with_reducible rfl); (try simp only [Act.put, List.setIfInBounds_toArray, List.set_cons_zero, List.set_cons_succ]))
    refine OrdH.nil ?_
    obtain ⟨-, -, y0, y1, y2, y3⟩ := id D5.out
    obtain ⟨qa0, qa1, qa2, qa3⟩ := bel4 D5.out.below al a0 a1 a2 a3
    obtain ⟨qb0, qb1, qb2, qb3⟩ := bel4 D5.out.below bl b0 b1 b2 b3
    obtain ⟨qc0, qc1, qc2, qc3⟩ := bel4 D5.out.below cl c0 c1 c2 c3
    go_wp2_with fail
    have D6 := Lib.hid D5.out.drew
    have HO_d6 := Lib.hid (World.ownsRow.drew HO.out)
    try dsimp only [List.append]
    refine wp_region_ord (S := fun W' => NB w K T n (.slice (some ⟨ba, oa, none⟩) l.length cap) W' /\ W'.cell? ⟨w.heap.size, 0, none⟩ = some (.int .i64 K) /\ W'.cell? ⟨w.heap.size, 1, none⟩ = some (.string T) /\ W'.cell? ⟨w.heap.size, 2, none⟩ = some (.int .u64 (n : Nat)) /\ W'.cell? ⟨w.heap.size, 3, none⟩ = some (.slice (some ⟨ba, oa, none⟩) l.length cap) /\ W'.cell? ⟨ba, oa, none⟩ = some (.int .i64 ka) /\ W'.cell? ⟨ba, oa + 1, none⟩ = some (.string Ta) /\ W'.cell? ⟨ba, oa + 2, none⟩ = some (.int .u64 (na : Nat)) /\ W'.cell? ⟨ba, oa + 3, none⟩ = some (.slice Aa ma cca) /\ W'.cell? ⟨ba, oa + 4, none⟩ = some (.int .i64 kb) /\ W'.cell? ⟨ba, oa + 4 + 1, none⟩ = some (.string Tb) /\ W'.cell? ⟨ba, oa + 4 + 2, none⟩ = some (.int .u64 (nb : Nat)) /\ W'.cell? ⟨ba, oa + 4 + 3, none⟩ = some (.slice Ab mb ccb) /\ W'.cell? ⟨ba, oa + 8, none⟩ = some (.int .i64 kc) /\ W'.cell? ⟨ba, oa + 8 + 1, none⟩ = some (.string Tc) /\ W'.cell? ⟨ba, oa + 8 + 2, none⟩ = some (.int .u64 (nc : Nat)) /\ W'.cell? ⟨ba, oa + 8 + 3, none⟩ = some (.slice Ac mc ccc)) [0, 3, 4, 5, 6, 1, 2, 7, 8, 9, 10] (by kernel_rfl) (by kernel_rfl) (by kernel_rfl) (fun _ _ _ _ _ h => h) ?_ ?_
    ·exact HSC.out _ D6.out
    generalize w5.drew = wd at D6 HO_d6 ⊢
    iterate 5 (refine OrdH.yield (v := ?_) (by rfl) (by rfl) ?_ ?_; rotate_left 1; (· intro w hSw; (try dsimp only at hSw); go_simp; (try rw [if_neg (by first | omega | (simp only [M.size_app]; omega))]); (try rw [if_pos (by omega)]); try with_reducible rfl); (try simp only [Act.put, List.setIfInBounds_toArray, List.set_cons_zero, List.set_cons_succ]))
    refine OrdH.alone (by rfl) (by rfl) (by kernel_rfl) (fun K hKK => ?_)
    go_simp
    (try go_wp2_with fail)
    have D7 := Lib.hid (D6.out.next ((Below.refl _ _).alloc (Nat.le_refl _) (.cells #[.string (⟨#[125, 32, 101, 108, 115, 101, 32, 123]⟩)] 9)))
    have HB := Lib.hid (OwnS.one (T := ⟨#[125, 32, 101, 108, 115, 101, 32, 123]⟩) (base := w.heap.size + 1) D6.out.lt _ rfl)
    have HO_7 := Lib.hid (OwnS.alloc HO_d6.out (.cells #[.string (⟨#[125, 32, 101, 108, 115, 101, 32, 123]⟩)] 9))
    refine hKK.out _ _ ?_ (fun hHeld => ?_)
    ·exact HSC.out _ D7.out
    clear hKK K hHeld
    (try simp only [Act.put, List.setIfInBounds_toArray, List.set_cons_zero, List.set_cons_succ])
    refine OrdH.alone (by rfl) (by rfl) (by kernel_rfl) (fun K hKK => ?_)
    refine wp_append_strs2 _ _ rfl (w.heap.size + 1) _ _ _ [⟨#[125, 32, 101, 108, 115, 101, 32, 123]⟩] rfl rfl HO_7.out (OwnS.strs (by decide) HB.out) (by simp only [List.length_map, List.length_cons, List.length_append, List.length_nil]; omega) D7.out.lt ?_
    intro vo2 w8 hO hb hgr
    have D8 := Lib.hid (D7.out.next2 hb)
    have HP := Lib.hid hO
    clear hb hO hgr
    refine hKK.out _ _ ?_ (fun hHeld => ?_)
    ·exact HSC.out _ D8.out
    clear hKK K hHeld
    (try simp only [Act.put, List.setIfInBounds_toArray, List.set_cons_zero, List.set_cons_succ])
    refine OrdH.alone (by rfl) (by rfl) (by kernel_rfl) (fun K hKK => ?_)
    go_simp
    go_at_call 35
    (with_reducible refine (LNc.out _ D8.out.below).mono ?_)
    rintro e w9 ⟨vlc, Lc, rfl, hO, hL, hlnc, hszc, hb⟩
    have D9 := Lib.hid (D8.out.next hb)
    have Ec := Lib.hid hL
    have Zc := Lib.hid hszc
    have HP_9 := Lib.hid (OwnS.below HP.out hb)
    have Rc := Lib.hid hO
    clear hb hO hL hszc
    go_wp2_with fail
    refine hKK.out _ _ ?_ (fun hHeld => ?_)
    ·exact HSC.out _ D9.out
    clear hKK K hHeld
    (try simp only [Act.put, List.setIfInBounds_toArray, List.set_cons_zero, List.set_cons_succ])
    refine OrdH.alone (by rfl) (by rfl) (by kernel_rfl) (fun K hKK => ?_)
    go_simp
    go_at_call 103
    (with_reducible refine (deeper_any _ Lc _ (OwnS.strs (by omega) Rc.out) Zc.out).mono ?_)
    rintro e w10 ⟨⟨vdc, rfl, hO⟩, hb⟩
    have D10 := Lib.hid (D9.out.next hb)
    have HP_10 := Lib.hid (OwnS.below HP_9.out hb)
    have Gc := Lib.hid hO
    clear hb hO
    go_wp2_with fail
    refine hKK.out _ _ ?_ (fun hHeld => ?_)
    ·exact HSC.out _ D10.out
    clear hKK K hHeld
    (try simp only [Act.put, List.setIfInBounds_toArray, List.set_cons_zero, List.set_cons_succ])
    refine OrdH.alone (by rfl) (by rfl) (by kernel_rfl) (fun K hKK => ?_)
    refine wp_append_strs _ _ rfl (w.heap.size + 1) _ _ _ (Lc.map fun x => (⟨#[32, 32]⟩ : ByteArray) ++ x) rfl rfl HP_10.out (OwnS.strs (by rw [List.length_map]; omega) Gc.out) (by simp only [List.length_map, List.length_cons, List.length_append, List.length_nil]; omega) D10.out.lt ?_
    intro vo w11 hO hb
    have D11 := Lib.hid (D10.out.next2 hb)
    have HQ := Lib.hid hO
    clear hb hO
    refine hKK.out _ _ ?_ (fun hHeld => ?_)
    ·exact HSC.out _ D11.out
    clear hKK K hHeld
    (try simp only [Act.put, List.setIfInBounds_toArray, List.set_cons_zero, List.set_cons_succ])
    (refine OrdH.yield (v := ?_) (by rfl) (by rfl) ?_ ?_; rotate_left 1; (· intro w hSw; (try dsimp only at hSw); go_simp; (try rw [if_neg (by first | omega | (simp only [M.size_app]; omega))]); (try rw [if_pos (by omega)]); try with_reducible rfl); (try simp only [Act.put, List.setIfInBounds_toArray, List.set_cons_zero, List.set_cons_succ]))
    refine OrdH.nil ?_
    go_wp2_with (at_builtin; refine wpList_append_strs rfl _ _ rfl (w.heap.size + 1) _ _ _ [⟨#[125]⟩] rfl rfl (OwnS.alloc HQ.out _) (strS_new _ [⟨#[125]⟩] _ (by decide)) ?d1 ?d2 ?_)
    case d1 => simp only [List.length_map, List.length_cons, List.length_append, List.length_nil]; omega
    case d2 => have := D11.out.lt; simp; omega
    intro v9 w9 h9 hb9
    have D9 := Lib.hid ((D11.out.next ((Below.refl _ _).alloc (Nat.le_refl _) _)).next2 hb9)
    have H9 := Lib.hid (h9.mono (Nat.le_succ _))
    clear h9 hb9
    go_wp2_with fail
    go_ret
    refine ⟨⟨_, _, rfl, H9.out, ?_⟩, D9.out.below⟩
    rw [ER.out]; simp only [List.map_append, List.map_cons, List.map_nil, deepB Eb.out, deepB Ec.out, M.bs_append, Ea.out, List.append_assoc]; rfl
   ·go_simp
    go_at_call 103
    (with_reducible refine (deeper_any _ Lb _ (OwnS.strs (by omega) Rb.out) Zb.out).mono ?_)
    rintro e w3 ⟨⟨vdb, rfl, hO⟩, hb⟩
    have D3 := Lib.hid (D2.out.next hb)
    have Gb := Lib.hid hO
    clear hb hO
    go_wp2_with fail
    refine hKK.out _ _ ?_ (fun hHeld => ?_)
    ·exact HSC.out _ D3.out
    clear hKK K hHeld
    (try simp only [Act.put, List.setIfInBounds_toArray, List.set_cons_zero, List.set_cons_succ])
    refine OrdH.alone (by rfl) (by rfl) (by kernel_rfl) (fun K hKK => ?_)
    go_simp
    (try go_wp2_with fail)
    have D4 := Lib.hid (D3.out.next ((Below.refl _ _).alloc (Nat.le_refl _) (.cells #[.string (⟨#[105, 102, 32]⟩ ++ Xa ++ ⟨#[32, 123]⟩)] 9)))
    have H0 := Lib.hid (OwnS.one (T := ⟨#[105, 102, 32]⟩ ++ Xa ++ ⟨#[32, 123]⟩) (base := w.heap.size + 1) D3.out.lt _ rfl)
    have Gb_4 := Lib.hid (OwnS.alloc Gb.out (.cells #[.string (⟨#[105, 102, 32]⟩ ++ Xa ++ ⟨#[32, 123]⟩)] 9))
    refine hKK.out _ _ ?_ (fun hHeld => ?_)
    ·exact HSC.out _ D4.out
    clear hKK K hHeld
    (try simp only [Act.put, List.setIfInBounds_toArray, List.set_cons_zero, List.set_cons_succ])
    refine OrdH.alone (by rfl) (by rfl) (by kernel_rfl) (fun K hKK => ?_)
    refine wp_append_strs _ _ rfl (w.heap.size + 1) _ _ _ (Lb.map fun x => (⟨#[32, 32]⟩ : ByteArray) ++ x) rfl rfl H0.out (OwnS.strs (by rw [List.length_map]; omega) Gb_4.out) (by simp only [List.length_map, List.length_cons, List.length_append, List.length_nil]; omega) D4.out.lt ?_
    intro vo w5 hO hb
    have D5 := Lib.hid (D4.out.next2 hb)
    have HO := Lib.hid hO
    clear hb hO
    refine hKK.out _ _ ?_ (fun hHeld => ?_)
    ·exact HSC.out _ D5.out
    clear hKK K hHeld
    (try simp only [Act.put, List.setIfInBounds_toArray, List.set_cons_zero, List.set_cons_succ])
    (refine OrdH.yield (v := ?_) (by rfl) (by rfl) ?_ ?_; rotate_left 1; (· intro w hSw; (try dsimp only at hSw); go_simp; (try rw [if_neg (by first | omega | (simp only [M.size_app]; omega))]); (try rw [if_pos (by omega)]); try with_reducible rfl); (try simp only [Act.put, List.setIfInBounds_toArray, List.set_cons_zero, List.set_cons_succ]))
    refine OrdH.nil ?_
    obtain ⟨-, -, y0, y1, y2, y3⟩ := id D5.out
    obtain ⟨qa0, qa1, qa2, qa3⟩ := bel4 D5.out.below al a0 a1 a2 a3
    obtain ⟨qb0, qb1, qb2, qb3⟩ := bel4 D5.out.below bl b0 b1 b2 b3
    obtain ⟨qc0, qc1, qc2, qc3⟩ := bel4 D5.out.below cl c0 c1 c2 c3
    go_wp2_with fail
    have D6 := Lib.hid D5.out.drew
    have HO_d6 := Lib.hid (World.ownsRow.drew HO.out)
    try dsimp only [List.append]
    refine wp_region_ord (S := fun W' => NB w K T n (.slice (some ⟨ba, oa, none⟩) l.length cap) W' /\ W'.cell? ⟨w.heap.size, 0, none⟩ = some (.int .i64 K) /\ W'.cell? ⟨w.heap.size, 1, none⟩ = some (.string T) /\ W'.cell? ⟨w.heap.size, 2, none⟩ = some (.int .u64 (n : Nat)) /\ W'.cell? ⟨w.heap.size, 3, none⟩ = some (.slice (some ⟨ba, oa, none⟩) l.length cap) /\ W'.cell? ⟨ba, oa, none⟩ = some (.int .i64 ka) /\ W'.cell? ⟨ba, oa + 1, none⟩ = some (.string Ta) /\ W'.cell? ⟨ba, oa + 2, none⟩ = some (.int .u64 (na : Nat)) /\ W'.cell? ⟨ba, oa + 3, none⟩ = some (.slice Aa ma cca) /\ W'.cell? ⟨ba, oa + 4, none⟩ = some (.int .i64 kb) /\ W'.cell? ⟨ba, oa + 4 + 1, none⟩ = some (.string Tb) /\ W'.cell? ⟨ba, oa + 4 + 2, none⟩ = some (.int .u64 (nb : Nat)) /\ W'.cell? ⟨ba, oa + 4 + 3, none⟩ = some (.slice Ab mb ccb) /\ W'.cell? ⟨ba, oa + 8, none⟩ = some (.int .i64 kc) /\ W'.cell? ⟨ba, oa + 8 + 1, none⟩ = some (.string Tc) /\ W'.cell? ⟨ba, oa + 8 + 2, none⟩ = some (.int .u64 (nc : Nat)) /\ W'.cell? ⟨ba, oa + 8 + 3, none⟩ = some (.slice Ac mc ccc)) [0, 3, 4, 5, 6, 1, 2, 7, 8, 9, 10] (by kernel_rfl) (by kernel_rfl) (by kernel_rfl) (fun _ _ _ _ _ h => h) ?_ ?_
    ·exact HSC.out _ D6.out
    generalize w5.drew = wd at D6 HO_d6 ⊢
    iterate 5 (refine OrdH.yield (v := ?_) (by rfl) (by rfl) ?_ ?_; rotate_left 1; (· intro w hSw; (try dsimp only at hSw); go_simp; (try rw [if_neg (by first | omega | (simp only [M.size_app]; omega))]); (try rw [if_pos (by omega)]); try with_reducible rfl); (try simp only [Act.put, List.setIfInBounds_toArray, List.set_cons_zero, List.set_cons_succ]))
    refine OrdH.alone (by rfl) (by rfl) (by kernel_rfl) (fun K hKK => ?_)
    go_simp
    (try go_wp2_with fail)
    have D7 := Lib.hid (D6.out.next ((Below.refl _ _).alloc (Nat.le_refl _) (.cells #[.string (⟨#[125, 32, 101, 108, 115, 101, 32, 123]⟩)] 9)))
    have HB := Lib.hid (OwnS.one (T := ⟨#[125, 32, 101, 108, 115, 101, 32, 123]⟩) (base := w.heap.size + 1) D6.out.lt _ rfl)
    have HO_7 := Lib.hid (OwnS.alloc HO_d6.out (.cells #[.string (⟨#[125, 32, 101, 108, 115, 101, 32, 123]⟩)] 9))
    refine hKK.out _ _ ?_ (fun hHeld => ?_)
    ·exact HSC.out _ D7.out
    clear hKK K hHeld
    (try simp only [Act.put, List.setIfInBounds_toArray, List.set_cons_zero, List.set_cons_succ])
    refine OrdH.alone (by rfl) (by rfl) (by kernel_rfl) (fun K hKK => ?_)
    refine wp_append_strs2 _ _ rfl (w.heap.size + 1) _ _ _ [⟨#[125, 32, 101, 108, 115, 101, 32, 123]⟩] rfl rfl HO_7.out (OwnS.strs (by decide) HB.out) (by simp only [List.length_map, List.length_cons, List.length_append, List.length_nil]; omega) D7.out.lt ?_
    intro vo2 w8 hO hb hgr
    have D8 := Lib.hid (D7.out.next2 hb)
    have HP := Lib.hid hO
    clear hb hO hgr
    refine hKK.out _ _ ?_ (fun hHeld => ?_)
    ·exact HSC.out _ D8.out
    clear hKK K hHeld
    (try simp only [Act.put, List.setIfInBounds_toArray, List.set_cons_zero, List.set_cons_succ])
    refine OrdH.alone (by rfl) (by rfl) (by kernel_rfl) (fun K hKK => ?_)
    go_simp
    go_at_call 35
    (with_reducible refine (LNc.out _ D8.out.below).mono ?_)
    rintro e w9 ⟨vlc, Lc, rfl, hO, hL, hlnc, hszc, hb⟩
    have D9 := Lib.hid (D8.out.next hb)
    have Ec := Lib.hid hL
    have Zc := Lib.hid hszc
    have HP_9 := Lib.hid (OwnS.below HP.out hb)
    have Rc := Lib.hid hO
    clear hb hO hL hszc
    go_wp2_with fail
    refine hKK.out _ _ ?_ (fun hHeld => ?_)
    ·exact HSC.out _ D9.out
    clear hKK K hHeld
    (try simp only [Act.put, List.setIfInBounds_toArray, List.set_cons_zero, List.set_cons_succ])
    refine OrdH.alone (by rfl) (by rfl) (by kernel_rfl) (fun K hKK => ?_)
    go_simp
    go_at_call 103
    (with_reducible refine (deeper_any _ Lc _ (OwnS.strs (by omega) Rc.out) Zc.out).mono ?_)
    rintro e w10 ⟨⟨vdc, rfl, hO⟩, hb⟩
    have D10 := Lib.hid (D9.out.next hb)
    have HP_10 := Lib.hid (OwnS.below HP_9.out hb)
    have Gc := Lib.hid hO
    clear hb hO
    go_wp2_with fail
    refine hKK.out _ _ ?_ (fun hHeld => ?_)
    ·exact HSC.out _ D10.out
    clear hKK K hHeld
    (try simp only [Act.put, List.setIfInBounds_toArray, List.set_cons_zero, List.set_cons_succ])
    refine OrdH.alone (by rfl) (by rfl) (by kernel_rfl) (fun K hKK => ?_)
    refine wp_append_strs _ _ rfl (w.heap.size + 1) _ _ _ (Lc.map fun x => (⟨#[32, 32]⟩ : ByteArray) ++ x) rfl rfl HP_10.out (OwnS.strs (by rw [List.length_map]; omega) Gc.out) (by simp only [List.length_map, List.length_cons, List.length_append, List.length_nil]; omega) D10.out.lt ?_
    intro vo w11 hO hb
    have D11 := Lib.hid (D10.out.next2 hb)
    have HQ := Lib.hid hO
    clear hb hO
    refine hKK.out _ _ ?_ (fun hHeld => ?_)
    ·exact HSC.out _ D11.out
    clear hKK K hHeld
    (try simp only [Act.put, List.setIfInBounds_toArray, List.set_cons_zero, List.set_cons_succ])
    (refine OrdH.yield (v := ?_) (by rfl) (by rfl) ?_ ?_; rotate_left 1; (· intro w hSw; (try dsimp only at hSw); go_simp; (try rw [if_neg (by first | omega | (simp only [M.size_app]; omega))]); (try rw [if_pos (by omega)]); try with_reducible rfl); (try simp only [Act.put, List.setIfInBounds_toArray, List.set_cons_zero, List.set_cons_succ]))
    refine OrdH.nil ?_
    go_wp2_with (at_builtin; refine wpList_append_strs rfl _ _ rfl (w.heap.size + 1) _ _ _ [⟨#[125]⟩] rfl rfl (OwnS.alloc HQ.out _) (strS_new _ [⟨#[125]⟩] _ (by decide)) ?d1 ?d2 ?_)
    case d1 => simp only [List.length_map, List.length_cons, List.length_append, List.length_nil]; omega
    case d2 => have := D11.out.lt; simp; omega
    intro v9 w9 h9 hb9
    have D9 := Lib.hid ((D11.out.next ((Below.refl _ _).alloc (Nat.le_refl _) _)).next2 hb9)
    have H9 := Lib.hid (h9.mono (Nat.le_succ _))
    clear h9 hb9
    go_wp2_with fail
    go_ret
    refine ⟨⟨_, _, rfl, H9.out, ?_⟩, D9.out.below⟩
    rw [ER.out]; simp only [List.map_append, List.map_cons, List.map_nil, deepB Eb.out, deepB Ec.out, M.bs_append, Ea.out, List.append_assoc]; rfl
 ·have er := ER0.out
  clear ER0
  rw [if_neg h1] at er
  have ER := Lib.hid er
  clear er
  have gl : decide ((mc : Int) > 0) = false := by rw [decide_eq_false_iff_not]; omega
  go_enter Tryz.func48, Tryz.ntmps48
  go_wp2_with fail
  have D0 := Lib.hid S0.out.drew
  try dsimp only [List.append]
  refine wp_region_ord (S := fun W' => NB w K T n (.slice (some ⟨ba, oa, none⟩) l.length cap) W' /\ W'.cell? ⟨w.heap.size, 0, none⟩ = some (.int .i64 K) /\ W'.cell? ⟨w.heap.size, 1, none⟩ = some (.string T) /\ W'.cell? ⟨w.heap.size, 2, none⟩ = some (.int .u64 (n : Nat)) /\ W'.cell? ⟨w.heap.size, 3, none⟩ = some (.slice (some ⟨ba, oa, none⟩) l.length cap) /\ W'.cell? ⟨ba, oa, none⟩ = some (.int .i64 ka) /\ W'.cell? ⟨ba, oa + 1, none⟩ = some (.string Ta) /\ W'.cell? ⟨ba, oa + 2, none⟩ = some (.int .u64 (na : Nat)) /\ W'.cell? ⟨ba, oa + 3, none⟩ = some (.slice Aa ma cca) /\ W'.cell? ⟨ba, oa + 4, none⟩ = some (.int .i64 kb) /\ W'.cell? ⟨ba, oa + 4 + 1, none⟩ = some (.string Tb) /\ W'.cell? ⟨ba, oa + 4 + 2, none⟩ = some (.int .u64 (nb : Nat)) /\ W'.cell? ⟨ba, oa + 4 + 3, none⟩ = some (.slice Ab mb ccb) /\ W'.cell? ⟨ba, oa + 8, none⟩ = some (.int .i64 kc) /\ W'.cell? ⟨ba, oa + 8 + 1, none⟩ = some (.string Tc) /\ W'.cell? ⟨ba, oa + 8 + 2, none⟩ = some (.int .u64 (nc : Nat)) /\ W'.cell? ⟨ba, oa + 8 + 3, none⟩ = some (.slice Ac mc ccc)) [0, 1, 2, 7, 8, 9, 10, 3, 4, 5, 6, 11, 12, 13, 14] (by kernel_rfl) (by kernel_rfl) (by kernel_rfl) (fun _ _ _ _ _ h => h) ?_ ?_
  ·exact HSC.out _ D0.out
  iterate 7 (refine OrdH.yield (v := ?_) (by rfl) (by rfl) ?_ ?_; rotate_left 1; (· intro w hSw; (try dsimp only at hSw); go_simp; (try rw [if_neg (by first | omega | (simp only [M.size_app]; omega))]); (try rw [if_pos (by omega)]); try with_reducible rfl); (try simp only [Act.put, List.setIfInBounds_toArray, List.set_cons_zero, List.set_cons_succ]))
  refine OrdH.alone (by rfl) (by rfl) (by kernel_rfl) (fun K hKK => ?_)
  go_simp
  go_at_call 102
  (with_reducible refine (EXA.out _ D0.out.below).mono ?_)
  rintro e w1 ⟨Xa, rfl, hX, hza, hb⟩
  have D1 := Lib.hid (D0.out.next hb)
  have Ea := Lib.hid hX
  clear hb hX
  go_wp2_with fail
  refine hKK.out _ _ ?_ (fun hHeld => ?_)
  ·exact HSC.out _ D1.out
  clear hKK K hHeld
  (try simp only [Act.put, List.setIfInBounds_toArray, List.set_cons_zero, List.set_cons_succ])
  iterate 2 (refine OrdH.yield (v := ?_) (by rfl) (by rfl) ?_ ?_; rotate_left 1; (· intro w hSw; (try dsimp only at hSw); go_simp; (try rw [if_neg (by first | omega | (simp only [M.size_app]; omega))]); (try rw [if_pos (by omega)]); try with_reducible rfl); (try simp only [Act.put, List.setIfInBounds_toArray, List.set_cons_zero, List.set_cons_succ]))
  refine OrdH.fork (k2 := 11) (r2 := [6, 12, 13, 14]) (by rfl) (by rfl) (by rfl) (by rfl) (by kernel_rfl) (by rfl) (by kernel_rfl) (fun K hKK => ?_) (fun K hKK => ?_)
  ·go_simp
   (try go_wp2_with fail)
   have D2 := Lib.hid (D1.out.next ((Below.refl _ _).alloc (Nat.le_refl _) (.cells #[.string (⟨#[105, 102, 32]⟩ ++ Xa ++ ⟨#[32, 123]⟩)] 9)))
   have H0 := Lib.hid (OwnS.one (T := ⟨#[105, 102, 32]⟩ ++ Xa ++ ⟨#[32, 123]⟩) (base := w.heap.size + 1) D1.out.lt _ rfl)
   refine hKK.out _ _ ?_ (fun hHeld => ?_)
   ·exact HSC.out _ D2.out
   clear hKK K hHeld
   (try simp only [Act.put, List.setIfInBounds_toArray, List.set_cons_zero, List.set_cons_succ])
   refine OrdH.alone (by rfl) (by rfl) (by kernel_rfl) (fun K hKK => ?_)
   go_simp
   go_at_call 35
   (with_reducible refine (LNb.out _ D2.out.below).mono ?_)
   rintro e w3 ⟨vlb, Lb, rfl, hO, hL, hlnb, hszb, hb⟩
   have D3 := Lib.hid (D2.out.next hb)
   have Eb := Lib.hid hL
   have Zb := Lib.hid hszb
   have H0_3 := Lib.hid (OwnS.below H0.out hb)
   have Rb := Lib.hid hO
   clear hb hO hL hszb
   go_wp2_with fail
   refine hKK.out _ _ ?_ (fun hHeld => ?_)
   ·exact HSC.out _ D3.out
   clear hKK K hHeld
   (try simp only [Act.put, List.setIfInBounds_toArray, List.set_cons_zero, List.set_cons_succ])
   refine OrdH.alone (by rfl) (by rfl) (by kernel_rfl) (fun K hKK => ?_)
   go_simp
   go_at_call 103
   (with_reducible refine (deeper_any _ Lb _ (OwnS.strs (by omega) Rb.out) Zb.out).mono ?_)
   rintro e w4 ⟨⟨vdb, rfl, hO⟩, hb⟩
   have D4 := Lib.hid (D3.out.next hb)
   have H0_4 := Lib.hid (OwnS.below H0_3.out hb)
   have Gb := Lib.hid hO
   clear hb hO
   go_wp2_with fail
   refine hKK.out _ _ ?_ (fun hHeld => ?_)
   ·exact HSC.out _ D4.out
   clear hKK K hHeld
   (try simp only [Act.put, List.setIfInBounds_toArray, List.set_cons_zero, List.set_cons_succ])
   refine OrdH.alone (by rfl) (by rfl) (by kernel_rfl) (fun K hKK => ?_)
   refine wp_append_strs _ _ rfl (w.heap.size + 1) _ _ _ (Lb.map fun x => (⟨#[32, 32]⟩ : ByteArray) ++ x) rfl rfl H0_4.out (OwnS.strs (by rw [List.length_map]; omega) Gb.out) (by simp only [List.length_map, List.length_cons, List.length_append, List.length_nil]; omega) D4.out.lt ?_
   intro vo w5 hO hb
   have D5 := Lib.hid (D4.out.next2 hb)
   have HO := Lib.hid hO
   clear hb hO
   refine hKK.out _ _ ?_ (fun hHeld => ?_)
   ·exact HSC.out _ D5.out
   clear hKK K hHeld
   (try simp only [Act.put, List.setIfInBounds_toArray, List.set_cons_zero, List.set_cons_succ])
   (refine OrdH.yield (v := ?_) (by rfl) (by rfl) ?_ ?_; rotate_left 1; (· intro w hSw; (try dsimp only at hSw); go_simp; (try rw [if_neg (by first | omega | (simp only [M.size_app]; omega))]); (try rw [if_pos (by omega)]); try with_reducible rfl); (try simp only [Act.put, List.setIfInBounds_toArray, List.set_cons_zero, List.set_cons_succ]))
   refine OrdH.nil ?_
   obtain ⟨-, -, y0, y1, y2, y3⟩ := id D5.out
   obtain ⟨qa0, qa1, qa2, qa3⟩ := bel4 D5.out.below al a0 a1 a2 a3
   obtain ⟨qb0, qb1, qb2, qb3⟩ := bel4 D5.out.below bl b0 b1 b2 b3
   obtain ⟨qc0, qc1, qc2, qc3⟩ := bel4 D5.out.below cl c0 c1 c2 c3
   go_wp2_with (at_builtin; refine wpList_append_strs rfl _ _ rfl (w.heap.size + 1) _ _ _ [⟨#[125]⟩] rfl rfl (OwnS.alloc HO.out _) (strS_new _ [⟨#[125]⟩] _ (by decide)) ?d1 ?d2 ?_)
   case d1 => simp only [List.length_map, List.length_cons, List.length_append, List.length_nil]; omega
   case d2 => have := D5.out.lt; simp; omega
   intro v9 w9 h9 hb9
   have D9 := Lib.hid ((D5.out.next ((Below.refl _ _).alloc (Nat.le_refl _) _)).next2 hb9)
   have H9 := Lib.hid (h9.mono (Nat.le_succ _))
   clear h9 hb9
   go_wp2_with fail
   go_ret
   refine ⟨⟨_, _, rfl, H9.out, ?_⟩, D9.out.below⟩
   rw [ER.out]; simp only [List.map_append, List.map_cons, List.map_nil, deepB Eb.out, M.bs_append, Ea.out, List.append_nil]; rfl
  ·go_simp
   go_at_call 35
   (with_reducible refine (LNb.out _ D1.out.below).mono ?_)
   rintro e w2 ⟨vlb, Lb, rfl, hO, hL, hlnb, hszb, hb⟩
   have D2 := Lib.hid (D1.out.next hb)
   have Eb := Lib.hid hL
   have Zb := Lib.hid hszb
   have Rb := Lib.hid hO
   clear hb hO hL hszb
   go_wp2_with fail
   refine hKK.out _ _ ?_ (fun hHeld => ?_)
   ·exact HSC.out _ D2.out
   clear hKK K hHeld
   (try simp only [Act.put, List.setIfInBounds_toArray, List.set_cons_zero, List.set_cons_succ])
   refine OrdH.fork (k2 := 12) (r2 := [6, 13, 14]) (by rfl) (by rfl) (by rfl) (by rfl) (by kernel_rfl) (by rfl) (by kernel_rfl) (fun K hKK => ?_) (fun K hKK => ?_)
   ·go_simp
    (try go_wp2_with fail)
    have D3 := Lib.hid (D2.out.next ((Below.refl _ _).alloc (Nat.le_refl _) (.cells #[.string (⟨#[105, 102, 32]⟩ ++ Xa ++ ⟨#[32, 123]⟩)] 9)))
    have H0 := Lib.hid (OwnS.one (T := ⟨#[105, 102, 32]⟩ ++ Xa ++ ⟨#[32, 123]⟩) (base := w.heap.size + 1) D2.out.lt _ rfl)
    have Rb_3 := Lib.hid (OwnS.alloc Rb.out (.cells #[.string (⟨#[105, 102, 32]⟩ ++ Xa ++ ⟨#[32, 123]⟩)] 9))
    refine hKK.out _ _ ?_ (fun hHeld => ?_)
    ·exact HSC.out _ D3.out
    clear hKK K hHeld
    (try simp only [Act.put, List.setIfInBounds_toArray, List.set_cons_zero, List.set_cons_succ])
    refine OrdH.alone (by rfl) (by rfl) (by kernel_rfl) (fun K hKK => ?_)
    go_simp
    go_at_call 103
    (with_reducible refine (deeper_any _ Lb _ (OwnS.strs (by omega) Rb_3.out) Zb.out).mono ?_)
    rintro e w4 ⟨⟨vdb, rfl, hO⟩, hb⟩
    have D4 := Lib.hid (D3.out.next hb)
    have H0_4 := Lib.hid (OwnS.below H0.out hb)
    have Gb := Lib.hid hO
    clear hb hO
    go_wp2_with fail
    refine hKK.out _ _ ?_ (fun hHeld => ?_)
    ·exact HSC.out _ D4.out
    clear hKK K hHeld
    (try simp only [Act.put, List.setIfInBounds_toArray, List.set_cons_zero, List.set_cons_succ])
    refine OrdH.alone (by rfl) (by rfl) (by kernel_rfl) (fun K hKK => ?_)
    refine wp_append_strs _ _ rfl (w.heap.size + 1) _ _ _ (Lb.map fun x => (⟨#[32, 32]⟩ : ByteArray) ++ x) rfl rfl H0_4.out (OwnS.strs (by rw [List.length_map]; omega) Gb.out) (by simp only [List.length_map, List.length_cons, List.length_append, List.length_nil]; omega) D4.out.lt ?_
    intro vo w5 hO hb
    have D5 := Lib.hid (D4.out.next2 hb)
    have HO := Lib.hid hO
    clear hb hO
    refine hKK.out _ _ ?_ (fun hHeld => ?_)
    ·exact HSC.out _ D5.out
    clear hKK K hHeld
    (try simp only [Act.put, List.setIfInBounds_toArray, List.set_cons_zero, List.set_cons_succ])
    (refine OrdH.yield (v := ?_) (by rfl) (by rfl) ?_ ?_; rotate_left 1; (· intro w hSw; (try dsimp only at hSw); go_simp; (try rw [if_neg (by first | omega | (simp only [M.size_app]; omega))]); (try rw [if_pos (by omega)]); try with_reducible rfl); (try simp only [Act.put, List.setIfInBounds_toArray, List.set_cons_zero, List.set_cons_succ]))
    refine OrdH.nil ?_
    obtain ⟨-, -, y0, y1, y2, y3⟩ := id D5.out
    obtain ⟨qa0, qa1, qa2, qa3⟩ := bel4 D5.out.below al a0 a1 a2 a3
    obtain ⟨qb0, qb1, qb2, qb3⟩ := bel4 D5.out.below bl b0 b1 b2 b3
    obtain ⟨qc0, qc1, qc2, qc3⟩ := bel4 D5.out.below cl c0 c1 c2 c3
    go_wp2_with (at_builtin; refine wpList_append_strs rfl _ _ rfl (w.heap.size + 1) _ _ _ [⟨#[125]⟩] rfl rfl (OwnS.alloc HO.out _) (strS_new _ [⟨#[125]⟩] _ (by decide)) ?d1 ?d2 ?_)
    case d1 => simp only [List.length_map, List.length_cons, List.length_append, List.length_nil]; omega
    case d2 => have := D5.out.lt; simp; omega
    intro v9 w9 h9 hb9
    have D9 := Lib.hid ((D5.out.next ((Below.refl _ _).alloc (Nat.le_refl _) _)).next2 hb9)
    have H9 := Lib.hid (h9.mono (Nat.le_succ _))
    clear h9 hb9
    go_wp2_with fail
    go_ret
    refine ⟨⟨_, _, rfl, H9.out, ?_⟩, D9.out.below⟩
    rw [ER.out]; simp only [List.map_append, List.map_cons, List.map_nil, deepB Eb.out, M.bs_append, Ea.out, List.append_nil]; rfl
   ·go_simp
    go_at_call 103
    (with_reducible refine (deeper_any _ Lb _ (OwnS.strs (by omega) Rb.out) Zb.out).mono ?_)
    rintro e w3 ⟨⟨vdb, rfl, hO⟩, hb⟩
    have D3 := Lib.hid (D2.out.next hb)
    have Gb := Lib.hid hO
    clear hb hO
    go_wp2_with fail
    refine hKK.out _ _ ?_ (fun hHeld => ?_)
    ·exact HSC.out _ D3.out
    clear hKK K hHeld
    (try simp only [Act.put, List.setIfInBounds_toArray, List.set_cons_zero, List.set_cons_succ])
    refine OrdH.alone (by rfl) (by rfl) (by kernel_rfl) (fun K hKK => ?_)
    go_simp
    (try go_wp2_with fail)
    have D4 := Lib.hid (D3.out.next ((Below.refl _ _).alloc (Nat.le_refl _) (.cells #[.string (⟨#[105, 102, 32]⟩ ++ Xa ++ ⟨#[32, 123]⟩)] 9)))
    have H0 := Lib.hid (OwnS.one (T := ⟨#[105, 102, 32]⟩ ++ Xa ++ ⟨#[32, 123]⟩) (base := w.heap.size + 1) D3.out.lt _ rfl)
    have Gb_4 := Lib.hid (OwnS.alloc Gb.out (.cells #[.string (⟨#[105, 102, 32]⟩ ++ Xa ++ ⟨#[32, 123]⟩)] 9))
    refine hKK.out _ _ ?_ (fun hHeld => ?_)
    ·exact HSC.out _ D4.out
    clear hKK K hHeld
    (try simp only [Act.put, List.setIfInBounds_toArray, List.set_cons_zero, List.set_cons_succ])
    refine OrdH.alone (by rfl) (by rfl) (by kernel_rfl) (fun K hKK => ?_)
    refine wp_append_strs _ _ rfl (w.heap.size + 1) _ _ _ (Lb.map fun x => (⟨#[32, 32]⟩ : ByteArray) ++ x) rfl rfl H0.out (OwnS.strs (by rw [List.length_map]; omega) Gb_4.out) (by simp only [List.length_map, List.length_cons, List.length_append, List.length_nil]; omega) D4.out.lt ?_
    intro vo w5 hO hb
    have D5 := Lib.hid (D4.out.next2 hb)
    have HO := Lib.hid hO
    clear hb hO
    refine hKK.out _ _ ?_ (fun hHeld => ?_)
    ·exact HSC.out _ D5.out
    clear hKK K hHeld
    (try simp only [Act.put, List.setIfInBounds_toArray, List.set_cons_zero, List.set_cons_succ])
    (refine OrdH.yield (v := ?_) (by rfl) (by rfl) ?_ ?_; rotate_left 1; (· intro w hSw; (try dsimp only at hSw); go_simp; (try rw [if_neg (by first | omega | (simp only [M.size_app]; omega))]); (try rw [if_pos (by omega)]); try with_reducible rfl); (try simp only [Act.put, List.setIfInBounds_toArray, List.set_cons_zero, List.set_cons_succ]))
    refine OrdH.nil ?_
    obtain ⟨-, -, y0, y1, y2, y3⟩ := id D5.out
    obtain ⟨qa0, qa1, qa2, qa3⟩ := bel4 D5.out.below al a0 a1 a2 a3
    obtain ⟨qb0, qb1, qb2, qb3⟩ := bel4 D5.out.below bl b0 b1 b2 b3
    obtain ⟨qc0, qc1, qc2, qc3⟩ := bel4 D5.out.below cl c0 c1 c2 c3
    go_wp2_with (at_builtin; refine wpList_append_strs rfl _ _ rfl (w.heap.size + 1) _ _ _ [⟨#[125]⟩] rfl rfl (OwnS.alloc HO.out _) (strS_new _ [⟨#[125]⟩] _ (by decide)) ?d1 ?d2 ?_)
    case d1 => simp only [List.length_map, List.length_cons, List.length_append, List.length_nil]; omega
    case d2 => have := D5.out.lt; simp; omega
    intro v9 w9 h9 hb9
    have D9 := Lib.hid ((D5.out.next ((Below.refl _ _).alloc (Nat.le_refl _) _)).next2 hb9)
    have H9 := Lib.hid (h9.mono (Nat.le_succ _))
    clear h9 hb9
    go_wp2_with fail
    go_ret
    refine ⟨⟨_, _, rfl, H9.out, ?_⟩, D9.out.below⟩
    rw [ER.out]; simp only [List.map_append, List.map_cons, List.map_nil, deepB Eb.out, M.bs_append, Ea.out, List.append_nil]; rfl
theorem NodeV.txt9 {w : World} {K : Int} {T : ByteArray} {n : Nat} {kv : Value} {u : M.Tree} (h : NodeV w (.agg #[.int .i64 K, .string T, .int .u64 (n : Nat), kv]) u) : M.bs T = u.text /\ PartOk u.kind u.num T := by
 obtain ⟨T', kv', e, h1, h2, -⟩ := h
 injection e with e
 have e' := congrArg Array.toList e
 simp at e'
 obtain ⟨-, rfl, -, -⟩ := e'
 exact ⟨h1, h2⟩
theorem cell_over {w w' : World} {row : Option Nat} {b off : Nat} {z : Value} (h : w.cell? ⟨b, off, none⟩ = some z) (hlt : b < w.heap.size) (hne : some b = row -> False) (hg : w.grownBy w' row) : w'.cell? ⟨b, off, none⟩ = some z :=
 (World.cell?_of_block (w := w) (hg.block b hlt hne)).trans h

theorem ritem_9 (t : M.Tree) (f : Nat) (ih : ItemF f) (hkind : t.kind = 9) (hF : M.itemF (f + 1) t = true) (hcnt : M.count t <= 20000) (hwt : M.weight t <= 3000000000000000000) : ItemC t := by
 intro v w hv
 have hud := hud9
 rw [M.itemF, if_neg (show ¬ t.kind = 2 by omega), if_neg (show ¬ t.kind = 3 by omega), if_neg (show ¬ t.kind = 4 by omega), if_neg (show ¬ t.kind = 5 by omega), if_neg (show ¬ t.kind = 6 by omega), if_neg (show ¬ t.kind = 7 by omega), if_neg (show ¬ t.kind = 8 by omega), if_pos hkind] at hF
 have hF := of_decide_eq_true hF
 have hcn : ∀ i, i < t.kids.length -> M.count (t.kids.getD i M.Tree.no) <= 20000 := fun i hi => by have := M.count_kid (t := t) (kid_mem hi); omega
 have hwn : ∀ i, i < t.kids.length -> M.weight (t.kids.getD i M.Tree.no) <= 3000000000000000000 := fun i hi => by have := M.weight_kid (t := t) (kid_mem hi); omega
 obtain ⟨T, kv, rfl, hT, hok, hk⟩ := hv
 obtain ⟨r, er⟩ : ∃ r, r = M.itemT t := ⟨_, rfl⟩
 rw [<- er]
 rw [M.itemT_eq] at er
 unfold M.itemW at er
 rw [if_neg (show ¬ t.kind = 2 by omega), if_neg (show ¬ t.kind = 3 by omega), if_neg (show ¬ t.kind = 4 by omega), if_neg (show ¬ t.kind = 5 by omega), if_neg (show ¬ t.kind = 6 by omega), if_neg (show ¬ t.kind = 7 by omega), if_neg (show ¬ t.kind = 8 by omega)] at er
 obtain ⟨K, eK⟩ : ∃ K, K = t.kind := ⟨_, rfl⟩
 obtain ⟨tx, ex⟩ : ∃ x, x = t.text := ⟨_, rfl⟩
 obtain ⟨n, en⟩ : ∃ n, n = t.num := ⟨_, rfl⟩
 obtain ⟨l, el⟩ : ∃ l, l = t.kids := ⟨_, rfl⟩
 try rw [<- eK] at er
 try rw [<- ex] at er
 try rw [<- en] at er
 try rw [<- el] at er
 rw [<- eK, <- en]
 rw [<- ex] at hT
 rw [<- el] at hk hF hcn hwn
 obtain ⟨A, cap, rfl, _⟩ := id hk
 have HTX := Lib.hid hT
 have hn := hok.2.1
 have hsz := hok.2.2
 rw [<- en] at hn
 have S0 := Lib.hid (NB.start w K T n (.slice A l.length cap))
 have hK : K = 9 := eK.trans hkind
 have gk2 : (K == 2) = false := by rw [beq_eq_false_iff_ne]; omega
 have gk3 : (K == 3) = false := by rw [beq_eq_false_iff_ne]; omega
 have gk4 : (K == 4) = false := by rw [beq_eq_false_iff_ne]; omega
 have gk5 : (K == 5) = false := by rw [beq_eq_false_iff_ne]; omega
 have gk6 : (K == 6) = false := by rw [beq_eq_false_iff_ne]; omega
 have gk7 : (K == 7) = false := by rw [beq_eq_false_iff_ne]; omega
 have gk8 : (K == 8) = false := by rw [beq_eq_false_iff_ne]; omega
 have gk9 : (K == 9) = true := by rw [beq_iff_eq]; omega
 have HKK := Lib.hid hk
 have hll : l.length <= 20000 := by have := M.kids_len t; rw [<- el] at this; omega
 have hwl : M.weightL l <= M.weight t := by rw [M.weight_eq, <- el]; omega
 clear hT hok hk eK ex en el hK
 have hl : 1 < l.length := hF.2.2.1
 have hag := List.all_eq_true.1 hF.2.2.2.1
 have hee := hF.2.2.2.2.1
 have hef := hF.2.2.2.2.2
 have hcj : (M.joinW [44, 32] ((l.take (l.length - 2)).map M.argT)).length <= 3000000000000000000 := by
  have c := M.joinW_weight M.argT (l.take (l.length - 2)) (fun u hu => M.argT_len (hag u hu))
  have b := M.weightL_take l (l.length - 2)
  omega
 obtain ⟨j, ej⟩ : ∃ j, j = l.length - 2 := ⟨_, rfl⟩
 obtain ⟨j1, ej2⟩ : ∃ j1, j1 = l.length - 1 := ⟨_, rfl⟩
 have hjj : j1 = j + 1 := by omega
 rw [<- ej] at er hag hee hcj
 rw [<- ej2] at er hef
 have hz2 : (l.length : Int) - 2 = (j : Nat) := by omega
 have hz1 : (l.length : Int) - 1 = (j1 : Nat) := by omega
 have hj0 : j < l.length /\ j1 < l.length /\ j <= l.length := by omega
 have hcap : l.length <= cap := HKK.out.kid.2.1
 have hbig : l.length <= 17592186043904 := HKK.out.kid.2.2.1
 have hjc : j < cap := by omega
 have hjc2 : j <= cap := by omega
 rw [M.mapB_getD hj0.1] at er
 have harg : ∀ i, i < j -> M.argB (l.getD i M.Tree.no) = true := fun i hi => by
  rw [<- take_getD (l := l) (i := j) (j := i) hi]
  exact hag _ (kid_mem (by rw [List.length_take]; omega))
 have hwj : IntKind.i64.wrap (j : Int) = (j : Int) := by rw [IntKind.wrap_i64]; omega
 have hwj1 : IntKind.i64.wrap (j1 : Int) = (j1 : Int) := by rw [IntKind.wrap_i64]; omega
 clear ej ej2 hag hjj
 obtain ⟨be, oe, Te, Ae, me, cce, hAe, el, e0, e1, e2, e3, ev⟩ := HKK.out.at (j) (by omega)
 cases hAe
 obtain ⟨ue, eue⟩ : ∃ u, u = l.getD (j) M.Tree.no := ⟨_, rfl⟩
 rw [<- eue] at e0 e2 ev er
 obtain ⟨ke, eke⟩ : ∃ k, k = ue.kind := ⟨_, rfl⟩
 obtain ⟨ne, ene⟩ : ∃ k, k = ue.num := ⟨_, rfl⟩
 rw [<- eke] at e0 ev
 rw [<- ene] at e2 ev
 have hie : j < l.length := by omega
 have Ve := Lib.hid ev
 have hce := hcn _ hie
 have hwe := hwn _ hie
 rw [<- eue] at hce hwe hee
 have LNe := Lib.hid fun w' (hb : Below w.heap.size w w') => rblock9 ih hee hce hwe (Ve.out.below hb)
 clear hce hwe hee
 clear ev eue eke ene
 obtain ⟨bf, of, Tf, Af, mf, ccf, hAf, fl, f0, f1, f2, f3, fv⟩ := HKK.out.at (j1) (by omega)
 cases hAf
 obtain ⟨uf, euf⟩ : ∃ u, u = l.getD (j1) M.Tree.no := ⟨_, rfl⟩
 rw [<- euf] at f0 f2 fv er
 obtain ⟨kf, ekf⟩ : ∃ k, k = uf.kind := ⟨_, rfl⟩
 obtain ⟨nf, enf⟩ : ∃ k, k = uf.num := ⟨_, rfl⟩
 rw [<- ekf] at f0 fv
 rw [<- enf] at f2 fv
 have hif : j1 < l.length := by omega
 have Vf := Lib.hid fv
 have hcf := hcn _ hif
 have hwf := hwn _ hif
 rw [<- euf] at hcf hwf hef
 have EXF := Lib.hid fun w' (hb : Below w.heap.size w w') => rexpr9 hef hcf hwf (Vf.out.below hb)
 clear hcf hwf hef
 clear fv euf ekf enf
 have ER := Lib.hid er
 have HCJ := Lib.hid hcj
 have HAG := Lib.hid harg
 clear er hF hcn hwn hkind hcnt hwt hwl hcj harg ih
 have HSC := Lib.hid fun W' (h : NB w K T n (.slice (some ⟨be, oe, none⟩) l.length cap) W') => (show NB w K T n (.slice (some ⟨be, oe, none⟩) l.length cap) W' /\ W'.cell? ⟨w.heap.size, 0, none⟩ = some (.int .i64 K) /\ W'.cell? ⟨w.heap.size, 1, none⟩ = some (.string T) /\ W'.cell? ⟨w.heap.size, 2, none⟩ = some (.int .u64 (n : Nat)) /\ W'.cell? ⟨w.heap.size, 3, none⟩ = some (.slice (some ⟨be, oe, none⟩) l.length cap) /\ W'.cell? ⟨be, oe + j * 4, none⟩ = some (.int .i64 ke) /\ W'.cell? ⟨be, oe + j * 4 + 1, none⟩ = some (.string Te) /\ W'.cell? ⟨be, oe + j * 4 + 2, none⟩ = some (.int .u64 (ne : Nat)) /\ W'.cell? ⟨be, oe + j * 4 + 3, none⟩ = some (.slice Ae me cce) /\ W'.cell? ⟨be, oe + j1 * 4, none⟩ = some (.int .i64 kf) /\ W'.cell? ⟨be, oe + j1 * 4 + 1, none⟩ = some (.string Tf) /\ W'.cell? ⟨be, oe + j1 * 4 + 2, none⟩ = some (.int .u64 (nf : Nat)) /\ W'.cell? ⟨be, oe + j1 * 4 + 3, none⟩ = some (.slice Af mf ccf) from ⟨h, h.c0, h.c1, h.c2, h.c3, (h.below.cell (p := ⟨_, _, none⟩) el).trans e0, (h.below.cell (p := ⟨_, _, none⟩) el).trans e1, (h.below.cell (p := ⟨_, _, none⟩) el).trans e2, (h.below.cell (p := ⟨_, _, none⟩) el).trans e3, (h.below.cell (p := ⟨_, _, none⟩) fl).trans f0, (h.below.cell (p := ⟨_, _, none⟩) fl).trans f1, (h.below.cell (p := ⟨_, _, none⟩) fl).trans f2, (h.below.cell (p := ⟨_, _, none⟩) fl).trans f3⟩)
 go_enter Tryz.func48, Tryz.ntmps48
 go_wp2_with fail
 go_loopw [10, 180] (fun tl ti wr => ∃ (i : Nat) (L : List ByteArray), i <= j /\ ti = .int .i64 i /\ L.length = i /\ OwnS wr (w.heap.size + 1) tl L /\ L.map M.bs = (l.take i).map M.argT /\ NB w K T n (.slice (some ⟨be, oe, none⟩) l.length cap) wr) (fun _ ti _ => j - (intOf ti).toNat)
 case atStart => exact ⟨0, [], by omega, rfl, rfl, World.ownsRow_nil _ _ _ _, rfl, S0.out⟩
 case round =>
  obtain ⟨k, L, hk, rfl, hL, hO, hM, hS⟩ := hrel
  have HO := Lib.hid hO
  have HS := Lib.hid hS
  have HM := Lib.hid hM
  have HL := Lib.hid hL
  clear hO hM hL
  obtain ⟨-, -, y0, y1, y2, y3⟩ := id hS
  obtain ⟨qe0, qe1, qe2, qe3⟩ := bel4 hS.below el e0 e1 e2 e3
  obtain ⟨qf0, qf1, qf2, qf3⟩ := bel4 hS.below fl f0 f1 f2 f3
  clear hS
  by_cases hlt : k < j
  ·obtain ⟨b2, o2, Tx, Ax, mx, cx, hAx, xl, x0, x1, x2, x3, xv⟩ := HKK.out.at k (by omega)
   cases hAx
   obtain ⟨p0, p1, p2, p3⟩ := bel4 HS.out.below xl x0 x1 x2 x3
   have HT := Lib.hid (show (l.take (k + 1)).map M.argT = (l.take k).map M.argT ++ [M.argT (l.getD k M.Tree.no)] by
    rw [List.take_add_one, List.getD_eq_getElem?_getD, List.getElem?_eq_getElem (show k < l.length by omega), List.map_append]; rfl)
   have hg := HAG.out k hlt
   obtain ⟨u, eu⟩ : ∃ u, u = l.getD k M.Tree.no := ⟨_, rfl⟩
   rw [<- eu] at p0 p2 xv HT hg
   have hgd := of_decide_eq_true hg
   have hul : u.kids.length = 1 := by simpa using hgd.2.2.2.1
   have hxt := xv.txt9
   have huT : M.argT u = M.bs Tx ++ [58, 32] ++ M.typeT (u.kids.getD 0 M.Tree.no) := by
    rw [hxt.1]; rfl
   have hTxs : Tx.size <= 4611686018427387904 := Nat.le_trans hxt.2.2.2 (by decide)
   have hty : M.typeB (u.kids.getD 0 M.Tree.no) = true := hgd.2.2.2.2
   rw [huT] at HT
   have hkx := xv.kidsV
   obtain rfl : mx = u.kids.length := hkx.kid.1
   obtain ⟨b3, o3, Tz, Az, mz, cz, hAz, zl, z0, z1, z2, z3, zv⟩ := hkx.at 0 (by omega)
   cases hAz
   simp only [show 0 * 4 = 0 from rfl, Nat.add_zero] at z0 z1 z2 z3
   obtain ⟨r0, r1, r2, r3⟩ := bel4 HS.out.below zl z0 z1 z2 z3
   have hkx1 := hkx.kid.2.1
   rw [hul] at p3 hkx1
   obtain ⟨K2, eK2⟩ : ∃ K, K = u.kind := ⟨_, rfl⟩
   obtain ⟨n2, en2⟩ : ∃ n, n = u.num := ⟨_, rfl⟩
   rw [<- eK2] at p0
   rw [<- en2] at p2
   obtain ⟨u3, eu3⟩ : ∃ x, x = u.kids.getD 0 M.Tree.no := ⟨_, rfl⟩
   rw [<- eu3] at z0 z2 zv hty HT r0 r2
   obtain ⟨K3, eK3⟩ : ∃ K, K = u3.kind := ⟨_, rfl⟩
   obtain ⟨n3, en3⟩ : ∃ n, n = u3.num := ⟨_, rfl⟩
   rw [<- eK3] at z0 zv r0
   rw [<- en3] at z2 zv r2
   have Vz := Lib.hid zv
   have DX := Lib.hid fun w' (hb : Below w.heap.size w w') => rtype9 hty (Vz.out.below hb)
   have HBX := Lib.hid fun o => HS.out.next ((Below.refl _ _).alloc (Nat.le_refl _) o)
   clear x0 x1 x2 x3 eu eK2 en2 xv hg hgd huT hty eu3 eK3 en3 zv hxt hkx hul
   go_wp2_with fail
   have D0 := Lib.hid (HBX.out (.cells #[.int .i64 K2, .string Tx, .int .u64 (n2 : Nat), .slice (some ⟨b3, o3, none⟩) 1 cx] 25)).drew
   have A0 := Lib.hid (NB.start wr K2 Tx n2 (.slice (some ⟨b3, o3, none⟩) 1 cx)).drew
   have HO0 := Lib.hid (World.ownsRow.drew (OwnS.alloc HO.out (.cells #[.int .i64 K2, .string Tx, .int .u64 (n2 : Nat), .slice (some ⟨b3, o3, none⟩) 1 cx] 25)))
   have HOL := Lib.hid (World.ownsRow.lt HO.out)
   try dsimp only [List.append]
   refine wp_region_ord (S := fun W' => NB w K T n (.slice (some ⟨be, oe, none⟩) l.length cap) W' /\ W'.cell? ⟨wr.heap.size, 0, none⟩ = some (.int .i64 K2) /\ W'.cell? ⟨wr.heap.size, 1, none⟩ = some (.string Tx) /\ W'.cell? ⟨wr.heap.size, 2, none⟩ = some (.int .u64 (n2 : Nat)) /\ W'.cell? ⟨wr.heap.size, 3, none⟩ = some (.slice (some ⟨b3, o3, none⟩) 1 cx) /\ W'.cell? ⟨b3, o3, none⟩ = some (.int .i64 K3) /\ W'.cell? ⟨b3, o3 + 1, none⟩ = some (.string Tz) /\ W'.cell? ⟨b3, o3 + 2, none⟩ = some (.int .u64 (n3 : Nat)) /\ W'.cell? ⟨b3, o3 + 3, none⟩ = some (.slice Az mz cz)) [0, 1, 2, 3, 4, 5, 6, 7, 8, 9, 10, 11, 12] (by kernel_rfl) (by kernel_rfl) (by kernel_rfl) (fun _ _ _ _ _ h => h) ?_ ?_
   ·exact ⟨D0.out, A0.out.c0, A0.out.c1, A0.out.c2, A0.out.c3, (D0.out.below.cell (p := ⟨_, _, none⟩) zl).trans z0, (D0.out.below.cell (p := ⟨_, _, none⟩) zl).trans z1, (D0.out.below.cell (p := ⟨_, _, none⟩) zl).trans z2, (D0.out.below.cell (p := ⟨_, _, none⟩) zl).trans z3⟩
   iterate 8 (refine OrdH.yield (v := ?_) (by rfl) (by rfl) ?_ ?_; rotate_left 1; (· intro w hSw; (try dsimp only at hSw); go_simp; (try rw [if_neg (by first | omega | (simp only [M.size_app]; omega))]); (try rw [if_pos (by omega)]); try with_reducible rfl); (try simp only [Act.put, List.setIfInBounds_toArray, List.set_cons_zero, List.set_cons_succ]))
   refine OrdH.alone (by rfl) (by rfl) (by kernel_rfl) (fun K hKK => ?_)
   go_simp
   go_at_call 100
   (with_reducible refine (DX.out _ D0.out.below).mono ?_)
   rintro e w2 ⟨TX, rfl, hTX, hzX, hb2⟩
   have D1 := Lib.hid (D0.out.next hb2)
   have A1 := Lib.hid (A0.out.next hb2)
   have HO1 := Lib.hid (OwnS.below HO0.out hb2)
   have HTX2 := Lib.hid hTX
   clear hb2 hTX
   go_wp2_with fail
   refine hKK.out _ _ ?_ (fun hHeld => ?_)
   ·exact ⟨D1.out, A1.out.c0, A1.out.c1, A1.out.c2, A1.out.c3, (D1.out.below.cell (p := ⟨_, _, none⟩) zl).trans z0, (D1.out.below.cell (p := ⟨_, _, none⟩) zl).trans z1, (D1.out.below.cell (p := ⟨_, _, none⟩) zl).trans z2, (D1.out.below.cell (p := ⟨_, _, none⟩) zl).trans z3⟩
   clear hKK K hHeld
   (try simp only [Act.put, List.setIfInBounds_toArray, List.set_cons_zero, List.set_cons_succ])
   (refine OrdH.yield (v := ?_) (by rfl) (by rfl) ?_ ?_; rotate_left 1; (· intro w hSw; (try dsimp only at hSw); go_simp; (try rw [if_neg (by first | omega | (simp only [M.size_app]; omega))]); (try rw [if_pos (by omega)]); try with_reducible rfl); (try simp only [Act.put, List.setIfInBounds_toArray, List.set_cons_zero, List.set_cons_succ]))
   refine OrdH.alone (by rfl) (by rfl) (by kernel_rfl) (fun K hKK => ?_)
   go_simp
   (try go_wp2_with fail)
   have D2 := Lib.hid (D1.out.next ((Below.refl _ _).alloc (Nat.le_refl _) (.cells #[.string (Tx ++ ⟨#[58, 32]⟩ ++ TX)] 9)))
   have A2 := Lib.hid (A1.out.next ((Below.refl _ _).alloc (Nat.le_refl _) (.cells #[.string (Tx ++ ⟨#[58, 32]⟩ ++ TX)] 9)))
   have HO2 := Lib.hid (OwnS.alloc HO1.out (.cells #[.string (Tx ++ ⟨#[58, 32]⟩ ++ TX)] 9))
   have H1 := Lib.hid (OwnS.one (T := Tx ++ ⟨#[58, 32]⟩ ++ TX) (base := w.heap.size + 1) D1.out.lt _ rfl)
   refine hKK.out _ _ ?_ (fun hHeld => ?_)
   ·exact ⟨D2.out, A2.out.c0, A2.out.c1, A2.out.c2, A2.out.c3, (D2.out.below.cell (p := ⟨_, _, none⟩) zl).trans z0, (D2.out.below.cell (p := ⟨_, _, none⟩) zl).trans z1, (D2.out.below.cell (p := ⟨_, _, none⟩) zl).trans z2, (D2.out.below.cell (p := ⟨_, _, none⟩) zl).trans z3⟩
   clear hKK K hHeld
   (try simp only [Act.put, List.setIfInBounds_toArray, List.set_cons_zero, List.set_cons_succ])
   refine OrdH.alone (by rfl) (by rfl) (by kernel_rfl) (fun K hKK => ?_)
   refine wp_append_strs2 _ _ rfl (w.heap.size + 1) _ _ L [Tx ++ ⟨#[58, 32]⟩ ++ TX] rfl rfl HO2.out (OwnS.strs (by simp) H1.out) (by have := HL.out; simp only [List.length_cons, List.length_nil]; omega) D2.out.lt ?_
   intro vo w3 hO hb hgr
   have D3 := Lib.hid (D2.out.next2 hb)
   have HO3 := Lib.hid hO
   have hne : some wr.heap.size = u10.ownBlock -> False := fun e => Nat.lt_irrefl _ (HOL.out _ e.symm).2
   have HX3 := Lib.hid (show w3.cell? ⟨wr.heap.size, 0, none⟩ = some (.int .i64 K2) /\ w3.cell? ⟨wr.heap.size, 1, none⟩ = some (.string Tx) /\ w3.cell? ⟨wr.heap.size, 2, none⟩ = some (.int .u64 (n2 : Nat)) /\ w3.cell? ⟨wr.heap.size, 3, none⟩ = some (.slice (some ⟨b3, o3, none⟩) 1 cx) from ⟨cell_over A2.out.c0 A2.out.lt hne hgr, cell_over A2.out.c1 A2.out.lt hne hgr, cell_over A2.out.c2 A2.out.lt hne hgr, cell_over A2.out.c3 A2.out.lt hne hgr⟩)
   clear hO hb hne hgr
   refine hKK.out _ _ ?_ (fun hHeld => ?_)
   ·exact ⟨D3.out, HX3.out.1, HX3.out.2.1, HX3.out.2.2.1, HX3.out.2.2.2, (D3.out.below.cell (p := ⟨_, _, none⟩) zl).trans z0, (D3.out.below.cell (p := ⟨_, _, none⟩) zl).trans z1, (D3.out.below.cell (p := ⟨_, _, none⟩) zl).trans z2, (D3.out.below.cell (p := ⟨_, _, none⟩) zl).trans z3⟩
   clear hKK K hHeld
   (try simp only [Act.put, List.setIfInBounds_toArray, List.set_cons_zero, List.set_cons_succ])
   (refine OrdH.yield (v := ?_) (by rfl) (by rfl) ?_ ?_; rotate_left 1; (· intro w hSw; (try dsimp only at hSw); go_simp; (try rw [if_neg (by first | omega | (simp only [M.size_app]; omega))]); (try rw [if_pos (by omega)]); try with_reducible rfl); (try simp only [Act.put, List.setIfInBounds_toArray, List.set_cons_zero, List.set_cons_succ]))
   refine OrdH.nil ?_
   go_wp2_with fail
   go_roundw
   case rel => exact ⟨k + 1, L ++ [Tx ++ ⟨#[58, 32]⟩ ++ TX], by omega, by go_num, by rw [List.length_append, HL.out]; rfl, HO3.out, by rw [HT.out, List.map_append, HM.out, List.map_singleton]; simp only [M.bs_append, HTX2.out]; rfl, D3.out⟩
   case measure => simp [intOf]; omega
  ·obtain rfl : j = k := by omega
   have hM2 := HM.out
   have JN := Lib.hid (joined_any _ L ⟨#[44, 32]⟩ _ (OwnS.strs (by have := HL.out; omega) (World.ownsRow.drew HO.out)) (by rw [hM2]; exact Nat.le_trans HCJ.out (by omega)))
   rw [hM2] at JN
   clear hM2
   have D0 := Lib.hid HS.out.drew
   go_wp2_with fail
   try dsimp only [List.append]
   refine wp_region_ord (S := fun W' => NB w K T n (.slice (some ⟨be, oe, none⟩) l.length cap) W' /\ W'.cell? ⟨w.heap.size, 0, none⟩ = some (.int .i64 K) /\ W'.cell? ⟨w.heap.size, 1, none⟩ = some (.string T) /\ W'.cell? ⟨w.heap.size, 2, none⟩ = some (.int .u64 (n : Nat)) /\ W'.cell? ⟨w.heap.size, 3, none⟩ = some (.slice (some ⟨be, oe, none⟩) l.length cap) /\ W'.cell? ⟨be, oe + j * 4, none⟩ = some (.int .i64 ke) /\ W'.cell? ⟨be, oe + j * 4 + 1, none⟩ = some (.string Te) /\ W'.cell? ⟨be, oe + j * 4 + 2, none⟩ = some (.int .u64 (ne : Nat)) /\ W'.cell? ⟨be, oe + j * 4 + 3, none⟩ = some (.slice Ae me cce) /\ W'.cell? ⟨be, oe + j1 * 4, none⟩ = some (.int .i64 kf) /\ W'.cell? ⟨be, oe + j1 * 4 + 1, none⟩ = some (.string Tf) /\ W'.cell? ⟨be, oe + j1 * 4 + 2, none⟩ = some (.int .u64 (nf : Nat)) /\ W'.cell? ⟨be, oe + j1 * 4 + 3, none⟩ = some (.slice Af mf ccf)) [0, 1, 2, 3, 4, 9, 10, 11, 12, 13, 14, 15, 5, 6, 7, 8, 16, 17, 18, 19] (by kernel_rfl) (by kernel_rfl) (by kernel_rfl) (fun _ _ _ _ _ h => h) ?_ ?_
   ·exact HSC.out _ D0.out
   generalize wr.drew = wd at D0 JN ⊢
   iterate 9 (refine OrdH.yield (v := ?_) (by rfl) (by rfl) ?_ ?_; rotate_left 1; (· intro w hSw; (try dsimp only at hSw); go_simp; (try rw [if_neg (by first | omega | (simp only [M.size_app]; omega))]); (try rw [if_pos (by omega)]); try with_reducible rfl); (try simp only [Act.put, List.setIfInBounds_toArray, List.set_cons_zero, List.set_cons_succ]))
   (refine OrdH.yield (v := ?_) (by rfl) (by rfl) ?_ ?_; rotate_left 1; (· intro w hSw; (try dsimp only at hSw); go_simp; (try rw [if_neg (by first | omega | (simp only [M.size_app]; omega))]); (try rw [if_pos (by omega)]); (try simp only [Int.toNat_natCast]); try with_reducible rfl); (try simp only [Act.put, List.setIfInBounds_toArray, List.set_cons_zero, List.set_cons_succ]))
   iterate 2 (refine OrdH.yield (v := ?_) (by rfl) (by rfl) ?_ ?_; rotate_left 1; (· intro w hSw; (try dsimp only at hSw); go_simp; (try rw [if_neg (by first | omega | (simp only [M.size_app]; omega))]); (try rw [if_pos (by omega)]); try with_reducible rfl); (try simp only [Act.put, List.setIfInBounds_toArray, List.set_cons_zero, List.set_cons_succ]))
   refine OrdH.alone (by rfl) (by rfl) (by kernel_rfl) (fun K hKK => ?_)
   go_simp
   go_at_call 104
   (with_reducible refine (JN.out).mono ?_)
   rintro e w1 ⟨⟨TJ, rfl, hTJ⟩, rfl⟩
   have EJ := Lib.hid (hTJ.trans (show M.joinW (M.bs ⟨#[44, 32]⟩) ((l.take j).map M.argT) = M.joinW [44, 32] ((l.take j).map M.argT) from rfl))
   have hJs : TJ.size <= 3000000000000000000 := by rw [<- M.bs_len, EJ.out]; exact HCJ.out
   clear hTJ
   go_wp2_with fail
   refine hKK.out _ _ ?_ (fun hHeld => ?_)
   ·exact HSC.out _ D0.out
   clear hKK K hHeld
   (try simp only [Act.put, List.setIfInBounds_toArray, List.set_cons_zero, List.set_cons_succ])
   iterate 2 (refine OrdH.yield (v := ?_) (by rfl) (by rfl) ?_ ?_; rotate_left 1; (· intro w hSw; (try dsimp only at hSw); go_simp; (try rw [if_neg (by first | omega | (simp only [M.size_app]; omega))]); (try rw [if_pos (by omega)]); try with_reducible rfl); (try simp only [Act.put, List.setIfInBounds_toArray, List.set_cons_zero, List.set_cons_succ]))
   refine OrdH.fork (k2 := 16) (r2 := [8, 17, 18, 19]) (by rfl) (by rfl) (by rfl) (by rfl) (by kernel_rfl) (by rfl) (by kernel_rfl) (fun K hKK => ?_) (fun K hKK => ?_)
   ·go_simp
    (try go_wp2_with fail)
    have D1 := Lib.hid (D0.out.next ((Below.refl _ _).alloc (Nat.le_refl _) (.cells #[.string (⟨#[100, 101, 102, 32]⟩ ++ T ++ ⟨#[40]⟩ ++ TJ ++ ⟨#[41, 32, 123]⟩)] 9)))
    have H0 := Lib.hid (OwnS.one (T := ⟨#[100, 101, 102, 32]⟩ ++ T ++ ⟨#[40]⟩ ++ TJ ++ ⟨#[41, 32, 123]⟩) (base := w.heap.size + 1) D0.out.lt _ rfl)
    refine hKK.out _ _ ?_ (fun hHeld => ?_)
    ·exact HSC.out _ D1.out
    clear hKK K hHeld
    (try simp only [Act.put, List.setIfInBounds_toArray, List.set_cons_zero, List.set_cons_succ])
    refine OrdH.alone (by rfl) (by rfl) (by kernel_rfl) (fun K hKK => ?_)
    go_simp
    go_at_call 35
    (with_reducible refine (LNe.out _ D1.out.below).mono ?_)
    rintro e w2 ⟨vle, Le, rfl, hO, hL, hlne, hsze, hb⟩
    have D2 := Lib.hid (D1.out.next hb)
    have Ee := Lib.hid hL
    have Ze := Lib.hid hsze
    have H0_2 := Lib.hid (OwnS.below H0.out hb)
    have Re := Lib.hid hO
    clear hb hO hL hsze
    go_wp2_with fail
    refine hKK.out _ _ ?_ (fun hHeld => ?_)
    ·exact HSC.out _ D2.out
    clear hKK K hHeld
    (try simp only [Act.put, List.setIfInBounds_toArray, List.set_cons_zero, List.set_cons_succ])
    refine OrdH.alone (by rfl) (by rfl) (by kernel_rfl) (fun K hKK => ?_)
    go_simp
    go_at_call 103
    (with_reducible refine (deeper_any _ Le _ (OwnS.strs (by omega) Re.out) Ze.out).mono ?_)
    rintro e w3 ⟨⟨vde, rfl, hO⟩, hb⟩
    have D3 := Lib.hid (D2.out.next hb)
    have H0_3 := Lib.hid (OwnS.below H0_2.out hb)
    have Ge := Lib.hid hO
    clear hb hO
    go_wp2_with fail
    refine hKK.out _ _ ?_ (fun hHeld => ?_)
    ·exact HSC.out _ D3.out
    clear hKK K hHeld
    (try simp only [Act.put, List.setIfInBounds_toArray, List.set_cons_zero, List.set_cons_succ])
    refine OrdH.alone (by rfl) (by rfl) (by kernel_rfl) (fun K hKK => ?_)
    refine wp_append_strs _ _ rfl (w.heap.size + 1) _ _ _ (Le.map fun x => (⟨#[32, 32]⟩ : ByteArray) ++ x) rfl rfl H0_3.out (OwnS.strs (by rw [List.length_map]; omega) Ge.out) (by simp only [List.length_map, List.length_cons, List.length_append, List.length_nil]; omega) D3.out.lt ?_
    intro vo w4 hO hb
    have D4 := Lib.hid (D3.out.next2 hb)
    have HP1 := Lib.hid hO
    clear hb hO
    refine hKK.out _ _ ?_ (fun hHeld => ?_)
    ·exact HSC.out _ D4.out
    clear hKK K hHeld
    (try simp only [Act.put, List.setIfInBounds_toArray, List.set_cons_zero, List.set_cons_succ])
    (refine OrdH.yield (v := ?_) (by rfl) (by rfl) ?_ ?_; rotate_left 1; (· intro w hSw; (try dsimp only at hSw); go_simp; (try rw [if_neg (by first | omega | (simp only [M.size_app]; omega))]); (try rw [if_pos (by omega)]); try with_reducible rfl); (try simp only [Act.put, List.setIfInBounds_toArray, List.set_cons_zero, List.set_cons_succ]))
    refine OrdH.nil ?_
    obtain ⟨-, -, y0, y1, y2, y3⟩ := id D4.out
    obtain ⟨qf0, qf1, qf2, qf3⟩ := bel4 D4.out.below fl f0 f1 f2 f3
    go_wp2_with fail
    (with_reducible refine (EXF.out _ D4.out.below).mono ?_)
    rintro e wE ⟨Xf, rfl, hX, hzE, hb⟩
    have DE := Lib.hid (D4.out.next hb)
    have Ef := Lib.hid hX
    have HPE := Lib.hid (OwnS.below HP1.out hb)
    clear hb hX
    go_wp2_with (at_builtin; refine wpList_append_strs rfl _ _ rfl (w.heap.size + 1) _ _ _ [⟨#[32, 32, 114, 101, 116, 117, 114, 110, 32]⟩ ++ Xf ++ ⟨#[59]⟩] rfl rfl (OwnS.alloc HPE.out _) (strS_new _ [⟨#[32, 32, 114, 101, 116, 117, 114, 110, 32]⟩ ++ Xf ++ ⟨#[59]⟩] _ (by simp)) ?d1 ?d2 ?_)
    case d1 => simp only [List.length_map, List.length_cons, List.length_append, List.length_nil]; omega
    case d2 => have := DE.out.lt; simp; omega
    intro v8 w8 h8 hb8
    have D8 := Lib.hid ((DE.out.next ((Below.refl _ _).alloc (Nat.le_refl _) _)).next2 hb8)
    have H8 := Lib.hid h8
    clear h8 hb8
    go_wp2_with (at_builtin; refine wpList_append_strs rfl _ _ rfl (w.heap.size + 1) _ _ _ [⟨#[125]⟩] rfl rfl (OwnS.alloc H8.out _) (strS_new _ [⟨#[125]⟩] _ (by decide)) ?d1 ?d2 ?_)
    case d1 => simp only [List.length_map, List.length_cons, List.length_append, List.length_nil]; omega
    case d2 => have := D8.out.lt; simp; omega
    intro v9 w9 h9 hb9
    have D9 := Lib.hid ((D8.out.next ((Below.refl _ _).alloc (Nat.le_refl _) _)).next2 hb9)
    have H9 := Lib.hid (h9.mono (Nat.le_succ _))
    clear h9 hb9
    go_wp2_with fail
    go_ret
    refine ⟨⟨_, _, rfl, H9.out, ?_⟩, D9.out.below⟩
    rw [ER.out]; simp only [List.map_append, List.map_cons, List.map_nil, deepB Ee.out, M.bs_append, HTX.out, EJ.out, Ef.out, List.append_assoc, List.cons_append, List.nil_append]; rfl
   ·go_simp
    go_at_call 35
    (with_reducible refine (LNe.out _ D0.out.below).mono ?_)
    rintro e w1 ⟨vle, Le, rfl, hO, hL, hlne, hsze, hb⟩
    have D1 := Lib.hid (D0.out.next hb)
    have Ee := Lib.hid hL
    have Ze := Lib.hid hsze
    have Re := Lib.hid hO
    clear hb hO hL hsze
    go_wp2_with fail
    refine hKK.out _ _ ?_ (fun hHeld => ?_)
    ·exact HSC.out _ D1.out
    clear hKK K hHeld
    (try simp only [Act.put, List.setIfInBounds_toArray, List.set_cons_zero, List.set_cons_succ])
    refine OrdH.fork (k2 := 17) (r2 := [8, 18, 19]) (by rfl) (by rfl) (by rfl) (by rfl) (by kernel_rfl) (by rfl) (by kernel_rfl) (fun K hKK => ?_) (fun K hKK => ?_)
    ·go_simp
     (try go_wp2_with fail)
     have D2 := Lib.hid (D1.out.next ((Below.refl _ _).alloc (Nat.le_refl _) (.cells #[.string (⟨#[100, 101, 102, 32]⟩ ++ T ++ ⟨#[40]⟩ ++ TJ ++ ⟨#[41, 32, 123]⟩)] 9)))
     have H0 := Lib.hid (OwnS.one (T := ⟨#[100, 101, 102, 32]⟩ ++ T ++ ⟨#[40]⟩ ++ TJ ++ ⟨#[41, 32, 123]⟩) (base := w.heap.size + 1) D1.out.lt _ rfl)
     have Re_2 := Lib.hid (OwnS.alloc Re.out (.cells #[.string (⟨#[100, 101, 102, 32]⟩ ++ T ++ ⟨#[40]⟩ ++ TJ ++ ⟨#[41, 32, 123]⟩)] 9))
     refine hKK.out _ _ ?_ (fun hHeld => ?_)
     ·exact HSC.out _ D2.out
     clear hKK K hHeld
     (try simp only [Act.put, List.setIfInBounds_toArray, List.set_cons_zero, List.set_cons_succ])
     refine OrdH.alone (by rfl) (by rfl) (by kernel_rfl) (fun K hKK => ?_)
     go_simp
     go_at_call 103
     (with_reducible refine (deeper_any _ Le _ (OwnS.strs (by omega) Re_2.out) Ze.out).mono ?_)
     rintro e w3 ⟨⟨vde, rfl, hO⟩, hb⟩
     have D3 := Lib.hid (D2.out.next hb)
     have H0_3 := Lib.hid (OwnS.below H0.out hb)
     have Ge := Lib.hid hO
     clear hb hO
     go_wp2_with fail
     refine hKK.out _ _ ?_ (fun hHeld => ?_)
     ·exact HSC.out _ D3.out
     clear hKK K hHeld
     (try simp only [Act.put, List.setIfInBounds_toArray, List.set_cons_zero, List.set_cons_succ])
     refine OrdH.alone (by rfl) (by rfl) (by kernel_rfl) (fun K hKK => ?_)
     refine wp_append_strs _ _ rfl (w.heap.size + 1) _ _ _ (Le.map fun x => (⟨#[32, 32]⟩ : ByteArray) ++ x) rfl rfl H0_3.out (OwnS.strs (by rw [List.length_map]; omega) Ge.out) (by simp only [List.length_map, List.length_cons, List.length_append, List.length_nil]; omega) D3.out.lt ?_
     intro vo w4 hO hb
     have D4 := Lib.hid (D3.out.next2 hb)
     have HP1 := Lib.hid hO
     clear hb hO
     refine hKK.out _ _ ?_ (fun hHeld => ?_)
     ·exact HSC.out _ D4.out
     clear hKK K hHeld
     (try simp only [Act.put, List.setIfInBounds_toArray, List.set_cons_zero, List.set_cons_succ])
     (refine OrdH.yield (v := ?_) (by rfl) (by rfl) ?_ ?_; rotate_left 1; (· intro w hSw; (try dsimp only at hSw); go_simp; (try rw [if_neg (by first | omega | (simp only [M.size_app]; omega))]); (try rw [if_pos (by omega)]); try with_reducible rfl); (try simp only [Act.put, List.setIfInBounds_toArray, List.set_cons_zero, List.set_cons_succ]))
     refine OrdH.nil ?_
     obtain ⟨-, -, y0, y1, y2, y3⟩ := id D4.out
     obtain ⟨qf0, qf1, qf2, qf3⟩ := bel4 D4.out.below fl f0 f1 f2 f3
     go_wp2_with fail
     (with_reducible refine (EXF.out _ D4.out.below).mono ?_)
     rintro e wE ⟨Xf, rfl, hX, hzE, hb⟩
     have DE := Lib.hid (D4.out.next hb)
     have Ef := Lib.hid hX
     have HPE := Lib.hid (OwnS.below HP1.out hb)
     clear hb hX
     go_wp2_with (at_builtin; refine wpList_append_strs rfl _ _ rfl (w.heap.size + 1) _ _ _ [⟨#[32, 32, 114, 101, 116, 117, 114, 110, 32]⟩ ++ Xf ++ ⟨#[59]⟩] rfl rfl (OwnS.alloc HPE.out _) (strS_new _ [⟨#[32, 32, 114, 101, 116, 117, 114, 110, 32]⟩ ++ Xf ++ ⟨#[59]⟩] _ (by simp)) ?d1 ?d2 ?_)
     case d1 => simp only [List.length_map, List.length_cons, List.length_append, List.length_nil]; omega
     case d2 => have := DE.out.lt; simp; omega
     intro v8 w8 h8 hb8
     have D8 := Lib.hid ((DE.out.next ((Below.refl _ _).alloc (Nat.le_refl _) _)).next2 hb8)
     have H8 := Lib.hid h8
     clear h8 hb8
     go_wp2_with (at_builtin; refine wpList_append_strs rfl _ _ rfl (w.heap.size + 1) _ _ _ [⟨#[125]⟩] rfl rfl (OwnS.alloc H8.out _) (strS_new _ [⟨#[125]⟩] _ (by decide)) ?d1 ?d2 ?_)
     case d1 => simp only [List.length_map, List.length_cons, List.length_append, List.length_nil]; omega
     case d2 => have := D8.out.lt; simp; omega
     intro v9 w9 h9 hb9
     have D9 := Lib.hid ((D8.out.next ((Below.refl _ _).alloc (Nat.le_refl _) _)).next2 hb9)
     have H9 := Lib.hid (h9.mono (Nat.le_succ _))
     clear h9 hb9
     go_wp2_with fail
     go_ret
     refine ⟨⟨_, _, rfl, H9.out, ?_⟩, D9.out.below⟩
     rw [ER.out]; simp only [List.map_append, List.map_cons, List.map_nil, deepB Ee.out, M.bs_append, HTX.out, EJ.out, Ef.out, List.append_assoc, List.cons_append, List.nil_append]; rfl
    ·go_simp
     go_at_call 103
     (with_reducible refine (deeper_any _ Le _ (OwnS.strs (by omega) Re.out) Ze.out).mono ?_)
     rintro e w2 ⟨⟨vde, rfl, hO⟩, hb⟩
     have D2 := Lib.hid (D1.out.next hb)
     have Ge := Lib.hid hO
     clear hb hO
     go_wp2_with fail
     refine hKK.out _ _ ?_ (fun hHeld => ?_)
     ·exact HSC.out _ D2.out
     clear hKK K hHeld
     (try simp only [Act.put, List.setIfInBounds_toArray, List.set_cons_zero, List.set_cons_succ])
     refine OrdH.alone (by rfl) (by rfl) (by kernel_rfl) (fun K hKK => ?_)
     go_simp
     (try go_wp2_with fail)
     have D3 := Lib.hid (D2.out.next ((Below.refl _ _).alloc (Nat.le_refl _) (.cells #[.string (⟨#[100, 101, 102, 32]⟩ ++ T ++ ⟨#[40]⟩ ++ TJ ++ ⟨#[41, 32, 123]⟩)] 9)))
     have H0 := Lib.hid (OwnS.one (T := ⟨#[100, 101, 102, 32]⟩ ++ T ++ ⟨#[40]⟩ ++ TJ ++ ⟨#[41, 32, 123]⟩) (base := w.heap.size + 1) D2.out.lt _ rfl)
     have Ge_3 := Lib.hid (OwnS.alloc Ge.out (.cells #[.string (⟨#[100, 101, 102, 32]⟩ ++ T ++ ⟨#[40]⟩ ++ TJ ++ ⟨#[41, 32, 123]⟩)] 9))
     refine hKK.out _ _ ?_ (fun hHeld => ?_)
     ·exact HSC.out _ D3.out
     clear hKK K hHeld
     (try simp only [Act.put, List.setIfInBounds_toArray, List.set_cons_zero, List.set_cons_succ])
     refine OrdH.alone (by rfl) (by rfl) (by kernel_rfl) (fun K hKK => ?_)
     refine wp_append_strs _ _ rfl (w.heap.size + 1) _ _ _ (Le.map fun x => (⟨#[32, 32]⟩ : ByteArray) ++ x) rfl rfl H0.out (OwnS.strs (by rw [List.length_map]; omega) Ge_3.out) (by simp only [List.length_map, List.length_cons, List.length_append, List.length_nil]; omega) D3.out.lt ?_
     intro vo w4 hO hb
     have D4 := Lib.hid (D3.out.next2 hb)
     have HP1 := Lib.hid hO
     clear hb hO
     refine hKK.out _ _ ?_ (fun hHeld => ?_)
     ·exact HSC.out _ D4.out
     clear hKK K hHeld
     (try simp only [Act.put, List.setIfInBounds_toArray, List.set_cons_zero, List.set_cons_succ])
     (refine OrdH.yield (v := ?_) (by rfl) (by rfl) ?_ ?_; rotate_left 1; (· intro w hSw; (try dsimp only at hSw); go_simp; (try rw [if_neg (by first | omega | (simp only [M.size_app]; omega))]); (try rw [if_pos (by omega)]); try with_reducible rfl); (try simp only [Act.put, List.setIfInBounds_toArray, List.set_cons_zero, List.set_cons_succ]))
     refine OrdH.nil ?_
     obtain ⟨-, -, y0, y1, y2, y3⟩ := id D4.out
     obtain ⟨qf0, qf1, qf2, qf3⟩ := bel4 D4.out.below fl f0 f1 f2 f3
     go_wp2_with fail
     (with_reducible refine (EXF.out _ D4.out.below).mono ?_)
     rintro e wE ⟨Xf, rfl, hX, hzE, hb⟩
     have DE := Lib.hid (D4.out.next hb)
     have Ef := Lib.hid hX
     have HPE := Lib.hid (OwnS.below HP1.out hb)
     clear hb hX
     go_wp2_with (at_builtin; refine wpList_append_strs rfl _ _ rfl (w.heap.size + 1) _ _ _ [⟨#[32, 32, 114, 101, 116, 117, 114, 110, 32]⟩ ++ Xf ++ ⟨#[59]⟩] rfl rfl (OwnS.alloc HPE.out _) (strS_new _ [⟨#[32, 32, 114, 101, 116, 117, 114, 110, 32]⟩ ++ Xf ++ ⟨#[59]⟩] _ (by simp)) ?d1 ?d2 ?_)
     case d1 => simp only [List.length_map, List.length_cons, List.length_append, List.length_nil]; omega
     case d2 => have := DE.out.lt; simp; omega
     intro v8 w8 h8 hb8
     have D8 := Lib.hid ((DE.out.next ((Below.refl _ _).alloc (Nat.le_refl _) _)).next2 hb8)
     have H8 := Lib.hid h8
     clear h8 hb8
     go_wp2_with (at_builtin; refine wpList_append_strs rfl _ _ rfl (w.heap.size + 1) _ _ _ [⟨#[125]⟩] rfl rfl (OwnS.alloc H8.out _) (strS_new _ [⟨#[125]⟩] _ (by decide)) ?d1 ?d2 ?_)
     case d1 => simp only [List.length_map, List.length_cons, List.length_append, List.length_nil]; omega
     case d2 => have := D8.out.lt; simp; omega
     intro v9 w9 h9 hb9
     have D9 := Lib.hid ((D8.out.next ((Below.refl _ _).alloc (Nat.le_refl _) _)).next2 hb9)
     have H9 := Lib.hid (h9.mono (Nat.le_succ _))
     clear h9 hb9
     go_wp2_with fail
     go_ret
     refine ⟨⟨_, _, rfl, H9.out, ?_⟩, D9.out.below⟩
     rw [ER.out]; simp only [List.map_append, List.map_cons, List.map_nil, deepB Ee.out, M.bs_append, HTX.out, EJ.out, Ef.out, List.append_assoc, List.cons_append, List.nil_append]; rfl
open Go.RowKit
theorem ritem_any : ∀ f, ItemF f
 | 0 => fun u h _ _ => by rw [M.itemF] at h; cases h
 | f + 1 => fun u h hc hw => by
  have ih := ritem_any f
  by_cases h2 : u.kind = 2
  ·exact ritem_2 u f h2 h hc hw
  by_cases h3 : u.kind = 3
  ·exact ritem_3 u f h3 h hc hw
  by_cases h4 : u.kind = 4
  ·exact ritem_4 u f h4 h hc hw
  by_cases h5 : u.kind = 5
  ·exact ritem_5 u f h5 h hc hw
  by_cases h6 : u.kind = 6
  ·exact ritem_6 u f ih h6 h hc hw
  by_cases h7 : u.kind = 7
  ·exact ritem_7 u f ih h7 h hc hw
  by_cases h8 : u.kind = 8
  ·exact ritem_8 u f h8 h hc hw
  by_cases h9 : u.kind = 9
  ·exact ritem_9 u f ih h9 h hc hw
  rw [M.itemF, if_neg h2, if_neg h3, if_neg h4, if_neg h5, if_neg h6, if_neg h7, if_neg h8, if_neg h9] at h
  cases h
theorem rprog9 {t : M.Tree} (hall : t.kids.all (M.itemF (M.count t)) = true) (hc : M.count t <= 20000) {kv : Value} {w : World} (hv : KidsV w kv t.kids) :
  Calls Tryz.prog 35 #[kv] w fun e w' => ∃ v' L, e = .returned v' /\ OwnS w' w.heap.size v' L /\ L.map M.bs = M.linesL t.kids /\ L.length <= 60000 /\ (∀ i, i < L.length -> (L.getD i ByteArray.empty).size <= 4611686018427387904) /\ Below w.heap.size w w' := by
 have hall := List.all_eq_true.1 hall
 have hlen : (M.linesL t.kids).length <= 60000 := by have := M.blockT_len t; rw [M.blockT_eq] at this; omega
 have hwk : ∀ u, u ∈ t.kids -> M.weight u <= 3000000000000000000 := fun u hu => by
  have h1 := (M.short_item _ _ (hall u hu)).weight
  have h2 := M.count_kid hu
  omega
 refine (rlines_any t.kids (by omega) (fun i _ => M.itemT_ne _) (fun i hi => ritem_any _ _ (hall _ (kid_mem hi)) (by have := M.count_kid (t := t) (kid_mem hi); omega) (hwk _ (kid_mem hi))) kv w hv).mono ?_
 rintro e w' ⟨⟨v', L, rfl, h1, h2⟩, h3⟩
 have hl : L.length = (M.linesL t.kids).length := by have := congrArg List.length h2; simpa using this
 refine ⟨v', L, rfl, h1, h2, by omega, fun i hi => ?_, h3⟩
 have h4 := M.strs_at h2 hi
 have h5 : M.bs (L.getD i ByteArray.empty) ∈ M.linesL t.kids := by
  rw [h4, List.getD_eq_getElem?_getD, List.getElem?_eq_getElem (by omega)]; exact List.getElem_mem _
 obtain ⟨u, h6, h7⟩ := M.mem_linesL h5
 have h8 := M.itemT_lines _ u (hall u h6) _ h7
 have h9 := hwk u h6
 rw [M.bs_len] at h8
 omega
theorem M.text_take (L : List (List Nat)) (i : Nat) : (M.textL 0 (L.take i)).length <= (M.textL 0 L).length := by
 have h := M.textL_app 0 (L.take i) (L.drop i)
 rw [List.take_append_drop] at h
 rw [h, List.length_append]
 omega
theorem rtext9_any (t : M.Tree) (hc : M.count t <= 4611686018427387904) (v : Value) (w : World) (hv : NodeV w v t) : Calls Tryz.prog 21 #[v] w (TextEnd t w) := by
 have hud := hud9
 have CK := Lib.hid fun w' (hb : Below w.heap.size w w') => rcheck9_any t hc v w' (hv.below hb)
 obtain ⟨T, kv, rfl, hT, hok, hk⟩ := hv
 obtain ⟨K, eK⟩ : ∃ K, K = t.kind := ⟨_, rfl⟩
 obtain ⟨n, en⟩ : ∃ n, n = t.num := ⟨_, rfl⟩
 have HKV := Lib.hid hk
 obtain ⟨A, cap, rfl, _⟩ := id hk
 obtain ⟨m, em⟩ : ∃ m, m = t.kids.length := ⟨_, rfl⟩
 rw [<- eK, <- en, <- em]
 rw [<- eK, <- en, <- em] at CK
 rw [<- em] at HKV
 have S0 := Lib.hid (NB.start w K T n (.slice A m cap))
 obtain ⟨E, eE⟩ : ∃ E, E = M.checkE t := ⟨_, rfl⟩
 rw [<- eE] at CK
 have HE := Lib.hid eE
 clear hT hok hk eK en em hc
 go_enter Tryz.func21, Tryz.ntmps21
 go_wp2_with fail
 (with_reducible refine (CK.out _ S0.out.below).mono ?_)
 rintro e w1 ⟨rfl, hb⟩
 have S1 := Lib.hid (S0.out.next hb)
 obtain ⟨-, -, y0, y1, y2, y3⟩ := id S1.out
 clear hb
 by_cases h0 : E = 0
 ·subst h0
  clear eE
  have hch : t.kids.all (M.itemF (M.count t)) = true /\ M.count t <= 20000 := by
   have := HE.out
   unfold M.checkE at this
   split at this
   ·rename_i h
    split at this
    ·cases this
    ·exact ⟨h.2.2.2, by omega⟩
   ·cases this
  have LC := Lib.hid fun w' (hb : Below w.heap.size w w') => rprog9 hch.1 hch.2 (HKV.out.below hb)
  clear hch
  go_wp2_with fail
  (with_reducible refine (LC.out _ S1.out.below).mono ?_)
  rintro e w2 ⟨vl, L, rfl, hO, hL, hln, hsz, hb⟩
  have S2 := Lib.hid (S1.out.next hb)
  have HLS := Lib.hid hL
  have HZ := Lib.hid hsz
  obtain ⟨hl, A2, cap2, rfl, hcl⟩ := OwnS.strs (by omega) hO
  have HC := Lib.hid hcl
  obtain ⟨n2, en2⟩ : ∃ n, n = L.length := ⟨_, rfl⟩
  rw [<- en2] at HC hl hln ⊢
  have HN := Lib.hid en2
  clear hb hO hL hsz hcl en2
  go_wp2_with fail
  go_loop [5, 17] (fun ts ti => ∃ (i : Nat) (Sb : ByteArray), i <= n2 /\ ti = .int .i64 i /\ ts = .string Sb /\ M.bs Sb = M.textL 0 ((L.take i).map M.bs) /\ Sb.size <= 20000) (fun _ ti => n2 - (intOf ti).toNat)
  case atStart => exact ⟨0, ⟨#[]⟩, by omega, rfl, rfl, rfl, by decide⟩
  case round =>
   obtain ⟨i, Sb, hi, rfl, rfl, hT, hS⟩ := hrel
   have HT := Lib.hid hT
   clear hT
   by_cases hlt : i < n2
   ·obtain ⟨b2, off, rfl, hcell⟩ := HC.out (by omega)
    have hx := hcell i hlt
    obtain ⟨x, ex⟩ : ∃ x, x = L.getD i ByteArray.empty := ⟨_, rfl⟩
    have hxl := HZ.out i (by rw [<- HN.out]; exact hlt)
    rw [<- ex] at hx hxl
    have HX := Lib.hid (show L.take (i + 1) = L.take i ++ [x] by rw [ex]; exact M.take_snoc (by rw [<- HN.out]; exact hlt))
    have HY := Lib.hid (show M.bs (Sb ++ (x ++ ⟨#[10]⟩)) = M.textL 0 ((L.take (i + 1)).map M.bs) by
     rw [HX.out, List.map_append, M.textL_app, <- HT.out, List.map_singleton, M.textL_one, M.bs_append, M.bs_append]; rfl)
    have hs1 : x.size + ByteArray.size ⟨#[10]⟩ <= 9223372036854775807 := by show x.size + 1 <= _; omega
    have hs2 : Sb.size + (x ++ ⟨#[10]⟩).size <= 9223372036854775807 := by rw [M.size_app]; show Sb.size + (x.size + 1) <= _; omega
    have hs3 : (Sb ++ (x ++ ⟨#[10]⟩)).size <= 9223372036854775807 := by rw [M.size_app]; exact hs2
    clear hcell ex
    have hsz9 : (Sb ++ (x ++ (⟨#[10]⟩ : ByteArray))).size = Sb.size + (x.size + 1) := by rw [M.size_app, M.size_app]; rfl
    by_cases hbig : 20000 < Sb.size + (x.size + 1)
    ·have hd : decide ((Sb.size : Int) + ((x.size : Int) + 1) > 20000) = true := by rw [decide_eq_true_eq]; omega
     have HTE := Lib.hid (show M.textE t = 3 by
      have h1 := M.text_take (L.map M.bs) (i + 1)
      rw [<- List.map_take, <- HY.out, M.bs_len, hsz9, HLS.out] at h1
      unfold M.textE
      rw [if_pos HE.out.symm, if_pos (show 20000 < (M.progT t).length by unfold M.progT; omega)])
     clear hbig hsz9
     go_wp2_with fail
     go_ret2
     exact ⟨⟨⟨#[]⟩, by rw [HTE.out]; rfl, by rw [HTE.out]; rfl⟩, S2.out.below⟩
    ·have hd : decide ((Sb.size : Int) + ((x.size : Int) + 1) > 20000) = false := by rw [decide_eq_false_iff_not]; omega
     have HBG := Lib.hid (show (Sb ++ (x ++ (⟨#[10]⟩ : ByteArray))).size <= 20000 by rw [hsz9]; omega)
     clear hbig hsz9
     go_wp2_with fail
     go_round
     case rel => exact ⟨i + 1, _, by omega, by go_num, rfl, HY.out, HBG.out⟩
     case measure => simp [intOf]; omega
   ·obtain rfl : i = n2 := by omega
    have HQ := Lib.hid (show M.bs Sb = M.progT t by
     rw [HT.out, HN.out, List.take_length, HLS.out]; rfl)
    have HTE := Lib.hid (show M.textE t = 0 by
     unfold M.textE
     rw [if_pos HE.out.symm, if_neg (by rw [<- HQ.out, M.bs_len]; omega)])
    go_wp2_with fail
    go_ret2
    exact ⟨⟨Sb, by rw [HTE.out]; rfl, by rw [HTE.out, if_pos rfl, HQ.out]⟩, S2.out.below⟩
 ·have hne : (E != 0) = true := by rw [bne_iff_ne]; exact h0
  have H0 := Lib.hid h0
  have HTE := Lib.hid (show M.textE t = E by unfold M.textE; rw [if_neg (by rw [<- HE.out]; exact H0.out), HE.out])
  clear h0 eE
  go_wp2_with fail
  go_ret2
  exact ⟨⟨⟨#[]⟩, by rw [HTE.out]; rfl, by rw [HTE.out, if_neg H0.out]; rfl⟩, S1.out.below⟩
end Go.Proofs.YtngpedcihajepaaGreatDoor
