/-
 Merged out of the texts Sg9 Sh9.
-/
import Derived.OwnWalk
import Derived.Deep.RegionHeld3
import Derived.WalkKit
import Derived.ProofKit
import Derived.ChangeMaps5
import Derived.Test.YtngpedcihajepaaGreatDoorProg
import Derived.Still
import Derived.Lib.MinMax
import Derived.WalkSpells
import Derived.WalkLawsBesides
import Derived.Lib.Hide
import Derived.Below
import Derived.Deep.QuietTactic
import Derived.BigQuiet
import Derived.Test.YtngpedcihajepaaGreatDoorBz1
import Derived.Test.YtngpedcihajepaaGreatDoorBz2
import Derived.Test.YtngpedcihajepaaGreatDoorBz3
import Derived.Test.YtngpedcihajepaaGreatDoorBz4
import Derived.Test.YtngpedcihajepaaGreatDoorBz5
import Derived.Test.YtngpedcihajepaaGreatDoorBz6
import Derived.Test.YtngpedcihajepaaGreatDoorBz11
import Derived.Test.YtngpedcihajepaaGreatDoorBz12
import Derived.Test.YtngpedcihajepaaGreatDoorBz13
import Derived.Test.YtngpedcihajepaaGreatDoorBz15
import Derived.Test.YtngpedcihajepaaGreatDoorBz19
import Derived.Test.YtngpedcihajepaaGreatDoorSq9
set_option linter.unusedVariables false
set_option linter.unusedSimpArgs false
set_option maxRecDepth 100000
set_option maxHeartbeats 40000000
namespace Go.Proofs.YtngpedcihajepaaGreatDoor
open Go.RowKit
def ItemF (f : Nat) : Prop := ∀ u, M.itemF f u = true -> M.count u <= 20000 -> M.weight u <= 3000000000000000000 -> ItemC u
theorem NodeV.kidsV {w : World} {K : Int} {T : ByteArray} {n : Nat} {kv : Value} {u : M.Tree} (h : NodeV w (.agg #[.int .i64 K, .string T, .int .u64 (n : Nat), kv]) u) : KidsV w kv u.kids := by
 obtain ⟨T', kv', e, -, -, h⟩ := h
 injection e with e
 have e' := congrArg Array.toList e
 simp at e'
 obtain ⟨-, -, -, rfl⟩ := e'
 exact h
theorem rblock9 {f : Nat} (ih : ItemF f) {u : M.Tree} (hB : M.blockB (M.itemF f) u = true) (hc : M.count u <= 20000) (hw : M.weight u <= 3000000000000000000) {K : Int} {T : ByteArray} {n : Nat} {kv : Value} {w : World} (hv : NodeV w (.agg #[.int .i64 K, .string T, .int .u64 (n : Nat), kv]) u) :
  Calls Tryz.prog 35 #[kv] w fun e w' => ∃ v' L, e = .returned v' /\ OwnS w' w.heap.size v' L /\ L.map M.bs = M.blockT u /\ L.length <= 60000 /\ (∀ i, i < L.length -> (L.getD i ByteArray.empty).size <= 4611686018427387904) /\ Below w.heap.size w w' := by
 have hall := List.all_eq_true.1 (of_decide_eq_true hB).2.2.2
 have hlen : (M.linesL u.kids).length <= 60000 := by have := M.blockT_len u; rw [M.blockT_eq] at this; omega
 refine (rlines_any u.kids (by omega) (fun i _ => M.itemT_ne _) (fun i hi => ih _ (hall _ (kid_mem hi)) (by have := M.count_kid (t := u) (kid_mem hi); omega) (by have := M.weight_kid (t := u) (kid_mem hi); omega)) kv w hv.kidsV).mono ?_
 rintro e w' ⟨⟨v', L, rfl, h1, h2⟩, h3⟩
 have hl : L.length = (M.linesL u.kids).length := by have := congrArg List.length h2; simpa using this
 refine ⟨v', L, rfl, h1, by rw [h2, M.blockT_eq], by omega, fun i hi => ?_, h3⟩
 have h4 := M.strs_at h2 hi
 have h5 : M.bs (L.getD i ByteArray.empty) ∈ M.blockT u := by
  rw [h4, M.blockT_eq, List.getD_eq_getElem?_getD, List.getElem?_eq_getElem (by omega)]; exact List.getElem_mem _
 have h6 := M.block_lines (b := u) (fun v hv x hx => M.itemT_lines f v (hall v hv) x hx) h5
 rw [M.bs_len] at h6
 omega
theorem OwnS.alloc {w : World} {base : Nat} {v : Value} {L : List ByteArray} (h : OwnS w base v L) (o : Obj) : OwnS (w.alloc o) base v L := World.ownsRow.alloc h o
theorem NB.next2 {w : World} {K : Int} {T : ByteArray} {n : Nat} {kv : Value} {W W' : World} (h : NB w K T n kv W) (hb : Below (w.heap.size + 1) W W') : NB w K T n kv W' :=
 ⟨h.below.trans (hb.mono (Nat.le_succ _)), Nat.lt_of_lt_of_le h.lt hb.size, (hb.cell (p := ⟨w.heap.size, 0, none⟩) (Nat.lt_succ_self _)).trans h.c0, (hb.cell (p := ⟨w.heap.size, 1, none⟩) (Nat.lt_succ_self _)).trans h.c1, (hb.cell (p := ⟨w.heap.size, 2, none⟩) (Nat.lt_succ_self _)).trans h.c2, (hb.cell (p := ⟨w.heap.size, 3, none⟩) (Nat.lt_succ_self _)).trans h.c3⟩
theorem deepB {L : List ByteArray} {Q : List (List Nat)} (h : L.map M.bs = Q) : (L.map fun x => (⟨#[32, 32]⟩ : ByteArray) ++ x).map M.bs = M.deepT Q := by
 rw [<- h]
 unfold M.deepT
 rw [List.map_map, List.map_map]
 refine List.map_congr_left fun x _ => ?_
 show M.bs (⟨#[32, 32]⟩ ++ x) = _
 rw [M.bs_append]; rfl

theorem ritem_7 (t : M.Tree) (f : Nat) (ih : ItemF f) (hkind : t.kind = 7) (hF : M.itemF (f + 1) t = true) (hcnt : M.count t <= 20000) (hwt : M.weight t <= 3000000000000000000) : ItemC t := by
 intro v w hv
 have hud := hud9
 rw [M.itemF, if_neg (show ¬ t.kind = 2 by omega), if_neg (show ¬ t.kind = 3 by omega), if_neg (show ¬ t.kind = 4 by omega), if_neg (show ¬ t.kind = 5 by omega), if_neg (show ¬ t.kind = 6 by omega), if_pos hkind] at hF
 have hF := of_decide_eq_true hF
 have hcn : ∀ i, i < t.kids.length -> M.count (t.kids.getD i M.Tree.no) <= 20000 := fun i hi => by have := M.count_kid (t := t) (kid_mem hi); omega
 have hwn : ∀ i, i < t.kids.length -> M.weight (t.kids.getD i M.Tree.no) <= 3000000000000000000 := fun i hi => by have := M.weight_kid (t := t) (kid_mem hi); omega
 obtain ⟨T, kv, rfl, hT, hok, hk⟩ := hv
 obtain ⟨r, er⟩ : ∃ r, r = M.itemT t := ⟨_, rfl⟩
 rw [<- er]
 rw [M.itemT_eq] at er
 unfold M.itemW at er
 rw [if_neg (show ¬ t.kind = 2 by omega), if_neg (show ¬ t.kind = 3 by omega), if_neg (show ¬ t.kind = 4 by omega), if_neg (show ¬ t.kind = 5 by omega), if_neg (show ¬ t.kind = 6 by omega), if_pos hkind] at er
 obtain ⟨K, eK⟩ : ∃ K, K = t.kind := ⟨_, rfl⟩
 obtain ⟨tx, ex⟩ : ∃ x, x = t.text := ⟨_, rfl⟩
 obtain ⟨n, en⟩ : ∃ n, n = t.num := ⟨_, rfl⟩
 obtain ⟨l, el⟩ : ∃ l, l = t.kids := ⟨_, rfl⟩
 try rw [<- eK] at er
 try rw [<- ex] at er
 try rw [<- en] at er
 try rw [<- el] at er
 rw [<- eK, <- en]
 rw [<- ex] at hT
 rw [<- el] at hk hF hcn hwn
 obtain ⟨A, cap, rfl, _⟩ := id hk
 have HTX := Lib.hid hT
 have hn := hok.2.1
 have hsz := hok.2.2
 rw [<- en] at hn
 have S0 := Lib.hid (NB.start w K T n (.slice A l.length cap))
 have hK : K = 7 := eK.trans hkind
 have gk2 : (K == 2) = false := by rw [beq_eq_false_iff_ne]; omega
 have gk3 : (K == 3) = false := by rw [beq_eq_false_iff_ne]; omega
 have gk4 : (K == 4) = false := by rw [beq_eq_false_iff_ne]; omega
 have gk5 : (K == 5) = false := by rw [beq_eq_false_iff_ne]; omega
 have gk6 : (K == 6) = false := by rw [beq_eq_false_iff_ne]; omega
 have gk7 : (K == 7) = true := by rw [beq_iff_eq]; omega
 have HKK := Lib.hid hk
 clear hT hok hk eK ex en el hK
 have hl : 2 < l.length := by have := hF.2.2.1; omega
 have hl2 := List.all_eq_true.1 hF.2.2.2.1
 have hea := hl2 _ (show l.getD 0 M.Tree.no ∈ l.take 2 by rw [<- take_getD (l := l) (i := 2) (j := 0) (by omega)]; exact kid_mem (by rw [List.length_take]; omega))
 have heb := hl2 _ (show l.getD 1 M.Tree.no ∈ l.take 2 by rw [<- take_getD (l := l) (i := 2) (j := 1) (by omega)]; exact kid_mem (by rw [List.length_take]; omega))
 have hec := hF.2.2.2.2
 rw [M.mapB_getD (by omega)] at er
 obtain ⟨ba, oa, Ta, Aa, ma, cca, hAa, al, a0, a1, a2, a3, av⟩ := HKK.out.at 0 (by omega)
 cases hAa
 obtain ⟨ua, eua⟩ : ∃ u, u = l.getD 0 M.Tree.no := ⟨_, rfl⟩
 rw [<- eua] at a0 a2 av er
 obtain ⟨ka, eka⟩ : ∃ k, k = ua.kind := ⟨_, rfl⟩
 obtain ⟨na, ena⟩ : ∃ k, k = ua.num := ⟨_, rfl⟩
 rw [<- eka] at a0 av
 rw [<- ena] at a2 av
 simp only [show 0 * 4 = 0 from rfl, Nat.add_zero] at a0 a1 a2 a3
 have hia : 0 < l.length := by omega
 have Va := Lib.hid av
 have hca := hcn 0 (by omega)
 have hwa := hwn 0 (by omega)
 rw [<- eua] at hca hwa hea
 have EXA := Lib.hid fun w' (hb : Below w.heap.size w w') => rexpr9 hea hca hwa (Va.out.below hb)
 clear hca hwa hea
 clear av eua eka ena
 obtain ⟨qa0, qa1, qa2, qa3⟩ := bel4 S0.out.below al a0 a1 a2 a3
 obtain ⟨bb, ob, Tb, Ab, mb, ccb, hAb, bl, b0, b1, b2, b3, bv⟩ := HKK.out.at 1 (by omega)
 cases hAb
 obtain ⟨ub, eub⟩ : ∃ u, u = l.getD 1 M.Tree.no := ⟨_, rfl⟩
 rw [<- eub] at b0 b2 bv er
 obtain ⟨kb, ekb⟩ : ∃ k, k = ub.kind := ⟨_, rfl⟩
 obtain ⟨nb, enb⟩ : ∃ k, k = ub.num := ⟨_, rfl⟩
 rw [<- ekb] at b0 bv
 rw [<- enb] at b2 bv
 simp only [show 1 * 4 = 4 from rfl] at b0 b1 b2 b3
 have hib : 1 < l.length := by omega
 have Vb := Lib.hid bv
 have hcb := hcn 1 (by omega)
 have hwb := hwn 1 (by omega)
 rw [<- eub] at hcb hwb heb
 have EXB := Lib.hid fun w' (hb : Below w.heap.size w w') => rexpr9 heb hcb hwb (Vb.out.below hb)
 clear hcb hwb heb
 clear bv eub ekb enb
 obtain ⟨qb0, qb1, qb2, qb3⟩ := bel4 S0.out.below bl b0 b1 b2 b3
 obtain ⟨bc, oc, Tc, Ac, mc, ccc, hAc, cl, c0, c1, c2, c3, cv⟩ := HKK.out.at 2 (by omega)
 cases hAc
 obtain ⟨uc, euc⟩ : ∃ u, u = l.getD 2 M.Tree.no := ⟨_, rfl⟩
 rw [<- euc] at c0 c2 cv er
 obtain ⟨kc, ekc⟩ : ∃ k, k = uc.kind := ⟨_, rfl⟩
 obtain ⟨nc, enc⟩ : ∃ k, k = uc.num := ⟨_, rfl⟩
 rw [<- ekc] at c0 cv
 rw [<- enc] at c2 cv
 simp only [show 2 * 4 = 8 from rfl] at c0 c1 c2 c3
 have hic : 2 < l.length := by omega
 have Vc := Lib.hid cv
 have hcc := hcn 2 (by omega)
 have hwc := hwn 2 (by omega)
 rw [<- euc] at hcc hwc hec
 have LNC := Lib.hid fun w' (hb : Below w.heap.size w w') => rblock9 ih hec hcc hwc (Vc.out.below hb)
 clear hcc hwc hec
 clear cv euc ekc enc
 obtain ⟨qc0, qc1, qc2, qc3⟩ := bel4 S0.out.below cl c0 c1 c2 c3
 have ER := Lib.hid er
 clear er hF hcn hwn hkind hcnt hwt hl2 ih
 have HSC := Lib.hid fun W' (h : NB w K T n (.slice (some ⟨ba, oa, none⟩) l.length cap) W') => (show NB w K T n (.slice (some ⟨ba, oa, none⟩) l.length cap) W' /\ W'.cell? ⟨w.heap.size, 0, none⟩ = some (.int .i64 K) /\ W'.cell? ⟨w.heap.size, 1, none⟩ = some (.string T) /\ W'.cell? ⟨w.heap.size, 2, none⟩ = some (.int .u64 (n : Nat)) /\ W'.cell? ⟨w.heap.size, 3, none⟩ = some (.slice (some ⟨ba, oa, none⟩) l.length cap) /\ W'.cell? ⟨ba, oa, none⟩ = some (.int .i64 ka) /\ W'.cell? ⟨ba, oa + 1, none⟩ = some (.string Ta) /\ W'.cell? ⟨ba, oa + 2, none⟩ = some (.int .u64 (na : Nat)) /\ W'.cell? ⟨ba, oa + 3, none⟩ = some (.slice Aa ma cca) /\ W'.cell? ⟨ba, oa + 4, none⟩ = some (.int .i64 kb) /\ W'.cell? ⟨ba, oa + 4 + 1, none⟩ = some (.string Tb) /\ W'.cell? ⟨ba, oa + 4 + 2, none⟩ = some (.int .u64 (nb : Nat)) /\ W'.cell? ⟨ba, oa + 4 + 3, none⟩ = some (.slice Ab mb ccb) /\ W'.cell? ⟨ba, oa + 8, none⟩ = some (.int .i64 kc) /\ W'.cell? ⟨ba, oa + 8 + 1, none⟩ = some (.string Tc) /\ W'.cell? ⟨ba, oa + 8 + 2, none⟩ = some (.int .u64 (nc : Nat)) /\ W'.cell? ⟨ba, oa + 8 + 3, none⟩ = some (.slice Ac mc ccc) from ⟨h, h.c0, h.c1, h.c2, h.c3, (h.below.cell (p := ⟨_, _, none⟩) al).trans a0, (h.below.cell (p := ⟨_, _, none⟩) al).trans a1, (h.below.cell (p := ⟨_, _, none⟩) al).trans a2, (h.below.cell (p := ⟨_, _, none⟩) al).trans a3, (h.below.cell (p := ⟨_, _, none⟩) bl).trans b0, (h.below.cell (p := ⟨_, _, none⟩) bl).trans b1, (h.below.cell (p := ⟨_, _, none⟩) bl).trans b2, (h.below.cell (p := ⟨_, _, none⟩) bl).trans b3, (h.below.cell (p := ⟨_, _, none⟩) cl).trans c0, (h.below.cell (p := ⟨_, _, none⟩) cl).trans c1, (h.below.cell (p := ⟨_, _, none⟩) cl).trans c2, (h.below.cell (p := ⟨_, _, none⟩) cl).trans c3⟩)
 go_enter Tryz.func48, Tryz.ntmps48
 go_wp2_with fail
 have D0 := Lib.hid S0.out.drew
 try dsimp only [List.append]
 refine wp_region_ord (S := fun W' => NB w K T n (.slice (some ⟨ba, oa, none⟩) l.length cap) W' /\ W'.cell? ⟨w.heap.size, 0, none⟩ = some (.int .i64 K) /\ W'.cell? ⟨w.heap.size, 1, none⟩ = some (.string T) /\ W'.cell? ⟨w.heap.size, 2, none⟩ = some (.int .u64 (n : Nat)) /\ W'.cell? ⟨w.heap.size, 3, none⟩ = some (.slice (some ⟨ba, oa, none⟩) l.length cap) /\ W'.cell? ⟨ba, oa, none⟩ = some (.int .i64 ka) /\ W'.cell? ⟨ba, oa + 1, none⟩ = some (.string Ta) /\ W'.cell? ⟨ba, oa + 2, none⟩ = some (.int .u64 (na : Nat)) /\ W'.cell? ⟨ba, oa + 3, none⟩ = some (.slice Aa ma cca) /\ W'.cell? ⟨ba, oa + 4, none⟩ = some (.int .i64 kb) /\ W'.cell? ⟨ba, oa + 4 + 1, none⟩ = some (.string Tb) /\ W'.cell? ⟨ba, oa + 4 + 2, none⟩ = some (.int .u64 (nb : Nat)) /\ W'.cell? ⟨ba, oa + 4 + 3, none⟩ = some (.slice Ab mb ccb) /\ W'.cell? ⟨ba, oa + 8, none⟩ = some (.int .i64 kc) /\ W'.cell? ⟨ba, oa + 8 + 1, none⟩ = some (.string Tc) /\ W'.cell? ⟨ba, oa + 8 + 2, none⟩ = some (.int .u64 (nc : Nat)) /\ W'.cell? ⟨ba, oa + 8 + 3, none⟩ = some (.slice Ac mc ccc)) [0, 1, 2, 3, 4, 5, 6, 10, 11, 12, 17, 18, 19, 20, 7, 8, 9, 13, 14, 15, 16, 21, 22, 23, 24] (by kernel_rfl) (by kernel_rfl) (by kernel_rfl) (fun _ _ _ _ _ h => h) ?_ ?_
 ·exact HSC.out _ D0.out
 iterate 14 (refine OrdH.yield (v := ?_) (by rfl) (by rfl) ?_ ?_; rotate_left 1; (· intro w hSw; (try dsimp only at hSw); go_simp; (try rw [if_neg (by first | omega | (simp only [M.size_app]; omega))]); (try rw [if_pos (by omega)]); try with_reducible rfl); (try simp only [Act.put, List.setIfInBounds_toArray, List.set_cons_zero, List.set_cons_succ]))
 refine OrdH.alone (by rfl) (by rfl) (by kernel_rfl) (fun K hKK => ?_)
 go_simp
 go_at_call 102
 (with_reducible refine (EXA.out _ D0.out.below).mono ?_)
 rintro e w1 ⟨Xa, rfl, hX, hza, hb⟩
 have D1 := Lib.hid (D0.out.next hb)
 have Ea := Lib.hid hX
 clear hb hX
 go_wp2_with fail
 refine hKK.out _ _ ?_ (fun hHeld => ?_)
 ·exact HSC.out _ D1.out
 clear hKK K hHeld
 (try simp only [Act.put, List.setIfInBounds_toArray, List.set_cons_zero, List.set_cons_succ])
 iterate 2 (refine OrdH.yield (v := ?_) (by rfl) (by rfl) ?_ ?_; rotate_left 1; (· intro w hSw; (try dsimp only at hSw); go_simp; (try rw [if_neg (by first | omega | (simp only [M.size_app]; omega))]); (try rw [if_pos (by omega)]); try with_reducible rfl); (try simp only [Act.put, List.setIfInBounds_toArray, List.set_cons_zero, List.set_cons_succ]))
 refine OrdH.alone (by rfl) (by rfl) (by kernel_rfl) (fun K hKK => ?_)
 go_simp
 go_at_call 102
 (with_reducible refine (EXB.out _ D1.out.below).mono ?_)
 rintro e w2 ⟨Xb, rfl, hX, hzb, hb⟩
 have D2 := Lib.hid (D1.out.next hb)
 have Eb := Lib.hid hX
 clear hb hX
 go_wp2_with fail
 refine hKK.out _ _ ?_ (fun hHeld => ?_)
 ·exact HSC.out _ D2.out
 clear hKK K hHeld
 (try simp only [Act.put, List.setIfInBounds_toArray, List.set_cons_zero, List.set_cons_succ])
 iterate 2 (refine OrdH.yield (v := ?_) (by rfl) (by rfl) ?_ ?_; rotate_left 1; (· intro w hSw; (try dsimp only at hSw); go_simp; (try rw [if_neg (by first | omega | (simp only [M.size_app]; omega))]); (try rw [if_pos (by omega)]); try with_reducible rfl); (try simp only [Act.put, List.setIfInBounds_toArray, List.set_cons_zero, List.set_cons_succ]))
 refine OrdH.fork (k2 := 21) (r2 := [16, 22, 23, 24]) (by rfl) (by rfl) (by rfl) (by rfl) (by kernel_rfl) (by rfl) (by kernel_rfl) (fun K hKK => ?_) (fun K hKK => ?_)
 ·go_simp
  (try go_wp2_with fail)
  have D3 := Lib.hid (D2.out.next ((Below.refl _ _).alloc (Nat.le_refl _) (.cells #[.string (⟨#[102, 111, 114, 32]⟩ ++ T ++ ⟨#[32, 61, 32]⟩ ++ Xa ++ ⟨#[32, 116, 111, 32]⟩ ++ Xb ++ ⟨#[32, 123]⟩)] 9)))
  have H0 := Lib.hid (OwnS.one (T := ⟨#[102, 111, 114, 32]⟩ ++ T ++ ⟨#[32, 61, 32]⟩ ++ Xa ++ ⟨#[32, 116, 111, 32]⟩ ++ Xb ++ ⟨#[32, 123]⟩) (base := w.heap.size + 1) D2.out.lt _ rfl)
  refine hKK.out _ _ ?_ (fun hHeld => ?_)
  ·exact HSC.out _ D3.out
  clear hKK K hHeld
  (try simp only [Act.put, List.setIfInBounds_toArray, List.set_cons_zero, List.set_cons_succ])
  refine OrdH.alone (by rfl) (by rfl) (by kernel_rfl) (fun K hKK => ?_)
  go_simp
  go_at_call 35
  (with_reducible refine (LNC.out _ D3.out.below).mono ?_)
  rintro e w4 ⟨vlc, Lc, rfl, hO, hL, hlnc, hszc, hb⟩
  have D4 := Lib.hid (D3.out.next hb)
  have Ec := Lib.hid hL
  have Zc := Lib.hid hszc
  have H0_4 := Lib.hid (OwnS.below H0.out hb)
  have Rc := Lib.hid hO
  clear hb hO hL hszc
  go_wp2_with fail
  refine hKK.out _ _ ?_ (fun hHeld => ?_)
  ·exact HSC.out _ D4.out
  clear hKK K hHeld
  (try simp only [Act.put, List.setIfInBounds_toArray, List.set_cons_zero, List.set_cons_succ])
  refine OrdH.alone (by rfl) (by rfl) (by kernel_rfl) (fun K hKK => ?_)
  go_simp
  go_at_call 103
  (with_reducible refine (deeper_any _ Lc _ (OwnS.strs (by omega) Rc.out) Zc.out).mono ?_)
  rintro e w5 ⟨⟨vdc, rfl, hO⟩, hb⟩
  have D5 := Lib.hid (D4.out.next hb)
  have H0_5 := Lib.hid (OwnS.below H0_4.out hb)
  have Gc := Lib.hid hO
  clear hb hO
  go_wp2_with fail
  refine hKK.out _ _ ?_ (fun hHeld => ?_)
  ·exact HSC.out _ D5.out
  clear hKK K hHeld
  (try simp only [Act.put, List.setIfInBounds_toArray, List.set_cons_zero, List.set_cons_succ])
  refine OrdH.alone (by rfl) (by rfl) (by kernel_rfl) (fun K hKK => ?_)
  refine wp_append_strs _ _ rfl (w.heap.size + 1) _ _ _ (Lc.map fun x => (⟨#[32, 32]⟩ : ByteArray) ++ x) rfl rfl H0_5.out (OwnS.strs (by rw [List.length_map]; omega) Gc.out) (by simp only [List.length_map, List.length_cons, List.length_append, List.length_nil]; omega) D5.out.lt ?_
  intro vo w6 hO hb
  have D6 := Lib.hid (D5.out.next2 hb)
  have HO := Lib.hid hO
  clear hb hO
  refine hKK.out _ _ ?_ (fun hHeld => ?_)
  ·exact HSC.out _ D6.out
  clear hKK K hHeld
  (try simp only [Act.put, List.setIfInBounds_toArray, List.set_cons_zero, List.set_cons_succ])
  (refine OrdH.yield (v := ?_) (by rfl) (by rfl) ?_ ?_; rotate_left 1; (· intro w hSw; (try dsimp only at hSw); go_simp; (try rw [if_neg (by first | omega | (simp only [M.size_app]; omega))]); (try rw [if_pos (by omega)]); try with_reducible rfl); (try simp only [Act.put, List.setIfInBounds_toArray, List.set_cons_zero, List.set_cons_succ]))
  refine OrdH.nil ?_
  go_wp2_with (at_builtin; refine wpList_append_strs rfl _ _ rfl (w.heap.size + 1) _ _ _ [⟨#[125]⟩] rfl rfl (OwnS.alloc HO.out _) (strS_new _ [⟨#[125]⟩] _ (by decide)) ?d1 ?d2 ?_)
  case d1 => simp only [List.length_map, List.length_cons, List.length_append, List.length_nil]; omega
  case d2 => have := D6.out.lt; simp; omega
  intro v9 w9 h9 hb9
  have D9 := Lib.hid ((D6.out.next ((Below.refl _ _).alloc (Nat.le_refl _) _)).next2 hb9)
  have H9 := Lib.hid (h9.mono (Nat.le_succ _))
  clear h9 hb9
  go_wp2_with fail
  go_ret
  refine ⟨⟨_, _, rfl, H9.out, ?_⟩, D9.out.below⟩
  rw [ER.out]; simp only [List.map_append, List.map_cons, List.map_nil, deepB Ec.out, M.bs_append, HTX.out, Ea.out, Eb.out]; rfl
 ·go_simp
  go_at_call 35
  (with_reducible refine (LNC.out _ D2.out.below).mono ?_)
  rintro e w3 ⟨vlc, Lc, rfl, hO, hL, hlnc, hszc, hb⟩
  have D3 := Lib.hid (D2.out.next hb)
  have Ec := Lib.hid hL
  have Zc := Lib.hid hszc
  have Rc := Lib.hid hO
  clear hb hO hL hszc
  go_wp2_with fail
  refine hKK.out _ _ ?_ (fun hHeld => ?_)
  ·exact HSC.out _ D3.out
  clear hKK K hHeld
  (try simp only [Act.put, List.setIfInBounds_toArray, List.set_cons_zero, List.set_cons_succ])
  refine OrdH.fork (k2 := 22) (r2 := [16, 23, 24]) (by rfl) (by rfl) (by rfl) (by rfl) (by kernel_rfl) (by rfl) (by kernel_rfl) (fun K hKK => ?_) (fun K hKK => ?_)
  ·go_simp
   (try go_wp2_with fail)
   have D4 := Lib.hid (D3.out.next ((Below.refl _ _).alloc (Nat.le_refl _) (.cells #[.string (⟨#[102, 111, 114, 32]⟩ ++ T ++ ⟨#[32, 61, 32]⟩ ++ Xa ++ ⟨#[32, 116, 111, 32]⟩ ++ Xb ++ ⟨#[32, 123]⟩)] 9)))
   have H0 := Lib.hid (OwnS.one (T := ⟨#[102, 111, 114, 32]⟩ ++ T ++ ⟨#[32, 61, 32]⟩ ++ Xa ++ ⟨#[32, 116, 111, 32]⟩ ++ Xb ++ ⟨#[32, 123]⟩) (base := w.heap.size + 1) D3.out.lt _ rfl)
   have Rc_4 := Lib.hid (OwnS.alloc Rc.out (.cells #[.string (⟨#[102, 111, 114, 32]⟩ ++ T ++ ⟨#[32, 61, 32]⟩ ++ Xa ++ ⟨#[32, 116, 111, 32]⟩ ++ Xb ++ ⟨#[32, 123]⟩)] 9))
   refine hKK.out _ _ ?_ (fun hHeld => ?_)
   ·exact HSC.out _ D4.out
   clear hKK K hHeld
   (try simp only [Act.put, List.setIfInBounds_toArray, List.set_cons_zero, List.set_cons_succ])
   refine OrdH.alone (by rfl) (by rfl) (by kernel_rfl) (fun K hKK => ?_)
   go_simp
   go_at_call 103
   (with_reducible refine (deeper_any _ Lc _ (OwnS.strs (by omega) Rc_4.out) Zc.out).mono ?_)
   rintro e w5 ⟨⟨vdc, rfl, hO⟩, hb⟩
   have D5 := Lib.hid (D4.out.next hb)
   have H0_5 := Lib.hid (OwnS.below H0.out hb)
   have Gc := Lib.hid hO
   clear hb hO
   go_wp2_with fail
   refine hKK.out _ _ ?_ (fun hHeld => ?_)
   ·exact HSC.out _ D5.out
   clear hKK K hHeld
   (try simp only [Act.put, List.setIfInBounds_toArray, List.set_cons_zero, List.set_cons_succ])
   refine OrdH.alone (by rfl) (by rfl) (by kernel_rfl) (fun K hKK => ?_)
   refine wp_append_strs _ _ rfl (w.heap.size + 1) _ _ _ (Lc.map fun x => (⟨#[32, 32]⟩ : ByteArray) ++ x) rfl rfl H0_5.out (OwnS.strs (by rw [List.length_map]; omega) Gc.out) (by simp only [List.length_map, List.length_cons, List.length_append, List.length_nil]; omega) D5.out.lt ?_
   intro vo w6 hO hb
   have D6 := Lib.hid (D5.out.next2 hb)
   have HO := Lib.hid hO
   clear hb hO
   refine hKK.out _ _ ?_ (fun hHeld => ?_)
   ·exact HSC.out _ D6.out
   clear hKK K hHeld
   (try simp only [Act.put, List.setIfInBounds_toArray, List.set_cons_zero, List.set_cons_succ])
   (refine OrdH.yield (v := ?_) (by rfl) (by rfl) ?_ ?_; rotate_left 1; (· intro w hSw; (try dsimp only at hSw); go_simp; (try rw [if_neg (by first | omega | (simp only [M.size_app]; omega))]); (try rw [if_pos (by omega)]); try with_reducible rfl); (try simp only [Act.put, List.setIfInBounds_toArray, List.set_cons_zero, List.set_cons_succ]))
   refine OrdH.nil ?_
   go_wp2_with (at_builtin; refine wpList_append_strs rfl _ _ rfl (w.heap.size + 1) _ _ _ [⟨#[125]⟩] rfl rfl (OwnS.alloc HO.out _) (strS_new _ [⟨#[125]⟩] _ (by decide)) ?d1 ?d2 ?_)
   case d1 => simp only [List.length_map, List.length_cons, List.length_append, List.length_nil]; omega
   case d2 => have := D6.out.lt; simp; omega
   intro v9 w9 h9 hb9
   have D9 := Lib.hid ((D6.out.next ((Below.refl _ _).alloc (Nat.le_refl _) _)).next2 hb9)
   have H9 := Lib.hid (h9.mono (Nat.le_succ _))
   clear h9 hb9
   go_wp2_with fail
   go_ret
   refine ⟨⟨_, _, rfl, H9.out, ?_⟩, D9.out.below⟩
   rw [ER.out]; simp only [List.map_append, List.map_cons, List.map_nil, deepB Ec.out, M.bs_append, HTX.out, Ea.out, Eb.out]; rfl
  ·go_simp
   go_at_call 103
   (with_reducible refine (deeper_any _ Lc _ (OwnS.strs (by omega) Rc.out) Zc.out).mono ?_)
   rintro e w4 ⟨⟨vdc, rfl, hO⟩, hb⟩
   have D4 := Lib.hid (D3.out.next hb)
   have Gc := Lib.hid hO
   clear hb hO
   go_wp2_with fail
   refine hKK.out _ _ ?_ (fun hHeld => ?_)
   ·exact HSC.out _ D4.out
   clear hKK K hHeld
   (try simp only [Act.put, List.setIfInBounds_toArray, List.set_cons_zero, List.set_cons_succ])
   refine OrdH.alone (by rfl) (by rfl) (by kernel_rfl) (fun K hKK => ?_)
   go_simp
   (try go_wp2_with fail)
   have D5 := Lib.hid (D4.out.next ((Below.refl _ _).alloc (Nat.le_refl _) (.cells #[.string (⟨#[102, 111, 114, 32]⟩ ++ T ++ ⟨#[32, 61, 32]⟩ ++ Xa ++ ⟨#[32, 116, 111, 32]⟩ ++ Xb ++ ⟨#[32, 123]⟩)] 9)))
   have H0 := Lib.hid (OwnS.one (T := ⟨#[102, 111, 114, 32]⟩ ++ T ++ ⟨#[32, 61, 32]⟩ ++ Xa ++ ⟨#[32, 116, 111, 32]⟩ ++ Xb ++ ⟨#[32, 123]⟩) (base := w.heap.size + 1) D4.out.lt _ rfl)
   have Gc_5 := Lib.hid (OwnS.alloc Gc.out (.cells #[.string (⟨#[102, 111, 114, 32]⟩ ++ T ++ ⟨#[32, 61, 32]⟩ ++ Xa ++ ⟨#[32, 116, 111, 32]⟩ ++ Xb ++ ⟨#[32, 123]⟩)] 9))
   refine hKK.out _ _ ?_ (fun hHeld => ?_)
   ·exact HSC.out _ D5.out
   clear hKK K hHeld
   (try simp only [Act.put, List.setIfInBounds_toArray, List.set_cons_zero, List.set_cons_succ])
   refine OrdH.alone (by rfl) (by rfl) (by kernel_rfl) (fun K hKK => ?_)
   refine wp_append_strs _ _ rfl (w.heap.size + 1) _ _ _ (Lc.map fun x => (⟨#[32, 32]⟩ : ByteArray) ++ x) rfl rfl H0.out (OwnS.strs (by rw [List.length_map]; omega) Gc_5.out) (by simp only [List.length_map, List.length_cons, List.length_append, List.length_nil]; omega) D5.out.lt ?_
   intro vo w6 hO hb
   have D6 := Lib.hid (D5.out.next2 hb)
   have HO := Lib.hid hO
   clear hb hO
   refine hKK.out _ _ ?_ (fun hHeld => ?_)
   ·exact HSC.out _ D6.out
   clear hKK K hHeld
   (try simp only [Act.put, List.setIfInBounds_toArray, List.set_cons_zero, List.set_cons_succ])
   (refine OrdH.yield (v := ?_) (by rfl) (by rfl) ?_ ?_; rotate_left 1; (· intro w hSw; (try dsimp only at hSw); go_simp; (try rw [if_neg (by first | omega | (simp only [M.size_app]; omega))]); (try rw [if_pos (by omega)]); try with_reducible rfl); (try simp only [Act.put, List.setIfInBounds_toArray, List.set_cons_zero, List.set_cons_succ]))
   refine OrdH.nil ?_
   go_wp2_with (at_builtin; refine wpList_append_strs rfl _ _ rfl (w.heap.size + 1) _ _ _ [⟨#[125]⟩] rfl rfl (OwnS.alloc HO.out _) (strS_new _ [⟨#[125]⟩] _ (by decide)) ?d1 ?d2 ?_)
   case d1 => simp only [List.length_map, List.length_cons, List.length_append, List.length_nil]; omega
   case d2 => have := D6.out.lt; simp; omega
   intro v9 w9 h9 hb9
   have D9 := Lib.hid ((D6.out.next ((Below.refl _ _).alloc (Nat.le_refl _) _)).next2 hb9)
   have H9 := Lib.hid (h9.mono (Nat.le_succ _))
   clear h9 hb9
   go_wp2_with fail
   go_ret
   refine ⟨⟨_, _, rfl, H9.out, ?_⟩, D9.out.below⟩
   rw [ER.out]; simp only [List.map_append, List.map_cons, List.map_nil, deepB Ec.out, M.bs_append, HTX.out, Ea.out, Eb.out]; rfl
theorem ritem_8 (t : M.Tree) (f : Nat) (hkind : t.kind = 8) (hF : M.itemF (f + 1) t = true) (hcnt : M.count t <= 20000) (hwt : M.weight t <= 3000000000000000000) : ItemC t := by
 intro v w hv
 have hud := hud9
 rw [M.itemF, if_neg (show ¬ t.kind = 2 by omega), if_neg (show ¬ t.kind = 3 by omega), if_neg (show ¬ t.kind = 4 by omega), if_neg (show ¬ t.kind = 5 by omega), if_neg (show ¬ t.kind = 6 by omega), if_neg (show ¬ t.kind = 7 by omega), if_pos hkind] at hF
 have hF := of_decide_eq_true hF
 have hcn : ∀ i, i < t.kids.length -> M.count (t.kids.getD i M.Tree.no) <= 20000 := fun i hi => by have := M.count_kid (t := t) (kid_mem hi); omega
 have hwn : ∀ i, i < t.kids.length -> M.weight (t.kids.getD i M.Tree.no) <= 3000000000000000000 := fun i hi => by have := M.weight_kid (t := t) (kid_mem hi); omega
 obtain ⟨T, kv, rfl, hT, hok, hk⟩ := hv
 obtain ⟨r, er⟩ : ∃ r, r = M.itemT t := ⟨_, rfl⟩
 rw [<- er]
 rw [M.itemT_eq] at er
 unfold M.itemW at er
 rw [if_neg (show ¬ t.kind = 2 by omega), if_neg (show ¬ t.kind = 3 by omega), if_neg (show ¬ t.kind = 4 by omega), if_neg (show ¬ t.kind = 5 by omega), if_neg (show ¬ t.kind = 6 by omega), if_neg (show ¬ t.kind = 7 by omega), if_pos hkind] at er
 obtain ⟨K, eK⟩ : ∃ K, K = t.kind := ⟨_, rfl⟩
 obtain ⟨tx, ex⟩ : ∃ x, x = t.text := ⟨_, rfl⟩
 obtain ⟨n, en⟩ : ∃ n, n = t.num := ⟨_, rfl⟩
 obtain ⟨l, el⟩ : ∃ l, l = t.kids := ⟨_, rfl⟩
 try rw [<- eK] at er
 try rw [<- ex] at er
 try rw [<- en] at er
 try rw [<- el] at er
 rw [<- eK, <- en]
 rw [<- ex] at hT
 rw [<- el] at hk hF hcn hwn
 obtain ⟨A, cap, rfl, _⟩ := id hk
 have HTX := Lib.hid hT
 have hn := hok.2.1
 have hsz := hok.2.2
 rw [<- en] at hn
 have S0 := Lib.hid (NB.start w K T n (.slice A l.length cap))
 have hK : K = 8 := eK.trans hkind
 have gk2 : (K == 2) = false := by rw [beq_eq_false_iff_ne]; omega
 have gk3 : (K == 3) = false := by rw [beq_eq_false_iff_ne]; omega
 have gk4 : (K == 4) = false := by rw [beq_eq_false_iff_ne]; omega
 have gk5 : (K == 5) = false := by rw [beq_eq_false_iff_ne]; omega
 have gk6 : (K == 6) = false := by rw [beq_eq_false_iff_ne]; omega
 have gk7 : (K == 7) = false := by rw [beq_eq_false_iff_ne]; omega
 have gk8 : (K == 8) = true := by rw [beq_iff_eq]; omega
 have HKK := Lib.hid hk
 have hll : l.length <= 20000 := by have := M.kids_len t; rw [<- el] at this; omega
 have hwl : M.weightL l <= M.weight t := by rw [M.weight_eq, <- el]; omega
 clear hT hok hk eK ex en el hK
 have hl : 0 < l.length := hF.2.2.1
 have hea := hF.2.2.2.1
 have hcj : (M.joinW [44, 32] ((l.drop 1).map fun t => M.digitsL t.num)).length <= 3000000000000000000 := by
  have c := M.joinW_weight (fun t => M.digitsL t.num) (l.drop 1) (fun u hu => by
   have h1 := of_decide_eq_true (List.all_eq_true.1 hF.2.2.2.2 u hu)
   have h2 := M.digitsL_len20 (n := u.num) (by omega)
   have h3 := M.weight_pos u
   show (M.digitsL u.num).length + 8 <= _
   omega)
  have b := M.weightL_drop1 (l := l) hl
  omega
 obtain ⟨ba, oa, Ta, Aa, ma, cca, hAa, al, a0, a1, a2, a3, av⟩ := HKK.out.at 0 (by omega)
 cases hAa
 obtain ⟨ua, eua⟩ : ∃ u, u = l.getD 0 M.Tree.no := ⟨_, rfl⟩
 rw [<- eua] at a0 a2 av er
 obtain ⟨ka, eka⟩ : ∃ k, k = ua.kind := ⟨_, rfl⟩
 obtain ⟨na, ena⟩ : ∃ k, k = ua.num := ⟨_, rfl⟩
 rw [<- eka] at a0 av
 rw [<- ena] at a2 av
 simp only [show 0 * 4 = 0 from rfl, Nat.add_zero] at a0 a1 a2 a3
 have hia : 0 < l.length := by omega
 have Va := Lib.hid av
 have hca := hcn 0 (by omega)
 have hwa := hwn 0 (by omega)
 rw [<- eua] at hca hwa hea
 have EXA := Lib.hid fun w' (hb : Below w.heap.size w w') => rexpr9 hea hca hwa (Va.out.below hb)
 clear hca hwa hea
 clear av eua eka ena
 obtain ⟨qa0, qa1, qa2, qa3⟩ := bel4 S0.out.below al a0 a1 a2 a3
 have ER0 := Lib.hid er
 have HCJ := Lib.hid hcj
 clear er hF hcn hwn hkind hcnt hwt hwl hcj
 have HSC := Lib.hid fun W' (h : NB w K T n (.slice (some ⟨ba, oa, none⟩) l.length cap) W') => (show NB w K T n (.slice (some ⟨ba, oa, none⟩) l.length cap) W' /\ W'.cell? ⟨w.heap.size, 0, none⟩ = some (.int .i64 K) /\ W'.cell? ⟨w.heap.size, 1, none⟩ = some (.string T) /\ W'.cell? ⟨w.heap.size, 2, none⟩ = some (.int .u64 (n : Nat)) /\ W'.cell? ⟨w.heap.size, 3, none⟩ = some (.slice (some ⟨ba, oa, none⟩) l.length cap) /\ W'.cell? ⟨ba, oa, none⟩ = some (.int .i64 ka) /\ W'.cell? ⟨ba, oa + 1, none⟩ = some (.string Ta) /\ W'.cell? ⟨ba, oa + 2, none⟩ = some (.int .u64 (na : Nat)) /\ W'.cell? ⟨ba, oa + 3, none⟩ = some (.slice Aa ma cca) from ⟨h, h.c0, h.c1, h.c2, h.c3, (h.below.cell (p := ⟨_, _, none⟩) al).trans a0, (h.below.cell (p := ⟨_, _, none⟩) al).trans a1, (h.below.cell (p := ⟨_, _, none⟩) al).trans a2, (h.below.cell (p := ⟨_, _, none⟩) al).trans a3⟩)
 by_cases h1 : 1 < l.length
 ·have er := ER0.out
  clear ER0
  rw [if_pos h1] at er
  have ER := Lib.hid er
  clear er
  have gl : decide ((l.length : Int) > 1) = true := by rw [decide_eq_true_eq]; omega
  have hcap : l.length <= cap := HKK.out.kid.2.1
  have hcne : cap ≠ 1 := by omega
  have hcpos : 0 < cap - 1 := by omega
  have hlm : l.length <= 17592186043904 := HKK.out.kid.2.2.1
  go_enter Tryz.func48, Tryz.ntmps48
  go_wp2_with fail
  go_loopw [7, 151] (fun tl ti wr => ∃ (i : Nat) (L : List ByteArray), i <= l.length - 1 /\ ti = .int .i64 i /\ L.length = i /\ OwnS wr (w.heap.size + 1) tl L /\ L.map M.bs = ((l.drop 1).take i).map (fun t => M.digitsL t.num) /\ NB w K T n (.slice (some ⟨ba, oa, none⟩) l.length cap) wr) (fun _ ti _ => l.length - 1 - (intOf ti).toNat)
  case atStart => exact ⟨0, [], by omega, rfl, rfl, World.ownsRow_nil _ _ _ _, rfl, S0.out⟩
  case round =>
   obtain ⟨k, L, hk, rfl, hL, hO, hM, hS⟩ := hrel
   have HO := Lib.hid hO
   have HS := Lib.hid hS
   have HM := Lib.hid hM
   have HL := Lib.hid hL
   clear hO hM hL
   obtain ⟨-, -, y0, y1, y2, y3⟩ := id hS
   obtain ⟨qa0, qa1, qa2, qa3⟩ := bel4 hS.below al a0 a1 a2 a3
   clear hS
   by_cases hlt : k < l.length - 1
   ·obtain ⟨b2, o2, Tx, Ax, mx, cx, hAx, xl, x0, x1, x2, x3, xv⟩ := HKK.out.at (k + 1) (by omega)
    cases hAx
    rw [show oa + (k + 1) * 4 = oa + 4 + k * 4 by omega] at x0 x1 x2 x3
    obtain ⟨p0, p1, p2, p3⟩ := bel4 HS.out.below xl x0 x1 x2 x3
    have hxn := xv.num
    have HT := Lib.hid (show ((l.drop 1).take (k + 1)).map (fun t => M.digitsL t.num) = ((l.drop 1).take k).map (fun t => M.digitsL t.num) ++ [M.digitsL (l.getD (k + 1) M.Tree.no).num] by
     rw [List.take_add_one, List.getElem?_drop, Nat.add_comm 1 k, List.getD_eq_getElem?_getD, List.getElem?_eq_getElem (show k + 1 < l.length by omega), List.map_append]; rfl)
    obtain ⟨u, eu⟩ : ∃ u, u = l.getD (k + 1) M.Tree.no := ⟨_, rfl⟩
    rw [<- eu] at p0 p2 hxn HT
    obtain ⟨K2, eK2⟩ : ∃ K, K = u.kind := ⟨_, rfl⟩
    obtain ⟨n2, en2⟩ : ∃ n, n = u.num := ⟨_, rfl⟩
    rw [<- eK2] at p0
    rw [<- en2] at p2 hxn HT
    have DX := Lib.hid fun w' => rdig9 n2 w' hxn
    have HBX := Lib.hid fun o => HS.out.next ((Below.refl _ _).alloc (Nat.le_refl _) o)
    clear x0 x1 x2 x3 eu eK2 en2 hxn xv
    go_wp2_with fail
    (with_reducible refine (DX.out _).mono ?_)
    rintro e w2 ⟨TX, rfl, hTX, hzX, hb2⟩
    have HS2 := Lib.hid ((HBX.out _).next hb2)
    have HO2 := Lib.hid (OwnS.below (OwnS.alloc HO.out _) hb2)
    have HTX2 := Lib.hid hTX
    clear hb2 hTX
    go_wp2_with (at_builtin; refine wpList_append_strs rfl _ _ rfl (w.heap.size + 1) _ _ L [TX] rfl rfl (OwnS.alloc HO2.out _) (strS_new _ [TX] _ (by simp)) ?d1 ?d2 ?_)
    case d1 => have := HL.out; simp only [List.length_cons, List.length_nil]; omega
    case d2 => have := HS2.out.lt; simp; omega
    intro v' w3 hO3 hb3
    have HS3 := Lib.hid ((HS2.out.next ((Below.refl _ _).alloc (Nat.le_refl _) _)).next2 hb3)
    have HO3 := Lib.hid hO3
    clear hO3 hb3
    go_wp2_with fail
    go_roundw
    case rel => exact ⟨k + 1, L ++ [TX], by omega, by go_num, by rw [List.length_append, HL.out]; rfl, HO3.out, by rw [HT.out, List.map_append, HM.out, List.map_singleton, HTX2.out], HS3.out⟩
    case measure => simp [intOf]; omega
   ·obtain rfl : k = l.length - 1 := by omega
    have hM2 := HM.out
    rw [List.take_of_length_le (by rw [List.length_drop]; omega)] at hM2
    have JN := Lib.hid (joined_any _ L ⟨#[44, 32]⟩ _ (OwnS.strs (by have := HL.out; omega) HO.out) (by rw [hM2]; exact Nat.le_trans HCJ.out (by omega)))
    rw [hM2] at JN
    have D0 := HS
    clear hM2
    go_wp2_with fail
    (with_reducible refine (JN.out).mono ?_)
    rintro e w' ⟨⟨TJ, rfl, hTJ⟩, rfl⟩
    have EJ := Lib.hid (hTJ.trans (show M.joinW (M.bs ⟨#[44, 32]⟩) ((l.drop 1).map fun t => M.digitsL t.num) = M.joinW [44, 32] ((l.drop 1).map fun t => M.digitsL t.num) from rfl))
    have hJs : TJ.size <= 3000000000000000000 := by rw [<- M.bs_len, EJ.out]; exact HCJ.out
    clear hTJ
    go_wp2_with fail
    (with_reducible refine (EXA.out _ D0.out.below).mono ?_)
    rintro e wE ⟨Xa, rfl, hX, hzE, hb⟩
    have DE := Lib.hid (D0.out.next hb)
    have Ea := Lib.hid hX
    clear hb hX
    go_wp2_with fail
    go_ret
    refine ⟨⟨_, _, rfl, OwnS.one DE.out.below.size _ rfl, ?_⟩, DE.out.below.alloc DE.out.below.size _⟩
    rw [ER.out]; simp only [List.map_cons, List.map_nil, M.bs_append, Ea.out, EJ.out]; rfl
 ·have er := ER0.out
  clear ER0
  rw [if_neg h1] at er
  have ER := Lib.hid er
  clear er
  have gl : decide ((l.length : Int) > 1) = false := by rw [decide_eq_false_iff_not]; omega
  go_enter Tryz.func48, Tryz.ntmps48
  go_wp2_with fail
  have D0 := S0
  (with_reducible refine (EXA.out _ D0.out.below).mono ?_)
  rintro e wE ⟨Xa, rfl, hX, hzE, hb⟩
  have DE := Lib.hid (D0.out.next hb)
  have Ea := Lib.hid hX
  clear hb hX
  go_wp2_with fail
  go_ret
  refine ⟨⟨_, _, rfl, OwnS.one DE.out.below.size _ rfl, ?_⟩, DE.out.below.alloc DE.out.below.size _⟩
  rw [ER.out]; simp only [List.map_cons, List.map_nil, M.bs_append, Ea.out]; rfl
end Go.Proofs.YtngpedcihajepaaGreatDoor
