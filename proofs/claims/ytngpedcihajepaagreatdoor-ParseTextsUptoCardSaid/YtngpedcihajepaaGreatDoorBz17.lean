/-
 Merged out of the texts Tt9 Tk9 Tl9 Tm9 Tn9 Tu9 Tv9.
-/
import Derived.Lib.MakeNoZero
import Derived.WalkKit
import Derived.Laws.IdiomCopy
import Derived.Laws.BitsLemmas
import Derived.Shelf.Strings.BuilderX
import Derived.OwnWalk
import Derived.ProofKit
import Derived.ChangeMaps5
import Derived.Deep.RegionHeld3
import Derived.Test.YtngpedcihajepaaGreatDoorShelf
import Derived.Shelf.LaysM
import Derived.Shelf.Strconv.Itoa1
import Derived.Shelf.Strconv.Itoa2
import Derived.Lib.Walk
import Derived.Lib.ItoaMem
import Derived.BigCall
import Derived.BigGuard
import Derived.Test.YtngpedcihajepaaGreatDoorProg
import Derived.WalkSmall
import Derived.Still
import Derived.Lib.Builder
import Derived.Lib.AppendStr
import Derived.Lib.UnsafeStr
import Derived.Laws.Externs
import Derived.Lib.MinMax
import Derived.WalkSpells
import Derived.WalkLawsBesides
import Derived.Lib.Hide
import Derived.Below
import Derived.Deep.QuietTactic
import Derived.BigQuiet
import Derived.Deep.LoopGhost
import Derived.Maps.Own
import Derived.Maps.OwnOps
import Derived.Maps.Views
import Derived.Deep.AppendLies
import Derived.Test.YtngpedcihajepaaGreatDoorBz1
import Derived.Test.YtngpedcihajepaaGreatDoorBz2
import Derived.Test.YtngpedcihajepaaGreatDoorBz3
import Derived.Test.YtngpedcihajepaaGreatDoorBz4
import Derived.Test.YtngpedcihajepaaGreatDoorBz5
import Derived.Test.YtngpedcihajepaaGreatDoorBz6
import Derived.Test.YtngpedcihajepaaGreatDoorBz7
import Derived.Test.YtngpedcihajepaaGreatDoorBz8
import Derived.Test.YtngpedcihajepaaGreatDoorBz10
import Derived.Test.YtngpedcihajepaaGreatDoorBz11
import Derived.Test.YtngpedcihajepaaGreatDoorBz12
import Derived.Test.YtngpedcihajepaaGreatDoorBz13
import Derived.Test.YtngpedcihajepaaGreatDoorBz14
import Derived.Test.YtngpedcihajepaaGreatDoorBz15
import Derived.Test.YtngpedcihajepaaGreatDoorBz16
import Derived.Test.YtngpedcihajepaaGreatDoorSq9
set_option linter.unusedVariables false
set_option linter.unusedSimpArgs false
set_option maxRecDepth 100000
set_option maxHeartbeats 40000000
namespace Go.Proofs.YtngpedcihajepaaGreatDoor
open Go.RowKit
theorem pproc (t : M.Tree) (hkind : t.kind = 9) (hwt : M.weight t <= 70368744177664) (hl : 1 < t.kids.length) (hll : t.kids.length <= 1000000) (hpA : ∀ i, i < (t.kids.take (t.kids.length - 2)).length -> FnT 93 M.argT ((t.kids.take (t.kids.length - 2)).getD i M.Tree.no)) (hjw : (M.joinW [44, 32] ((t.kids.take (t.kids.length - 2)).map M.argT)).length <= 70368744177664) (hX1 : ∀ v w, NodeV w v (t.kids.getD (t.kids.length - 1) M.Tree.no) -> Tab9 w -> TextC 95 (M.exprT (t.kids.getD (t.kids.length - 1) M.Tree.no)) #[v] w) (hP2 : ∀ i, i < (t.kids.getD (t.kids.length - 2) M.Tree.no).kids.length -> ItemP ((t.kids.getD (t.kids.length - 2) M.Tree.no).kids.getD i M.Tree.no)) : PartP 99 t := by
 intro wb w b lo d v hvb htb hbw hbb hP hlen
 have hud := hud9
 obtain ⟨T, kv, rfl, hT, hok, hk⟩ := hvb
 have hsz : T.size <= 70368744177664 := by have := M.weight_eq t; rw [<- M.bs_len, hT]; omega
 obtain ⟨r, er⟩ : ∃ r, r = M.itemT t := ⟨_, rfl⟩
 rw [<- er] at hlen ⊢
 rw [M.itemT_eq] at er
 unfold M.itemW at er
 rw [if_neg (show ¬ t.kind = 2 by omega), if_neg (show ¬ t.kind = 3 by omega), if_neg (show ¬ t.kind = 4 by omega), if_neg (show ¬ t.kind = 5 by omega), if_neg (show ¬ t.kind = 6 by omega), if_neg (show ¬ t.kind = 7 by omega), if_neg (show ¬ t.kind = 8 by omega)] at er
 obtain ⟨K, eK⟩ : ∃ K, K = t.kind := ⟨_, rfl⟩
 obtain ⟨tx, ex⟩ : ∃ x, x = t.text := ⟨_, rfl⟩
 obtain ⟨n, en⟩ : ∃ n, n = t.num := ⟨_, rfl⟩
 obtain ⟨l, el⟩ : ∃ l, l = t.kids := ⟨_, rfl⟩
 try rw [<- ex] at er
 try rw [<- en] at er
 try rw [<- el] at er
 rw [<- eK, <- en]
 rw [<- ex] at hT
 rw [<- el] at hk hl hll hpA hjw hX1 hP2
 rw [<- eK] at hkind
 obtain ⟨A, cap, rfl, _⟩ := id hk
 have HTX := Lib.hid hT
 have HTB := Lib.hid htb
 have HBL := Lib.hid hP.lt
 have HBB := Lib.hid hbb
 have HBW := Lib.hid hbw
 have HP := Lib.hid hP
 have HLEN := Lib.hid hlen
 have HKK := Lib.hid hk
 have HBS := Lib.hid fun W (h : NY w b K T n (.slice A l.length cap) W) => h.base hbw hbb hP.lt
 have S0 := Lib.hid (NY.start w b K T n (.slice A l.length cap))
 clear hT hok hk eK ex en el htb hbw hbb hP hlen
 obtain ⟨j, ej⟩ : ∃ j, j = l.length - 2 := ⟨_, rfl⟩
 have ej1 : l.length - 1 = j + 1 := by omega
 rw [<- ej] at er hpA hjw hP2
 rw [ej1] at er hX1
 have hz2 : (l.length : Int) - 2 = (j : Nat) := by omega
 have hj0 : j < l.length /\ j + 1 < l.length /\ j <= l.length := by omega
 have hcap : l.length <= cap := HKK.out.kid.2.1
 have hbig : l.length <= 17592186043904 := HKK.out.kid.2.2.1
 have hjc : j < cap := by omega
 have hjc2 : j <= cap := by omega
 rw [M.mapB_getD hj0.1, M.blockT_eq] at er
 clear ej ej1 hl
 obtain ⟨be, oe, Te, Ae, me, cce, hAe, el, e0, e1, e2, e3, ev⟩ := HKK.out.at (j) (by omega)
 cases hAe
 obtain ⟨ue, eue⟩ : ∃ u, u = l.getD (j) M.Tree.no := ⟨_, rfl⟩
 rw [<- eue] at e0 e2 ev
 try rw [<- eue] at er
 rw [<- eue] at hP2
 obtain ⟨ke, eke⟩ : ∃ k, k = ue.kind := ⟨_, rfl⟩
 obtain ⟨ne, ene⟩ : ∃ k, k = ue.num := ⟨_, rfl⟩
 rw [<- eke] at e0 ev
 rw [<- ene] at e2 ev
 have hie : j < l.length := by omega
 have Ve := Lib.hid ev
 have meE := Lib.hid ev.klen
 clear ev eue eke ene
 obtain ⟨bf, of, Tf, Af, mf, ccf, hAf, fl, f0, f1, f2, f3, fv⟩ := HKK.out.at (j + 1) (by omega)
 cases hAf
 obtain ⟨uf, euf⟩ : ∃ u, u = l.getD (j + 1) M.Tree.no := ⟨_, rfl⟩
 rw [<- euf] at f0 f2 fv
 try rw [<- euf] at er
 obtain ⟨kf, ekf⟩ : ∃ k, k = uf.kind := ⟨_, rfl⟩
 obtain ⟨nf, enf⟩ : ∃ k, k = uf.num := ⟨_, rfl⟩
 rw [<- ekf] at f0 fv
 rw [<- enf] at f2 fv
 have hif : j + 1 < l.length := by omega
 have Vf := Lib.hid fv
 have mfE := Lib.hid fv.klen
 have EfC := Lib.hid fun w' (hb : Below wb.heap.size wb w') => hX1 _ w' (by rw [<- euf]; exact Vf.out.below hb) (HTB.out.below hb)
 rw [<- euf] at EfC
 clear fv euf ekf enf
 have HVK := Lib.hid Ve.out.kids'
 have JN := Lib.hid fun w' (hb : Below wb.heap.size wb w') => joined9_len (l.take j) (by rw [List.length_take]; omega) hpA Tryz.call93 hjw (show KidsV w' (.slice (some ⟨be, oe, none⟩) j cap) (l.take j) from by
  have := HKK.out.cut 0 j (Nat.zero_le _) hj0.2.2
  simp only [Nat.zero_mul, Nat.add_zero, Nat.sub_zero, List.drop_zero] at this
  exact this.below hb) (HTB.out.below hb)
 have ER := Lib.hid (show M.textL d r = M.lineN d ([100, 101, 102, 32] ++ tx ++ [40] ++ M.joinW [44, 32] ((l.take j).map M.argT) ++ [41, 32, 123]) ++ M.textL (d + 1) (M.linesL ue.kids) ++ M.lineN (d + 1) ([114, 101, 116, 117, 114, 110, 32] ++ M.exprT uf ++ [59]) ++ M.lineN d [125] from by
  rw [er, M.textL_app, M.textL_app, M.textL_app, M.textL_one, M.textL_one, M.textL_one, M.textL_deep, <- M.lineN_deep]
  simp only [List.append_assoc, List.cons_append, List.nil_append])
 have HD := Lib.hid (show d <= 70368744177664 by have := HLEN.out; rw [ER.out] at this; simp only [List.length_append, M.lineN_len] at this; omega)
 have HP2 := Lib.hid hP2
 have B0 := Lib.hid (show Below w.heap.size w _ from balloc8 w (.cells #[.int .i64 K, .string T, .int .u64 (n : Nat), .slice (some ⟨be, oe, none⟩) l.length cap] 25))
 have HSC := Lib.hid fun W' (h : NY w b K T n (.slice (some ⟨be, oe, none⟩) l.length cap) W') => (show W'.cell? ⟨w.heap.size, 0, none⟩ = some (.int .i64 K) /\ W'.cell? ⟨w.heap.size, 1, none⟩ = some (.string T) /\ W'.cell? ⟨w.heap.size, 2, none⟩ = some (.int .u64 (n : Nat)) /\ W'.cell? ⟨w.heap.size, 3, none⟩ = some (.slice (some ⟨be, oe, none⟩) l.length cap) /\ W'.cell? ⟨be, oe + j * 4, none⟩ = some (.int .i64 ke) /\ W'.cell? ⟨be, oe + j * 4 + 1, none⟩ = some (.string Te) /\ W'.cell? ⟨be, oe + j * 4 + 2, none⟩ = some (.int .u64 (ne : Nat)) /\ W'.cell? ⟨be, oe + j * 4 + 3, none⟩ = some (.slice Ae me cce) /\ W'.cell? ⟨be, oe + (j + 1) * 4, none⟩ = some (.int .i64 kf) /\ W'.cell? ⟨be, oe + (j + 1) * 4 + 1, none⟩ = some (.string Tf) /\ W'.cell? ⟨be, oe + (j + 1) * 4 + 2, none⟩ = some (.int .u64 (nf : Nat)) /\ W'.cell? ⟨be, oe + (j + 1) * 4 + 3, none⟩ = some (.slice Af mf ccf) from ⟨h.c0, h.c1, h.c2, h.c3, ((HBS.out _ h).cell (p := ⟨_, _, none⟩) el).trans e0, ((HBS.out _ h).cell (p := ⟨_, _, none⟩) el).trans e1, ((HBS.out _ h).cell (p := ⟨_, _, none⟩) el).trans e2, ((HBS.out _ h).cell (p := ⟨_, _, none⟩) el).trans e3, ((HBS.out _ h).cell (p := ⟨_, _, none⟩) fl).trans f0, ((HBS.out _ h).cell (p := ⟨_, _, none⟩) fl).trans f1, ((HBS.out _ h).cell (p := ⟨_, _, none⟩) fl).trans f2, ((HBS.out _ h).cell (p := ⟨_, _, none⟩) fl).trans f3⟩)
 clear er hkind hwt hX1 hP2 hpA hjw hll
 have hsz2 := HSC.out _ S0.out
 obtain ⟨s0, s1, s2, s3, s4, s5, s6, s7, s8, s9, s10, s11⟩ := hsz2
 go_enter Tryz.func99, Tryz.ntmps99
 go_wp2_with fail
 have D0 := Lib.hid S0.out.drew
 have B0 := Lib.hid B0.out.drew
 try dsimp only [List.append]
 refine wp_region_ord (S := fun W' => W'.cell? ⟨w.heap.size, 0, none⟩ = some (.int .i64 K) /\ W'.cell? ⟨w.heap.size, 1, none⟩ = some (.string T) /\ W'.cell? ⟨w.heap.size, 2, none⟩ = some (.int .u64 (n : Nat)) /\ W'.cell? ⟨w.heap.size, 3, none⟩ = some (.slice (some ⟨be, oe, none⟩) l.length cap) /\ W'.cell? ⟨be, oe + j * 4, none⟩ = some (.int .i64 ke) /\ W'.cell? ⟨be, oe + j * 4 + 1, none⟩ = some (.string Te) /\ W'.cell? ⟨be, oe + j * 4 + 2, none⟩ = some (.int .u64 (ne : Nat)) /\ W'.cell? ⟨be, oe + j * 4 + 3, none⟩ = some (.slice Ae me cce) /\ W'.cell? ⟨be, oe + (j + 1) * 4, none⟩ = some (.int .i64 kf) /\ W'.cell? ⟨be, oe + (j + 1) * 4 + 1, none⟩ = some (.string Tf) /\ W'.cell? ⟨be, oe + (j + 1) * 4 + 2, none⟩ = some (.int .u64 (nf : Nat)) /\ W'.cell? ⟨be, oe + (j + 1) * 4 + 3, none⟩ = some (.slice Af mf ccf)) [0, 1, 2, 3, 4, 5, 6, 7, 8, 9] (by kernel_rfl) (by kernel_rfl) (by kernel_rfl) (fun _ _ _ _ _ h => h) ?_ ?_
 ·exact HSC.out _ D0.out
 repeat (first
  | (refine OrdH.pass (by rfl) (by rfl) ?_; (try simp only [Act.put, List.setIfInBounds_toArray, List.set_cons_zero, List.set_cons_succ]))
  | (refine OrdH.yield (v := ?_) (by rfl) (by rfl) ?_ ?_; rotate_left 1; (· intro w hSw; (try dsimp only at hSw); go_simp; (try rw [if_neg (by first | omega | (simp only [M.size_app]; omega))]); (try rw [if_pos (by omega)]); try with_reducible rfl); (try simp only [Act.put, List.setIfInBounds_toArray, List.set_cons_zero, List.set_cons_succ]))
  | (refine OrdH.alone (by rfl) (by rfl) (by kernel_rfl) (fun KK hKK => ?_); go_simp; (first | (go_at_call 137; (with_reducible refine (JN.out _ (HBS.out _ D0.out)).mono ?_); rintro e w1 ⟨Xj, rfl, hXj, hzj, hb⟩; have D1 := Lib.hid (D0.out.next hb); have B1 := Lib.hid (B0.out.trans (hb.mono B0.out.size)); have Ej := Lib.hid hXj; clear hb hXj)); go_wp2_with fail; refine hKK.out _ _ ?_ (fun hHeld => ?_); (· (first | exact HSC.out _ D1.out | exact HSC.out _ D0.out)); clear hKK KK hHeld; (try simp only [Act.put, List.setIfInBounds_toArray, List.set_cons_zero, List.set_cons_succ]))
  | (refine OrdH.alone (by rfl) (by rfl) (by kernel_rfl) (fun KK hKK => ?_); go_simp; (try go_wp2_with fail); have D2 := Lib.hid (D1.out.next (balloc8 _ (.cells #[.string ⟨#[100, 101, 102, 32]⟩, .string T, .string ⟨#[40]⟩, .string Xj, .string ⟨#[41, 32, 123]⟩] 9))); have B2 := Lib.hid (B1.out.trans ((balloc8 _ (.cells #[.string ⟨#[100, 101, 102, 32]⟩, .string T, .string ⟨#[40]⟩, .string Xj, .string ⟨#[41, 32, 123]⟩] 9)).mono B1.out.size)); have HQ0 := Lib.hid (show (List.map M.bs [⟨#[100, 101, 102, 32]⟩, T, ⟨#[40]⟩, Xj, ⟨#[41, 32, 123]⟩]).flatten = [100, 101, 102, 32] ++ tx ++ [40] ++ M.joinW [44, 32] ((l.take j).map M.argT) ++ [41, 32, 123] by simp only [List.map_cons, List.map_nil, List.flatten_cons, List.flatten_nil, List.append_nil, List.append_assoc, HTX.out, Ej.out]; rfl); refine hKK.out _ _ ?_ (fun hHeld => ?_); (· exact HSC.out _ D2.out); clear hKK KK hHeld; (try simp only [Act.put, List.setIfInBounds_toArray, List.set_cons_zero, List.set_cons_succ])))
 refine OrdH.alone (by rfl) (by rfl) (by kernel_rfl) (fun KK hKK => ?_)
 go_simp
 go_at_call 92
 refine (line10_any b (lo) d [⟨#[100, 101, 102, 32]⟩, T, ⟨#[40]⟩, Xj, ⟨#[41, 32, 123]⟩] w1.heap.size _ (HP.out.below B2.out) (fun j hj => by rcases (show j = 0 \/ j = 1 \/ j = 2 \/ j = 3 \/ j = 4 by simp at hj; omega) with rfl | rfl | rfl | rfl | rfl <;> simp) (by simp) (by have := D1.out.lt; have := HBL.out; omega) (noRow_strs _ _) (by simp) (by rw [HQ0.out]; have := HLEN.out; rw [ER.out] at this; simp only [List.length_append] at this ⊢; omega)).mono ?_
 rintro e w9PP ⟨rfl, hPP, hK9⟩
 rw [HQ0.out] at hPP
 have PP := Lib.hid hPP
 have D9PP := Lib.hid (D2.out.prk hK9 HBL.out)
 clear hPP hK9
 go_wp2_with fail
 refine hKK.out _ _ ?_ (fun hHeld => ?_)
 ·exact HSC.out _ D9PP.out
 clear hKK KK hHeld
 (try simp only [Act.put, List.setIfInBounds_toArray, List.set_cons_zero, List.set_cons_succ])
 refine OrdH.nil ?_
 have p2 := PP.out.cell2
 have pf := PP.out.fz 2
 have hsum : ((d : Int) + 1) = ((d + 1 : Nat) : Int) := by omega
 have PQ := Lib.hid (PP.out.open (d + 1))
 have DQ := Lib.hid (D9PP.out.prk (prK_set b w9PP 2 (.int .i64 ((d + 1 : Nat) : Int))) HBL.out)
 rw [<- hsum] at PQ DQ
 have HS := Lib.hid hsum
 clear hsum
 clear s0 s1 s2 s3 s4 s5 s6 s7 s8 s9 s10 s11
 have hsz := HSC.out _ DQ.out
 obtain ⟨s0, s1, s2, s3, s4, s5, s6, s7, s8, s9, s10, s11⟩ := hsz
 have t3 := (HSC.out _ D9PP.out).2.2.2.1
 have hdd : d <= 70368744177664 := HD.out
 go_wp2_with fail
 refine (items10_any ue.kids HP2.out wb _ b (lo ++ M.lineN d ([100, 101, 102, 32] ++ tx ++ [40] ++ M.joinW [44, 32] ((l.take j).map M.argT) ++ [41, 32, 123])) (d + 1) _ HVK.out HTB.out (HBS.out _ DQ.out) HBB.out PQ.out (by have := HLEN.out; rw [ER.out] at this; simp only [List.length_append] at this ⊢; omega)).mono ?_
 rintro e w11 ⟨rfl, hPP, hK⟩
 have P11 := Lib.hid hPP
 have D11 := Lib.hid (DQ.out.prk hK HBL.out)
 clear hPP hK p2 pf t3
 clear s0 s1 s2 s3 s4 s5 s6 s7 s8 s9 s10 s11
 have hsz := HSC.out _ D11.out
 obtain ⟨s0, s1, s2, s3, s4, s5, s6, s7, s8, s9, s10, s11⟩ := hsz
 go_wp2_with fail
 (with_reducible refine (EfC.out _ (HBS.out _ D11.out)).mono ?_)
 rintro e w12 ⟨Xf, rfl, hXf, hzf, hb⟩
 have D12 := Lib.hid (D11.out.next hb)
 have P12 := Lib.hid (P11.out.below hb)
 have Ef := Lib.hid hXf
 clear hb hXf
 clear s0 s1 s2 s3 s4 s5 s6 s7 s8 s9 s10 s11
 have hsz := HSC.out _ D12.out
 obtain ⟨s0, s1, s2, s3, s4, s5, s6, s7, s8, s9, s10, s11⟩ := hsz
 go_wp2_with fail
 refine (line3_any b (lo ++ M.lineN d ([100, 101, 102, 32] ++ tx ++ [40] ++ M.joinW [44, 32] ((l.take j).map M.argT) ++ [41, 32, 123]) ++ M.textL (d + 1) (M.linesL ue.kids)) (d + 1) ⟨#[114, 101, 116, 117, 114, 110, 32]⟩ Xf ⟨#[59]⟩ ([114, 101, 116, 117, 114, 110, 32] ++ M.exprT uf ++ [59]) _ _ (by simp) P12.out (by rw [Ef.out]; rfl) (by have := HLEN.out; rw [ER.out] at this; simp only [List.length_append] at this ⊢; omega)).mono ?_
 rintro e w13 ⟨rfl, hPP, hK⟩
 have P13 := Lib.hid hPP
 have D13 := Lib.hid (D12.out.prk hK HBL.out)
 clear hPP hK
 clear s0 s1 s2 s3 s4 s5 s6 s7 s8 s9 s10 s11
 have hsz := HSC.out _ D13.out
 obtain ⟨s0, s1, s2, s3, s4, s5, s6, s7, s8, s9, s10, s11⟩ := hsz
 have p2 : w13.cell? ⟨b, 2, none⟩ = some (.int .i64 ((d : Int) + 1)) := by rw [HS.out]; exact P13.out.cell2
 have pf := P13.out.fz 2
 have PR := Lib.hid (P13.out.open d)
 have DR := Lib.hid (D13.out.prk (prK_set b w13 2 (.int .i64 ((d : Nat) : Int))) HBL.out)
 have hdm : (d : Int) + 1 - 1 = ((d : Nat) : Int) := by omega
 go_wp2_with fail
 try rw [hdm]
 refine (line1_any b (lo ++ M.lineN d ([100, 101, 102, 32] ++ tx ++ [40] ++ M.joinW [44, 32] ((l.take j).map M.argT) ++ [41, 32, 123]) ++ M.textL (d + 1) (M.linesL ue.kids) ++ M.lineN (d + 1) ([114, 101, 116, 117, 114, 110, 32] ++ M.exprT uf ++ [59])) d ⟨#[125]⟩ ([125]) _ _ (by simp) PR.out (rfl) (by have := HLEN.out; rw [ER.out] at this; simp only [List.length_append] at this ⊢; omega)).mono ?_
 rintro e w15 ⟨rfl, hPP, hK⟩
 have P15 := Lib.hid hPP
 have D15 := Lib.hid (DR.out.prk hK HBL.out)
 clear hPP hK
 clear s0 s1 s2 s3 s4 s5 s6 s7 s8 s9 s10 s11
 have hsz := HSC.out _ D15.out
 obtain ⟨s0, s1, s2, s3, s4, s5, s6, s7, s8, s9, s10, s11⟩ := hsz
 go_wp2_with fail
 go_end0
 exact ⟨rfl, by rw [ER.out]; simpa only [List.append_assoc] using P15.out, D15.out.pk⟩
theorem pitem_2 (t : M.Tree) (hkind : t.kind = 2) (hwt : M.weight t <= 70368744177664) (hl : 0 < t.kids.length) (hty : M.typeB (t.kids.getD 0 M.Tree.no) = true) : ItemP t := by
 intro wb w b lo d v hvb htb hbw hbb hP hlen
 have hv := hvb.below hbw
 have htab := htb.below hbw
 have hud := hud9
 obtain ⟨T, kv, rfl, hT, hok, hk⟩ := hv
 have hkb : KidsV wb kv t.kids := by
  obtain ⟨T', kv', e, _, _, h⟩ := hvb
  injection e with e
  have e' := congrArg Array.toList e
  simp at e'
  rw [e'.2]; exact h
 have hsz : T.size <= 70368744177664 := by have := M.weight_eq t; rw [<- M.bs_len, hT]; omega
 have hsz2 : 0 < t.kids.length -> T.size + 128 <= 70368744177664 := fun h => by have := M.weight_eq t; have := M.weight_mem (kid_mem (l := t.kids) (i := 0) h); have := M.weight_eq (t.kids.getD 0 M.Tree.no); rw [<- M.bs_len, hT]; omega
 obtain ⟨r, er⟩ : ∃ r, r = M.itemT t := ⟨_, rfl⟩
 rw [<- er] at hlen ⊢
 rw [M.itemT_eq] at er
 unfold M.itemW at er
 rw [if_pos hkind] at er
 obtain ⟨K, eK⟩ : ∃ K, K = t.kind := ⟨_, rfl⟩
 obtain ⟨tx, ex⟩ : ∃ x, x = t.text := ⟨_, rfl⟩
 obtain ⟨n, en⟩ : ∃ n, n = t.num := ⟨_, rfl⟩
 obtain ⟨l, el⟩ : ∃ l, l = t.kids := ⟨_, rfl⟩
 try rw [<- ex] at er
 try rw [<- en] at er
 try rw [<- el] at er
 rw [<- eK, <- en]
 rw [<- ex] at hT
 rw [<- el] at hk hkb hsz2 hl hty
 rw [<- eK] at hkind
 obtain ⟨A, cap, rfl, _⟩ := id hk
 have HBA := Lib.hid (show ∀ ba oa, A = some ⟨ba, oa, none⟩ -> 0 < l.length -> ba < b from fun ba oa e h => by
  obtain ⟨_, _, _, h3⟩ := hkb.kid
  obtain ⟨b', o', e', h4, _⟩ := h3 h
  rw [e] at e'; cases e'; omega)
 clear hkb
 have HTX := Lib.hid hT
 have HT0 := Lib.hid htab
 have HP := Lib.hid hP
 have HBL := Lib.hid hP.lt
 have HLEN := Lib.hid hlen
 have hn := hok.2.1
 rw [<- en] at hn
 have HOK := Lib.hid (show PartOk K n T by rw [eK, en]; exact hok)
 have S0 := Lib.hid (NX.start w K T n (.slice A l.length cap))
 have HKK := Lib.hid hk
 clear hT hok hk eK ex en el htab hvb htb hbw hbb hP hlen
 have gk2 : (K == 2) = true := by rw [beq_iff_eq]; omega
 have gk3 : (K == 3) = false := by rw [beq_eq_false_iff_ne]; omega
 have gk4 : (K == 4) = false := by rw [beq_eq_false_iff_ne]; omega
 have gk5 : (K == 5) = false := by rw [beq_eq_false_iff_ne]; omega
 have gk6 : (K == 6) = false := by rw [beq_eq_false_iff_ne]; omega
 have gk7 : (K == 7) = false := by rw [beq_eq_false_iff_ne]; omega
 have gk8 : (K == 8) = false := by rw [beq_eq_false_iff_ne]; omega
 have gk9 : (K == 9) = false := by rw [beq_eq_false_iff_ne]; omega
 have hsz3 := hsz2 hl
 have hnd : NodeV w (.agg #[.int .i64 K, .string T, .int .u64 (n : Nat), .slice A l.length cap]) (.node K tx n l) := ⟨T, _, rfl, HTX.out, HOK.out, HKK.out⟩
 have EaC := Lib.hid fun w' (hb : Below w.heap.size w w') => (declText_any (.node K tx n l) hl hty (by show tx.length <= _; rw [<- HTX.out, M.bs_len]; omega)).len (by unfold M.argT; have := M.typeB_len hty; rw [List.length_append, List.length_append]; have e1 : (M.Tree.node K tx n l).text.length = T.size := (by rw [<- M.bs_len, HTX.out]; rfl); have e2 : (M.Tree.node K tx n l).kids = l := rfl; rw [e1, e2]; simp only [List.length_cons, List.length_nil]; omega) (hnd.below hb) (HT0.out.below hb)
 have EbC := Lib.hid fun w' (hb : Below w.heap.size w w') => pdig9 n w' hn (HT0.out.below hb)
 clear hn hty hnd
 clear hsz2
 have HSC := Lib.hid fun W' (h : NX w K T n (.slice A l.length cap) W') => (show W'.cell? ⟨w.heap.size, 0, none⟩ = some (.int .i64 K) /\ W'.cell? ⟨w.heap.size, 1, none⟩ = some (.string T) /\ W'.cell? ⟨w.heap.size, 2, none⟩ = some (.int .u64 (n : Nat)) /\ W'.cell? ⟨w.heap.size, 3, none⟩ = some (.slice A l.length cap) from ⟨h.c0, h.c1, h.c2, h.c3⟩)
 have HSL := Lib.hid fun W1 W' (hk : PrK b W1 W') (hw : w.heap.size < W1.heap.size) (hr : NoRow W1 w.heap.size) (h : (fun W' => W'.cell? ⟨w.heap.size, 0, none⟩ = some (.int .i64 K) /\ W'.cell? ⟨w.heap.size, 1, none⟩ = some (.string T) /\ W'.cell? ⟨w.heap.size, 2, none⟩ = some (.int .u64 (n : Nat)) /\ W'.cell? ⟨w.heap.size, 3, none⟩ = some (.slice A l.length cap)) W1) => (show W'.cell? ⟨w.heap.size, 0, none⟩ = some (.int .i64 K) /\ W'.cell? ⟨w.heap.size, 1, none⟩ = some (.string T) /\ W'.cell? ⟨w.heap.size, 2, none⟩ = some (.int .u64 (n : Nat)) /\ W'.cell? ⟨w.heap.size, 3, none⟩ = some (.slice A l.length cap) from by
  have e : ∀ j, W'.cell? ⟨w.heap.size, j, none⟩ = W1.cell? ⟨w.heap.size, j, none⟩ := hk.cell hw (by have := HBL.out; omega) (.inr hr)
  simp only [e]
  exact h)
 have ER := Lib.hid er
 clear er hkind hwt
 go_enter Tryz.func47, Tryz.ntmps47
 go_wp2_with fail
 have D0 := Lib.hid S0.out.drew
 try dsimp only [List.append]
 refine wp_region_ord (S := fun W' => W'.cell? ⟨w.heap.size, 0, none⟩ = some (.int .i64 K) /\ W'.cell? ⟨w.heap.size, 1, none⟩ = some (.string T) /\ W'.cell? ⟨w.heap.size, 2, none⟩ = some (.int .u64 (n : Nat)) /\ W'.cell? ⟨w.heap.size, 3, none⟩ = some (.slice A l.length cap)) [0, 1, 3, 4, 2, 5, 6, 7] (by kernel_rfl) (by kernel_rfl) (by kernel_rfl) (fun _ _ _ _ _ h => h) ?_ ?_
 ·exact HSC.out _ D0.out
 repeat (first
  | (refine OrdH.pass (by rfl) (by rfl) ?_; (try simp only [Act.put, List.setIfInBounds_toArray, List.set_cons_zero, List.set_cons_succ]))
  | (refine OrdH.yield (v := ?_) (by rfl) (by rfl) ?_ ?_; rotate_left 1; (· intro w hSw; (try dsimp only at hSw); go_simp; (try rw [if_neg (by first | omega | (simp only [M.size_app]; omega))]); (try rw [if_pos (by omega)]); try with_reducible rfl); (try simp only [Act.put, List.setIfInBounds_toArray, List.set_cons_zero, List.set_cons_succ]))
  | (refine OrdH.alone (by rfl) (by rfl) (by kernel_rfl) (fun KK hKK => ?_); go_simp; (first | (go_at_call 94; (with_reducible refine (EbC.out _ D1.out.below).mono ?_); rintro e w2 ⟨Xb, rfl, hXb, hzb, hb⟩; have D2 := Lib.hid (D1.out.next hb); have Eb := Lib.hid hXb; clear hb hXb) | (go_at_call 93; (with_reducible refine (EaC.out _ D0.out.below).mono ?_); rintro e w1 ⟨Xa, rfl, hXa, hza, hb⟩; have D1 := Lib.hid (D0.out.next hb); have Ea := Lib.hid hXa; clear hb hXa)); go_wp2_with fail; refine hKK.out _ _ ?_ (fun hHeld => ?_); (· (first | exact HSC.out _ D2.out | exact HSC.out _ D1.out | exact HSC.out _ D0.out)); clear hKK KK hHeld; (try simp only [Act.put, List.setIfInBounds_toArray, List.set_cons_zero, List.set_cons_succ]))
  | (refine OrdH.alone (by rfl) (by rfl) (by kernel_rfl) (fun KK hKK => ?_); go_simp; (try go_wp2_with fail); have D3 := Lib.hid (D2.out.next ((Below.refl _ _).alloc (Nat.le_refl _) (.cells #[.string ⟨#[105, 110, 32]⟩, .string Xa, .string ⟨#[32, 102, 114, 111, 109, 32]⟩, .string Xb, .string ⟨#[59]⟩] 9))); have HQ := Lib.hid (show (List.map M.bs [⟨#[105, 110, 32]⟩, Xa, ⟨#[32, 102, 114, 111, 109, 32]⟩, Xb, ⟨#[59]⟩]).flatten = [105, 110, 32] ++ tx ++ [58, 32] ++ M.typeT (l.getD 0 M.Tree.no) ++ [32, 102, 114, 111, 109, 32] ++ M.digitsL n ++ [59] by simp only [List.map_cons, List.map_nil, List.flatten_cons, List.flatten_nil, List.append_nil, List.append_assoc, Ea.out, show M.argT (.node K tx n l) = tx ++ [58, 32] ++ M.typeT (l.getD 0 M.Tree.no) from rfl, Eb.out]; rfl); refine hKK.out _ _ ?_ (fun hHeld => ?_); (· exact HSC.out _ D3.out); clear hKK KK hHeld; (try simp only [Act.put, List.setIfInBounds_toArray, List.set_cons_zero, List.set_cons_succ])))
 refine OrdH.alone (by rfl) (by rfl) (by kernel_rfl) (fun KK hKK => ?_)
 go_simp
 go_at_call 92
 refine (line10_any b lo d [⟨#[105, 110, 32]⟩, Xa, ⟨#[32, 102, 114, 111, 109, 32]⟩, Xb, ⟨#[59]⟩] w2.heap.size _ (HP.out.below D3.out.below) (fun j hj => by rcases (show j = 0 \/ j = 1 \/ j = 2 \/ j = 3 \/ j = 4 by simp at hj; omega) with rfl | rfl | rfl | rfl | rfl <;> simp) (by simp) (by have := D2.out.below.size; have := HBL.out; omega) (noRow_strs _ _) (by simp) (by rw [HQ.out]; have := HLEN.out; rw [ER.out, M.textL_one] at this; omega)).mono ?_
 rintro e w9 ⟨rfl, hPP, hK9⟩
 rw [HQ.out] at hPP
 have PP := Lib.hid hPP
 have K9 := Lib.hid hK9
 clear hPP hK9
 go_wp2_with fail
 refine hKK.out _ _ ?_ (fun hHeld => ?_)
 ·exact HSL.out _ _ K9.out D3.out.lt D3.out.nr (HSC.out _ D3.out)
 clear hKK KK hHeld
 (try simp only [Act.put, List.setIfInBounds_toArray, List.set_cons_zero, List.set_cons_succ])
 refine OrdH.nil ?_
 go_wp2_with fail
 go_end0
 exact ⟨rfl, by rw [ER.out, M.textL_one]; exact PP.out, (PrK.of b (D3.out.below)).trans K9.out⟩
open Go.RowKit
def M.numT (t : M.Tree) : List Nat := M.digitsL t.num
theorem rec1_any (t : M.Tree) : FnT 139 M.numT t := by
 intro v w hv htab
 have hud := hud9
 obtain ⟨T, kv, rfl, hT, hok, hk⟩ := hv
 obtain ⟨A, cap, rfl, _⟩ := id hk
 unfold M.numT
 obtain ⟨K, eK⟩ : ∃ K, K = t.kind := ⟨_, rfl⟩
 obtain ⟨n, en⟩ : ∃ n, n = t.num := ⟨_, rfl⟩
 obtain ⟨m, em⟩ : ∃ m, m = t.kids.length := ⟨_, rfl⟩
 have hn := hok.2.1
 rw [<- en] at hn
 rw [<- eK, <- en, <- em]
 have S0 := Lib.hid (NB.start w K T n (.slice A m cap))
 have DN := Lib.hid (pdig9 n _ hn (htab.below S0.out.below))
 clear hT hok hk eK en em hn htab
 go_enter Tryz.func139, Tryz.ntmps139
 go_wp2_with fail
 (with_reducible refine (DN.out).mono ?_)
 rintro e w1 ⟨X, rfl, hX, hz, hb⟩
 have S1 := Lib.hid (S0.out.next hb)
 clear hb
 go_wp2_with fail
 go_ret
 exact ⟨⟨_, rfl, hX⟩, S1.out.below⟩
def M.recT (l : List M.Tree) : List Nat := if 0 < l.length then M.joinW [44, 32] (l.map fun t => M.digitsL t.num) else [97, 108, 108]
theorem recText_any (l : List M.Tree) (hl : l.length <= 1000000) (hjw : (M.joinW [44, 32] (l.map fun t => M.digitsL t.num)).length <= 70368744177664) {v : Value} {w : World} (hv : KidsV w v l) (htab : Tab9 w) : TextC 98 (M.recT l) #[v] w := by
 have hud := hud9
 have JN := Lib.hid (joined9_len (p := M.numT) l hl (fun i _ => rec1_any _) Tryz.call139 hjw hv htab)
 obtain ⟨A, cap, rfl, _⟩ := id hv
 have HJ := Lib.hid (show l.map M.numT = l.map fun t => M.digitsL t.num from rfl)
 unfold M.recT
 clear hv htab hjw
 by_cases h0 : 0 < l.length
 ·rw [if_pos h0]
  have g0 : ((l.length : Int) == 0) = false := by rw [beq_eq_false_iff_ne]; omega
  go_enter Tryz.func98, Tryz.ntmps98
  go_wp2_with fail
  (with_reducible refine (JN.out).mono ?_)
  rintro e w1 ⟨X, rfl, hX, hz, hb⟩
  have HX := Lib.hid (show M.bs X = _ /\ X.size <= _ /\ Below w.heap.size w w1 from ⟨hX, hz, hb⟩)
  clear hX hz hb
  go_wp2_with fail
  go_ret
  exact ⟨_, rfl, HX.out.1, HX.out.2.1, HX.out.2.2⟩
 ·rw [if_neg h0]
  have g0 : ((l.length : Int) == 0) = true := by rw [beq_iff_eq]; omega
  go_enter Tryz.func98, Tryz.ntmps98
  go_wp2_with fail
  go_ret
  exact ⟨_, rfl, rfl, by decide, Below.refl _ _⟩
open Go.RowKit
theorem pitem_8 (t : M.Tree) (hkind : t.kind = 8) (hwt : M.weight t <= 70368744177664) (hl : 1 < t.kids.length) (hll : t.kids.length <= 1000000) (hjw : (M.joinW [44, 32] ((t.kids.drop 1).map fun t => M.digitsL t.num)).length <= 70368744177664) (hX : ∀ i, i < 1 -> ∀ v w, NodeV w v (t.kids.getD i M.Tree.no) -> Tab9 w -> TextC 95 (M.exprT (t.kids.getD i M.Tree.no)) #[v] w) : ItemP t := by
 intro wb w b lo d v hvb htb hbw hbb hP hlen
 have hv := hvb.below hbw
 have htab := htb.below hbw
 have hud := hud9
 obtain ⟨T, kv, rfl, hT, hok, hk⟩ := hv
 have hkb : KidsV wb kv t.kids := by
  obtain ⟨T', kv', e, _, _, h⟩ := hvb
  injection e with e
  have e' := congrArg Array.toList e
  simp at e'
  rw [e'.2]; exact h
 have hsz : T.size <= 70368744177664 := by have := M.weight_eq t; rw [<- M.bs_len, hT]; omega
 have hsz2 : 0 < t.kids.length -> T.size + 128 <= 70368744177664 := fun h => by have := M.weight_eq t; have := M.weight_mem (kid_mem (l := t.kids) (i := 0) h); have := M.weight_eq (t.kids.getD 0 M.Tree.no); rw [<- M.bs_len, hT]; omega
 obtain ⟨r, er⟩ : ∃ r, r = M.itemT t := ⟨_, rfl⟩
 rw [<- er] at hlen ⊢
 rw [M.itemT_eq] at er
 unfold M.itemW at er
 rw [if_neg (show ¬ t.kind = 2 by omega), if_neg (show ¬ t.kind = 3 by omega), if_neg (show ¬ t.kind = 4 by omega), if_neg (show ¬ t.kind = 5 by omega), if_neg (show ¬ t.kind = 6 by omega), if_neg (show ¬ t.kind = 7 by omega), if_pos hkind] at er
 obtain ⟨K, eK⟩ : ∃ K, K = t.kind := ⟨_, rfl⟩
 obtain ⟨tx, ex⟩ : ∃ x, x = t.text := ⟨_, rfl⟩
 obtain ⟨n, en⟩ : ∃ n, n = t.num := ⟨_, rfl⟩
 obtain ⟨l, el⟩ : ∃ l, l = t.kids := ⟨_, rfl⟩
 try rw [<- ex] at er
 try rw [<- en] at er
 try rw [<- el] at er
 rw [<- eK, <- en]
 rw [<- ex] at hT
 rw [<- el] at hk hkb hsz2 hl hX hll hjw
 rw [<- eK] at hkind
 obtain ⟨A, cap, rfl, _⟩ := id hk
 have HBA := Lib.hid (show ∀ ba oa, A = some ⟨ba, oa, none⟩ -> 0 < l.length -> ba < b from fun ba oa e h => by
  obtain ⟨_, _, _, h3⟩ := hkb.kid
  obtain ⟨b', o', e', h4, _⟩ := h3 h
  rw [e] at e'; cases e'; omega)
 clear hkb
 have HTX := Lib.hid hT
 have HT0 := Lib.hid htab
 have HP := Lib.hid hP
 have HBL := Lib.hid hP.lt
 have HLEN := Lib.hid hlen
 have hn := hok.2.1
 rw [<- en] at hn
 have HOK := Lib.hid (show PartOk K n T by rw [eK, en]; exact hok)
 have S0 := Lib.hid (NX.start w K T n (.slice A l.length cap))
 have HKK := Lib.hid hk
 clear hT hok hk eK ex en el htab hvb htb hbw hbb hP hlen
 have gk2 : (K == 2) = false := by rw [beq_eq_false_iff_ne]; omega
 have gk3 : (K == 3) = false := by rw [beq_eq_false_iff_ne]; omega
 have gk4 : (K == 4) = false := by rw [beq_eq_false_iff_ne]; omega
 have gk5 : (K == 5) = false := by rw [beq_eq_false_iff_ne]; omega
 have gk6 : (K == 6) = false := by rw [beq_eq_false_iff_ne]; omega
 have gk7 : (K == 7) = false := by rw [beq_eq_false_iff_ne]; omega
 have gk8 : (K == 8) = true := by rw [beq_iff_eq]; omega
 have gk9 : (K == 9) = false := by rw [beq_eq_false_iff_ne]; omega
 clear hn
 clear hsz2
 obtain ⟨ba, oa, Ta, Aa, ma, cca, hAa, al, a0, a1, a2, a3, av⟩ := HKK.out.at 0 (by omega)
 cases hAa
 obtain ⟨ua, eua⟩ : ∃ u, u = l.getD 0 M.Tree.no := ⟨_, rfl⟩
 rw [<- eua] at a0 a2 av er
 obtain ⟨ka, eka⟩ : ∃ k, k = ua.kind := ⟨_, rfl⟩
 obtain ⟨na, ena⟩ : ∃ k, k = ua.num := ⟨_, rfl⟩
 rw [<- eka] at a0 av
 rw [<- ena] at a2 av
 simp only [show 0 * 4 = 0 from rfl, Nat.add_zero] at a0 a1 a2 a3
 have hia : 0 < l.length := by omega
 have Va := Lib.hid av
 have EaC := Lib.hid fun w' (hb : Below w.heap.size w w') => hX 0 (by omega) _ w' (by rw [<- eua]; exact Va.out.below hb) (HT0.out.below hb)
 rw [<- eua] at EaC
 have hcap : l.length <= cap := HKK.out.kid.2.1
 have hcne : cap ≠ 1 := by omega
 have hcpos : 0 < cap - 1 := by omega
 have hrt : M.recT (l.drop 1) = M.joinW [44, 32] ((l.drop 1).map fun t => M.digitsL t.num) := if_pos (by rw [List.length_drop]; omega)
 have EbC := Lib.hid fun w' (hb : Below w.heap.size w w') => recText_any (l.drop 1) (by rw [List.length_drop]; omega) hjw (show KidsV w' (.slice (some ⟨ba, oa + 4, none⟩) (l.length - 1) (cap - 1)) (l.drop 1) from by have := HKK.out.cut 1 l.length (by omega) (Nat.le_refl _); rw [List.take_of_length_le (by rw [List.length_drop]; omega)] at this; exact this.below hb) (HT0.out.below hb)
 rw [hrt] at EbC
 clear hrt hjw hll
 rw [if_pos hl] at er
 clear av eua eka ena
 obtain ⟨qa0, qa1, qa2, qa3⟩ := bel4 S0.out.below al a0 a1 a2 a3
 have HSC := Lib.hid fun W' (h : NX w K T n (.slice (some ⟨ba, oa, none⟩) l.length cap) W') => (show W'.cell? ⟨w.heap.size, 0, none⟩ = some (.int .i64 K) /\ W'.cell? ⟨w.heap.size, 1, none⟩ = some (.string T) /\ W'.cell? ⟨w.heap.size, 2, none⟩ = some (.int .u64 (n : Nat)) /\ W'.cell? ⟨w.heap.size, 3, none⟩ = some (.slice (some ⟨ba, oa, none⟩) l.length cap) /\ W'.cell? ⟨ba, oa, none⟩ = some (.int .i64 ka) /\ W'.cell? ⟨ba, oa + 1, none⟩ = some (.string Ta) /\ W'.cell? ⟨ba, oa + 2, none⟩ = some (.int .u64 (na : Nat)) /\ W'.cell? ⟨ba, oa + 3, none⟩ = some (.slice Aa ma cca) from ⟨h.c0, h.c1, h.c2, h.c3, (h.below.cell (p := ⟨_, _, none⟩) al).trans a0, (h.below.cell (p := ⟨_, _, none⟩) al).trans a1, (h.below.cell (p := ⟨_, _, none⟩) al).trans a2, (h.below.cell (p := ⟨_, _, none⟩) al).trans a3⟩)
 have hba : ba < b := HBA.out ba oa rfl hia
 have HSL := Lib.hid fun W1 W' (hk : PrK b W1 W') (hw : w.heap.size < W1.heap.size) (hr : NoRow W1 w.heap.size) (h : (fun W' => W'.cell? ⟨w.heap.size, 0, none⟩ = some (.int .i64 K) /\ W'.cell? ⟨w.heap.size, 1, none⟩ = some (.string T) /\ W'.cell? ⟨w.heap.size, 2, none⟩ = some (.int .u64 (n : Nat)) /\ W'.cell? ⟨w.heap.size, 3, none⟩ = some (.slice (some ⟨ba, oa, none⟩) l.length cap) /\ W'.cell? ⟨ba, oa, none⟩ = some (.int .i64 ka) /\ W'.cell? ⟨ba, oa + 1, none⟩ = some (.string Ta) /\ W'.cell? ⟨ba, oa + 2, none⟩ = some (.int .u64 (na : Nat)) /\ W'.cell? ⟨ba, oa + 3, none⟩ = some (.slice Aa ma cca)) W1) => (show W'.cell? ⟨w.heap.size, 0, none⟩ = some (.int .i64 K) /\ W'.cell? ⟨w.heap.size, 1, none⟩ = some (.string T) /\ W'.cell? ⟨w.heap.size, 2, none⟩ = some (.int .u64 (n : Nat)) /\ W'.cell? ⟨w.heap.size, 3, none⟩ = some (.slice (some ⟨ba, oa, none⟩) l.length cap) /\ W'.cell? ⟨ba, oa, none⟩ = some (.int .i64 ka) /\ W'.cell? ⟨ba, oa + 1, none⟩ = some (.string Ta) /\ W'.cell? ⟨ba, oa + 2, none⟩ = some (.int .u64 (na : Nat)) /\ W'.cell? ⟨ba, oa + 3, none⟩ = some (.slice Aa ma cca) from by
  have e : ∀ j, W'.cell? ⟨w.heap.size, j, none⟩ = W1.cell? ⟨w.heap.size, j, none⟩ := hk.cell hw (by have := HBL.out; omega) (.inr hr)
  have e2 : ∀ j, W'.cell? ⟨ba, j, none⟩ = W1.cell? ⟨ba, j, none⟩ := hk.cell (by have := HBL.out; omega) (by omega) (.inl hba)
  simp only [e, e2]
  exact h)
 have ER := Lib.hid er
 clear er hkind hwt hX
 go_enter Tryz.func47, Tryz.ntmps47
 go_wp2_with fail
 have D0 := Lib.hid S0.out.drew
 try dsimp only [List.append]
 refine wp_region_ord (S := fun W' => W'.cell? ⟨w.heap.size, 0, none⟩ = some (.int .i64 K) /\ W'.cell? ⟨w.heap.size, 1, none⟩ = some (.string T) /\ W'.cell? ⟨w.heap.size, 2, none⟩ = some (.int .u64 (n : Nat)) /\ W'.cell? ⟨w.heap.size, 3, none⟩ = some (.slice (some ⟨ba, oa, none⟩) l.length cap) /\ W'.cell? ⟨ba, oa, none⟩ = some (.int .i64 ka) /\ W'.cell? ⟨ba, oa + 1, none⟩ = some (.string Ta) /\ W'.cell? ⟨ba, oa + 2, none⟩ = some (.int .u64 (na : Nat)) /\ W'.cell? ⟨ba, oa + 3, none⟩ = some (.slice Aa ma cca)) [0, 1, 2, 3, 4, 6, 7, 8, 5, 9, 10, 11] (by kernel_rfl) (by kernel_rfl) (by kernel_rfl) (fun _ _ _ _ _ h => h) ?_ ?_
 ·exact HSC.out _ D0.out
 repeat (first
  | (refine OrdH.pass (by rfl) (by rfl) ?_; (try simp only [Act.put, List.setIfInBounds_toArray, List.set_cons_zero, List.set_cons_succ]))
  | (refine OrdH.yield (v := ?_) (by rfl) (by rfl) ?_ ?_; rotate_left 1; (· intro w hSw; (try dsimp only at hSw); go_simp; (try rw [if_neg (by first | omega | (simp only [M.size_app]; omega))]); (try rw [if_pos (by omega)]); try with_reducible rfl); (try simp only [Act.put, List.setIfInBounds_toArray, List.set_cons_zero, List.set_cons_succ]))
  | (refine OrdH.alone (by rfl) (by rfl) (by kernel_rfl) (fun KK hKK => ?_); go_simp; (first | (go_at_call 98; (with_reducible refine (EbC.out _ D1.out.below).mono ?_); rintro e w2 ⟨Xb, rfl, hXb, hzb, hb⟩; have D2 := Lib.hid (D1.out.next hb); have Eb := Lib.hid hXb; clear hb hXb) | (go_at_call 95; (with_reducible refine (EaC.out _ D0.out.below).mono ?_); rintro e w1 ⟨Xa, rfl, hXa, hza, hb⟩; have D1 := Lib.hid (D0.out.next hb); have Ea := Lib.hid hXa; clear hb hXa)); go_wp2_with fail; refine hKK.out _ _ ?_ (fun hHeld => ?_); (· (first | exact HSC.out _ D2.out | exact HSC.out _ D1.out | exact HSC.out _ D0.out)); clear hKK KK hHeld; (try simp only [Act.put, List.setIfInBounds_toArray, List.set_cons_zero, List.set_cons_succ]))
  | (refine OrdH.alone (by rfl) (by rfl) (by kernel_rfl) (fun KK hKK => ?_); go_simp; (try go_wp2_with fail); have D3 := Lib.hid (D2.out.next ((Below.refl _ _).alloc (Nat.le_refl _) (.cells #[.string ⟨#[111, 117, 116, 32]⟩, .string Xa, .string ⟨#[32, 116, 111, 32]⟩, .string Xb, .string ⟨#[59]⟩] 9))); have HQ := Lib.hid (show (List.map M.bs [⟨#[111, 117, 116, 32]⟩, Xa, ⟨#[32, 116, 111, 32]⟩, Xb, ⟨#[59]⟩]).flatten = [111, 117, 116, 32] ++ M.exprT ua ++ [32, 116, 111, 32] ++ M.joinW [44, 32] ((l.drop 1).map fun t => M.digitsL t.num) ++ [59] by simp only [List.map_cons, List.map_nil, List.flatten_cons, List.flatten_nil, List.append_nil, List.append_assoc, Ea.out, Eb.out]; rfl); refine hKK.out _ _ ?_ (fun hHeld => ?_); (· exact HSC.out _ D3.out); clear hKK KK hHeld; (try simp only [Act.put, List.setIfInBounds_toArray, List.set_cons_zero, List.set_cons_succ])))
 refine OrdH.alone (by rfl) (by rfl) (by kernel_rfl) (fun KK hKK => ?_)
 go_simp
 go_at_call 92
 refine (line10_any b lo d [⟨#[111, 117, 116, 32]⟩, Xa, ⟨#[32, 116, 111, 32]⟩, Xb, ⟨#[59]⟩] w2.heap.size _ (HP.out.below D3.out.below) (fun j hj => by rcases (show j = 0 \/ j = 1 \/ j = 2 \/ j = 3 \/ j = 4 by simp at hj; omega) with rfl | rfl | rfl | rfl | rfl <;> simp) (by simp) (by have := D2.out.below.size; have := HBL.out; omega) (noRow_strs _ _) (by simp) (by rw [HQ.out]; have := HLEN.out; rw [ER.out, M.textL_one] at this; omega)).mono ?_
 rintro e w9 ⟨rfl, hPP, hK9⟩
 rw [HQ.out] at hPP
 have PP := Lib.hid hPP
 have K9 := Lib.hid hK9
 clear hPP hK9
 go_wp2_with fail
 refine hKK.out _ _ ?_ (fun hHeld => ?_)
 ·exact HSL.out _ _ K9.out D3.out.lt D3.out.nr (HSC.out _ D3.out)
 clear hKK KK hHeld
 (try simp only [Act.put, List.setIfInBounds_toArray, List.set_cons_zero, List.set_cons_succ])
 refine OrdH.nil ?_
 go_wp2_with fail
 go_end0
 exact ⟨rfl, by rw [ER.out, M.textL_one]; exact PP.out, (PrK.of b (D3.out.below)).trans K9.out⟩
open Go.RowKit
theorem KidsV.none' (w : World) (A : Option Addr) (c : Nat) : KidsV w (.slice A 0 c) [] := ⟨A, c, rfl, by simp, by simp, fun h => by simp at h⟩
theorem recAll_any (w : World) (A : Option Addr) (n c : Nat) (hn : n = 0) (ht : Tab9 w) : TextC 98 [97, 108, 108] #[.slice A n c] w := by
 subst hn
 exact recText_any [] (by simp) (by simp [M.joinW]) (KidsV.none' w A c) ht
theorem pitem_8a (t : M.Tree) (hkind : t.kind = 8) (hwt : M.weight t <= 70368744177664) (hl : 0 < t.kids.length) (hl1 : t.kids.length <= 1) (hX : ∀ i, i < 1 -> ∀ v w, NodeV w v (t.kids.getD i M.Tree.no) -> Tab9 w -> TextC 95 (M.exprT (t.kids.getD i M.Tree.no)) #[v] w) : ItemP t := by
 intro wb w b lo d v hvb htb hbw hbb hP hlen
 have hv := hvb.below hbw
 have htab := htb.below hbw
 have hud := hud9
 obtain ⟨T, kv, rfl, hT, hok, hk⟩ := hv
 have hkb : KidsV wb kv t.kids := by
  obtain ⟨T', kv', e, _, _, h⟩ := hvb
  injection e with e
  have e' := congrArg Array.toList e
  simp at e'
  rw [e'.2]; exact h
 have hsz : T.size <= 70368744177664 := by have := M.weight_eq t; rw [<- M.bs_len, hT]; omega
 have hsz2 : 0 < t.kids.length -> T.size + 128 <= 70368744177664 := fun h => by have := M.weight_eq t; have := M.weight_mem (kid_mem (l := t.kids) (i := 0) h); have := M.weight_eq (t.kids.getD 0 M.Tree.no); rw [<- M.bs_len, hT]; omega
 obtain ⟨r, er⟩ : ∃ r, r = M.itemT t := ⟨_, rfl⟩
 rw [<- er] at hlen ⊢
 rw [M.itemT_eq] at er
 unfold M.itemW at er
 rw [if_neg (show ¬ t.kind = 2 by omega), if_neg (show ¬ t.kind = 3 by omega), if_neg (show ¬ t.kind = 4 by omega), if_neg (show ¬ t.kind = 5 by omega), if_neg (show ¬ t.kind = 6 by omega), if_neg (show ¬ t.kind = 7 by omega), if_pos hkind] at er
 obtain ⟨K, eK⟩ : ∃ K, K = t.kind := ⟨_, rfl⟩
 obtain ⟨tx, ex⟩ : ∃ x, x = t.text := ⟨_, rfl⟩
 obtain ⟨n, en⟩ : ∃ n, n = t.num := ⟨_, rfl⟩
 obtain ⟨l, el⟩ : ∃ l, l = t.kids := ⟨_, rfl⟩
 try rw [<- ex] at er
 try rw [<- en] at er
 try rw [<- el] at er
 rw [<- eK, <- en]
 rw [<- ex] at hT
 rw [<- el] at hk hkb hsz2 hl hX hl1
 rw [<- eK] at hkind
 obtain ⟨A, cap, rfl, _⟩ := id hk
 have HBA := Lib.hid (show ∀ ba oa, A = some ⟨ba, oa, none⟩ -> 0 < l.length -> ba < b from fun ba oa e h => by
  obtain ⟨_, _, _, h3⟩ := hkb.kid
  obtain ⟨b', o', e', h4, _⟩ := h3 h
  rw [e] at e'; cases e'; omega)
 clear hkb
 have HTX := Lib.hid hT
 have HT0 := Lib.hid htab
 have HP := Lib.hid hP
 have HBL := Lib.hid hP.lt
 have HLEN := Lib.hid hlen
 have hn := hok.2.1
 rw [<- en] at hn
 have HOK := Lib.hid (show PartOk K n T by rw [eK, en]; exact hok)
 have S0 := Lib.hid (NX.start w K T n (.slice A l.length cap))
 have HKK := Lib.hid hk
 clear hT hok hk eK ex en el htab hvb htb hbw hbb hP hlen
 have gk2 : (K == 2) = false := by rw [beq_eq_false_iff_ne]; omega
 have gk3 : (K == 3) = false := by rw [beq_eq_false_iff_ne]; omega
 have gk4 : (K == 4) = false := by rw [beq_eq_false_iff_ne]; omega
 have gk5 : (K == 5) = false := by rw [beq_eq_false_iff_ne]; omega
 have gk6 : (K == 6) = false := by rw [beq_eq_false_iff_ne]; omega
 have gk7 : (K == 7) = false := by rw [beq_eq_false_iff_ne]; omega
 have gk8 : (K == 8) = true := by rw [beq_iff_eq]; omega
 have gk9 : (K == 9) = false := by rw [beq_eq_false_iff_ne]; omega
 clear hn
 clear hsz2
 obtain ⟨ba, oa, Ta, Aa, ma, cca, hAa, al, a0, a1, a2, a3, av⟩ := HKK.out.at 0 (by omega)
 cases hAa
 obtain ⟨ua, eua⟩ : ∃ u, u = l.getD 0 M.Tree.no := ⟨_, rfl⟩
 rw [<- eua] at a0 a2 av er
 obtain ⟨ka, eka⟩ : ∃ k, k = ua.kind := ⟨_, rfl⟩
 obtain ⟨na, ena⟩ : ∃ k, k = ua.num := ⟨_, rfl⟩
 rw [<- eka] at a0 av
 rw [<- ena] at a2 av
 simp only [show 0 * 4 = 0 from rfl, Nat.add_zero] at a0 a1 a2 a3
 have hia : 0 < l.length := by omega
 have Va := Lib.hid av
 have EaC := Lib.hid fun w' (hb : Below w.heap.size w w') => hX 0 (by omega) _ w' (by rw [<- eua]; exact Va.out.below hb) (HT0.out.below hb)
 rw [<- eua] at EaC
 have hcap : l.length <= cap := HKK.out.kid.2.1
 have EbC := Lib.hid fun w' (hb : Below w.heap.size w w') => fun {A : Option Addr} {c : Nat} => recAll_any w' A (l.length - 1) c (by omega) (HT0.out.below hb)
 have EcC := Lib.hid fun w' (hb : Below w.heap.size w w') => fun {A : Option Addr} {c : Nat} => recAll_any w' A 0 c rfl (HT0.out.below hb)
 rw [if_neg (by omega)] at er
 clear av eua eka ena
 obtain ⟨qa0, qa1, qa2, qa3⟩ := bel4 S0.out.below al a0 a1 a2 a3
 rcases Nat.lt_or_ge 1 cap with hc1 | hc1
 ·have hcne : cap ≠ 1 := by omega
  have hcpos : 0 < cap - 1 := by omega
  have HSC := Lib.hid fun W' (h : NX w K T n (.slice (some ⟨ba, oa, none⟩) l.length cap) W') => (show W'.cell? ⟨w.heap.size, 0, none⟩ = some (.int .i64 K) /\ W'.cell? ⟨w.heap.size, 1, none⟩ = some (.string T) /\ W'.cell? ⟨w.heap.size, 2, none⟩ = some (.int .u64 (n : Nat)) /\ W'.cell? ⟨w.heap.size, 3, none⟩ = some (.slice (some ⟨ba, oa, none⟩) l.length cap) /\ W'.cell? ⟨ba, oa, none⟩ = some (.int .i64 ka) /\ W'.cell? ⟨ba, oa + 1, none⟩ = some (.string Ta) /\ W'.cell? ⟨ba, oa + 2, none⟩ = some (.int .u64 (na : Nat)) /\ W'.cell? ⟨ba, oa + 3, none⟩ = some (.slice Aa ma cca) from ⟨h.c0, h.c1, h.c2, h.c3, (h.below.cell (p := ⟨_, _, none⟩) al).trans a0, (h.below.cell (p := ⟨_, _, none⟩) al).trans a1, (h.below.cell (p := ⟨_, _, none⟩) al).trans a2, (h.below.cell (p := ⟨_, _, none⟩) al).trans a3⟩)
  have hba : ba < b := HBA.out ba oa rfl hia
  have HSL := Lib.hid fun W1 W' (hk : PrK b W1 W') (hw : w.heap.size < W1.heap.size) (hr : NoRow W1 w.heap.size) (h : (fun W' => W'.cell? ⟨w.heap.size, 0, none⟩ = some (.int .i64 K) /\ W'.cell? ⟨w.heap.size, 1, none⟩ = some (.string T) /\ W'.cell? ⟨w.heap.size, 2, none⟩ = some (.int .u64 (n : Nat)) /\ W'.cell? ⟨w.heap.size, 3, none⟩ = some (.slice (some ⟨ba, oa, none⟩) l.length cap) /\ W'.cell? ⟨ba, oa, none⟩ = some (.int .i64 ka) /\ W'.cell? ⟨ba, oa + 1, none⟩ = some (.string Ta) /\ W'.cell? ⟨ba, oa + 2, none⟩ = some (.int .u64 (na : Nat)) /\ W'.cell? ⟨ba, oa + 3, none⟩ = some (.slice Aa ma cca)) W1) => (show W'.cell? ⟨w.heap.size, 0, none⟩ = some (.int .i64 K) /\ W'.cell? ⟨w.heap.size, 1, none⟩ = some (.string T) /\ W'.cell? ⟨w.heap.size, 2, none⟩ = some (.int .u64 (n : Nat)) /\ W'.cell? ⟨w.heap.size, 3, none⟩ = some (.slice (some ⟨ba, oa, none⟩) l.length cap) /\ W'.cell? ⟨ba, oa, none⟩ = some (.int .i64 ka) /\ W'.cell? ⟨ba, oa + 1, none⟩ = some (.string Ta) /\ W'.cell? ⟨ba, oa + 2, none⟩ = some (.int .u64 (na : Nat)) /\ W'.cell? ⟨ba, oa + 3, none⟩ = some (.slice Aa ma cca) from by
   have e : ∀ j, W'.cell? ⟨w.heap.size, j, none⟩ = W1.cell? ⟨w.heap.size, j, none⟩ := hk.cell hw (by have := HBL.out; omega) (.inr hr)
   have e2 : ∀ j, W'.cell? ⟨ba, j, none⟩ = W1.cell? ⟨ba, j, none⟩ := hk.cell (by have := HBL.out; omega) (by omega) (.inl hba)
   simp only [e, e2]
   exact h)
  have ER := Lib.hid er
  clear er hkind hwt hX
  go_enter Tryz.func47, Tryz.ntmps47
  go_wp2_with fail
  have D0 := Lib.hid S0.out.drew
  try dsimp only [List.append]
  refine wp_region_ord (S := fun W' => W'.cell? ⟨w.heap.size, 0, none⟩ = some (.int .i64 K) /\ W'.cell? ⟨w.heap.size, 1, none⟩ = some (.string T) /\ W'.cell? ⟨w.heap.size, 2, none⟩ = some (.int .u64 (n : Nat)) /\ W'.cell? ⟨w.heap.size, 3, none⟩ = some (.slice (some ⟨ba, oa, none⟩) l.length cap) /\ W'.cell? ⟨ba, oa, none⟩ = some (.int .i64 ka) /\ W'.cell? ⟨ba, oa + 1, none⟩ = some (.string Ta) /\ W'.cell? ⟨ba, oa + 2, none⟩ = some (.int .u64 (na : Nat)) /\ W'.cell? ⟨ba, oa + 3, none⟩ = some (.slice Aa ma cca)) [0, 1, 2, 3, 4, 6, 7, 8, 5, 9, 10, 11] (by kernel_rfl) (by kernel_rfl) (by kernel_rfl) (fun _ _ _ _ _ h => h) ?_ ?_
  ·exact HSC.out _ D0.out
  repeat (first
   | (refine OrdH.pass (by rfl) (by rfl) ?_; (try simp only [Act.put, List.setIfInBounds_toArray, List.set_cons_zero, List.set_cons_succ]))
   | (refine OrdH.yield (v := ?_) (by rfl) (by rfl) ?_ ?_; rotate_left 1; (· intro w hSw; (try dsimp only at hSw); go_simp; (try rw [if_neg (by first | omega | (simp only [M.size_app]; omega))]); (try rw [if_pos (by omega)]); try with_reducible rfl); (try simp only [Act.put, List.setIfInBounds_toArray, List.set_cons_zero, List.set_cons_succ]))
   | (refine OrdH.alone (by rfl) (by rfl) (by kernel_rfl) (fun KK hKK => ?_); go_simp; (first | (go_at_call 98; (first | (with_reducible refine (EbC.out _ D1.out.below).mono ?_) | (with_reducible refine (EcC.out _ D1.out.below).mono ?_)); rintro e w2 ⟨Xb, rfl, hXb, hzb, hb⟩; have D2 := Lib.hid (D1.out.next hb); have Eb := Lib.hid hXb; clear hb hXb) | (go_at_call 95; (with_reducible refine (EaC.out _ D0.out.below).mono ?_); rintro e w1 ⟨Xa, rfl, hXa, hza, hb⟩; have D1 := Lib.hid (D0.out.next hb); have Ea := Lib.hid hXa; clear hb hXa)); go_wp2_with fail; refine hKK.out _ _ ?_ (fun hHeld => ?_); (· (first | exact HSC.out _ D2.out | exact HSC.out _ D1.out | exact HSC.out _ D0.out)); clear hKK KK hHeld; (try simp only [Act.put, List.setIfInBounds_toArray, List.set_cons_zero, List.set_cons_succ]))
   | (refine OrdH.alone (by rfl) (by rfl) (by kernel_rfl) (fun KK hKK => ?_); go_simp; (try go_wp2_with fail); have D3 := Lib.hid (D2.out.next ((Below.refl _ _).alloc (Nat.le_refl _) (.cells #[.string ⟨#[111, 117, 116, 32]⟩, .string Xa, .string ⟨#[32, 116, 111, 32]⟩, .string Xb, .string ⟨#[59]⟩] 9))); have HQ := Lib.hid (show (List.map M.bs [⟨#[111, 117, 116, 32]⟩, Xa, ⟨#[32, 116, 111, 32]⟩, Xb, ⟨#[59]⟩]).flatten = [111, 117, 116, 32] ++ M.exprT ua ++ [32, 116, 111, 32] ++ [97, 108, 108] ++ [59] by simp only [List.map_cons, List.map_nil, List.flatten_cons, List.flatten_nil, List.append_nil, List.append_assoc, Ea.out, Eb.out]; rfl); refine hKK.out _ _ ?_ (fun hHeld => ?_); (· exact HSC.out _ D3.out); clear hKK KK hHeld; (try simp only [Act.put, List.setIfInBounds_toArray, List.set_cons_zero, List.set_cons_succ])))
  refine OrdH.alone (by rfl) (by rfl) (by kernel_rfl) (fun KK hKK => ?_)
  go_simp
  go_at_call 92
  refine (line10_any b lo d [⟨#[111, 117, 116, 32]⟩, Xa, ⟨#[32, 116, 111, 32]⟩, Xb, ⟨#[59]⟩] w2.heap.size _ (HP.out.below D3.out.below) (fun j hj => by rcases (show j = 0 \/ j = 1 \/ j = 2 \/ j = 3 \/ j = 4 by simp at hj; omega) with rfl | rfl | rfl | rfl | rfl <;> simp) (by simp) (by have := D2.out.below.size; have := HBL.out; omega) (noRow_strs _ _) (by simp) (by rw [HQ.out]; have := HLEN.out; rw [ER.out, M.textL_one] at this; omega)).mono ?_
  rintro e w9 ⟨rfl, hPP, hK9⟩
  rw [HQ.out] at hPP
  have PP := Lib.hid hPP
  have K9 := Lib.hid hK9
  clear hPP hK9
  go_wp2_with fail
  refine hKK.out _ _ ?_ (fun hHeld => ?_)
  ·exact HSL.out _ _ K9.out D3.out.lt D3.out.nr (HSC.out _ D3.out)
  clear hKK KK hHeld
  (try simp only [Act.put, List.setIfInBounds_toArray, List.set_cons_zero, List.set_cons_succ])
  refine OrdH.nil ?_
  go_wp2_with fail
  go_end0
  exact ⟨rfl, by rw [ER.out, M.textL_one]; exact PP.out, (PrK.of b (D3.out.below)).trans K9.out⟩
 ·obtain rfl : cap = 1 := by omega
  have HSC := Lib.hid fun W' (h : NX w K T n (.slice (some ⟨ba, oa, none⟩) l.length 1) W') => (show W'.cell? ⟨w.heap.size, 0, none⟩ = some (.int .i64 K) /\ W'.cell? ⟨w.heap.size, 1, none⟩ = some (.string T) /\ W'.cell? ⟨w.heap.size, 2, none⟩ = some (.int .u64 (n : Nat)) /\ W'.cell? ⟨w.heap.size, 3, none⟩ = some (.slice (some ⟨ba, oa, none⟩) l.length 1) /\ W'.cell? ⟨ba, oa, none⟩ = some (.int .i64 ka) /\ W'.cell? ⟨ba, oa + 1, none⟩ = some (.string Ta) /\ W'.cell? ⟨ba, oa + 2, none⟩ = some (.int .u64 (na : Nat)) /\ W'.cell? ⟨ba, oa + 3, none⟩ = some (.slice Aa ma cca) from ⟨h.c0, h.c1, h.c2, h.c3, (h.below.cell (p := ⟨_, _, none⟩) al).trans a0, (h.below.cell (p := ⟨_, _, none⟩) al).trans a1, (h.below.cell (p := ⟨_, _, none⟩) al).trans a2, (h.below.cell (p := ⟨_, _, none⟩) al).trans a3⟩)
  have hba : ba < b := HBA.out ba oa rfl hia
  have HSL := Lib.hid fun W1 W' (hk : PrK b W1 W') (hw : w.heap.size < W1.heap.size) (hr : NoRow W1 w.heap.size) (h : (fun W' => W'.cell? ⟨w.heap.size, 0, none⟩ = some (.int .i64 K) /\ W'.cell? ⟨w.heap.size, 1, none⟩ = some (.string T) /\ W'.cell? ⟨w.heap.size, 2, none⟩ = some (.int .u64 (n : Nat)) /\ W'.cell? ⟨w.heap.size, 3, none⟩ = some (.slice (some ⟨ba, oa, none⟩) l.length 1) /\ W'.cell? ⟨ba, oa, none⟩ = some (.int .i64 ka) /\ W'.cell? ⟨ba, oa + 1, none⟩ = some (.string Ta) /\ W'.cell? ⟨ba, oa + 2, none⟩ = some (.int .u64 (na : Nat)) /\ W'.cell? ⟨ba, oa + 3, none⟩ = some (.slice Aa ma cca)) W1) => (show W'.cell? ⟨w.heap.size, 0, none⟩ = some (.int .i64 K) /\ W'.cell? ⟨w.heap.size, 1, none⟩ = some (.string T) /\ W'.cell? ⟨w.heap.size, 2, none⟩ = some (.int .u64 (n : Nat)) /\ W'.cell? ⟨w.heap.size, 3, none⟩ = some (.slice (some ⟨ba, oa, none⟩) l.length 1) /\ W'.cell? ⟨ba, oa, none⟩ = some (.int .i64 ka) /\ W'.cell? ⟨ba, oa + 1, none⟩ = some (.string Ta) /\ W'.cell? ⟨ba, oa + 2, none⟩ = some (.int .u64 (na : Nat)) /\ W'.cell? ⟨ba, oa + 3, none⟩ = some (.slice Aa ma cca) from by
   have e : ∀ j, W'.cell? ⟨w.heap.size, j, none⟩ = W1.cell? ⟨w.heap.size, j, none⟩ := hk.cell hw (by have := HBL.out; omega) (.inr hr)
   have e2 : ∀ j, W'.cell? ⟨ba, j, none⟩ = W1.cell? ⟨ba, j, none⟩ := hk.cell (by have := HBL.out; omega) (by omega) (.inl hba)
   simp only [e, e2]
   exact h)
  have ER := Lib.hid er
  clear er hkind hwt hX
  go_enter Tryz.func47, Tryz.ntmps47
  go_wp2_with fail
  have D0 := Lib.hid S0.out.drew
  try dsimp only [List.append]
  refine wp_region_ord (S := fun W' => W'.cell? ⟨w.heap.size, 0, none⟩ = some (.int .i64 K) /\ W'.cell? ⟨w.heap.size, 1, none⟩ = some (.string T) /\ W'.cell? ⟨w.heap.size, 2, none⟩ = some (.int .u64 (n : Nat)) /\ W'.cell? ⟨w.heap.size, 3, none⟩ = some (.slice (some ⟨ba, oa, none⟩) l.length 1) /\ W'.cell? ⟨ba, oa, none⟩ = some (.int .i64 ka) /\ W'.cell? ⟨ba, oa + 1, none⟩ = some (.string Ta) /\ W'.cell? ⟨ba, oa + 2, none⟩ = some (.int .u64 (na : Nat)) /\ W'.cell? ⟨ba, oa + 3, none⟩ = some (.slice Aa ma cca)) [0, 1, 2, 3, 4, 6, 7, 8, 5, 9, 10, 11] (by kernel_rfl) (by kernel_rfl) (by kernel_rfl) (fun _ _ _ _ _ h => h) ?_ ?_
  ·exact HSC.out _ D0.out
  repeat (first
   | (refine OrdH.pass (by rfl) (by rfl) ?_; (try simp only [Act.put, List.setIfInBounds_toArray, List.set_cons_zero, List.set_cons_succ]))
   | (refine OrdH.yield (v := ?_) (by rfl) (by rfl) ?_ ?_; rotate_left 1; (· intro w hSw; (try dsimp only at hSw); go_simp; (try rw [if_neg (by first | omega | (simp only [M.size_app]; omega))]); (try rw [if_pos (by omega)]); try with_reducible rfl); (try simp only [Act.put, List.setIfInBounds_toArray, List.set_cons_zero, List.set_cons_succ]))
   | (refine OrdH.alone (by rfl) (by rfl) (by kernel_rfl) (fun KK hKK => ?_); go_simp; (first | (go_at_call 98; (first | (with_reducible refine (EbC.out _ D1.out.below).mono ?_) | (with_reducible refine (EcC.out _ D1.out.below).mono ?_)); rintro e w2 ⟨Xb, rfl, hXb, hzb, hb⟩; have D2 := Lib.hid (D1.out.next hb); have Eb := Lib.hid hXb; clear hb hXb) | (go_at_call 95; (with_reducible refine (EaC.out _ D0.out.below).mono ?_); rintro e w1 ⟨Xa, rfl, hXa, hza, hb⟩; have D1 := Lib.hid (D0.out.next hb); have Ea := Lib.hid hXa; clear hb hXa)); go_wp2_with fail; refine hKK.out _ _ ?_ (fun hHeld => ?_); (· (first | exact HSC.out _ D2.out | exact HSC.out _ D1.out | exact HSC.out _ D0.out)); clear hKK KK hHeld; (try simp only [Act.put, List.setIfInBounds_toArray, List.set_cons_zero, List.set_cons_succ]))
   | (refine OrdH.alone (by rfl) (by rfl) (by kernel_rfl) (fun KK hKK => ?_); go_simp; (try go_wp2_with fail); have D3 := Lib.hid (D2.out.next ((Below.refl _ _).alloc (Nat.le_refl _) (.cells #[.string ⟨#[111, 117, 116, 32]⟩, .string Xa, .string ⟨#[32, 116, 111, 32]⟩, .string Xb, .string ⟨#[59]⟩] 9))); have HQ := Lib.hid (show (List.map M.bs [⟨#[111, 117, 116, 32]⟩, Xa, ⟨#[32, 116, 111, 32]⟩, Xb, ⟨#[59]⟩]).flatten = [111, 117, 116, 32] ++ M.exprT ua ++ [32, 116, 111, 32] ++ [97, 108, 108] ++ [59] by simp only [List.map_cons, List.map_nil, List.flatten_cons, List.flatten_nil, List.append_nil, List.append_assoc, Ea.out, Eb.out]; rfl); refine hKK.out _ _ ?_ (fun hHeld => ?_); (· exact HSC.out _ D3.out); clear hKK KK hHeld; (try simp only [Act.put, List.setIfInBounds_toArray, List.set_cons_zero, List.set_cons_succ])))
  refine OrdH.alone (by rfl) (by rfl) (by kernel_rfl) (fun KK hKK => ?_)
  go_simp
  go_at_call 92
  refine (line10_any b lo d [⟨#[111, 117, 116, 32]⟩, Xa, ⟨#[32, 116, 111, 32]⟩, Xb, ⟨#[59]⟩] w2.heap.size _ (HP.out.below D3.out.below) (fun j hj => by rcases (show j = 0 \/ j = 1 \/ j = 2 \/ j = 3 \/ j = 4 by simp at hj; omega) with rfl | rfl | rfl | rfl | rfl <;> simp) (by simp) (by have := D2.out.below.size; have := HBL.out; omega) (noRow_strs _ _) (by simp) (by rw [HQ.out]; have := HLEN.out; rw [ER.out, M.textL_one] at this; omega)).mono ?_
  rintro e w9 ⟨rfl, hPP, hK9⟩
  rw [HQ.out] at hPP
  have PP := Lib.hid hPP
  have K9 := Lib.hid hK9
  clear hPP hK9
  go_wp2_with fail
  refine hKK.out _ _ ?_ (fun hHeld => ?_)
  ·exact HSL.out _ _ K9.out D3.out.lt D3.out.nr (HSC.out _ D3.out)
  clear hKK KK hHeld
  (try simp only [Act.put, List.setIfInBounds_toArray, List.set_cons_zero, List.set_cons_succ])
  refine OrdH.nil ?_
  go_wp2_with fail
  go_end0
  exact ⟨rfl, by rw [ER.out, M.textL_one]; exact PP.out, (PrK.of b (D3.out.below)).trans K9.out⟩
open Go.RowKit
theorem pexprC {f : Nat} {u : M.Tree} (h : M.exprF f u = true) (hc : M.count u <= 1000000) (hw : M.weight u <= 70368744177664) : ∀ v w, NodeV w v u -> Tab9 w -> TextC 95 (M.exprT u) #[v] w :=
 fun v w hv ht => (pexpr_any f u h hc hw).len (by have := M.exprT_weight f u h; omega) hv ht
theorem pritem_any : ∀ (f : Nat) (t : M.Tree), M.itemF f t = true -> M.count t <= 1000000 -> M.weight t <= 70368744177664 -> ItemP t
 | 0, t, h, _, _ => by rw [M.itemF] at h; cases h
 | f + 1, t, h, hc, hw => by
  have ih := pritem_any f
  have hcw : ∀ u ∈ t.kids, M.count u <= 1000000 /\ M.weight u <= 70368744177664 := fun u hu => ⟨by have := M.count_kid hu; omega, by have := M.weight_kid hu; omega⟩
  have hE : ∀ i, i < t.kids.length -> M.exprF f (t.kids.getD i M.Tree.no) = true -> ∀ v w, NodeV w v (t.kids.getD i M.Tree.no) -> Tab9 w -> TextC 95 (M.exprT (t.kids.getD i M.Tree.no)) #[v] w := fun i hi h => by
   obtain ⟨h1, h2⟩ := hcw _ (kid_mem hi)
   exact pexprC h h1 h2
  have hB : ∀ i, i < t.kids.length -> M.blockB (M.itemF f) (t.kids.getD i M.Tree.no) = true -> ∀ j, j < (t.kids.getD i M.Tree.no).kids.length -> ItemP ((t.kids.getD i M.Tree.no).kids.getD j M.Tree.no) := fun i hi hb j hj => by
   obtain ⟨h1, h2⟩ := hcw _ (kid_mem hi)
   have hm := kid_mem (l := (t.kids.getD i M.Tree.no).kids) hj
   exact ih _ (List.all_eq_true.1 (of_decide_eq_true hb).2.2.2 _ hm) (by have := M.count_kid hm; omega) (by have := M.weight_kid hm; omega)
  rw [M.itemF] at h
  by_cases h2 : t.kind = 2
  ·rw [if_pos h2] at h
   have h := of_decide_eq_true h
   exact pitem_2 t h2 hw (by omega) h.2.2.2
  rw [if_neg h2] at h
  by_cases h3 : t.kind = 3
  ·rw [if_pos h3] at h
   have h := of_decide_eq_true h
   exact pitem_3 t h3 hw (by omega) fun i hi => by
    obtain rfl : i = 0 := by omega
    exact hE 0 (by omega) h.2.2.2
  rw [if_neg h3] at h
  by_cases h4 : t.kind = 4
  ·rw [if_pos h4] at h
   have h := of_decide_eq_true h
   exact pitem_4 t h4 hw (by omega) fun i hi => by
    obtain rfl : i = 0 := by omega
    exact hE 0 (by omega) h.2.2.2
  rw [if_neg h4] at h
  by_cases h5 : t.kind = 5
  ·rw [if_pos h5] at h
   have h := of_decide_eq_true h
   exact pitem_5 t h5 hw (by omega) fun i hi => hE i hi (List.all_eq_true.1 h.2.2.2 _ (kid_mem hi))
  rw [if_neg h5] at h
  by_cases h6 : t.kind = 6
  ·rw [if_pos h6] at h
   have h := of_decide_eq_true h
   have hl := List.all_eq_true.1 h.2.2.2.2
   have hm : ∀ i, 0 < i -> i < 3 -> M.blockB (M.itemF f) (t.kids.getD i M.Tree.no) = true := fun i h0 hi => hl _ (by
    have e : t.kids.getD i M.Tree.no = (t.kids.drop 1).getD (i - 1) M.Tree.no := by rw [drop_getD, show 1 + (i - 1) = i by omega]
    rw [e]; exact kid_mem (by rw [List.length_drop]; omega))
   exact pitem_6 t h6 (pbranch t h6 hw h.2.2.1 (hE 0 (by omega) h.2.2.2.1) (hB 1 (by omega) (hm 1 (by omega) (by omega))) (hB 2 (by omega) (hm 2 (by omega) (by omega))))
  rw [if_neg h6] at h
  by_cases h7 : t.kind = 7
  ·rw [if_pos h7] at h
   have h := of_decide_eq_true h
   have hl := List.all_eq_true.1 h.2.2.2.1
   have hm : ∀ i, i < 2 -> M.exprF f (t.kids.getD i M.Tree.no) = true := fun i hi => hl _ (by
    rw [<- take_getD (l := t.kids) (i := 2) hi]; exact kid_mem (by rw [List.length_take]; omega))
   exact pitem_7 t h7 hw h.2.2.1 (hE 0 (by omega) (hm 0 (by omega))) (hE 1 (by omega) (hm 1 (by omega))) (hB 2 (by omega) h.2.2.2.2)
  rw [if_neg h7] at h
  by_cases h8 : t.kind = 8
  ·rw [if_pos h8] at h
   have h := of_decide_eq_true h
   have hkl := M.kids_len t
   have hX : ∀ i, i < 1 -> ∀ v w, NodeV w v (t.kids.getD i M.Tree.no) -> Tab9 w -> TextC 95 (M.exprT (t.kids.getD i M.Tree.no)) #[v] w := fun i hi => by
    obtain rfl : i = 0 := by omega
    exact hE 0 (by omega) h.2.2.2.1
   by_cases h1 : 1 < t.kids.length
   ·refine pitem_8 t h8 hw h1 (by omega) ?_ hX
    have b := M.weightL_drop1 (l := t.kids) h.2.2.1
    have c := M.joinW_weight (fun t => M.digitsL t.num) (t.kids.drop 1) (fun u hu => by
     have h1 := of_decide_eq_true (List.all_eq_true.1 h.2.2.2.2 u hu)
     have h2 := M.digitsL_len20 (n := u.num) (by omega)
     have h3 := M.weight_pos u
     show (M.digitsL u.num).length + 8 <= _
     omega)
    have := M.weight_eq t
    omega
   ·exact pitem_8a t h8 hw h.2.2.1 (by omega) hX
  rw [if_neg h8] at h
  by_cases h9 : t.kind = 9
  ·rw [if_pos h9] at h
   have h := of_decide_eq_true h
   have hkl := M.kids_len t
   have ha := List.all_eq_true.1 h.2.2.2.1
   refine pitem_9 t h9 (pproc t h9 hw h.2.2.1 (by omega) (fun i hi => ?_) ?_ (hE _ (by omega) h.2.2.2.2.2) (hB _ (by omega) h.2.2.2.2.1))
   ·have hm := kid_mem (l := t.kids.take (t.kids.length - 2)) hi
    have hk := of_decide_eq_true (ha _ hm)
    refine declText_any _ (by omega) hk.2.2.2.2 ?_
    have h1 := (hcw _ (List.mem_of_mem_take hm)).2
    have := M.weight_eq ((t.kids.take (t.kids.length - 2)).getD i M.Tree.no)
    omega
   ·have c := M.joinW_weight M.argT (t.kids.take (t.kids.length - 2)) (fun u hu => M.argT_len (ha u hu))
    have d := M.weightL_take t.kids (t.kids.length - 2)
    have := M.weight_eq t
    omega
  rw [if_neg h9] at h
  cases h

namespace M
inductive Short : Tree -> Prop
 | node {k : Int} {tx : List Nat} {n : Nat} {l : List Tree} : tx.length <= 24 -> (∀ u, u ∈ l -> Short u) -> Short (.node k tx n l)
theorem Short.mk {t : Tree} (h : t.text.length <= 24) (hk : ∀ u, u ∈ t.kids -> Short u) : Short t := by cases t; exact .node h hk
theorem weightL_le : ∀ {l : List Tree}, (∀ u, u ∈ l -> weight u <= 88 * count u) -> weightL l <= 88 * countL l
 | [], _ => by simp [weightL, countL]
 | a :: r, h => by
  have h1 := h a (by simp)
  have h2 := weightL_le (l := r) fun u hu => h u (List.mem_cons_of_mem _ hu)
  rw [weightL, countL]; omega
theorem Short.weight {t : Tree} (h : Short t) : M.weight t <= 88 * count t := by
 induction h with
 | node h _ ih => rw [M.weight, count]; have := weightL_le ih; omega
theorem name_24 {s : List Nat} (h : nameOk s = true) : s.length <= 24 := by
 unfold nameOk at h
 rw [Bool.and_eq_true] at h
 exact (isName_facts h.1).2.1
theorem nil_24 {s : List Nat} (h : s = []) : s.length <= 24 := by rw [h]; simp
theorem no_kids {t : Tree} (h : t.kids.length = 0) {P : Tree -> Prop} : ∀ u, u ∈ t.kids -> P u := fun u hu => by rw [List.length_eq_zero_iff.1 h] at hu; cases hu
theorem one_kid {l : List Tree} (h : l.length = 1) {P : Tree -> Prop} (h0 : P (l.getD 0 Tree.no)) : ∀ u, u ∈ l -> P u := fun u hu => by
 match l, h with
 | [a], _ => rw [List.mem_singleton.1 hu]; exact h0
theorem short_number {t : Tree} (h : numberB t = true) : Short t := .mk (nil_24 (of_decide_eq_true h).2.1) (no_kids (of_decide_eq_true h).2.2.2)
theorem short_type {t : Tree} (h : typeB t = true) : Short t := .mk (nil_24 (of_decide_eq_true h).1.2.1) fun u hu => short_number (List.all_eq_true.1 (of_decide_eq_true h).1.2.2.2 u hu)
theorem short_arg {t : Tree} (h : argB t = true) : Short t := .mk (name_24 (of_decide_eq_true h).2.1) (one_kid (of_decide_eq_true h).2.2.2.1 (short_type (of_decide_eq_true h).2.2.2.2))
theorem short_to {t : Tree} (h : toB t = true) : Short t := .mk (nil_24 (of_decide_eq_true h).2.1) (no_kids (of_decide_eq_true h).2.2.2)
theorem short_expr : ∀ (f : Nat) (t : Tree), exprF f t = true -> Short t
 | 0, t, h => by rw [exprF] at h; cases h
 | f + 1, t, h => by
  obtain ⟨_, hk, hkk⟩ := exprF_shape h
  refine .mk ?_ fun u hu => short_expr f u (hk u hu)
  rw [exprF] at h
  by_cases h14 : t.kind = 14
  ·rw [if_pos h14] at h; exact nil_24 (of_decide_eq_true h).2.1
  rw [if_neg h14] at h
  by_cases h15 : t.kind = 15
  ·rw [if_pos h15] at h; exact name_24 (of_decide_eq_true h).1
  rw [if_neg h15] at h
  by_cases h16 : t.kind = 16
  ·rw [if_pos h16] at h
   rcases (of_decide_eq_true h).1 with h | h | h | h
   ·exact name_24 h
   all_goals (rw [h]; simp)
  rw [if_neg h16] at h
  by_cases h17 : t.kind = 17
  ·rw [if_pos h17] at h; exact nil_24 (of_decide_eq_true h).1
  rw [if_neg h17] at h
  by_cases h18 : t.kind = 18
  ·rw [if_pos h18] at h; exact nil_24 (of_decide_eq_true h).1
  rw [if_neg h18] at h
  by_cases h19 : t.kind = 19
  ·rw [if_pos h19] at h
   rcases (of_decide_eq_true h).1 with h | h <;> (rw [h]; simp)
  rw [if_neg h19] at h
  by_cases h20 : t.kind = 20
  ·rw [if_pos h20] at h
   have := of_decide_eq_true (of_decide_eq_true h).1
   simp only [signsL, List.mem_cons, List.not_mem_nil, or_false] at this
   rcases this with h | h | h | (h | h) | (h | h) | h <;> (rw [h]; simp)
  rw [if_neg h20] at h
  cases h
theorem short_item : ∀ (f : Nat) (t : Tree), itemF f t = true -> Short t
 | 0, t, h => by rw [itemF] at h; cases h
 | f + 1, t, h => by
  have hB : ∀ b : Tree, blockB (itemF f) b = true -> Short b := fun b h => .mk (nil_24 (of_decide_eq_true h).2.1) fun u hu => short_item f u (List.all_eq_true.1 (of_decide_eq_true h).2.2.2 u hu)
  rw [itemF] at h
  by_cases h2 : t.kind = 2
  ·rw [if_pos h2] at h
   have h := of_decide_eq_true h
   exact .mk (name_24 h.1) (one_kid h.2.2.1 (short_type h.2.2.2))
  rw [if_neg h2] at h
  by_cases h3 : t.kind = 3
  ·rw [if_pos h3] at h
   have h := of_decide_eq_true h
   exact .mk (name_24 h.1) (one_kid h.2.2.1 (short_expr f _ h.2.2.2))
  rw [if_neg h3] at h
  by_cases h4 : t.kind = 4
  ·rw [if_pos h4] at h
   have h := of_decide_eq_true h
   exact .mk (name_24 h.1) (one_kid h.2.2.1 (short_expr f _ h.2.2.2))
  rw [if_neg h4] at h
  by_cases h5 : t.kind = 5
  ·rw [if_pos h5] at h
   have h := of_decide_eq_true h
   exact .mk (name_24 h.1) fun u hu => short_expr f u (List.all_eq_true.1 h.2.2.2 u hu)
  rw [if_neg h5] at h
  by_cases h6 : t.kind = 6
  ·rw [if_pos h6] at h
   have h := of_decide_eq_true h
   refine .mk (nil_24 h.1) fun u hu => ?_
   rcases hl : t.kids with _ | ⟨a, r⟩
   ·rw [hl] at hu; cases hu
   ·rw [hl] at h hu
    rcases List.mem_cons.1 hu with rfl | hu
    ·exact short_expr f _ h.2.2.2.1
    ·exact hB u (List.all_eq_true.1 h.2.2.2.2 u hu)
  rw [if_neg h6] at h
  by_cases h7 : t.kind = 7
  ·rw [if_pos h7] at h
   have h := of_decide_eq_true h
   refine .mk (name_24 h.1) fun u hu => ?_
   match hl : t.kids, h.2.2.1 with
   | [a, b, c], _ =>
    rw [hl] at h hu
    have ha := List.all_eq_true.1 h.2.2.2.1
    simp only [List.mem_cons, List.not_mem_nil, or_false] at hu
    rcases hu with rfl | rfl | rfl
    ·exact short_expr f _ (ha _ (by simp))
    ·exact short_expr f _ (ha _ (by simp))
    ·exact hB _ h.2.2.2.2
  rw [if_neg h7] at h
  by_cases h8 : t.kind = 8
  ·rw [if_pos h8] at h
   have h := of_decide_eq_true h
   refine .mk (nil_24 h.1) fun u hu => ?_
   rcases hl : t.kids with _ | ⟨a, r⟩
   ·rw [hl] at hu; cases hu
   ·rw [hl] at h hu
    rcases List.mem_cons.1 hu with rfl | hu
    ·exact short_expr f _ h.2.2.2.1
    ·exact short_to (List.all_eq_true.1 h.2.2.2.2 u hu)
  rw [if_neg h8] at h
  by_cases h9 : t.kind = 9
  ·rw [if_pos h9] at h
   have h := of_decide_eq_true h
   refine .mk (name_24 h.1) fun u hu => ?_
   rw [<- List.take_append_drop (t.kids.length - 2) t.kids] at hu
   rcases List.mem_append.1 hu with hu | hu
   ·exact short_arg (List.all_eq_true.1 h.2.2.2.1 u hu)
   ·obtain ⟨i, hi, rfl⟩ := List.getElem_of_mem hu
    rw [List.length_drop] at hi
    have e : (t.kids.drop (t.kids.length - 2))[i]'(by rw [List.length_drop]; exact hi) = t.kids.getD (t.kids.length - 2 + i) Tree.no := by
     rw [List.getElem_drop, List.getD_eq_getElem?_getD, List.getElem?_eq_getElem (by omega)]; rfl
    rw [e]
    rcases (show i = 0 \/ i = 1 by omega) with rfl | rfl
    ·exact hB _ h.2.2.2.2.1
    ·rw [show t.kids.length - 2 + 1 = t.kids.length - 1 by omega]; exact short_expr f _ h.2.2.2.2.2
  rw [if_neg h9] at h
  cases h
theorem textL_len : ∀ (d : Nat) (L : List (List Nat)) (n : Nat), (∀ x, x ∈ L -> x.length <= n) -> (textL d L).length <= L.length * (n + 2 * d + 1)
 | d, [], n, _ => by simp [textL_nil]
 | d, x :: r, n, h => by
  have ih := textL_len d r n fun y hy => h y (List.mem_cons_of_mem _ hy)
  have hx := h x (by simp)
  rw [show x :: r = [x] ++ r from rfl, textL_app, textL_one, List.length_append, lineN_len, List.length_append, Nat.add_mul]
  simp only [List.length_cons, List.length_nil]
  omega
theorem program_text {t : Tree} (h : t.kids.all (itemF (count t)) = true) (hc : count t <= 20000) : M.weight t <= t.text.length + 64 + 88 * count t /\ (textL 0 (linesL t.kids)).length <= 1000000000000 := by
 have hk := List.all_eq_true.1 h
 have hw : ∀ u, u ∈ t.kids -> M.weight u <= 88 * count u := fun u hu => (short_item _ u (hk u hu)).weight
 have hL := weightL_le hw
 have hcc : countL t.kids < count t := by cases t; simp only [Tree.kids, count]; omega
 refine ⟨by rw [weight_eq]; omega, ?_⟩
 have h1 := linesL_len t.kids
 have h2 := textL_len 0 (linesL t.kids) 1760000 (fun x hx => by
  obtain ⟨u, hu, hx⟩ := mem_linesL hx
  have a := itemT_lines _ u (hk u hu) x hx
  have b := hw u hu
  have c := count_kid hu
  omega)
 have h3 : (linesL t.kids).length <= 60000 := by omega
 have h4 := Nat.mul_le_mul h3 (Nat.le_refl (1760000 + 2 * 0 + 1))
 omega
end M
open Go.RowKit
def M.progT (t : M.Tree) : List Nat := M.textL 0 (M.linesL t.kids)
def M.textE (t : M.Tree) : Int := if M.checkE t = 0 then (if 20000 < (M.progT t).length then 3 else 0) else M.checkE t
def TextEnd (t : M.Tree) (w : World) (e : Ending) (w' : World) : Prop :=
 (∃ T : ByteArray, e = .returned (.tuple #[.string T, .int .i64 (M.textE t)]) /\ M.bs T = if M.textE t = 0 then M.progT t else []) /\ Below w.heap.size w w'
theorem PrN.start (w : World) : PrN (w.alloc (.cells #[.pointer none, .slice none 0 0, .int .i64 0] 60)) w.heap.size [] 0 :=
 ⟨[], rfl, .pointer none, .slice none 0 0, ⟨heap_alloc_new .., World.ownsRow_nil _ _ _ _, by simp [Value.ownBlock]⟩, .inl rfl⟩
theorem PrN.len {w : World} {b : Nat} {l : List Nat} {n : Nat} (h : PrN w b l n) : Calls Tryz.prog 33 #[.pointer (some ⟨b, 0, none⟩)] w fun e w' => e = .returned (.int .i64 (l.length : Nat)) /\ w' = w := by
 obtain ⟨l8, rfl, h⟩ := h
 rw [List.length_map]
 exact prLen_any b l8 _ w h
theorem PrN.str {w : World} {b : Nat} {l : List Nat} {n : Nat} (h : PrN w b l n) : Calls Tryz.prog 34 #[.pointer (some ⟨b, 0, none⟩)] w fun e w' => (∃ T : ByteArray, e = .returned (.string T) /\ M.bs T = l) /\ Below b w w' := by
 obtain ⟨l8, rfl, h⟩ := h
 exact (prString_any b l8 _ w h).mono fun e w' ⟨h1, h2⟩ => ⟨⟨_, h1, rfl⟩, h2⟩
theorem text9_any (t : M.Tree) (hc : M.count t <= 4611686018427387904) (v : Value) (w : World) (hv : NodeV w v t) (htab : Tab9 w) : Calls Tryz.prog 20 #[v] w (TextEnd t w) := by
 have hud := hud9
 have CK := Lib.hid fun w' (hb : Below w.heap.size w w') => check9_any t hc v w' (hv.below hb)
 have HV := Lib.hid hv
 have HTB := Lib.hid htab
 obtain ⟨T, kv, rfl, hT, hok, hk⟩ := hv
 obtain ⟨K, eK⟩ : ∃ K, K = t.kind := ⟨_, rfl⟩
 obtain ⟨n, en⟩ : ∃ n, n = t.num := ⟨_, rfl⟩
 have HKV := Lib.hid hk
 obtain ⟨A, cap, rfl, _⟩ := id hk
 obtain ⟨m, em⟩ : ∃ m, m = t.kids.length := ⟨_, rfl⟩
 rw [<- eK, <- en, <- em]
 rw [<- eK, <- en, <- em] at CK
 rw [<- em] at HKV
 have S0 := Lib.hid (NB.start w K T n (.slice A m cap))
 obtain ⟨E, eE⟩ : ∃ E, E = M.checkE t := ⟨_, rfl⟩
 rw [<- eE] at CK
 have HE := Lib.hid eE
 clear hT hok hk eK en em HV htab hc
 go_enter Tryz.func20, Tryz.ntmps20
 go_wp2_with fail
 (with_reducible refine (CK.out _ S0.out.below).mono ?_)
 rintro e w1 ⟨rfl, hb⟩
 have S1 := Lib.hid (S0.out.next hb)
 obtain ⟨-, -, y0, y1, y2, y3⟩ := id S1.out
 clear hb
 by_cases h0 : E = 0
 ·subst h0
  clear eE
  have hch : t.kids.all (M.itemF (M.count t)) = true /\ M.count t <= 20000 := by
   have := HE.out
   unfold M.checkE at this
   split at this
   ·rename_i h
    split at this
    ·cases this
    ·exact ⟨h.2.2.2, by omega⟩
   ·cases this
  have hlen : (M.progT t).length <= 1000000000000 := (M.program_text hch.1 hch.2).2
  have hit : ∀ i, i < t.kids.length -> ItemP (t.kids.getD i M.Tree.no) := fun i hi => by
   have hm := kid_mem hi
   have h1 := List.all_eq_true.1 hch.1 _ hm
   have h2 := (M.short_item _ _ h1).weight
   have := M.count_kid hm
   exact pritem_any _ _ h1 (by omega) (by omega)
  have IC := Lib.hid fun W (hW : Below w1.heap.size w1 W) hP => items10_any t.kids hit w1 W w1.heap.size [] 0 (.slice A m cap) (HKV.out.below S1.out.below) (HTB.out.below S1.out.below) hW (Nat.le_refl _) hP (by rw [List.nil_append]; show (M.progT t).length <= _; omega)
  have P0 := Lib.hid (PrN.start w1)
  have B0 := Lib.hid (balloc8 w1 (.cells #[.pointer none, .slice none 0 0, .int .i64 0] 60))
  have IC2 := Lib.hid (IC.out _ B0.out P0.out)
  have HL := Lib.hid hlen
  have HLT := Lib.hid (show w.heap.size < w1.heap.size from S1.out.lt)
  have hlt : w.heap.size < w1.heap.size := S1.out.lt
  have hn1 : w.heap.size ≠ w1.heap.size := by omega
  have hn2 : w1.heap.size ≠ w.heap.size := by omega
  have hPT : M.textL 0 (M.linesL t.kids) = M.progT t := rfl
  rw [hPT, List.nil_append] at IC2
  obtain ⟨Q, eQ⟩ : ∃ Q, Q = M.progT t := ⟨_, rfl⟩
  rw [<- eQ] at IC2 HL
  have HQ := Lib.hid eQ
  clear hch hlen hit IC hPT eQ
  go_wp2_with fail
  (with_reducible refine (IC2.out).mono ?_)
  rintro e w2 ⟨rfl, hPP, hK⟩
  have P2 := Lib.hid hPP
  have B2 := Lib.hid (S1.out.below.trans (B0.out.mono S1.out.below.size))
  have B3 := Lib.hid (S1.out.below.trans ((show Below w1.heap.size w1 w2 from B0.out.trans ((hK.below (B := w1.heap.size) (Nat.le_refl _) (by simp)))).mono (by have := HLT.out; omega)))
  have SZ2 := Lib.hid (show w1.heap.size <= w2.heap.size by have := hK.size; simp at this; omega)
  clear hPP hK
  go_wp2_with fail
  (with_reducible refine (P2.out.len).mono ?_)
  rintro e w3 ⟨rfl, rfl⟩
  obtain ⟨q, eq⟩ : ∃ q, q = Q.length := ⟨_, rfl⟩
  rw [<- eq]
  have hql : q <= 1000000000000 := by rw [eq]; exact HL.out
  by_cases hbig : 20000 < q
  ·have hd : decide ((q : Int) > 20000) = true := by rw [decide_eq_true_eq]; omega
   have HTE := Lib.hid (show M.textE t = 3 by unfold M.textE; rw [if_pos HE.out.symm, <- HQ.out, <- eq, if_pos hbig])
   clear eq
   go_wp2_with fail
   go_ret2
   exact ⟨⟨⟨#[]⟩, by rw [HTE.out]; rfl, by rw [HTE.out]; rfl⟩, B3.out⟩
  ·have hd : decide ((q : Int) > 20000) = false := by rw [decide_eq_false_iff_not]; omega
   have HTE := Lib.hid (show M.textE t = 0 by unfold M.textE; rw [if_pos HE.out.symm, <- HQ.out, <- eq, if_neg hbig])
   clear eq
   go_wp2_with fail
   (with_reducible refine (P2.out.str).mono ?_)
   rintro e w4 ⟨⟨X, rfl, hX⟩, hb⟩
   have HX := Lib.hid hX
   have B4 := Lib.hid (B3.out.trans (hb.mono (by have := HLT.out; omega)))
   clear hb hX
   go_wp2_with fail
   go_ret2
   exact ⟨⟨X, by rw [HTE.out]; rfl, by rw [HTE.out, if_pos rfl, HX.out, HQ.out]⟩, B4.out⟩
 ·have hne : (E != 0) = true := by rw [bne_iff_ne]; exact h0
  have H0 := Lib.hid h0
  have HTE := Lib.hid (show M.textE t = E by unfold M.textE; rw [if_neg (by rw [<- HE.out]; exact H0.out), HE.out])
  clear h0 eE
  go_wp2_with fail
  go_ret2
  exact ⟨⟨⟨#[]⟩, by rw [HTE.out]; rfl, by rw [HTE.out, if_neg H0.out]; rfl⟩, S1.out.below⟩
end Go.Proofs.YtngpedcihajepaaGreatDoor
