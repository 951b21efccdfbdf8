/-
  The statement of the law ParseTexts at this commit, as a tied card, where what it reads is of bulk at most 1048576: the call returns true, and each argument reads afterwards as it read before. Three tables of the standard library start as the program's text lays them. (Merged out of the texts ParseTextsW ParseTexts)
-/
import Derived.OwnWalk
import Derived.WalkMore
import Derived.Deep.LoopGhost
import Derived.Lib.MakeNoZero
import Derived.WalkKit
import Derived.Laws.IdiomCopy
import Derived.Laws.BitsLemmas
import Derived.Shelf.Strings.BuilderX
import Derived.ProofKit
import Derived.ChangeMaps5
import Derived.Defers
import Derived.Recover
import Derived.Deep.RegionHeld3
import Derived.Still
import Derived.Lib.Builder
import Derived.Lib.AppendStr
import Derived.Lib.UnsafeStr
import Derived.Laws.Externs
import Derived.Lib.MinMax
import Derived.Test.YtngpedcihajepaaGreatDoorProg
import Derived.WalkSpells
import Derived.WalkLawsBesides
import Derived.Lib.Hide
import Derived.Below
import Derived.Deep.QuietTactic
import Derived.BigQuiet
import Derived.WalkSmall
import Derived.Test.YtngpedcihajepaaGreatDoorShelf
import Derived.Maps.Own
import Derived.Maps.OwnOps
import Derived.Maps.Views
import Derived.Deep.AppendLies
import Derived.Shelf.LaysM
import Derived.Shelf.Strconv.Itoa1
import Derived.Shelf.Strconv.Itoa2
import Derived.Lib.Walk
import Derived.Lib.ItoaMem
import Derived.BigCall
import Derived.BigGuard
import Derived.Test.YtngpedcihajepaaGreatDoorRows
import Derived.Test.YtngpedcihajepaaGreatDoorTie
import Derived.Test.YtngpedcihajepaaGreatDoorCards
import Derived.OpenShut
import Derived.ShutString
import Derived.ChangeOld
import Derived.SizedLaws
import Derived.LaidMore
import Derived.Lay
import Derived.Lib.LaidTab
import Derived.SevenTiedAt
import Derived.Stop.Joined
import Derived.Deep.Slices
import Derived.Deep.Fields
import Derived.ChangeSame
import Derived.LaidLaws
import Derived.Deep.CondSized
import Derived.Handed
import Derived.Test.YtngpedcihajepaaGreatDoorBz1
import Derived.Test.YtngpedcihajepaaGreatDoorBz2
import Derived.Test.YtngpedcihajepaaGreatDoorBz3
import Derived.Test.YtngpedcihajepaaGreatDoorBz4
import Derived.Test.YtngpedcihajepaaGreatDoorBz5
import Derived.Test.YtngpedcihajepaaGreatDoorBz6
import Derived.Test.YtngpedcihajepaaGreatDoorBz7
import Derived.Test.YtngpedcihajepaaGreatDoorBz8
import Derived.Test.YtngpedcihajepaaGreatDoorBz9
import Derived.Test.YtngpedcihajepaaGreatDoorBz10
import Derived.Test.YtngpedcihajepaaGreatDoorBz11
import Derived.Test.YtngpedcihajepaaGreatDoorBz12
import Derived.Test.YtngpedcihajepaaGreatDoorBz13
import Derived.Test.YtngpedcihajepaaGreatDoorBz14
import Derived.Test.YtngpedcihajepaaGreatDoorBz15
import Derived.Test.YtngpedcihajepaaGreatDoorBz16
import Derived.Test.YtngpedcihajepaaGreatDoorBz17
import Derived.Test.YtngpedcihajepaaGreatDoorBz18
import Derived.Test.YtngpedcihajepaaGreatDoorBz19
import Derived.Test.YtngpedcihajepaaGreatDoorBz20
import Derived.Test.YtngpedcihajepaaGreatDoorBz21
import Derived.Test.YtngpedcihajepaaGreatDoorBz22
import Derived.Test.YtngpedcihajepaaGreatDoorBz24
import Derived.Test.YtngpedcihajepaaGreatDoorSq9
set_option linter.unusedVariables false
set_option linter.unusedSimpArgs false
set_option maxRecDepth 100000
set_option maxHeartbeats 40000000
namespace Go.Proofs.YtngpedcihajepaaGreatDoor
open Go.RowKit
theorem Laid9.cellsT {w : World} {x : V9} {W : World} (h : Laid9 w x W) : W.cell? ⟨w.heap.size, 0, none⟩ = some (.int .i64 x.kind) /\ W.cell? ⟨w.heap.size, 1, none⟩ = some (.string x.text) /\ W.cell? ⟨w.heap.size, 2, none⟩ = some (.int .u64 (x.num : Nat)) /\ W.cell? ⟨w.heap.size, 3, none⟩ = some (.slice x.ka x.kn x.kc) := ⟨h.c0, h.c1, h.c2, h.c3⟩
namespace parseTextsW
theorem walk (W : World) (htab : Tab9 W) (t : M.Tree) (hc : M.count t <= 1048576) (v : Value) (hv : NodeV W v t) :
  Calls Tryz.prog 5 #[v] W fun e w' => e = .returned (.bool true) /\ Below W.heap.size W w' := by
 have hud := hud9
 have C0 := Lib.hid fun w' (hb : Below W.heap.size W w') => text9_any t (by omega) v w' (hv.below hb) (htab.below hb)
 have C1 := Lib.hid fun w' (hb : Below W.heap.size W w') => rtext9_any t (by omega) v w' (hv.below hb)
 have C6 := Lib.hid fun w' (hb : Below W.heap.size W w') => alive9_any w' (htab.below hb)
 unfold TextEnd at C0 C1
 obtain ⟨E, eE⟩ : ∃ E, E = M.textE t := ⟨_, rfl⟩
 obtain ⟨Q, eQ⟩ : ∃ Q, Q = (if M.textE t = 0 then M.progT t else []) := ⟨_, rfl⟩
 rw [<- eQ, <- eE] at C0 C1
 obtain ⟨x, rfl⟩ := hv.v9e
 have S0 := Lib.hid (Laid9.start W x)
 clear hv htab hc eQ eE
 go_enter Tryz.func5, Tryz.ntmps5
 go_wp2_with fail
 (with_reducible refine (C0.out _ S0.out.below).mono ?_)
 rintro e w1 ⟨⟨T1, rfl, hT1⟩, hb⟩
 have S1 := Lib.hid (S0.out.next hb)
 have HT1 := Lib.hid hT1
 obtain ⟨a0, a1, a2, a3⟩ := S1.out.cellsT
 clear hb hT1
 go_wp2_with fail
 (with_reducible refine (C1.out _ S1.out.below).mono ?_)
 rintro e w2 ⟨⟨T2, rfl, hT2⟩, hb⟩
 have S2 := Lib.hid (S1.out.next hb)
 obtain rfl := M.bs_inj (hT2.trans HT1.out.symm)
 clear hb hT2
 go_wp2_with fail
 (with_reducible refine (C6.out _ S2.out.below).mono ?_)
 rintro e w3 ⟨rfl, hb⟩
 have S3 := Lib.hid (S2.out.next hb)
 clear hb
 go_wp2_with fail
 go_ret
 exact ⟨by first | rfl | (simp; done), S3.out.below⟩
end parseTextsW
end Go.Proofs.YtngpedcihajepaaGreatDoor
namespace Go.Proofs.YtngpedcihajepaaGreatDoor.parseTexts
open Go.ChangeShapes Go.WideShapes Go.ChangeAt Go.RowKit
theorem own : ownKnob Tryz.prog.godebug = none := by kernel_rfl
theorem laidOut : laidOutB Tryz.prog = true := by kernel_rfl
theorem tab_of {W : World} (h : laidMetH Tryz.prog Rows.parseTextsUptoRow.laid W) : Lib.TabIs Tryz.prog W "internal/strconv.uint64pow10" .u64 Lib.pow10Tab := by
 rw [MakeChecks.laidMetH_plain _ _ _ (by kernel_rfl)] at h
 obtain ⟨ps, ⟨g0, t0, cs0, f0, p0, q0, hg0, ht0, hv0, hd0, ⟨g1, t1, cs1, f1, p1, q1, hg1, ht1, hv1, hd1, ⟨g2, t2, cs2, f2, p2, q2, hg2, ht2, hv2, hd2, _, _⟩, _⟩, _⟩, _, _⟩ := h
 obtain rfl := Option.some.inj ((show Tryz.prog.globalNamed "internal/strconv.uint64pow10" = some 1 by kernel_rfl).symm.trans hg2)
 obtain rfl := Option.some.inj ((show (Tryz.prog.globals[1]?).map (·.type) = some 135 by kernel_rfl).symm.trans ht2)
 have e := Lib.cells_of_tab (k := .u64) (zs := Lib.pow10Tab) Tryz.underlying135 Tryz.underlying22 (by kernel_rfl) (by kernel_rfl) hd2
 unfold Lib.TabIs
 rw [hv2, <- e]

theorem lifted (os : Os) (started : os.Started) (H : Type) (enc : TypeId × Value -> H) (F : Stop.Interp) :
  ReturnsInHanded {} Tryz.checked os 5 .any (fun w args => ((Rows.OpenSpec.upto Rows.parseTextsSpec).pre enc Tryz.prog Tryz.f5 Rows.parseTextsUptoRow.domain false w args /\ laidMetH Tryz.prog Rows.parseTextsUptoRow.laid w) /\ sizedMet enc Tryz.prog Tryz.f5 (Rows.OpenSpec.upto Rows.parseTextsSpec) false w args)
   (((Rows.OpenSpec.upto Rows.parseTextsSpec).at F).post enc Tryz.prog Tryz.f5 false true false false) := by
 refine returns_cond_and (C := Tryz.checked) (s := (Rows.OpenSpec.upto Rows.parseTextsSpec)) (k := Rows.uptoSmall) rfl (X := fun w _ => laidMetH Tryz.prog Rows.parseTextsUptoRow.laid w) (fun _ _ _ hh h => h.of_heap hh) own started (by kernel_rfl) Tryz.func5
  (witness_cond (enc := enc) (C := Tryz.checked) (os := os) (s := (Rows.OpenSpec.upto Rows.parseTextsSpec)) (k := Rows.uptoSmall) rfl (X := fun w _ => laidMetH Tryz.prog Rows.parseTextsUptoRow.laid w) false (World.laidAll Tryz.prog os Rows.parseTextsUptoRow.laid) #[.agg #[.int .i64 0, .string ⟨#[]⟩, .int .u64 0, .slice none 0 0]] 8 (World.laidAll_os _ _ _)
   (World.shaped_of_ZipB (by kernel_rfl) (by kernel_rfl)) (by kernel_rfl) (x := ([.agg [.lit (.int .i64 0), .lit (.string []), .lit (.int .u64 0), .nil]], [], [])) (by kernel_rfl) rfl (by kernel_rfl) (by kernel_rfl)
   (by rw [MakeChecks.laidMetH_plain _ _ _ (by kernel_rfl)]; exact laidMet_laidAll _ (by kernel_rfl) (by kernel_rfl))) ?_
 intro W base args ds gs before hval0 hW hcnd hk hsz0 hL _
 show Calls Tryz.prog 5 args W fun e W' => ∃ v, e = .returned v /\ Rows.parseTextsSpec.post enc Tryz.prog Tryz.f5 false true false false W args v W'
 have hsz : (DataW.weightsEach Tryz.prog (Tryz.f5.params.toList ++ Rows.parseTextsSpec.plain.varTypes Tryz.prog) (ds ++ gs)).all (· <= reachBytes) = true := hsz0
 have hval : ∀ (j : Nat) t v, Tryz.f5.params[j]? = some t -> args[j]? = some v -> Value.okWide Tryz.prog W .any base t v := hval0
 have hW' := hW
 obtain ⟨p, q, hA0, hV, rfl, hfz, hnd⟩ := hW
 have hA : DataW.TrodAll enc Tryz.prog W 0 (fun _ => true) true Tryz.f5.params.toList args.toList ds p := hA0
 rw [Tryz.params5] at hA hval hsz
 obtain ⟨v0, vs0, d0, ds0, p0, q0, hargs, rfl, rfl, h0, r0⟩ := trodAll_cons hA
 obtain ⟨rfl, rfl, rfl⟩ := trodAll_nil r0
 obtain rfl : args = #[v0] := by cases args; simp_all
 obtain ⟨rfl, rfl⟩ := trodVars_none hV
 have k0 := h0
 have lt0 : ∀ x ∈ p0, x.block < W.heap.size := by obtain ⟨m, hm⟩ := k0; exact DataW.trod_lt m _ _ _ hm
 obtain ⟨t0, wn0, hc0⟩ := open_tree h0 (by obtain ⟨aa, ea, _⟩ := okWide_struct Tryz.underlying25 (hval 0 25 v0 rfl rfl); exact ⟨aa, ea⟩) (fun n hn => by have := List.all_eq_true.1 hsz _ (DataW.weights_mem_each (j := 0) (t := 25) rfl rfl n hn); simpa using this)
 have hcc0 : M.count t0 <= 1048576 := by
  have h1 : Rows.uptoBulkAll ([d0]) <= 1048576 := of_decide_eq_true hk
  have h2 := bulk_mem9 (l := ([d0])) (d := d0) (by simp)
  omega
 have htab := tab_of hL
 clear hA0 hval0 hsz0 hsz
 refine (parseTextsW.walk W htab t0 hcc0 _ wn0).mono fun e W' ⟨he, bel⟩ => ?_
 subst he
 exact ⟨_, rfl, _, _, _, [], _, [], hW', trodAll_mk1 (shut_bool Tryz.underlying4 _), (trodAll_cons_mk (Below.trod laidOut (by kernel_rfl) (of_decide_eq_true (by kernel_rfl)) k0 bel lt0) trodAll_mk0), rfl, bel.frame _, fun h => by cases h⟩

theorem over : Rows.parseTextsUptoRow.holds Tryz.pinned (Rows.OpenSpec.upto Rows.parseTextsSpec) :=
 OpenClaim.holds_of_cond 5 Tryz.f5 rfl rfl rfl rfl rfl rfl rfl ⟨rfl, rfl, rfl, rfl, rfl⟩ rfl rfl rfl rfl rfl (by kernel_rfl) Tryz.func5 (by kernel_rfl)
  (of_decide_eq_true (by kernel_rfl)) (by unfold Func.isWrapper; first | (rw [if_pos (by decide +kernel)]; kernel_rfl) | (rw [if_neg (by decide +kernel)]; exact ⟨rfl, rfl⟩))
  (fun os started H enc _ F => lifted os started H enc F)

theorem proved : Rows.ParseTextsUptoCardSaid :=
 Claim7.holds_tied_plain_at .later [] [.data, .data, .data] true (true, "20cee3b473a2713218cc8b83c3c500305a738b84e302de7a2f57dd68eb8f444b") true
  over (fun _ h => by cases h) (by kernel_rfl) (fun _ h => by cases h) parseTextsUpto_row_tie rfl ⟨rfl, rfl⟩ (by kernel_rfl) rfl
  (fun f fn hf hfn => by
   obtain rfl : f = 5 := Option.some.inj ((show Tryz.prog.funcNamed "junto/juntolaw09.ParseTexts" = some 5 by kernel_rfl).symm.trans hf) |>.symm
   obtain rfl : fn = Tryz.f5 := (Option.some.inj (Tryz.func5.symm.trans hfn)).symm
   refine ⟨by kernel_rfl, fun j t ht => ?_⟩
   rw [Tryz.params5] at ht
   match j, ht with
   | 0, ht =>
    obtain rfl : t = 25 := by simpa using ht.symm
    exact (show Tryz.prog.wantsStandIn 25 = false by kernel_rfl)
   | (k + 1), ht => simp at ht)
  (by kernel_rfl)
end Go.Proofs.YtngpedcihajepaaGreatDoor.parseTexts
