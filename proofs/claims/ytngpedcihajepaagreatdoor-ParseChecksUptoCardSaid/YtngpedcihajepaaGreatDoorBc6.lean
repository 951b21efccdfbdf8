/-
  The statement of the law ParseChecks at this commit, as a tied card, where what it reads is of bulk at most 1048576: the call returns true, and each argument reads afterwards as it read before. Three tables of the standard library start as the program's text lays them. (Merged out of the texts ParseChecksW ParseChecks)
-/
import Derived.Test.YtngpedcihajepaaGreatDoorProg
import Derived.OwnWalk
import Derived.WalkMore
import Derived.Deep.LoopGhost
import Derived.Lib.MinMax
import Derived.Test.YtngpedcihajepaaGreatDoorShelf
import Derived.Deep.AppendLies
import Derived.Lib.MakeNoZero
import Derived.WalkKit
import Derived.Laws.IdiomCopy
import Derived.Laws.BitsLemmas
import Derived.Shelf.Strings.BuilderX
import Derived.WalkSmall
import Derived.Deep.RegionHeld3
import Derived.Still
import Derived.Lib.Builder
import Derived.Lib.AppendStr
import Derived.Lib.UnsafeStr
import Derived.Laws.Externs
import Derived.Maps.Own
import Derived.Maps.OwnOps
import Derived.Maps.Views
import Derived.ProofKit
import Derived.ChangeMaps5
import Derived.Defers
import Derived.Recover
import Derived.WalkSpells
import Derived.WalkLawsBesides
import Derived.Lib.Hide
import Derived.Below
import Derived.Deep.QuietTactic
import Derived.BigQuiet
import Derived.Shelf.LaysM
import Derived.Shelf.Strconv.Itoa1
import Derived.Shelf.Strconv.Itoa2
import Derived.Lib.Walk
import Derived.Lib.ItoaMem
import Derived.BigCall
import Derived.BigGuard
import Derived.Test.YtngpedcihajepaaGreatDoorRows
import Derived.Test.YtngpedcihajepaaGreatDoorTie
import Derived.Test.YtngpedcihajepaaGreatDoorCards
import Derived.OpenShut
import Derived.ShutString
import Derived.ChangeOld
import Derived.SizedLaws
import Derived.LaidMore
import Derived.Lay
import Derived.Lib.LaidTab
import Derived.SevenTiedAt
import Derived.Stop.Joined
import Derived.Deep.Slices
import Derived.Deep.Fields
import Derived.ChangeSame
import Derived.LaidLaws
import Derived.Deep.CondSized
import Derived.Handed
import Derived.Test.YtngpedcihajepaaGreatDoorBa1
import Derived.Test.YtngpedcihajepaaGreatDoorBa2
import Derived.Test.YtngpedcihajepaaGreatDoorBa3
import Derived.Test.YtngpedcihajepaaGreatDoorBa4
import Derived.Test.YtngpedcihajepaaGreatDoorBa5
import Derived.Test.YtngpedcihajepaaGreatDoorBa6
import Derived.Test.YtngpedcihajepaaGreatDoorBa7
import Derived.Test.YtngpedcihajepaaGreatDoorBa8
import Derived.Test.YtngpedcihajepaaGreatDoorBa9
import Derived.Test.YtngpedcihajepaaGreatDoorBa10
import Derived.Test.YtngpedcihajepaaGreatDoorBa11
import Derived.Test.YtngpedcihajepaaGreatDoorBa12
import Derived.Test.YtngpedcihajepaaGreatDoorBa13
import Derived.Test.YtngpedcihajepaaGreatDoorBa14
import Derived.Test.YtngpedcihajepaaGreatDoorBa15
import Derived.Test.YtngpedcihajepaaGreatDoorBa16
import Derived.Test.YtngpedcihajepaaGreatDoorBa17
import Derived.Test.YtngpedcihajepaaGreatDoorBc1
import Derived.Test.YtngpedcihajepaaGreatDoorBc2
import Derived.Test.YtngpedcihajepaaGreatDoorBc3
import Derived.Test.YtngpedcihajepaaGreatDoorBc4
import Derived.Test.YtngpedcihajepaaGreatDoorBc5
import Derived.Test.YtngpedcihajepaaGreatDoorBc7
namespace Go.Proofs.YtngpedcihajepaaGreatDoor
open Go.RowKit
set_option linter.unusedVariables false
set_option linter.unusedSimpArgs false
set_option maxRecDepth 100000
theorem Laid9.drew {w : World} {x : V9} {W : World} (h : Laid9 w x W) : Laid9 w x W.drew := h.next (Below.refl _ _).drew
theorem Laid9.cells {w : World} {x : V9} {W : World} (h : Laid9 w x W) : W.cell? ⟨w.heap.size, 0, none⟩ = some (.int .i64 x.kind) ∧ W.cell? ⟨w.heap.size, 1, none⟩ = some (.string x.text) ∧ W.cell? ⟨w.heap.size, 2, none⟩ = some (.int .u64 (x.num : Nat)) ∧ W.cell? ⟨w.heap.size, 3, none⟩ = some (.slice x.ka x.kn x.kc) := ⟨h.c0, h.c1, h.c2, h.c3⟩
namespace parseChecksW
set_option maxHeartbeats 4000000 in
theorem walk (W : World) (htab : Tab9 W) (t : M.Tree) (hc : M.count t ≤ 1048576) (v : Value) (hv : NodeV W v t) :
    Calls Tryz.prog 4 #[v] W fun e w' => e = .returned (.bool true) ∧ Below W.heap.size W w' := by
  have hud : ∀ b : Bool, undef ≠ Value.bool b := fun b h => by cases h
  obtain ⟨E, eE⟩ : ∃ E, E = M.checkE t := ⟨_, rfl⟩
  obtain ⟨z, ez⟩ : ∃ z, z = wrap64 (M.count t : Nat) := ⟨_, rfl⟩
  obtain ⟨d, ed⟩ : ∃ d : Int, d = (M.deep t : Nat) := ⟨_, rfl⟩
  have C0 := Lib.hid fun w' (hb : Below W.heap.size W w') => check9_any t (by omega) v w' (hv.below hb)
  have C1 := Lib.hid fun w' (hb : Below W.heap.size W w') => rcheck9_any t (by omega) v w' (hv.below hb)
  have C2 := Lib.hid fun w' (hb : Below W.heap.size W w') => pnodes_ind _ t (Nat.le_refl _) v w' (hv.below hb)
  have C3 := Lib.hid fun w' (hb : Below W.heap.size W w') => rnodes_ind _ t (Nat.le_refl _) v w' (hv.below hb)
  have C4 := Lib.hid fun w' (hb : Below W.heap.size W w') => pdeep_ind _ t (Nat.le_refl _) (by omega) v w' (hv.below hb)
  have C5 := Lib.hid fun w' (hb : Below W.heap.size W w') => rdeep_ind _ t (Nat.le_refl _) (by omega) v w' (hv.below hb)
  have C6 := Lib.hid fun w' (hb : Below W.heap.size W w') => alive9_any w' (htab.below hb)
  rw [← eE] at C0 C1
  rw [← ez] at C2 C3
  rw [← ed] at C4 C5
  obtain ⟨x, rfl⟩ := hv.v9e
  have S0 := Lib.hid (Laid9.start W x)
  clear hv htab eE ez ed hc
  go_enter Tryz.func4, Tryz.ntmps4
  go_wp2_with fail
  have D0 := Lib.hid S0.out.drew
  have HSC := Lib.hid fun W' (h : Laid9 W x W') => h.cells
  try dsimp only [List.append]
  refine wp_region_ord (S := fun W' => W'.cell? ⟨W.heap.size, 0, none⟩ = some (.int .i64 x.kind) ∧ W'.cell? ⟨W.heap.size, 1, none⟩ = some (.string x.text) ∧ W'.cell? ⟨W.heap.size, 2, none⟩ = some (.int .u64 (x.num : Nat)) ∧ W'.cell? ⟨W.heap.size, 3, none⟩ = some (.slice x.ka x.kn x.kc)) [0, 2, 1, 3, 4, 5, 6, 8, 7, 9, 10, 11, 12, 13, 15, 14, 16, 17, 18, 19, 20, 21, 22] (by kernel_rfl) (by kernel_rfl) (by kernel_rfl) (fun _ _ _ _ _ h => h) ?_ ?_
  · exact HSC.out _ D0.out
  repeat (first
    | (refine OrdH.pass (by rfl) (by rfl) ?_; (try simp only [Act.put, List.setIfInBounds_toArray, List.set_cons_zero, List.set_cons_succ]))
    | (refine OrdH.yield (v := ?_) (by rfl) (by rfl) ?_ ?_; rotate_left 1; (· intro w hSw; (try dsimp only at hSw); go_simp; (try rw [if_neg (by first | omega | (simp only [M.size_app]; omega))]); (try rw [if_pos (by omega)]); try with_reducible rfl); (try simp only [Act.put, List.setIfInBounds_toArray, List.set_cons_zero, List.set_cons_succ]))
    | (refine OrdH.alone (by rfl) (by rfl) (by kernel_rfl) (fun KK hKK => ?_); go_simp; (first | (go_at_call 13; (with_reducible refine (C6.out _ D6.out.below).mono ?_); rintro e w7 ⟨rfl, hb⟩; have D7 := Lib.hid (D6.out.next hb); clear hb) | (go_at_call 19; (with_reducible refine (C5.out _ D5.out.below).mono ?_); rintro e w6 ⟨rfl, hb⟩; have D6 := Lib.hid (D5.out.next hb); clear hb) | (go_at_call 18; (with_reducible refine (C4.out _ D4.out.below).mono ?_); rintro e w5 ⟨rfl, hb⟩; have D5 := Lib.hid (D4.out.next hb); clear hb) | (go_at_call 17; (with_reducible refine (C3.out _ D3.out.below).mono ?_); rintro e w4 ⟨rfl, hb⟩; have D4 := Lib.hid (D3.out.next hb); clear hb) | (go_at_call 16; (with_reducible refine (C2.out _ D2.out.below).mono ?_); rintro e w3 ⟨rfl, hb⟩; have D3 := Lib.hid (D2.out.next hb); clear hb) | (go_at_call 15; (with_reducible refine (C1.out _ D1.out.below).mono ?_); rintro e w2 ⟨rfl, hb⟩; have D2 := Lib.hid (D1.out.next hb); clear hb) | (go_at_call 14; (with_reducible refine (C0.out _ D0.out.below).mono ?_); rintro e w1 ⟨rfl, hb⟩; have D1 := Lib.hid (D0.out.next hb); clear hb)); go_wp2_with fail; refine hKK.out _ _ ?_ (fun hHeld => ?_); (· (first | exact HSC.out _ D7.out | exact HSC.out _ D6.out | exact HSC.out _ D5.out | exact HSC.out _ D4.out | exact HSC.out _ D3.out | exact HSC.out _ D2.out | exact HSC.out _ D1.out | exact HSC.out _ D0.out)); clear hKK KK hHeld; (try simp only [Act.put, List.setIfInBounds_toArray, List.set_cons_zero, List.set_cons_succ])))
  refine OrdH.nil ?_
  go_wp2_with fail
  go_ret
  exact ⟨by first | rfl | (simp; done), D7.out.below⟩
end parseChecksW
end Go.Proofs.YtngpedcihajepaaGreatDoor
namespace Go.Proofs.YtngpedcihajepaaGreatDoor.parseChecks
open Go.ChangeShapes Go.WideShapes Go.ChangeAt Go.RowKit
set_option linter.unusedVariables false
theorem own : ownKnob Tryz.prog.godebug = none := by kernel_rfl
theorem laidOut : laidOutB Tryz.prog = true := by kernel_rfl
theorem tab_of {W : World} (h : laidMetH Tryz.prog Rows.parseChecksUptoRow.laid W) : Lib.TabIs Tryz.prog W "internal/strconv.uint64pow10" .u64 Lib.pow10Tab := by
  rw [MakeChecks.laidMetH_plain _ _ _ (by kernel_rfl)] at h
  obtain ⟨ps, ⟨g0, t0, cs0, f0, p0, q0, hg0, ht0, hv0, hd0, ⟨g1, t1, cs1, f1, p1, q1, hg1, ht1, hv1, hd1, ⟨g2, t2, cs2, f2, p2, q2, hg2, ht2, hv2, hd2, _, _⟩, _⟩, _⟩, _, _⟩ := h
  obtain rfl := Option.some.inj ((show Tryz.prog.globalNamed "internal/strconv.uint64pow10" = some 1 by kernel_rfl).symm.trans hg2)
  obtain rfl := Option.some.inj ((show (Tryz.prog.globals[1]?).map (·.type) = some 135 by kernel_rfl).symm.trans ht2)
  have e := Lib.cells_of_tab (k := .u64) (zs := Lib.pow10Tab) Tryz.underlying135 Tryz.underlying22 (by kernel_rfl) (by kernel_rfl) hd2
  unfold Lib.TabIs
  rw [hv2, ← e]

set_option maxRecDepth 100000 in
theorem lifted (os : Os) (started : os.Started) (H : Type) (enc : TypeId × Value → H) (F : Stop.Interp) :
    ReturnsInHanded {} Tryz.checked os 4 .any (fun w args => ((Rows.OpenSpec.upto Rows.parseChecksSpec).pre enc Tryz.prog Tryz.f4 Rows.parseChecksUptoRow.domain false w args ∧ laidMetH Tryz.prog Rows.parseChecksUptoRow.laid w) ∧ sizedMet enc Tryz.prog Tryz.f4 (Rows.OpenSpec.upto Rows.parseChecksSpec) false w args)
      (((Rows.OpenSpec.upto Rows.parseChecksSpec).at F).post enc Tryz.prog Tryz.f4 false true false false) := by
  refine returns_cond_and (C := Tryz.checked) (s := (Rows.OpenSpec.upto Rows.parseChecksSpec)) (k := Rows.uptoSmall) rfl (X := fun w _ => laidMetH Tryz.prog Rows.parseChecksUptoRow.laid w) (fun _ _ _ hh h => h.of_heap hh) own started (by kernel_rfl) Tryz.func4
    (witness_cond (enc := enc) (C := Tryz.checked) (os := os) (s := (Rows.OpenSpec.upto Rows.parseChecksSpec)) (k := Rows.uptoSmall) rfl (X := fun w _ => laidMetH Tryz.prog Rows.parseChecksUptoRow.laid w) false (World.laidAll Tryz.prog os Rows.parseChecksUptoRow.laid) #[.agg #[.int .i64 0, .string ⟨#[]⟩, .int .u64 0, .slice none 0 0]] 8 (World.laidAll_os _ _ _)
      (World.shaped_of_ZipB (by kernel_rfl) (by kernel_rfl)) (by kernel_rfl) (x := ([.agg [.lit (.int .i64 0), .lit (.string []), .lit (.int .u64 0), .nil]], [], [])) (by kernel_rfl) rfl (by kernel_rfl) (by kernel_rfl)
      (by rw [MakeChecks.laidMetH_plain _ _ _ (by kernel_rfl)]; exact laidMet_laidAll _ (by kernel_rfl) (by kernel_rfl))) ?_
  intro W base args ds gs before hval0 hW hcnd hk hsz0 hL _
  show Calls Tryz.prog 4 args W fun e W' => ∃ v, e = .returned v ∧ Rows.parseChecksSpec.post enc Tryz.prog Tryz.f4 false true false false W args v W'
  have hsz : (DataW.weightsEach Tryz.prog (Tryz.f4.params.toList ++ Rows.parseChecksSpec.plain.varTypes Tryz.prog) (ds ++ gs)).all (· ≤ reachBytes) = true := hsz0
  have hval : ∀ (j : Nat) t v, Tryz.f4.params[j]? = some t → args[j]? = some v → Value.okWide Tryz.prog W .any base t v := hval0
  have hW' := hW
  obtain ⟨p, q, hA0, hV, rfl, hfz, hnd⟩ := hW
  have hA : DataW.TrodAll enc Tryz.prog W 0 (fun _ => true) true Tryz.f4.params.toList args.toList ds p := hA0
  rw [Tryz.params4] at hA hval hsz
  obtain ⟨v0, vs0, d0, ds0, p0, q0, hargs, rfl, rfl, h0, r0⟩ := trodAll_cons hA
  obtain ⟨rfl, rfl, rfl⟩ := trodAll_nil r0
  obtain rfl : args = #[v0] := by cases args; simp_all
  obtain ⟨rfl, rfl⟩ := trodVars_none hV
  have k0 := h0
  have lt0 : ∀ x ∈ p0, x.block < W.heap.size := by obtain ⟨m, hm⟩ := k0; exact DataW.trod_lt m _ _ _ hm
  obtain ⟨t0, wn0, hc0⟩ := open_tree h0 (by obtain ⟨aa, ea, _⟩ := okWide_struct Tryz.underlying25 (hval 0 25 v0 rfl rfl); exact ⟨aa, ea⟩) (fun n hn => by have := List.all_eq_true.1 hsz _ (DataW.weights_mem_each (j := 0) (t := 25) rfl rfl n hn); simpa using this)
  have hcc0 : M.count t0 ≤ 1048576 := by
    have h1 : Rows.uptoBulkAll ([d0]) ≤ 1048576 := of_decide_eq_true hk
    have h2 := bulk_mem9 (l := ([d0])) (d := d0) (by simp)
    omega
  have htab := tab_of hL
  clear hA0 hval0 hsz0 hsz
  refine (parseChecksW.walk W htab t0 hcc0 _ wn0).mono fun e W' ⟨he, bel⟩ => ?_
  subst he
  exact ⟨_, rfl, _, _, _, [], _, [], hW', trodAll_mk1 (shut_bool Tryz.underlying4 _), (trodAll_cons_mk (Below.trod laidOut (by kernel_rfl) (of_decide_eq_true (by kernel_rfl)) k0 bel lt0) trodAll_mk0), rfl, bel.frame _, fun h => by cases h⟩

theorem over : Rows.parseChecksUptoRow.holds Tryz.pinned (Rows.OpenSpec.upto Rows.parseChecksSpec) :=
  OpenClaim.holds_of_cond 4 Tryz.f4 rfl rfl rfl rfl rfl rfl rfl ⟨rfl, rfl, rfl, rfl, rfl⟩ rfl rfl rfl rfl rfl (by kernel_rfl) Tryz.func4 (by kernel_rfl)
    (of_decide_eq_true (by kernel_rfl)) (by unfold Func.isWrapper; first | (rw [if_pos (by decide +kernel)]; kernel_rfl) | (rw [if_neg (by decide +kernel)]; exact ⟨rfl, rfl⟩))
    (fun os started H enc _ F => lifted os started H enc F)

/-- THE STATEMENT: the tied card -/
theorem proved : Rows.ParseChecksUptoCardSaid :=
  Claim7.holds_tied_plain_at .later [] [.data, .data, .data] true (true, "20cee3b473a2713218cc8b83c3c500305a738b84e302de7a2f57dd68eb8f444b") true
    over (fun _ h => by cases h) (by kernel_rfl) (fun _ h => by cases h) parseChecksUpto_row_tie rfl ⟨rfl, rfl⟩ (by kernel_rfl) rfl
    (fun f fn hf hfn => by
      obtain rfl : f = 4 := Option.some.inj ((show Tryz.prog.funcNamed "junto/juntolaw09.ParseChecks" = some 4 by kernel_rfl).symm.trans hf) |>.symm
      obtain rfl : fn = Tryz.f4 := (Option.some.inj (Tryz.func4.symm.trans hfn)).symm
      refine ⟨by kernel_rfl, fun j t ht => ?_⟩
      rw [Tryz.params4] at ht
      match j, ht with
      | 0, ht =>
        obtain rfl : t = 25 := by simpa using ht.symm
        exact (show Tryz.prog.wantsStandIn 25 = false by kernel_rfl)
      | (k + 1), ht => simp at ht)
    (by kernel_rfl)
end Go.Proofs.YtngpedcihajepaaGreatDoor.parseChecks
