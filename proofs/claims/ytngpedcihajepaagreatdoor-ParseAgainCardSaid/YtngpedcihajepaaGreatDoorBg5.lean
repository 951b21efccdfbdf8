/-
  The statement of the law ParseAgain at this commit, as a tied card, for every input: the call returns true, and each argument reads afterwards as it read before. Three tables of the standard library start as the program's text lays them. (Merged out of the texts ParseAgainW ParseAgain)
-/
import Derived.OwnWalk
import Derived.WalkMore
import Derived.Deep.LoopGhost
import Derived.Deep.RegionHeld3
import Derived.Test.YtngpedcihajepaaGreatDoorShelf
import Derived.Lib.MinMax
import Derived.Test.YtngpedcihajepaaGreatDoorProg
import Derived.WalkKit
import Derived.WalkSpells
import Derived.WalkLawsBesides
import Derived.Lib.Hide
import Derived.Below
import Derived.Deep.QuietTactic
import Derived.BigQuiet
import Derived.Shelf.LaysM
import Derived.Shelf.Strconv.Itoa1
import Derived.Shelf.Strconv.Itoa2
import Derived.Lib.Walk
import Derived.Lib.ItoaMem
import Derived.BigCall
import Derived.BigGuard
import Derived.Defers
import Derived.Recover
import Derived.WalkSmall
import Derived.Maps.Own
import Derived.Maps.OwnOps
import Derived.Maps.Views
import Derived.Lib.Builder
import Derived.Lib.AppendStr
import Derived.Lib.UnsafeStr
import Derived.Laws.Externs
import Derived.Still
import Derived.ProofKit
import Derived.ChangeMaps5
import Derived.Lib.MakeNoZero
import Derived.Laws.IdiomCopy
import Derived.Laws.BitsLemmas
import Derived.Shelf.Strings.BuilderX
import Derived.Deep.AppendLies
import Derived.Test.YtngpedcihajepaaGreatDoorRows
import Derived.Test.YtngpedcihajepaaGreatDoorTie
import Derived.Test.YtngpedcihajepaaGreatDoorCards
import Derived.OpenShut
import Derived.ShutString
import Derived.ChangeOld
import Derived.SizedLaws
import Derived.LaidMore
import Derived.Lay
import Derived.Lib.LaidTab
import Derived.SevenTiedAt
import Derived.Stop.Joined
import Derived.Deep.Slices
import Derived.Deep.Fields
import Derived.ChangeSame
import Derived.LaidLaws
import Derived.Deep.CondSized
import Derived.Handed
import Derived.Test.YtngpedcihajepaaGreatDoorBa1
import Derived.Test.YtngpedcihajepaaGreatDoorBa2
import Derived.Test.YtngpedcihajepaaGreatDoorBa3
import Derived.Test.YtngpedcihajepaaGreatDoorBa4
import Derived.Test.YtngpedcihajepaaGreatDoorBa5
import Derived.Test.YtngpedcihajepaaGreatDoorBa6
import Derived.Test.YtngpedcihajepaaGreatDoorBa7
import Derived.Test.YtngpedcihajepaaGreatDoorBa8
import Derived.Test.YtngpedcihajepaaGreatDoorBa9
import Derived.Test.YtngpedcihajepaaGreatDoorBa10
import Derived.Test.YtngpedcihajepaaGreatDoorBa11
import Derived.Test.YtngpedcihajepaaGreatDoorBa12
import Derived.Test.YtngpedcihajepaaGreatDoorBa13
import Derived.Test.YtngpedcihajepaaGreatDoorBa14
import Derived.Test.YtngpedcihajepaaGreatDoorBa15
import Derived.Test.YtngpedcihajepaaGreatDoorBa16
import Derived.Test.YtngpedcihajepaaGreatDoorBa17
import Derived.Test.YtngpedcihajepaaGreatDoorBg1
import Derived.Test.YtngpedcihajepaaGreatDoorBg2
import Derived.Test.YtngpedcihajepaaGreatDoorBg3
import Derived.Test.YtngpedcihajepaaGreatDoorBg4
namespace Go.Proofs.YtngpedcihajepaaGreatDoor
open Go.RowKit
set_option linter.unusedVariables false
set_option linter.unusedSimpArgs false
set_option maxRecDepth 100000
theorem Laid9.cells9 {w : World} {x : V9} {W : World} (h : Laid9 w x W) : W.cell? ⟨w.heap.size, 0, none⟩ = some (.int .i64 x.kind) ∧ W.cell? ⟨w.heap.size, 1, none⟩ = some (.string x.text) ∧ W.cell? ⟨w.heap.size, 2, none⟩ = some (.int .u64 (x.num : Nat)) ∧ W.cell? ⟨w.heap.size, 3, none⟩ = some (.slice x.ka x.kn x.kc) := ⟨h.c0, h.c1, h.c2, h.c3⟩
namespace parseAgainW
set_option maxHeartbeats 4000000 in
theorem walk (W : World) (htab : Tab9 W) (s : ByteArray) (hs : s.size ≤ 140737488351232) :
    Calls Tryz.prog 7 #[.string s] W fun e w' => e = .returned (.bool true) ∧ Below W.heap.size W w' := by
  have hud : ∀ b : Bool, undef ≠ Value.bool b := fun b h => by cases h
  have HTB := Lib.hid htab
  have PA := Lib.hid (parse_any s W hs)
  clear htab
  go_enter Tryz.func7, Tryz.ntmps7
  go_wp2_with fail
  (with_reducible refine (PA.out).mono ?_)
  rintro e w1 ⟨nv, at1, E, t, rfl, hn, hb, hI⟩
  have HI := Lib.hid hI
  obtain ⟨x1, rfl⟩ := hn.v9e
  have L1 := Lib.hid (Laid9.start w1 x1)
  have HN := Lib.hid hn
  have HB := Lib.hid hb
  have T1 := Lib.hid ((HTB.out.below hb).below L1.out.below)
  have B1 := Lib.hid (hb.trans (L1.out.below.mono hb.size))
  clear hn hb hI PA
  by_cases hE : E = 0
  · subst hE
    have HCK := Lib.hid HI.out.check
    have hcc : M.count t ≤ 20000 := (M.check_zero HCK.out).2.2.2.2.1
    have TX := Lib.hid fun W' (hb : Below w1.heap.size w1 W') => text9_any t (by omega) _ W' (HN.out.below hb) (HTB.out.below (HB.out.trans (hb.mono HB.out.size)))
    go_wp2_with fail
    refine (TX.out (put9z w1 x1) L1.out.below).mono ?_
    rintro e w2 ⟨⟨X, rfl, hX⟩, hb⟩
    have L2 := Lib.hid (L1.out.next hb)
    have B2 := Lib.hid (B1.out.trans (hb.mono B1.out.size))
    clear hb
    by_cases hT : M.textE t = 0
    · rw [hT, if_pos rfl] at hX
      rw [hT]
      have hXl : (M.progT t).length ≤ 20000 := by
        unfold M.textE at hT
        rw [if_pos HCK.out] at hT
        split at hT
        · cases hT
        · omega
      have HX := Lib.hid hX
      have HXL := Lib.hid hXl
      have hXs : X.size ≤ 20000 := by rw [← M.bs_len, hX]; exact hXl
      have PB := Lib.hid (parse_any X w2 (by omega))
      clear hX hXl hT
      go_wp2_with fail
      (with_reducible refine (PB.out).mono ?_)
      rintro e w3 ⟨nv, at3, E3, t3, rfl, hn3, hb, hI3⟩
      obtain ⟨x3, rfl⟩ := hn3.v9e
      have L3 := Lib.hid (Laid9.start w3 x3)
      have L1c := Lib.hid ((L2.out.next hb).next L3.out.below)
      have B3 := Lib.hid ((B2.out.trans (hb.mono B2.out.size)).trans (L3.out.below.mono (Nat.le_trans B2.out.size hb.size)))
      have BW3 := Lib.hid (show Below w1.heap.size w1 (put9z w3 x3) from ((L2.out.below.trans (hb.mono L2.out.below.size))).trans (L3.out.below.mono (Nat.le_trans L2.out.below.size hb.size)))
      have HN3 := Lib.hid (hn3.below L3.out.below)
      have OP := Lib.hid (open9_any X (put9z w3 x3) (by omega))
      have AL := Lib.hid fun W' (hb : Below W.heap.size W W') => alive9_any W' (HTB.out.below hb)
      have CK := Lib.hid fun W' (hb : Below w1.heap.size w1 W') => check9_any t (by omega) _ W' (HN.out.below hb)
      rw [HCK.out] at CK
      obtain ⟨h, hbal, hlo, hhi⟩ := parse_prog HCK.out HXL.out
      rw [HX.out, M.openI_bal hbal] at OP
      rw [HX.out] at hI3
      obtain ⟨a0, a1, a2, a3⟩ := L1c.out.cells9
      obtain ⟨d0, d1, d2, d3⟩ := L3.out.cells9
      clear hb hn3 hbal TX
      by_cases h200 : h ≤ 200
      · obtain ⟨rfl, rfl, rfl⟩ := hI3.one (hlo h200)
        have hgt : decide ((h : Int) > 200) = false := by rw [decide_eq_false_iff_not]; omega
        have SM := Lib.hid fun W' (hb : Below (put9z w3 x3).heap.size (put9z w3 x3) W') => rsameN_ind _ t3 (Nat.le_refl _) _ _ W' (HN3.out.below hb) (HN.out.below (BW3.out.trans (hb.mono BW3.out.size)))
        clear hI3 hlo hhi h200
        go_wp2_with fail
        (with_reducible refine (OP.out).mono ?_)
        rintro e w' ⟨rfl, rfl⟩
        go_wp2_with fail
        (with_reducible refine (SM.out _ (Below.refl _ _)).mono ?_)
        rintro e w5 ⟨rfl, hb5⟩
        have L5 := Lib.hid (L1c.out.next hb5)
        have B5 := Lib.hid (B3.out.trans (hb5.mono B3.out.size))
        have BW5 := Lib.hid (BW3.out.trans (hb5.mono BW3.out.size))
        clear a0 a1 a2 a3 d0 d1 d2 d3 hb5
        obtain ⟨a0, a1, a2, a3⟩ := L5.out.cells9
        go_wp2_with fail
        (with_reducible refine (CK.out _ BW5.out).mono ?_)
        rintro e w6 ⟨rfl, hb6⟩
        have B6 := Lib.hid (B5.out.trans (hb6.mono B5.out.size))
        clear hb6
        go_wp2_with fail
        (with_reducible refine (AL.out _ B6.out).mono ?_)
        rintro e w7 ⟨rfl, hb7⟩
        have B7 := Lib.hid (B6.out.trans (hb7.mono B6.out.size))
        clear hb7
        go_wp2_with fail
        go_ret
        exact ⟨by first | rfl | (simp; done), B7.out⟩
      · have hgt : decide ((h : Int) > 200) = true := by rw [decide_eq_true_eq]; omega
        clear hI3 hlo hhi h200
        go_wp2_with fail
        (with_reducible refine (OP.out).mono ?_)
        rintro e w' ⟨rfl, rfl⟩
        go_wp2_with fail
        (with_reducible refine (CK.out _ BW3.out).mono ?_)
        rintro e w6 ⟨rfl, hb6⟩
        have B6 := Lib.hid (B3.out.trans (hb6.mono B3.out.size))
        clear hb6
        go_wp2_with fail
        (with_reducible refine (AL.out _ B6.out).mono ?_)
        rintro e w7 ⟨rfl, hb7⟩
        have B7 := Lib.hid (B6.out.trans (hb7.mono B6.out.size))
        clear hb7
        go_wp2_with fail
        go_ret
        exact ⟨by first | rfl | (simp; done), B7.out⟩
    · have hT3 : M.textE t = 3 := by
        unfold M.textE at hT ⊢
        rw [if_pos HCK.out] at hT ⊢
        split at hT
        · rename_i h; rw [if_pos h]
        · exact absurd rfl hT
      rw [hT3]
      have AL := Lib.hid fun W' (hb : Below W.heap.size W W') => alive9_any W' (HTB.out.below hb)
      clear hX hT hT3 TX
      go_wp2_with fail
      (with_reducible refine (AL.out _ B2.out).mono ?_)
      rintro e w7 ⟨rfl, hb7⟩
      have B7 := Lib.hid (B2.out.trans (hb7.mono B2.out.size))
      clear hb7
      go_wp2_with fail
      go_ret
      exact ⟨by first | rfl | (simp; done), B7.out⟩
  · have hEn : (E != 0) = true := by rw [bne_iff_ne]; exact hE
    obtain rfl := HI.out.none hE
    have SM := Lib.hid (rsameN_ind _ M.Tree.no (Nat.le_refl _) _ _ (put9z w1 x1) (HN.out.below L1.out.below) (nodeV_no _))
    have AL := Lib.hid fun W' (hb : Below W.heap.size W W') => alive9_any W' (HTB.out.below hb)
    clear hE
    go_wp2_with fail
    (with_reducible refine (SM.out).mono ?_)
    rintro e w5 ⟨rfl, hb5⟩
    have B5 := Lib.hid (B1.out.trans (hb5.mono B1.out.size))
    clear hb5
    go_wp2_with fail
    (with_reducible refine (AL.out _ B5.out).mono ?_)
    rintro e w7 ⟨rfl, hb7⟩
    have B7 := Lib.hid (B5.out.trans (hb7.mono B5.out.size))
    clear hb7
    go_wp2_with fail
    go_ret
    exact ⟨by first | rfl | (simp; done), B7.out⟩
end parseAgainW
end Go.Proofs.YtngpedcihajepaaGreatDoor
namespace Go.Proofs.YtngpedcihajepaaGreatDoor.parseAgain
open Go.ChangeShapes Go.WideShapes Go.ChangeAt Go.RowKit
set_option linter.unusedVariables false
theorem own : ownKnob Tryz.prog.godebug = none := by kernel_rfl
theorem laidOut : laidOutB Tryz.prog = true := by kernel_rfl
theorem tab_of {W : World} (h : laidMetH Tryz.prog Rows.parseAgainRow.laid W) : Lib.TabIs Tryz.prog W "internal/strconv.uint64pow10" .u64 Lib.pow10Tab := by
  rw [MakeChecks.laidMetH_plain _ _ _ (by kernel_rfl)] at h
  obtain ⟨ps, ⟨g0, t0, cs0, f0, p0, q0, hg0, ht0, hv0, hd0, ⟨g1, t1, cs1, f1, p1, q1, hg1, ht1, hv1, hd1, ⟨g2, t2, cs2, f2, p2, q2, hg2, ht2, hv2, hd2, _, _⟩, _⟩, _⟩, _, _⟩ := h
  obtain rfl := Option.some.inj ((show Tryz.prog.globalNamed "internal/strconv.uint64pow10" = some 1 by kernel_rfl).symm.trans hg2)
  obtain rfl := Option.some.inj ((show (Tryz.prog.globals[1]?).map (·.type) = some 135 by kernel_rfl).symm.trans ht2)
  have e := Lib.cells_of_tab (k := .u64) (zs := Lib.pow10Tab) Tryz.underlying135 Tryz.underlying22 (by kernel_rfl) (by kernel_rfl) hd2
  unfold Lib.TabIs
  rw [hv2, ← e]

set_option maxRecDepth 100000 in
theorem lifted (os : Os) (started : os.Started) (H : Type) (enc : TypeId × Value → H) :
    ReturnsInHanded {} Tryz.checked os 7 .any (fun w args => (Rows.parseAgainSpec.pre enc Tryz.prog Tryz.f7 Rows.parseAgainRow.domain false w args ∧ laidMetH Tryz.prog Rows.parseAgainRow.laid w) ∧ sizedMet enc Tryz.prog Tryz.f7 (OpenSpec.ofChange Rows.parseAgainSpec) false w args)
      (Rows.parseAgainSpec.post enc Tryz.prog Tryz.f7 false true false false) := by
  refine returnsInHanded_of_change_and (C := Tryz.checked) (X := fun w _ => laidMetH Tryz.prog Rows.parseAgainRow.laid w) (fun _ _ _ hh h => h.of_heap hh) own started (by kernel_rfl) Tryz.func7
    (ChangeSpec.witness_shaped (enc := enc) (C := Tryz.checked) (os := os) (X := fun w _ => laidMetH Tryz.prog Rows.parseAgainRow.laid w) false (World.laidAll Tryz.prog os Rows.parseAgainRow.laid) #[.string ⟨#[]⟩] 8 (World.laidAll_os _ _ _)
      (World.shaped_of_ZipB (by kernel_rfl) (by kernel_rfl)) (by kernel_rfl) (by kernel_rfl) (by kernel_rfl)
      (by rw [MakeChecks.laidMetH_plain _ _ _ (by kernel_rfl)]; exact laidMet_laidAll _ (by kernel_rfl) (by kernel_rfl))) ?_
  intro W base args ds gs before hval0 hW hcnd hsz0 hL _
  have hsz : (DataW.weightsEach Tryz.prog (Tryz.f7.params.toList ++ Rows.parseAgainSpec.plain.varTypes Tryz.prog) (ds ++ gs)).all (· ≤ reachBytes) = true := hsz0
  have hval : ∀ (j : Nat) t v, Tryz.f7.params[j]? = some t → args[j]? = some v → Value.okWide Tryz.prog W .any base t v := hval0
  have hW' := hW
  obtain ⟨p, q, hA0, hV, rfl, hfz, hnd⟩ := hW
  have hA : DataW.TrodAll enc Tryz.prog W 0 (fun _ => true) true Tryz.f7.params.toList args.toList ds p := hA0
  rw [Tryz.params7] at hA hval hsz
  obtain ⟨v0, vs0, d0, ds0, p0, q0, hargs, rfl, rfl, h0, r0⟩ := trodAll_cons hA
  obtain ⟨rfl, rfl, rfl⟩ := trodAll_nil r0
  obtain rfl : args = #[v0] := by cases args; simp_all
  obtain ⟨rfl, rfl⟩ := trodVars_none hV
  obtain ⟨s0, rfl, rfl, rfl, ws0⟩ := Go.ChangeMaps.open_string Tryz.underlying9 (hval 0 9 v0 rfl rfl) h0
  have hs0 : s0.size ≤ 140737488351232 := by have := sized_string hsz (j := 0) (t := 9) rfl rfl; simpa [reachBytes] using this
  have htab := tab_of hL
  clear hA0 hval0 hsz0 hsz
  refine (parseAgainW.walk W htab s0 hs0).mono fun e W' ⟨he, bel⟩ => ?_
  subst he
  exact ⟨_, rfl, _, _, _, [], _, [], hW', trodAll_mk1 (shut_bool Tryz.underlying4 _), (trodAll_cons_mk (Go.ChangeMaps.shut_string Tryz.underlying9 ws0) trodAll_mk0), rfl, bel.frame _, fun h => by cases h⟩

theorem over : Rows.parseAgainRow.holds Tryz.pinned (OpenSpec.ofChange Rows.parseAgainSpec) :=
  OpenClaim.holds_of_wide 7 Tryz.f7 rfl rfl rfl rfl rfl rfl rfl ⟨rfl, rfl, rfl, rfl, rfl⟩ rfl rfl rfl rfl rfl (by kernel_rfl) Tryz.func7 (by kernel_rfl)
    (of_decide_eq_true (by kernel_rfl)) (by unfold Func.isWrapper; first | (rw [if_pos (by decide +kernel)]; kernel_rfl) | (rw [if_neg (by decide +kernel)]; exact ⟨rfl, rfl⟩))
    (fun os started H enc _ => lifted os started H enc)

/-- THE STATEMENT: the tied card -/
theorem proved : Rows.ParseAgainCardSaid :=
  Claim7.holds_tied_plain_at .later [] [.data, .data, .data] true (true, "20cee3b473a2713218cc8b83c3c500305a738b84e302de7a2f57dd68eb8f444b") true
    over (fun _ h => by cases h) (by kernel_rfl) (fun _ h => by cases h) parseAgain_row_tie rfl ⟨rfl, rfl⟩ (by kernel_rfl) rfl
    (fun f fn hf hfn => by
      obtain rfl : f = 7 := Option.some.inj ((show Tryz.prog.funcNamed "junto/juntolaw09.ParseAgain" = some 7 by kernel_rfl).symm.trans hf) |>.symm
      obtain rfl : fn = Tryz.f7 := (Option.some.inj (Tryz.func7.symm.trans hfn)).symm
      refine ⟨by kernel_rfl, fun j t ht => ?_⟩
      rw [Tryz.params7] at ht
      match j, ht with
      | 0, ht =>
        obtain rfl : t = 9 := by simpa using ht.symm
        exact (show Tryz.prog.wantsStandIn 9 = false by kernel_rfl)
      | (k + 1), ht => simp at ht)
    (by kernel_rfl)
end Go.Proofs.YtngpedcihajepaaGreatDoor.parseAgain
