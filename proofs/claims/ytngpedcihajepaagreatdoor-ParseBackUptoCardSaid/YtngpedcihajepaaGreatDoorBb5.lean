/-
  The statement of the law ParseBack at this commit, as a tied card, where what it reads is of bulk at most 1048576: the call returns true, and each argument reads afterwards as it read before. Three tables of the standard library start as the program's text lays them. (Merged out of the texts ParseBackW ParseBack)
-/
import Derived.Maps.Own
import Derived.Maps.OwnOps
import Derived.Maps.Views
import Derived.Lib.MakeNoZero
import Derived.WalkKit
import Derived.Laws.IdiomCopy
import Derived.Laws.BitsLemmas
import Derived.Shelf.Strings.BuilderX
import Derived.OwnWalk
import Derived.WalkMore
import Derived.Deep.LoopGhost
import Derived.Lib.MinMax
import Derived.Test.YtngpedcihajepaaGreatDoorShelf
import Derived.Deep.AppendLies
import Derived.Deep.RegionHeld3
import Derived.ProofKit
import Derived.ChangeMaps5
import Derived.Still
import Derived.Shelf.LaysM
import Derived.Shelf.Strconv.Itoa1
import Derived.Shelf.Strconv.Itoa2
import Derived.Lib.Walk
import Derived.Lib.ItoaMem
import Derived.BigCall
import Derived.BigGuard
import Derived.Lib.Builder
import Derived.Lib.AppendStr
import Derived.Lib.UnsafeStr
import Derived.Laws.Externs
import Derived.Test.YtngpedcihajepaaGreatDoorProg
import Derived.WalkSpells
import Derived.WalkLawsBesides
import Derived.Lib.Hide
import Derived.Below
import Derived.Deep.QuietTactic
import Derived.BigQuiet
import Derived.WalkSmall
import Derived.Defers
import Derived.Recover
import Derived.Test.YtngpedcihajepaaGreatDoorRows
import Derived.Test.YtngpedcihajepaaGreatDoorTie
import Derived.Test.YtngpedcihajepaaGreatDoorCards
import Derived.OpenShut
import Derived.ShutString
import Derived.ChangeOld
import Derived.SizedLaws
import Derived.LaidMore
import Derived.Lay
import Derived.Lib.LaidTab
import Derived.SevenTiedAt
import Derived.Stop.Joined
import Derived.Deep.Slices
import Derived.Deep.Fields
import Derived.ChangeSame
import Derived.LaidLaws
import Derived.Deep.CondSized
import Derived.Handed
import Derived.Test.YtngpedcihajepaaGreatDoorBa1
import Derived.Test.YtngpedcihajepaaGreatDoorBa2
import Derived.Test.YtngpedcihajepaaGreatDoorBa3
import Derived.Test.YtngpedcihajepaaGreatDoorBa4
import Derived.Test.YtngpedcihajepaaGreatDoorBa5
import Derived.Test.YtngpedcihajepaaGreatDoorBa6
import Derived.Test.YtngpedcihajepaaGreatDoorBa7
import Derived.Test.YtngpedcihajepaaGreatDoorBa8
import Derived.Test.YtngpedcihajepaaGreatDoorBa9
import Derived.Test.YtngpedcihajepaaGreatDoorBa10
import Derived.Test.YtngpedcihajepaaGreatDoorBa11
import Derived.Test.YtngpedcihajepaaGreatDoorBa12
import Derived.Test.YtngpedcihajepaaGreatDoorBa13
import Derived.Test.YtngpedcihajepaaGreatDoorBa14
import Derived.Test.YtngpedcihajepaaGreatDoorBa15
import Derived.Test.YtngpedcihajepaaGreatDoorBa16
import Derived.Test.YtngpedcihajepaaGreatDoorBa17
import Derived.Test.YtngpedcihajepaaGreatDoorBb1
import Derived.Test.YtngpedcihajepaaGreatDoorBb2
import Derived.Test.YtngpedcihajepaaGreatDoorBb3
import Derived.Test.YtngpedcihajepaaGreatDoorBb4
namespace Go.Proofs.YtngpedcihajepaaGreatDoor
open Go.RowKit
set_option linter.unusedVariables false
set_option linter.unusedSimpArgs false
set_option maxRecDepth 100000
theorem Laid9.cellsB {w : World} {x : V9} {W : World} (h : Laid9 w x W) : W.cell? ⟨w.heap.size, 0, none⟩ = some (.int .i64 x.kind) ∧ W.cell? ⟨w.heap.size, 1, none⟩ = some (.string x.text) ∧ W.cell? ⟨w.heap.size, 2, none⟩ = some (.int .u64 (x.num : Nat)) ∧ W.cell? ⟨w.heap.size, 3, none⟩ = some (.slice x.ka x.kn x.kc) := ⟨h.c0, h.c1, h.c2, h.c3⟩
namespace parseBackW
set_option maxHeartbeats 4000000 in
theorem walk (W : World) (htab : Tab9 W) (t : M.Tree) (hc : M.count t ≤ 1048576) (v : Value) (hv : NodeV W v t) :
    Calls Tryz.prog 6 #[v] W fun e w' => e = .returned (.bool true) ∧ Below W.heap.size W w' := by
  have hud : ∀ b : Bool, undef ≠ Value.bool b := fun b h => by cases h
  have HTB := Lib.hid htab
  obtain ⟨x0, rfl⟩ := hv.v9e
  have L0 := Lib.hid (Laid9.start W x0)
  have HN := Lib.hid hv
  have TX := Lib.hid (text9_any t (by omega) _ (put9z W x0) (hv.below L0.out.below) (htab.below L0.out.below))
  have AL := Lib.hid fun W' (hb : Below W.heap.size W W') => alive9_any W' (HTB.out.below hb)
  clear hv htab hc
  go_enter Tryz.func6, Tryz.ntmps6
  go_wp2_with fail
  (with_reducible refine (TX.out).mono ?_)
  rintro e w1 ⟨⟨X, rfl, hX⟩, hb⟩
  have L1 := Lib.hid (L0.out.next hb)
  have B1 := Lib.hid (L0.out.below.trans (hb.mono L0.out.below.size))
  clear hb TX
  by_cases hT : M.textE t = 0
  · rw [hT, if_pos rfl] at hX
    rw [hT]
    have hck : M.checkE t = 0 := by
      unfold M.textE at hT
      split at hT
      · rename_i h; exact h
      · exact hT
    have hXl : (M.progT t).length ≤ 20000 := by
      unfold M.textE at hT
      rw [if_pos hck] at hT
      split at hT
      · cases hT
      · omega
    have hXs : X.size ≤ 20000 := by rw [← M.bs_len, hX]; exact hXl
    have PB := Lib.hid (parse_any X w1 (by omega))
    have OP := Lib.hid fun W' => open9_any X W' (by omega)
    obtain ⟨h, hbal, hlo, hhi⟩ := parse_prog hck hXl
    rw [hX, M.openI_bal hbal] at OP
    have HX := Lib.hid hX
    clear hbal hX hXl hT hck
    go_wp2_with fail
    (with_reducible refine (PB.out).mono ?_)
    rintro e w3 ⟨nv, at3, E3, t3, rfl, hn3, hb, hI3⟩
    obtain ⟨x3, rfl⟩ := hn3.v9e
    have L3 := Lib.hid (Laid9.start w3 x3)
    have L1c := Lib.hid ((L1.out.next hb).next L3.out.below)
    have B3 := Lib.hid ((B1.out.trans (hb.mono B1.out.size)).trans (L3.out.below.mono (Nat.le_trans B1.out.size hb.size)))
    have HN3 := Lib.hid (hn3.below L3.out.below)
    rw [HX.out] at hI3
    obtain ⟨a0, a1, a2, a3⟩ := L1c.out.cellsB
    obtain ⟨d0, d1, d2, d3⟩ := L3.out.cellsB
    clear hb hn3
    by_cases h200 : h ≤ 200
    · obtain ⟨rfl, rfl, rfl⟩ := hI3.one (hlo h200)
      have hgt : decide ((h : Int) > 200) = false := by rw [decide_eq_false_iff_not]; omega
      have SM := Lib.hid fun W' (hb : Below (put9z w3 x3).heap.size (put9z w3 x3) W') => rsameN_ind _ t3 (Nat.le_refl _) _ _ W' (HN3.out.below hb) (HN.out.below (B3.out.trans (hb.mono B3.out.size)))
      clear hI3 hlo hhi h200
      go_wp2_with fail
      (with_reducible refine (OP.out _).mono ?_)
      rintro e w' ⟨rfl, rfl⟩
      go_wp2_with fail
      (with_reducible refine (SM.out _ (Below.refl _ _)).mono ?_)
      rintro e w5 ⟨rfl, hb5⟩
      have B5 := Lib.hid (B3.out.trans (hb5.mono B3.out.size))
      clear hb5
      go_wp2_with fail
      (with_reducible refine (AL.out _ B5.out).mono ?_)
      rintro e w7 ⟨rfl, hb7⟩
      have B7 := Lib.hid (B5.out.trans (hb7.mono B5.out.size))
      clear hb7
      go_wp2_with fail
      go_ret
      exact ⟨by first | rfl | (simp; done), B7.out⟩
    · obtain ⟨q, hq⟩ := hhi (by omega)
      obtain ⟨rfl, rfl, rfl⟩ := hI3.one hq
      have hgt : decide ((h : Int) > 200) = true := by rw [decide_eq_true_eq]; omega
      clear hI3 hlo hhi h200 hq
      go_wp2_with fail
      (with_reducible refine (OP.out _).mono ?_)
      rintro e w' ⟨rfl, rfl⟩
      go_wp2_with fail
      (with_reducible refine (AL.out _ B3.out).mono ?_)
      rintro e w7 ⟨rfl, hb7⟩
      have B7 := Lib.hid (B3.out.trans (hb7.mono B3.out.size))
      clear hb7
      go_wp2_with fail
      go_ret
      exact ⟨by first | rfl | (simp; done), B7.out⟩
  · rw [if_neg hT] at hX
    have hne : (M.textE t != 0) = true := by rw [bne_iff_ne]; exact hT
    obtain rfl : X = ⟨#[]⟩ := M.bs_inj hX
    obtain ⟨E, eE⟩ : ∃ E, E = M.textE t := ⟨_, rfl⟩
    rw [← eE] at hne ⊢
    clear hT hX eE
    go_wp2_with fail
    (with_reducible refine (AL.out _ B1.out).mono ?_)
    rintro e w7 ⟨rfl, hb7⟩
    have B7 := Lib.hid (B1.out.trans (hb7.mono B1.out.size))
    clear hb7
    go_wp2_with fail
    go_ret
    exact ⟨by first | rfl | (simp; done), B7.out⟩
end parseBackW
end Go.Proofs.YtngpedcihajepaaGreatDoor
namespace Go.Proofs.YtngpedcihajepaaGreatDoor.parseBack
open Go.ChangeShapes Go.WideShapes Go.ChangeAt Go.RowKit
set_option linter.unusedVariables false
theorem own : ownKnob Tryz.prog.godebug = none := by kernel_rfl
theorem laidOut : laidOutB Tryz.prog = true := by kernel_rfl
theorem tab_of {W : World} (h : laidMetH Tryz.prog Rows.parseBackUptoRow.laid W) : Lib.TabIs Tryz.prog W "internal/strconv.uint64pow10" .u64 Lib.pow10Tab := by
  rw [MakeChecks.laidMetH_plain _ _ _ (by kernel_rfl)] at h
  obtain ⟨ps, ⟨g0, t0, cs0, f0, p0, q0, hg0, ht0, hv0, hd0, ⟨g1, t1, cs1, f1, p1, q1, hg1, ht1, hv1, hd1, ⟨g2, t2, cs2, f2, p2, q2, hg2, ht2, hv2, hd2, _, _⟩, _⟩, _⟩, _, _⟩ := h
  obtain rfl := Option.some.inj ((show Tryz.prog.globalNamed "internal/strconv.uint64pow10" = some 1 by kernel_rfl).symm.trans hg2)
  obtain rfl := Option.some.inj ((show (Tryz.prog.globals[1]?).map (·.type) = some 135 by kernel_rfl).symm.trans ht2)
  have e := Lib.cells_of_tab (k := .u64) (zs := Lib.pow10Tab) Tryz.underlying135 Tryz.underlying22 (by kernel_rfl) (by kernel_rfl) hd2
  unfold Lib.TabIs
  rw [hv2, ← e]

set_option maxRecDepth 100000 in
theorem lifted (os : Os) (started : os.Started) (H : Type) (enc : TypeId × Value → H) (F : Stop.Interp) :
    ReturnsInHanded {} Tryz.checked os 6 .any (fun w args => ((Rows.OpenSpec.upto Rows.parseBackSpec).pre enc Tryz.prog Tryz.f6 Rows.parseBackUptoRow.domain false w args ∧ laidMetH Tryz.prog Rows.parseBackUptoRow.laid w) ∧ sizedMet enc Tryz.prog Tryz.f6 (Rows.OpenSpec.upto Rows.parseBackSpec) false w args)
      (((Rows.OpenSpec.upto Rows.parseBackSpec).at F).post enc Tryz.prog Tryz.f6 false true false false) := by
  refine returns_cond_and (C := Tryz.checked) (s := (Rows.OpenSpec.upto Rows.parseBackSpec)) (k := Rows.uptoSmall) rfl (X := fun w _ => laidMetH Tryz.prog Rows.parseBackUptoRow.laid w) (fun _ _ _ hh h => h.of_heap hh) own started (by kernel_rfl) Tryz.func6
    (witness_cond (enc := enc) (C := Tryz.checked) (os := os) (s := (Rows.OpenSpec.upto Rows.parseBackSpec)) (k := Rows.uptoSmall) rfl (X := fun w _ => laidMetH Tryz.prog Rows.parseBackUptoRow.laid w) false (World.laidAll Tryz.prog os Rows.parseBackUptoRow.laid) #[.agg #[.int .i64 0, .string ⟨#[]⟩, .int .u64 0, .slice none 0 0]] 8 (World.laidAll_os _ _ _)
      (World.shaped_of_ZipB (by kernel_rfl) (by kernel_rfl)) (by kernel_rfl) (x := ([.agg [.lit (.int .i64 0), .lit (.string []), .lit (.int .u64 0), .nil]], [], [])) (by kernel_rfl) rfl (by kernel_rfl) (by kernel_rfl)
      (by rw [MakeChecks.laidMetH_plain _ _ _ (by kernel_rfl)]; exact laidMet_laidAll _ (by kernel_rfl) (by kernel_rfl))) ?_
  intro W base args ds gs before hval0 hW hcnd hk hsz0 hL _
  show Calls Tryz.prog 6 args W fun e W' => ∃ v, e = .returned v ∧ Rows.parseBackSpec.post enc Tryz.prog Tryz.f6 false true false false W args v W'
  have hsz : (DataW.weightsEach Tryz.prog (Tryz.f6.params.toList ++ Rows.parseBackSpec.plain.varTypes Tryz.prog) (ds ++ gs)).all (· ≤ reachBytes) = true := hsz0
  have hval : ∀ (j : Nat) t v, Tryz.f6.params[j]? = some t → args[j]? = some v → Value.okWide Tryz.prog W .any base t v := hval0
  have hW' := hW
  obtain ⟨p, q, hA0, hV, rfl, hfz, hnd⟩ := hW
  have hA : DataW.TrodAll enc Tryz.prog W 0 (fun _ => true) true Tryz.f6.params.toList args.toList ds p := hA0
  rw [Tryz.params6] at hA hval hsz
  obtain ⟨v0, vs0, d0, ds0, p0, q0, hargs, rfl, rfl, h0, r0⟩ := trodAll_cons hA
  obtain ⟨rfl, rfl, rfl⟩ := trodAll_nil r0
  obtain rfl : args = #[v0] := by cases args; simp_all
  obtain ⟨rfl, rfl⟩ := trodVars_none hV
  have k0 := h0
  have lt0 : ∀ x ∈ p0, x.block < W.heap.size := by obtain ⟨m, hm⟩ := k0; exact DataW.trod_lt m _ _ _ hm
  obtain ⟨t0, wn0, hc0⟩ := open_tree h0 (by obtain ⟨aa, ea, _⟩ := okWide_struct Tryz.underlying25 (hval 0 25 v0 rfl rfl); exact ⟨aa, ea⟩) (fun n hn => by have := List.all_eq_true.1 hsz _ (DataW.weights_mem_each (j := 0) (t := 25) rfl rfl n hn); simpa using this)
  have hcc0 : M.count t0 ≤ 1048576 := by
    have h1 : Rows.uptoBulkAll ([d0]) ≤ 1048576 := of_decide_eq_true hk
    have h2 := bulk_mem9 (l := ([d0])) (d := d0) (by simp)
    omega
  have htab := tab_of hL
  clear hA0 hval0 hsz0 hsz
  refine (parseBackW.walk W htab t0 hcc0 _ wn0).mono fun e W' ⟨he, bel⟩ => ?_
  subst he
  exact ⟨_, rfl, _, _, _, [], _, [], hW', trodAll_mk1 (shut_bool Tryz.underlying4 _), (trodAll_cons_mk (Below.trod laidOut (by kernel_rfl) (of_decide_eq_true (by kernel_rfl)) k0 bel lt0) trodAll_mk0), rfl, bel.frame _, fun h => by cases h⟩

theorem over : Rows.parseBackUptoRow.holds Tryz.pinned (Rows.OpenSpec.upto Rows.parseBackSpec) :=
  OpenClaim.holds_of_cond 6 Tryz.f6 rfl rfl rfl rfl rfl rfl rfl ⟨rfl, rfl, rfl, rfl, rfl⟩ rfl rfl rfl rfl rfl (by kernel_rfl) Tryz.func6 (by kernel_rfl)
    (of_decide_eq_true (by kernel_rfl)) (by unfold Func.isWrapper; first | (rw [if_pos (by decide +kernel)]; kernel_rfl) | (rw [if_neg (by decide +kernel)]; exact ⟨rfl, rfl⟩))
    (fun os started H enc _ F => lifted os started H enc F)

/-- THE STATEMENT: the tied card -/
theorem proved : Rows.ParseBackUptoCardSaid :=
  Claim7.holds_tied_plain_at .later [] [.data, .data, .data] true (true, "20cee3b473a2713218cc8b83c3c500305a738b84e302de7a2f57dd68eb8f444b") true
    over (fun _ h => by cases h) (by kernel_rfl) (fun _ h => by cases h) parseBackUpto_row_tie rfl ⟨rfl, rfl⟩ (by kernel_rfl) rfl
    (fun f fn hf hfn => by
      obtain rfl : f = 6 := Option.some.inj ((show Tryz.prog.funcNamed "junto/juntolaw09.ParseBack" = some 6 by kernel_rfl).symm.trans hf) |>.symm
      obtain rfl : fn = Tryz.f6 := (Option.some.inj (Tryz.func6.symm.trans hfn)).symm
      refine ⟨by kernel_rfl, fun j t ht => ?_⟩
      rw [Tryz.params6] at ht
      match j, ht with
      | 0, ht =>
        obtain rfl : t = 25 := by simpa using ht.symm
        exact (show Tryz.prog.wantsStandIn 25 = false by kernel_rfl)
      | (k + 1), ht => simp at ht)
    (by kernel_rfl)
end Go.Proofs.YtngpedcihajepaaGreatDoor.parseBack
