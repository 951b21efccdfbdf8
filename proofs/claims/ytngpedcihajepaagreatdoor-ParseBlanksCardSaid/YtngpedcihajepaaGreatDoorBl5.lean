/-
  The statement of the law ParseBlanks at this commit, as a tied card, for every input: the call returns true, and each argument reads afterwards as it read before. Three tables of the standard library start as the program's text lays them. (Merged out of the texts ParseBlanksW ParseBlanks)
-/
import Derived.WalkKit
import Derived.ProofKit
import Derived.OpenShut
import Derived.SizedLaws
import Derived.ChangeSlices
import Derived.ChangeMaps5
import Derived.OwnWalk
import Derived.Below
import Derived.WalkMore
import Derived.Deep.LoopGhost
import Derived.Lib.MinMax
import Derived.Defers
import Derived.Recover
import Derived.Test.YtngpedcihajepaaGreatDoorProg
import Derived.Deep.RegionHeld3
import Derived.Still
import Derived.Lib.Builder
import Derived.Lib.AppendStr
import Derived.Lib.UnsafeStr
import Derived.Laws.Externs
import Derived.Test.YtngpedcihajepaaGreatDoorShelf
import Derived.Maps.Own
import Derived.Maps.OwnOps
import Derived.Maps.Views
import Derived.Lib.MakeNoZero
import Derived.Laws.IdiomCopy
import Derived.Laws.BitsLemmas
import Derived.Shelf.Strings.BuilderX
import Derived.WalkSpells
import Derived.WalkLawsBesides
import Derived.Lib.Hide
import Derived.Deep.QuietTactic
import Derived.BigQuiet
import Derived.Deep.AppendLies
import Derived.Shelf.LaysM
import Derived.Shelf.Strconv.Itoa1
import Derived.Shelf.Strconv.Itoa2
import Derived.Lib.Walk
import Derived.Lib.ItoaMem
import Derived.BigCall
import Derived.BigGuard
import Derived.WalkSmall
import Derived.Test.YtngpedcihajepaaGreatDoorRows
import Derived.Test.YtngpedcihajepaaGreatDoorTie
import Derived.Test.YtngpedcihajepaaGreatDoorCards
import Derived.ShutString
import Derived.ChangeOld
import Derived.LaidMore
import Derived.Lay
import Derived.Lib.LaidTab
import Derived.SevenTiedAt
import Derived.Stop.Joined
import Derived.Deep.Slices
import Derived.Deep.Fields
import Derived.ChangeSame
import Derived.LaidLaws
import Derived.Deep.CondSized
import Derived.Handed
import Derived.Test.YtngpedcihajepaaGreatDoorBa1
import Derived.Test.YtngpedcihajepaaGreatDoorBa2
import Derived.Test.YtngpedcihajepaaGreatDoorBa3
import Derived.Test.YtngpedcihajepaaGreatDoorBa4
import Derived.Test.YtngpedcihajepaaGreatDoorBa5
import Derived.Test.YtngpedcihajepaaGreatDoorBa6
import Derived.Test.YtngpedcihajepaaGreatDoorBa7
import Derived.Test.YtngpedcihajepaaGreatDoorBa8
import Derived.Test.YtngpedcihajepaaGreatDoorBa9
import Derived.Test.YtngpedcihajepaaGreatDoorBa10
import Derived.Test.YtngpedcihajepaaGreatDoorBa11
import Derived.Test.YtngpedcihajepaaGreatDoorBa12
import Derived.Test.YtngpedcihajepaaGreatDoorBa13
import Derived.Test.YtngpedcihajepaaGreatDoorBa14
import Derived.Test.YtngpedcihajepaaGreatDoorBa15
import Derived.Test.YtngpedcihajepaaGreatDoorBa16
import Derived.Test.YtngpedcihajepaaGreatDoorBa17
import Derived.Test.YtngpedcihajepaaGreatDoorBl1
import Derived.Test.YtngpedcihajepaaGreatDoorBl2
import Derived.Test.YtngpedcihajepaaGreatDoorBl3
import Derived.Test.YtngpedcihajepaaGreatDoorBl4
namespace Go.Proofs.YtngpedcihajepaaGreatDoor
open Go.RowKit
set_option linter.unusedVariables false
set_option linter.unusedSimpArgs false
set_option maxRecDepth 100000
theorem Laid9.cellsL {w : World} {x : V9} {W : World} (h : Laid9 w x W) : W.cell? ⟨w.heap.size, 0, none⟩ = some (.int .i64 x.kind) ∧ W.cell? ⟨w.heap.size, 1, none⟩ = some (.string x.text) ∧ W.cell? ⟨w.heap.size, 2, none⟩ = some (.int .u64 (x.num : Nat)) ∧ W.cell? ⟨w.heap.size, 3, none⟩ = some (.slice x.ka x.kn x.kc) := ⟨h.c0, h.c1, h.c2, h.c3⟩
namespace parseBlanksW
set_option maxHeartbeats 4000000 in
theorem walk (W : World) (htab : Tab9 W) (s : ByteArray) (hs : s.size ≤ 140737488351232) (v : Value) (zs : List Nat) (hz : BytesV W v zs) :
    Calls Tryz.prog 8 #[.string s, v] W fun e w' => e = .returned (.bool true) ∧ Below W.heap.size W w' := by
  have hud : ∀ b : Bool, undef ≠ Value.bool b := fun b h => by cases h
  have HTB := Lib.hid htab
  have AL := Lib.hid fun W' (hb : Below W.heap.size W W') => alive9_any W' (HTB.out.below hb)
  have RD := Lib.hid (rread_any s W hs)
  obtain ⟨hzl, av, capv, rfl, hzc, hzb⟩ := hz
  have HZB := Lib.hid hzb
  clear htab hzb
  go_enter Tryz.func8, Tryz.ntmps8
  go_wp2_with fail
  (with_reducible refine (RD.out).mono ?_)
  rintro e w1 ⟨A, ts, vl, p, E, rfl, hA, hR, hV, hN, hb⟩
  have B1 := Lib.hid hb
  have HR := Lib.hid hR
  by_cases hE : E = 0
  · subst hE
    have hp : p = 0 := by
      rcases hR with ⟨_, _, _, h⟩ | ⟨_, h⟩
      · cases h
      · exact h.zero rfl
    subst hp
    have hV := hV rfl
    have HV := Lib.hid hV
    have hlA := hV.len
    obtain ⟨hAl, al, capl, rfl, hAc, hAb⟩ := hA
    have HAB := Lib.hid hAb
    have hts : ts.length ≤ 20000 := by
      rcases hR with ⟨_, h, _, _⟩ | ⟨h1, h⟩
      · rw [h]; simp
      · have := M.reads_len h
        have h2 := (M.skipL_suffix (M.bs s)).length_le
        omega
    have HTK := Lib.hid (show ∀ t ∈ ts, M.tokB t.kind t.text = true by
      rcases hR with ⟨_, h, _, _⟩ | ⟨_, h⟩
      · rw [h]; intro t ht; cases ht
      · exact h.toks)
    have HLA := Lib.hid hlA
    clear hR hV hN hb hAb hAl
    go_wp2_with fail
    rw [hlA] at hAc
    clear hlA
    go_loopw [8, 29] (fun tS ti wr => ∃ (k : Nat) (S : ByteArray), k ≤ ts.length ∧ ti = .int .i64 k ∧ tS = .string S ∧ M.bs S = M.flat (M.gapP (M.gapAt zs) 0 (ts.take k)) ∧ S.size ≤ 31 * k ∧ Below w1.heap.size w1 wr) (fun _ ti _ => ts.length - (intOf ti).toNat)
    case atStart => exact ⟨0, _, Nat.zero_le _, rfl, rfl, rfl, by decide, Below.refl _ _⟩
    case round =>
      obtain ⟨k, S, hk, rfl, rfl, hS, hSs, hB⟩ := hrel
      have HS := Lib.hid hS
      have HB := Lib.hid hB
      clear hS hB
      by_cases hlt : k < ts.length
      · have hlA : k < A.length := by rw [HLA.out]; exact hlt
        obtain ⟨b, off, rfl, hbl, hcell⟩ := HAB.out (by omega)
        obtain ⟨c0, c1, c2⟩ := hcell k hlA
        obtain ⟨u, hd, g1, g2, g3⟩ := view_get HV.out hlA
        have hut : u ∈ ts := List.mem_of_mem_drop (i := k) (by rw [hd]; simp)
        have htake : ts.take (k + 1) = ts.take k ++ [u] := by
          have h1 : (ts.drop k)[0]? = some u := by rw [hd]; rfl
          rw [List.getElem?_drop, Nat.add_zero] at h1
          rw [List.take_add_one, h1]; rfl
        obtain ⟨T, eT⟩ : ∃ T, T = (A.getD k T8.no).text := ⟨_, rfl⟩
        obtain ⟨kd, ek⟩ : ∃ q, q = (A.getD k T8.no).kind := ⟨_, rfl⟩
        obtain ⟨of, eo⟩ : ∃ q, q = (A.getD k T8.no).off := ⟨_, rfl⟩
        rw [← eT] at c1 g2
        rw [← ek] at c0
        rw [← eo] at c2
        have p0 := (HB.out.cell (p := ⟨b, off + k * 3, none⟩) hbl).trans c0
        have p1 := (HB.out.cell (p := ⟨b, off + k * 3 + 1, none⟩) hbl).trans c1
        have p2 := (HB.out.cell (p := ⟨b, off + k * 3 + 2, none⟩) hbl).trans c2
        have hTs : T.size ≤ 24 := by rw [← M.bs_len, g2]; exact M.tok_24 (HTK.out u hut)
        have HG := Lib.hid (show M.flat (M.gapP (M.gapAt zs) 0 (ts.take (k + 1))) = M.bs S ++ (M.gapAt zs k ++ M.bs T) by
          rw [htake, M.gapP_app, M.flat_app, ← HS.out, Nat.zero_add, List.length_take, Nat.min_eq_left hk, g2]
          congr 1
          rw [M.gapP, M.gapP, M.flat_cons, M.flat_cons, M.flat_nil, List.append_nil]; rfl)
        have hblr : b < wr.heap.size := Nat.lt_of_lt_of_le hbl HB.out.size
        clear hcell c0 c1 c2 hd g1 g2 g3 hut htake eT ek eo
        by_cases hz : k < zs.length
        · obtain ⟨bz, oz, rfl, hbz, hzc2⟩ := HZB.out (by omega)
          obtain ⟨q0, q256⟩ := hzc2 k hz
          obtain ⟨z, ez⟩ : ∃ z, z = zs.getD k 0 := ⟨_, rfl⟩
          rw [← ez] at q0 q256
          have HBW := Lib.hid (B1.out.trans (HB.out.mono B1.out.size))
          have r0 := (HBW.out.cell (p := ⟨bz, oz + k, none⟩) hbz).trans q0
          have hbzr : bz < wr.heap.size := Nat.lt_of_lt_of_le hbz HBW.out.size
          have HGA := Lib.hid (show M.gapAt zs k = M.gapL (z % 5) by unfold M.gapAt; rw [if_pos hz, ez])
          clear hzc2 q0 ez
          obtain ⟨r, er⟩ : ∃ r, r = z % 5 := ⟨_, rfl⟩
          have hr5 : r < 5 := by omega
          have m1 : (z : Int) % 5 = (r : Nat) := by omega
          have m2 : (z : Int).tmod 5 = (r : Nat) := by rw [Int.tmod_eq_emod_of_nonneg (by omega)]; exact m1
          rw [← er] at HGA
          clear er
          rcases (show r = 0 ∨ r = 1 ∨ r = 2 ∨ r = 3 ∨ r = 4 by omega) with rfl | rfl | rfl | rfl | rfl
          · go_wp2_with fail
            go_roundw
            case rel => exact ⟨k + 1, _, by omega, by go_num, rfl, by rw [HG.out, M.bs_append, M.bs_append, HGA.out]; rfl, by rw [M.size_app, M.size_app]; have : ∀ q : Nat, q ≤ 7 → S.size + (q + T.size) ≤ 31 * (k + 1) := (fun q hq => by omega); exact this _ (by decide), (HB.out.trans ((balloc8 wr _).mono HB.out.size)).trans ((balloc8 _ _).mono (by have := HB.out.size; simp; omega))⟩
            case measure => simp [intOf]; omega
          · go_wp2_with fail
            go_roundw
            case rel => exact ⟨k + 1, _, by omega, by go_num, rfl, by rw [HG.out, M.bs_append, M.bs_append, HGA.out]; rfl, by rw [M.size_app, M.size_app]; have : ∀ q : Nat, q ≤ 7 → S.size + (q + T.size) ≤ 31 * (k + 1) := (fun q hq => by omega); exact this _ (by decide), (HB.out.trans ((balloc8 wr _).mono HB.out.size)).trans ((balloc8 _ _).mono (by have := HB.out.size; simp; omega))⟩
            case measure => simp [intOf]; omega
          · go_wp2_with fail
            go_roundw
            case rel => exact ⟨k + 1, _, by omega, by go_num, rfl, by rw [HG.out, M.bs_append, M.bs_append, HGA.out]; rfl, by rw [M.size_app, M.size_app]; have : ∀ q : Nat, q ≤ 7 → S.size + (q + T.size) ≤ 31 * (k + 1) := (fun q hq => by omega); exact this _ (by decide), (HB.out.trans ((balloc8 wr _).mono HB.out.size)).trans ((balloc8 _ _).mono (by have := HB.out.size; simp; omega))⟩
            case measure => simp [intOf]; omega
          · go_wp2_with fail
            go_roundw
            case rel => exact ⟨k + 1, _, by omega, by go_num, rfl, by rw [HG.out, M.bs_append, M.bs_append, HGA.out]; rfl, by rw [M.size_app, M.size_app]; have : ∀ q : Nat, q ≤ 7 → S.size + (q + T.size) ≤ 31 * (k + 1) := (fun q hq => by omega); exact this _ (by decide), (HB.out.trans ((balloc8 wr _).mono HB.out.size)).trans ((balloc8 _ _).mono (by have := HB.out.size; simp; omega))⟩
            case measure => simp [intOf]; omega
          · go_wp2_with fail
            go_roundw
            case rel => exact ⟨k + 1, _, by omega, by go_num, rfl, by rw [HG.out, M.bs_append, M.bs_append, HGA.out]; rfl, by rw [M.size_app, M.size_app]; have : ∀ q : Nat, q ≤ 7 → S.size + (q + T.size) ≤ 31 * (k + 1) := (fun q hq => by omega); exact this _ (by decide), (HB.out.trans ((balloc8 wr _).mono HB.out.size)).trans ((balloc8 _ _).mono (by have := HB.out.size; simp; omega))⟩
            case measure => simp [intOf]; omega
        · have HGA := Lib.hid (show M.gapAt zs k = [32] by unfold M.gapAt; rw [if_neg hz])
          go_wp2_with fail
          go_roundw
          case rel => exact ⟨k + 1, _, by omega, by go_num, rfl, by rw [HG.out, M.bs_append, M.bs_append, HGA.out]; rfl, by rw [M.size_app, M.size_app]; have : ∀ q : Nat, q ≤ 7 → S.size + (q + T.size) ≤ 31 * (k + 1) := (fun q hq => by omega); exact this _ (by decide), HB.out.trans ((balloc8 wr _).mono HB.out.size)⟩
          case measure => simp [intOf]; omega
      · obtain rfl : k = ts.length := by omega
        rw [List.take_length] at HS
        have B2 := Lib.hid (B1.out.trans (HB.out.mono B1.out.size))
        have PA := Lib.hid (parse_any s wr hs)
        have PB := Lib.hid fun W' => parse_any S W' (by omega)
        go_wp2_with fail
        (with_reducible refine (PA.out).mono ?_)
        rintro e w3 ⟨nv, a3, E3, t3, rfl, hn3, hb, hI3⟩
        obtain ⟨x3, rfl⟩ := hn3.v9e
        have L3 := Lib.hid (Laid9.start w3 x3)
        have B3 := Lib.hid ((B2.out.trans (hb.mono B2.out.size)).trans (L3.out.below.mono (Nat.le_trans B2.out.size hb.size)))
        have N3 := Lib.hid (hn3.below L3.out.below)
        clear hb hn3 PA
        go_wp2_with fail
        (refine (PB.out (put9z w3 x3)).mono ?_)
        rintro e w4 ⟨nv, a4, E4, t4, rfl, hn4, hb, hI4⟩
        obtain ⟨x4, rfl⟩ := hn4.v9e
        have L4 := Lib.hid (Laid9.start w4 x4)
        have L3c := Lib.hid ((L3.out.next hb).next L4.out.below)
        have N3c := Lib.hid ((N3.out.below hb).below L4.out.below)
        have N4 := Lib.hid (hn4.below L4.out.below)
        have B4 := Lib.hid ((B3.out.trans (hb.mono B3.out.size)).trans (L4.out.below.mono (Nat.le_trans B3.out.size hb.size)))
        obtain ⟨b0, b1, b2, b3⟩ := L3c.out.cellsL
        obtain ⟨d0, d1, d2, d3⟩ := L4.out.cellsL
        have hlt3 : w3.heap.size < w4.heap.size := Nat.lt_of_lt_of_le L3.out.lt hb.size
        clear hb hn4
        by_cases hbig : 20000 < S.size
        · have hg : decide ((S.size : Int) > 20000) = true := by rw [decide_eq_true_eq]; omega
          clear hI3 hI4
          go_wp2_with fail
          (with_reducible refine (AL.out _ B4.out).mono ?_)
          rintro e w9 ⟨rfl, hb9⟩
          have B9 := Lib.hid (B4.out.trans (hb9.mono B4.out.size))
          clear hb9
          go_wp2_with fail
          go_ret
          exact ⟨by first | rfl | (simp; done), B9.out⟩
        · have hg : decide ((S.size : Int) > 20000) = false := by rw [decide_eq_false_iff_not]; omega
          rw [HS.out] at hI4
          obtain ⟨rfl, rfl⟩ := parse_gaps HR.out (M.gapAt_ok zs) hI3 hI4 (by rw [← HS.out, M.bs_len]; omega)
          have SM := Lib.hid fun W' (hb : Below (put9z w4 x4).heap.size (put9z w4 x4) W') => rsameN_ind _ t3 (Nat.le_refl _) _ _ W' (N3c.out.below hb) (N4.out.below hb)
          clear hI3 hI4
          go_wp2_with fail
          (refine (SM.out _ (Below.refl _ _)).mono ?_)
          rintro e w8 ⟨rfl, hb8⟩
          have B8 := Lib.hid (B4.out.trans (hb8.mono B4.out.size))
          clear hb8
          go_wp2_with fail
          (with_reducible refine (AL.out _ B8.out).mono ?_)
          rintro e w9 ⟨rfl, hb9⟩
          have B9 := Lib.hid (B8.out.trans (hb9.mono B8.out.size))
          clear hb9
          go_wp2_with fail
          go_ret
          exact ⟨by first | rfl | (simp; done), B9.out⟩
  · have hne : (E != 0) = true := by rw [bne_iff_ne]; exact hE
    have hvn : ∃ (A3 : Option Addr) (n3 c3 : Nat), vl = .slice A3 n3 c3 := by
      obtain ⟨_, a, cap, rfl, _⟩ := hA
      exact ⟨_, _, _, rfl⟩
    obtain ⟨A3, n3, c3, rfl⟩ := hvn
    clear hE hA hV hN hR hb
    go_wp2_with fail
    (with_reducible refine (AL.out _ B1.out).mono ?_)
    rintro e w9 ⟨rfl, hb9⟩
    have B9 := Lib.hid (B1.out.trans (hb9.mono B1.out.size))
    clear hb9
    go_wp2_with fail
    go_ret
    exact ⟨by first | rfl | (simp; done), B9.out⟩
end parseBlanksW
end Go.Proofs.YtngpedcihajepaaGreatDoor
namespace Go.Proofs.YtngpedcihajepaaGreatDoor.parseBlanks
open Go.ChangeShapes Go.WideShapes Go.ChangeAt Go.RowKit
set_option linter.unusedVariables false
theorem own : ownKnob Tryz.prog.godebug = none := by kernel_rfl
theorem laidOut : laidOutB Tryz.prog = true := by kernel_rfl
theorem tab_of {W : World} (h : laidMetH Tryz.prog Rows.parseBlanksRow.laid W) : Lib.TabIs Tryz.prog W "internal/strconv.uint64pow10" .u64 Lib.pow10Tab := by
  rw [MakeChecks.laidMetH_plain _ _ _ (by kernel_rfl)] at h
  obtain ⟨ps, ⟨g0, t0, cs0, f0, p0, q0, hg0, ht0, hv0, hd0, ⟨g1, t1, cs1, f1, p1, q1, hg1, ht1, hv1, hd1, ⟨g2, t2, cs2, f2, p2, q2, hg2, ht2, hv2, hd2, _, _⟩, _⟩, _⟩, _, _⟩ := h
  obtain rfl := Option.some.inj ((show Tryz.prog.globalNamed "internal/strconv.uint64pow10" = some 1 by kernel_rfl).symm.trans hg2)
  obtain rfl := Option.some.inj ((show (Tryz.prog.globals[1]?).map (·.type) = some 135 by kernel_rfl).symm.trans ht2)
  have e := Lib.cells_of_tab (k := .u64) (zs := Lib.pow10Tab) Tryz.underlying135 Tryz.underlying22 (by kernel_rfl) (by kernel_rfl) hd2
  unfold Lib.TabIs
  rw [hv2, ← e]

set_option maxRecDepth 100000 in
theorem lifted (os : Os) (started : os.Started) (H : Type) (enc : TypeId × Value → H) :
    ReturnsInHanded {} Tryz.checked os 8 .any (fun w args => (Rows.parseBlanksSpec.pre enc Tryz.prog Tryz.f8 Rows.parseBlanksRow.domain false w args ∧ laidMetH Tryz.prog Rows.parseBlanksRow.laid w) ∧ sizedMet enc Tryz.prog Tryz.f8 (OpenSpec.ofChange Rows.parseBlanksSpec) false w args)
      (Rows.parseBlanksSpec.post enc Tryz.prog Tryz.f8 false true false false) := by
  refine returnsInHanded_of_change_and (C := Tryz.checked) (X := fun w _ => laidMetH Tryz.prog Rows.parseBlanksRow.laid w) (fun _ _ _ hh h => h.of_heap hh) own started (by kernel_rfl) Tryz.func8
    (ChangeSpec.witness_shaped (enc := enc) (C := Tryz.checked) (os := os) (X := fun w _ => laidMetH Tryz.prog Rows.parseBlanksRow.laid w) false (World.laidAll Tryz.prog os Rows.parseBlanksRow.laid) #[.string ⟨#[]⟩, .slice none 0 0] 8 (World.laidAll_os _ _ _)
      (World.shaped_of_ZipB (by kernel_rfl) (by kernel_rfl)) (by kernel_rfl) (by kernel_rfl) (by kernel_rfl)
      (by rw [MakeChecks.laidMetH_plain _ _ _ (by kernel_rfl)]; exact laidMet_laidAll _ (by kernel_rfl) (by kernel_rfl))) ?_
  intro W base args ds gs before hval0 hW hcnd hsz0 hL _
  have hsz : (DataW.weightsEach Tryz.prog (Tryz.f8.params.toList ++ Rows.parseBlanksSpec.plain.varTypes Tryz.prog) (ds ++ gs)).all (· ≤ reachBytes) = true := hsz0
  have hval : ∀ (j : Nat) t v, Tryz.f8.params[j]? = some t → args[j]? = some v → Value.okWide Tryz.prog W .any base t v := hval0
  have hW' := hW
  obtain ⟨p, q, hA0, hV, rfl, hfz, hnd⟩ := hW
  have hA : DataW.TrodAll enc Tryz.prog W 0 (fun _ => true) true Tryz.f8.params.toList args.toList ds p := hA0
  rw [Tryz.params8] at hA hval hsz
  obtain ⟨v0, vs0, d0, ds0, p0, q0, hargs, rfl, rfl, h0, r0⟩ := trodAll_cons hA
  obtain ⟨v1, vs1, d1, ds1, p1, q1, rfl, rfl, rfl, h1, r1⟩ := trodAll_cons r0
  obtain ⟨rfl, rfl, rfl⟩ := trodAll_nil r1
  obtain rfl : args = #[v0, v1] := by cases args; simp_all
  obtain ⟨rfl, rfl⟩ := trodVars_none hV
  obtain ⟨s0, rfl, rfl, rfl, ws0⟩ := Go.ChangeMaps.open_string Tryz.underlying9 (hval 0 9 v0 rfl rfl) h0
  have hs0 : s0.size ≤ 140737488351232 := by have := sized_string hsz (j := 0) (t := 9) rfl rfl; simpa [reachBytes] using this
  obtain ⟨a1, len1, cap1, rfl⟩ := okWide_slice Tryz.underlying38 (hval 1 38 v1 rfl rfl)
  have k1 := h1
  have lt1 : ∀ x ∈ p1, x.block < W.heap.size := by obtain ⟨m, hm⟩ := k1; exact DataW.trod_lt m _ _ _ hm
  obtain ⟨z1, wz1⟩ := open_bytes9 rfl h1 (fun n hn => by have := List.all_eq_true.1 hsz _ (DataW.weights_mem_each (j := 1) (t := 38) rfl rfl n hn); simpa using this)
  have htab := tab_of hL
  clear hA0 hval0 hsz0 hsz
  refine (parseBlanksW.walk W htab s0 hs0 _ z1 wz1).mono fun e W' ⟨he, bel⟩ => ?_
  subst he
  exact ⟨_, rfl, _, _, _, [], _, [], hW', trodAll_mk1 (shut_bool Tryz.underlying4 _), (trodAll_cons_mk (Go.ChangeMaps.shut_string Tryz.underlying9 ws0) (trodAll_cons_mk (Below.trod laidOut (by kernel_rfl) (of_decide_eq_true (by kernel_rfl)) k1 bel lt1) trodAll_mk0)), rfl, bel.frame _, fun h => by cases h⟩

theorem over : Rows.parseBlanksRow.holds Tryz.pinned (OpenSpec.ofChange Rows.parseBlanksSpec) :=
  OpenClaim.holds_of_wide 8 Tryz.f8 rfl rfl rfl rfl rfl rfl rfl ⟨rfl, rfl, rfl, rfl, rfl⟩ rfl rfl rfl rfl rfl (by kernel_rfl) Tryz.func8 (by kernel_rfl)
    (of_decide_eq_true (by kernel_rfl)) (by unfold Func.isWrapper; first | (rw [if_pos (by decide +kernel)]; kernel_rfl) | (rw [if_neg (by decide +kernel)]; exact ⟨rfl, rfl⟩))
    (fun os started H enc _ => lifted os started H enc)

/-- THE STATEMENT: the tied card -/
theorem proved : Rows.ParseBlanksCardSaid :=
  Claim7.holds_tied_plain_at .later [] [.data, .data, .data] true (true, "20cee3b473a2713218cc8b83c3c500305a738b84e302de7a2f57dd68eb8f444b") true
    over (fun _ h => by cases h) (by kernel_rfl) (fun _ h => by cases h) parseBlanks_row_tie rfl ⟨rfl, rfl⟩ (by kernel_rfl) rfl
    (fun f fn hf hfn => by
      obtain rfl : f = 8 := Option.some.inj ((show Tryz.prog.funcNamed "junto/juntolaw09.ParseBlanks" = some 8 by kernel_rfl).symm.trans hf) |>.symm
      obtain rfl : fn = Tryz.f8 := (Option.some.inj (Tryz.func8.symm.trans hfn)).symm
      refine ⟨by kernel_rfl, fun j t ht => ?_⟩
      rw [Tryz.params8] at ht
      match j, ht with
      | 0, ht =>
        obtain rfl : t = 9 := by simpa using ht.symm
        exact (show Tryz.prog.wantsStandIn 9 = false by kernel_rfl)
      | 1, ht =>
        obtain rfl : t = 38 := by simpa using ht.symm
        exact (show Tryz.prog.wantsStandIn 38 = false by kernel_rfl)
      | (k + 2), ht => simp at ht)
    (by kernel_rfl)
end Go.Proofs.YtngpedcihajepaaGreatDoor.parseBlanks
