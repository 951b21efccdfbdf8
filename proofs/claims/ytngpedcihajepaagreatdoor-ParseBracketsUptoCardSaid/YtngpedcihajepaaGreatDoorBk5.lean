/-
  The statement of the law ParseBrackets at this commit, as a tied card, where what it reads is of bulk at most 1048576: the call returns true, and each argument reads afterwards as it read before. Three tables of the standard library start as the program's text lays them. (Merged out of the texts ParseBracketsW ParseBrackets)
-/
import Derived.Lib.MinMax
import Derived.Test.YtngpedcihajepaaGreatDoorProg
import Derived.Test.YtngpedcihajepaaGreatDoorShelf
import Derived.Shelf.LaysM
import Derived.Shelf.Strconv.Itoa1
import Derived.Shelf.Strconv.Itoa2
import Derived.Lib.Walk
import Derived.Lib.ItoaMem
import Derived.WalkKit
import Derived.BigCall
import Derived.BigGuard
import Derived.WalkMore
import Derived.Deep.LoopGhost
import Derived.Deep.RegionHeld3
import Derived.Defers
import Derived.Recover
import Derived.OwnWalk
import Derived.WalkSpells
import Derived.WalkLawsBesides
import Derived.Lib.Hide
import Derived.Below
import Derived.Deep.QuietTactic
import Derived.BigQuiet
import Derived.Lib.Builder
import Derived.Lib.AppendStr
import Derived.Lib.UnsafeStr
import Derived.Laws.Externs
import Derived.Deep.AppendLies
import Derived.Still
import Derived.Maps.Own
import Derived.Maps.OwnOps
import Derived.Maps.Views
import Derived.ProofKit
import Derived.ChangeMaps5
import Derived.Lib.MakeNoZero
import Derived.Laws.IdiomCopy
import Derived.Laws.BitsLemmas
import Derived.Shelf.Strings.BuilderX
import Derived.WalkSmall
import Derived.Test.YtngpedcihajepaaGreatDoorRows
import Derived.Test.YtngpedcihajepaaGreatDoorTie
import Derived.Test.YtngpedcihajepaaGreatDoorCards
import Derived.OpenShut
import Derived.ShutString
import Derived.ChangeOld
import Derived.SizedLaws
import Derived.LaidMore
import Derived.Lay
import Derived.Lib.LaidTab
import Derived.SevenTiedAt
import Derived.Stop.Joined
import Derived.Deep.Slices
import Derived.Deep.Fields
import Derived.ChangeSame
import Derived.LaidLaws
import Derived.Deep.CondSized
import Derived.Handed
import Derived.Test.YtngpedcihajepaaGreatDoorBa1
import Derived.Test.YtngpedcihajepaaGreatDoorBa2
import Derived.Test.YtngpedcihajepaaGreatDoorBa3
import Derived.Test.YtngpedcihajepaaGreatDoorBa4
import Derived.Test.YtngpedcihajepaaGreatDoorBa5
import Derived.Test.YtngpedcihajepaaGreatDoorBa6
import Derived.Test.YtngpedcihajepaaGreatDoorBa7
import Derived.Test.YtngpedcihajepaaGreatDoorBa8
import Derived.Test.YtngpedcihajepaaGreatDoorBa9
import Derived.Test.YtngpedcihajepaaGreatDoorBa10
import Derived.Test.YtngpedcihajepaaGreatDoorBa11
import Derived.Test.YtngpedcihajepaaGreatDoorBa12
import Derived.Test.YtngpedcihajepaaGreatDoorBa13
import Derived.Test.YtngpedcihajepaaGreatDoorBa14
import Derived.Test.YtngpedcihajepaaGreatDoorBa15
import Derived.Test.YtngpedcihajepaaGreatDoorBa16
import Derived.Test.YtngpedcihajepaaGreatDoorBa17
import Derived.Test.YtngpedcihajepaaGreatDoorBk1
import Derived.Test.YtngpedcihajepaaGreatDoorBk2
import Derived.Test.YtngpedcihajepaaGreatDoorBk3
import Derived.Test.YtngpedcihajepaaGreatDoorBk4
namespace Go.Proofs.YtngpedcihajepaaGreatDoor
open Go.RowKit
set_option linter.unusedVariables false
set_option linter.unusedSimpArgs false
set_option maxRecDepth 100000
/-- a row of one node, laid now -/
theorem kids_lit1 {w : World} {G : Nat} {x : V9} {t : M.Tree} (c0 : w.cell? ⟨G, 0, none⟩ = some (.int .i64 x.kind)) (c1 : w.cell? ⟨G, 1, none⟩ = some (.string x.text)) (c2 : w.cell? ⟨G, 2, none⟩ = some (.int .u64 (x.num : Nat))) (c3 : w.cell? ⟨G, 3, none⟩ = some (.slice x.ka x.kn x.kc)) (hn : NodeV w x.val t) : KidsV w (.slice (some ⟨G, 0, none⟩) 1 1) [t] := by
  refine ⟨_, 1, rfl, Nat.le_refl _, by show 1 ≤ 17592186043904; decide, fun _ => ⟨G, 0, rfl, World.block_lt_of_cell? w _ c0, KidsAt.of fun i hi => ?_⟩⟩
  obtain rfl : i = 0 := by simp at hi; omega
  exact NodeV.cells hn c0 c1 c2 c3
theorem Laid9.cellsC {w : World} {x : V9} {W : World} (h : Laid9 w x W) : W.cell? ⟨w.heap.size, 0, none⟩ = some (.int .i64 x.kind) ∧ W.cell? ⟨w.heap.size, 1, none⟩ = some (.string x.text) ∧ W.cell? ⟨w.heap.size, 2, none⟩ = some (.int .u64 (x.num : Nat)) ∧ W.cell? ⟨w.heap.size, 3, none⟩ = some (.slice x.ka x.kn x.kc) := ⟨h.c0, h.c1, h.c2, h.c3⟩
namespace parseBracketsW
set_option maxHeartbeats 4000000 in
theorem walk (W : World) (htab : Tab9 W) (t : M.Tree) (hc : M.count t ≤ 1048576) (v : Value) (hv : NodeV W v t) (k : Nat) (hk : k ≤ 255) :
    Calls Tryz.prog 9 #[v, .int .u8 (k : Nat)] W fun e w' => e = .returned (.bool true) ∧ Below W.heap.size W w' := by
  have hud : ∀ b : Bool, undef ≠ Value.bool b := fun b h => by cases h
  have HTB := Lib.hid htab
  obtain ⟨x0, rfl⟩ := hv.v9e
  have L0 := Lib.hid (Laid9.start W x0)
  have HN := Lib.hid hv
  have AL := Lib.hid fun W' (hb : Below W.heap.size W W') => alive9_any W' (HTB.out.below hb)
  -- the worlds of the literal
  obtain ⟨xl, exl⟩ : ∃ x : V9, x = ⟨3, ⟨#[97]⟩, 0, some ⟨W.heap.size + 1, 0, none⟩, 1, 1⟩ := ⟨_, rfl⟩
  obtain ⟨xi, exi⟩ : ∃ x : V9, x = ⟨1, ⟨#[]⟩, 0, some ⟨W.heap.size + 1 + 1, 0, none⟩, 1, 1⟩ := ⟨_, rfl⟩
  have L1 := Lib.hid (Laid9.start (put9z W x0) x0)
  have L2 := Lib.hid (Laid9.start (put9z (put9z W x0) x0) xl)
  have L3 := Lib.hid (Laid9.start (put9z (put9z (put9z W x0) x0) xl) xi)
  have B3 := Lib.hid (show Below W.heap.size W (put9z (put9z (put9z (put9z W x0) x0) xl) xi) from ((L0.out.below.trans (L1.out.below.mono L0.out.below.size)).trans (L2.out.below.mono (by simp [put9z]; omega))).trans (L3.out.below.mono (by simp [put9z]; omega)))
  have hs1 : (put9z W x0).heap.size = W.heap.size + 1 := by simp [put9z]
  have hs2 : (put9z (put9z W x0) x0).heap.size = W.heap.size + 1 + 1 := by simp [put9z]
  have hs3 : (put9z (put9z (put9z W x0) x0) xl).heap.size = W.heap.size + 1 + 1 + 1 := by simp [put9z]
  have NI := Lib.hid (show NodeV (put9z (put9z (put9z (put9z W x0) x0) xl) xi) (.agg #[.int .i64 1, .string ⟨#[]⟩, .int .u64 0, .slice (some ⟨W.heap.size + 1 + 1, 0, none⟩) 1 1]) (M.letT t) by
    have n0 := hv.below B3.out
    obtain ⟨p0, p1, p2, p3⟩ := ((L1.out.next L2.out.below).next L3.out.below).cellsC
    rw [hs1] at p0 p1 p2 p3
    have k0 := kids_lit1 p0 p1 p2 p3 n0
    obtain ⟨q0, q1, q2, q3⟩ := (L2.out.next L3.out.below).cellsC
    rw [hs2] at q0 q1 q2 q3
    have nl : NodeV (put9z (put9z (put9z (put9z W x0) x0) xl) xi) xl.val (.node 3 [97] 0 [t]) := by
      have ev : xl.val = .agg #[.int .i64 3, .string ⟨#[97]⟩, .int .u64 ((0 : Nat) : Int), .slice (some ⟨W.heap.size + 1, 0, none⟩) 1 1] := by rw [exl]; rfl
      rw [ev]
      exact ⟨⟨#[97]⟩, _, rfl, rfl, (show PartOk 3 0 ⟨#[97]⟩ from ⟨by decide, by decide, by decide⟩), k0⟩
    have k1 := kids_lit1 q0 q1 q2 q3 nl
    exact ⟨⟨#[]⟩, _, rfl, rfl, (show PartOk 1 0 ⟨#[]⟩ from ⟨by decide, by decide, by decide⟩), k1⟩)
  have hcl : M.count (M.letT t) ≤ 1048578 := by unfold M.letT; simp only [M.count, M.countL]; omega
  have TX := Lib.hid (text9_any (M.letT t) (by omega) _ _ NI.out (htab.below B3.out))
  have L3c := Lib.hid L3.out
  rw [exi] at TX B3 NI L3c
  rw [exl] at TX B3 NI L3c hs3
  clear hv htab exl exi
  go_enter Tryz.func9, Tryz.ntmps9
  go_wp2_with fail
  (refine (TX.out).mono ?_)
  rintro e w4 ⟨⟨X, rfl, hX⟩, hb⟩
  have B4 := Lib.hid (B3.out.trans (hb.mono B3.out.size))
  have L4 := Lib.hid (L3c.out.next hb)
  have N4 := Lib.hid (NI.out.below hb)
  have hs3' := hs3
  clear hb TX hs1 hs2
  by_cases hT : M.textE (M.letT t) = 0
  · rw [hT, if_pos rfl] at hX
    rw [hT]
    have hck : M.checkE (M.letT t) = 0 := by
      unfold M.textE at hT
      split at hT
      · rename_i h; exact h
      · exact hT
    have hXl : (M.progT (M.letT t)).length ≤ 20000 := by
      unfold M.textE at hT
      rw [if_pos hck] at hT
      split at hT
      · cases hT
      · omega
    have hXs : X.size ≤ 20000 := by rw [← M.bs_len, hX]; exact hXl
    obtain ⟨h, hbe, hbl⟩ := letT_bal hck
    have OP := Lib.hid fun W' => open9_any X W' (by omega)
    rw [hX, M.openI_bal hbl] at OP
    have HX := Lib.hid hX
    have HCK := Lib.hid hck
    have HBE := Lib.hid hbe
    have hle : h ≤ 20000 := by
      have := hbl.len
      rw [← hX, M.bs_len] at this; omega
    obtain ⟨f0, hf0⟩ := M.letT_check hck
    have hep := M.exprT_pos hf0
    have htl : (M.progT (M.letT t)).length = (M.exprT t).length + 10 := by rw [M.letT_text]; simp
    have hXz : X.size = (M.exprT t).length + 10 := by rw [← M.bs_len, hX, htl]
    have hX11 : decide ((X.size : Int) < 11) = false := by rw [decide_eq_false_iff_not]; omega
    have HXZ := Lib.hid hXz
    clear hX hXl hT hck hbe hbl hf0 hep htl hXz
    go_wp2_with fail
    (with_reducible refine (OP.out _).mono ?_)
    rintro e w' ⟨rfl, rfl⟩
    by_cases h200 : h + k ≤ 200
    · have hgt : decide ((h : Int) + (k : Int) > 200) = false := by rw [decide_eq_false_iff_not]; omega
      have h8n : 8 ≤ X.size := by have := HXZ.out; omega
      have h8i : (8 : Int) ≤ (X.size : Int) := by omega
      have HA := Lib.hid (show M.bs (X.extract 0 8) = [108, 101, 116, 32, 97, 32, 61, 32] by
        rw [M.bs_extract X 0 8 h8n, HX.out, M.letT_text]; simp)
      go_wp2_with fail
      go_loop [8, 39] (fun tt ti => ∃ (i : Nat) (Y : ByteArray), i ≤ k ∧ ti = .int .u8 i ∧ tt = .string Y ∧ M.bs Y = [108, 101, 116, 32, 97, 32, 61, 32] ++ List.replicate i 40) (fun _ ti => k - (intOf ti).toNat)
      case atStart => exact ⟨0, _, Nat.zero_le _, rfl, rfl, by rw [HA.out]; rfl⟩
      case round =>
        obtain ⟨i, Y, hi, rfl, rfl, hY⟩ := hrel
        have HY := Lib.hid hY
        have hYs : Y.size = 8 + i := by rw [← M.bs_len, hY]; simp; omega
        clear hY
        by_cases hlt : i < k
        · go_wp2_with fail
          go_round
          case rel => exact ⟨i + 1, _, by omega, by go_num, rfl, by rw [M.bs_append, HY.out, List.replicate_succ', List.append_assoc]; rfl⟩
          case measure => simp [intOf]; omega
        · obtain rfl : i = k := by omega
          have hz2 : (X.size : Int) - 2 = ((X.size - 2 : Nat) : Int) := by omega
          have h82 : 8 ≤ X.size - 2 := by have := HXZ.out; omega
          have HE := Lib.hid (show M.bs (X.extract 8 (X.size - 2)) = M.exprT t by
            have hxz := HXZ.out
            rw [M.bs_extract X 8 (X.size - 2) (by omega), HX.out, M.letT_text, List.append_assoc, List.drop_left' (by rfl), List.take_left' (by omega)])
          have hEs : (X.extract 8 (X.size - 2)).size ≤ 20000 := by rw [← M.bs_len, HE.out]; have := HXZ.out; omega
          clear hlt hi
          go_wp2_with fail
          go_loop [8, 52] (fun tt ti => ∃ (j : Nat) (Z : ByteArray), j ≤ i ∧ ti = .int .u8 j ∧ tt = .string Z ∧ M.bs Z = [108, 101, 116, 32, 97, 32, 61, 32] ++ List.replicate i 40 ++ M.exprT t ++ List.replicate j 41) (fun _ ti => i - (intOf ti).toNat)
          case atStart => exact ⟨0, _, Nat.zero_le _, rfl, rfl, by rw [M.bs_append, HY.out]; first | (rw [HE.out]; simp; done) | (simp [HE.out]; done)⟩
          case round =>
            obtain ⟨j, Z, hj, rfl, rfl, hZ⟩ := hrel
            have HZ := Lib.hid hZ
            have hZs : Z.size = X.size - 2 + i + j := by
              have := HXZ.out
              rw [← M.bs_len, hZ]; simp; omega
            clear hZ
            by_cases hlt : j < i
            · go_wp2_with fail
              go_round
              case rel => exact ⟨j + 1, _, by omega, by go_num, rfl, by rw [M.bs_append, HZ.out, List.replicate_succ', ← List.append_assoc]; rfl⟩
              case measure => simp [intOf]; omega
            · obtain rfl : j = i := by omega
              have hfl : M.bs (Z ++ ⟨#[59]⟩) = M.flat (M.letP j t) := by
                rw [M.bs_append, HZ.out, M.flat_letP]
                simp only [List.append_assoc]; rfl
              have HFL := Lib.hid hfl
              have hzz : (Z ++ ⟨#[59]⟩).size = Z.size + 1 := by rw [← M.bs_len, M.bs_append, List.length_append, M.bs_len]; rfl
              have PB := Lib.hid (parse_any (Z ++ ⟨#[59]⟩) w' (by omega))
              have HZZ := Lib.hid hzz
              clear hfl hzz hlt hj
              go_wp2_with fail
              (with_reducible refine (PB.out).mono ?_)
              rintro e w6 ⟨nv, at3, E3, t3, rfl, hn3, hb, hI3⟩
              obtain ⟨x3, rfl⟩ := hn3.v9e
              have L6 := Lib.hid (Laid9.start w6 x3)
              have LI := Lib.hid ((L4.out.next hb).next L6.out.below)
              have NI6 := Lib.hid ((N4.out.below hb).below L6.out.below)
              have N6 := Lib.hid (hn3.below L6.out.below)
              have B6 := Lib.hid ((B4.out.trans (hb.mono B4.out.size)).trans (L6.out.below.mono (Nat.le_trans B4.out.size hb.size)))
              obtain ⟨a0, a1, a2, a3⟩ := LI.out.cellsC
              rw [hs3] at a0 a1 a2 a3
              dsimp only at a0 a1 a2 a3
              obtain ⟨d0, d1, d2, d3⟩ := L6.out.cellsC
              rw [HFL.out] at hI3
              clear hb hn3 PB
              by_cases hbig : 20000 < Z.size + 1
              · have hg2 : decide ((Z.size : Int) + 1 > 20000) = true := by rw [decide_eq_true_eq]; omega
                clear hI3
                go_wp2_with fail
                (with_reducible refine (AL.out _ B6.out).mono ?_)
                rintro e w9 ⟨rfl, hb9⟩
                have B9 := Lib.hid (B6.out.trans (hb9.mono B6.out.size))
                clear hb9
                go_wp2_with fail
                go_ret
                exact ⟨by first | rfl | (simp; done), B9.out⟩
              · have hg2 : decide ((Z.size : Int) + 1 > 20000) = false := by rw [decide_eq_false_iff_not]; omega
                have hpl := parse_let HCK.out j h HBE.out h200 (by rw [← HFL.out, M.bs_len, HZZ.out]; omega)
                obtain ⟨rfl, rfl, rfl⟩ := hI3.one hpl
                have SM := Lib.hid fun W' (hb : Below (put9z w6 x3).heap.size (put9z w6 x3) W') => rsameN_ind _ (M.letT t) (Nat.le_refl _) _ _ W' (N6.out.below hb) (NI6.out.below hb)
                clear hI3 hpl
                go_wp2_with fail
                (refine (SM.out _ (Below.refl _ _)).mono ?_)
                rintro e w8 ⟨rfl, hb8⟩
                have B8 := Lib.hid (B6.out.trans (hb8.mono B6.out.size))
                clear hb8
                go_wp2_with fail
                (with_reducible refine (AL.out _ B8.out).mono ?_)
                rintro e w9 ⟨rfl, hb9⟩
                have B9 := Lib.hid (B8.out.trans (hb9.mono B8.out.size))
                clear hb9
                go_wp2_with fail
                go_ret
                exact ⟨by first | rfl | (simp; done), B9.out⟩
    · have hgt : decide ((h : Int) + (k : Int) > 200) = true := by rw [decide_eq_true_eq]; omega
      go_wp2_with fail
      (with_reducible refine (AL.out _ B4.out).mono ?_)
      rintro e w9 ⟨rfl, hb9⟩
      have B9 := Lib.hid (B4.out.trans (hb9.mono B4.out.size))
      clear hb9
      go_wp2_with fail
      go_ret
      exact ⟨by first | rfl | (simp; done), B9.out⟩
  · have hne : (M.textE (M.letT t) != 0) = true := by rw [bne_iff_ne]; exact hT
    obtain ⟨E, eE⟩ : ∃ E, E = M.textE (M.letT t) := ⟨_, rfl⟩
    rw [← eE] at hne ⊢
    clear hT hX eE
    go_wp2_with fail
    (with_reducible refine (AL.out _ B4.out).mono ?_)
    rintro e w9 ⟨rfl, hb9⟩
    have B9 := Lib.hid (B4.out.trans (hb9.mono B4.out.size))
    clear hb9
    go_wp2_with fail
    go_ret
    exact ⟨by first | rfl | (simp; done), B9.out⟩
end parseBracketsW
end Go.Proofs.YtngpedcihajepaaGreatDoor
namespace Go.Proofs.YtngpedcihajepaaGreatDoor.parseBrackets
open Go.ChangeShapes Go.WideShapes Go.ChangeAt Go.RowKit
set_option linter.unusedVariables false
theorem own : ownKnob Tryz.prog.godebug = none := by kernel_rfl
theorem laidOut : laidOutB Tryz.prog = true := by kernel_rfl
theorem tab_of {W : World} (h : laidMetH Tryz.prog Rows.parseBracketsUptoRow.laid W) : Lib.TabIs Tryz.prog W "internal/strconv.uint64pow10" .u64 Lib.pow10Tab := by
  rw [MakeChecks.laidMetH_plain _ _ _ (by kernel_rfl)] at h
  obtain ⟨ps, ⟨g0, t0, cs0, f0, p0, q0, hg0, ht0, hv0, hd0, ⟨g1, t1, cs1, f1, p1, q1, hg1, ht1, hv1, hd1, ⟨g2, t2, cs2, f2, p2, q2, hg2, ht2, hv2, hd2, _, _⟩, _⟩, _⟩, _, _⟩ := h
  obtain rfl := Option.some.inj ((show Tryz.prog.globalNamed "internal/strconv.uint64pow10" = some 1 by kernel_rfl).symm.trans hg2)
  obtain rfl := Option.some.inj ((show (Tryz.prog.globals[1]?).map (·.type) = some 135 by kernel_rfl).symm.trans ht2)
  have e := Lib.cells_of_tab (k := .u64) (zs := Lib.pow10Tab) Tryz.underlying135 Tryz.underlying22 (by kernel_rfl) (by kernel_rfl) hd2
  unfold Lib.TabIs
  rw [hv2, ← e]

set_option maxRecDepth 100000 in
theorem lifted (os : Os) (started : os.Started) (H : Type) (enc : TypeId × Value → H) (F : Stop.Interp) :
    ReturnsInHanded {} Tryz.checked os 9 .any (fun w args => ((Rows.OpenSpec.upto Rows.parseBracketsSpec).pre enc Tryz.prog Tryz.f9 Rows.parseBracketsUptoRow.domain false w args ∧ laidMetH Tryz.prog Rows.parseBracketsUptoRow.laid w) ∧ sizedMet enc Tryz.prog Tryz.f9 (Rows.OpenSpec.upto Rows.parseBracketsSpec) false w args)
      (((Rows.OpenSpec.upto Rows.parseBracketsSpec).at F).post enc Tryz.prog Tryz.f9 false true false false) := by
  refine returns_cond_and (C := Tryz.checked) (s := (Rows.OpenSpec.upto Rows.parseBracketsSpec)) (k := Rows.uptoSmall) rfl (X := fun w _ => laidMetH Tryz.prog Rows.parseBracketsUptoRow.laid w) (fun _ _ _ hh h => h.of_heap hh) own started (by kernel_rfl) Tryz.func9
    (witness_cond (enc := enc) (C := Tryz.checked) (os := os) (s := (Rows.OpenSpec.upto Rows.parseBracketsSpec)) (k := Rows.uptoSmall) rfl (X := fun w _ => laidMetH Tryz.prog Rows.parseBracketsUptoRow.laid w) false (World.laidAll Tryz.prog os Rows.parseBracketsUptoRow.laid) #[.agg #[.int .i64 0, .string ⟨#[]⟩, .int .u64 0, .slice none 0 0], .int .u8 0] 8 (World.laidAll_os _ _ _)
      (World.shaped_of_ZipB (by kernel_rfl) (by kernel_rfl)) (by kernel_rfl) (x := ([.agg [.lit (.int .i64 0), .lit (.string []), .lit (.int .u64 0), .nil], .lit (.int .u8 0)], [], [])) (by kernel_rfl) rfl (by kernel_rfl) (by kernel_rfl)
      (by rw [MakeChecks.laidMetH_plain _ _ _ (by kernel_rfl)]; exact laidMet_laidAll _ (by kernel_rfl) (by kernel_rfl))) ?_
  intro W base args ds gs before hval0 hW hcnd hk hsz0 hL _
  show Calls Tryz.prog 9 args W fun e W' => ∃ v, e = .returned v ∧ Rows.parseBracketsSpec.post enc Tryz.prog Tryz.f9 false true false false W args v W'
  have hsz : (DataW.weightsEach Tryz.prog (Tryz.f9.params.toList ++ Rows.parseBracketsSpec.plain.varTypes Tryz.prog) (ds ++ gs)).all (· ≤ reachBytes) = true := hsz0
  have hval : ∀ (j : Nat) t v, Tryz.f9.params[j]? = some t → args[j]? = some v → Value.okWide Tryz.prog W .any base t v := hval0
  have hW' := hW
  obtain ⟨p, q, hA0, hV, rfl, hfz, hnd⟩ := hW
  have hA : DataW.TrodAll enc Tryz.prog W 0 (fun _ => true) true Tryz.f9.params.toList args.toList ds p := hA0
  rw [Tryz.params9] at hA hval hsz
  obtain ⟨v0, vs0, d0, ds0, p0, q0, hargs, rfl, rfl, h0, r0⟩ := trodAll_cons hA
  obtain ⟨v1, vs1, d1, ds1, p1, q1, rfl, rfl, rfl, h1, r1⟩ := trodAll_cons r0
  obtain ⟨rfl, rfl, rfl⟩ := trodAll_nil r1
  obtain rfl : args = #[v0, v1] := by cases args; simp_all
  obtain ⟨rfl, rfl⟩ := trodVars_none hV
  have k0 := h0
  have lt0 : ∀ x ∈ p0, x.block < W.heap.size := by obtain ⟨m, hm⟩ := k0; exact DataW.trod_lt m _ _ _ hm
  obtain ⟨t0, wn0, hc0⟩ := open_tree h0 (by obtain ⟨aa, ea, _⟩ := okWide_struct Tryz.underlying25 (hval 0 25 v0 rfl rfl); exact ⟨aa, ea⟩) (fun n hn => by have := List.all_eq_true.1 hsz _ (DataW.weights_mem_each (j := 0) (t := 25) rfl rfl n hn); simpa using this)
  obtain ⟨i1, rfl, rfl, rfl, w1⟩ := open_int Tryz.underlying5 (hval 1 5 v1 rfl rfl) h1
  have b1 := bounds_u8 w1
  obtain ⟨n1, rfl⟩ := Int.eq_ofNat_of_zero_le b1.1
  have hcc0 : M.count t0 ≤ 1048576 := by
    have h1 : Rows.uptoBulkAll ([d0, .lit (.int .u8 (n1 : Nat))]) ≤ 1048576 := of_decide_eq_true hk
    have h2 := bulk_mem9 (l := ([d0, .lit (.int .u8 (n1 : Nat))])) (d := d0) (by simp)
    omega
  have htab := tab_of hL
  clear hA0 hval0 hsz0 hsz
  refine (parseBracketsW.walk W htab t0 hcc0 _ wn0 n1 (by omega)).mono fun e W' ⟨he, bel⟩ => ?_
  subst he
  exact ⟨_, rfl, _, _, _, [], _, [], hW', trodAll_mk1 (shut_bool Tryz.underlying4 _), (trodAll_cons_mk (Below.trod laidOut (by kernel_rfl) (of_decide_eq_true (by kernel_rfl)) k0 bel lt0) (trodAll_cons_mk (shut_int Tryz.underlying5 w1) trodAll_mk0)), rfl, bel.frame _, fun h => by cases h⟩

theorem over : Rows.parseBracketsUptoRow.holds Tryz.pinned (Rows.OpenSpec.upto Rows.parseBracketsSpec) :=
  OpenClaim.holds_of_cond 9 Tryz.f9 rfl rfl rfl rfl rfl rfl rfl ⟨rfl, rfl, rfl, rfl, rfl⟩ rfl rfl rfl rfl rfl (by kernel_rfl) Tryz.func9 (by kernel_rfl)
    (of_decide_eq_true (by kernel_rfl)) (by unfold Func.isWrapper; first | (rw [if_pos (by decide +kernel)]; kernel_rfl) | (rw [if_neg (by decide +kernel)]; exact ⟨rfl, rfl⟩))
    (fun os started H enc _ F => lifted os started H enc F)

/-- THE STATEMENT: the tied card -/
theorem proved : Rows.ParseBracketsUptoCardSaid :=
  Claim7.holds_tied_plain_at .later [] [.data, .data, .data] true (true, "20cee3b473a2713218cc8b83c3c500305a738b84e302de7a2f57dd68eb8f444b") true
    over (fun _ h => by cases h) (by kernel_rfl) (fun _ h => by cases h) parseBracketsUpto_row_tie rfl ⟨rfl, rfl⟩ (by kernel_rfl) rfl
    (fun f fn hf hfn => by
      obtain rfl : f = 9 := Option.some.inj ((show Tryz.prog.funcNamed "junto/juntolaw09.ParseBrackets" = some 9 by kernel_rfl).symm.trans hf) |>.symm
      obtain rfl : fn = Tryz.f9 := (Option.some.inj (Tryz.func9.symm.trans hfn)).symm
      refine ⟨by kernel_rfl, fun j t ht => ?_⟩
      rw [Tryz.params9] at ht
      match j, ht with
      | 0, ht =>
        obtain rfl : t = 25 := by simpa using ht.symm
        exact (show Tryz.prog.wantsStandIn 25 = false by kernel_rfl)
      | 1, ht =>
        obtain rfl : t = 5 := by simpa using ht.symm
        exact (show Tryz.prog.wantsStandIn 5 = false by kernel_rfl)
      | (k + 2), ht => simp at ht)
    (by kernel_rfl)
end Go.Proofs.YtngpedcihajepaaGreatDoor.parseBrackets
