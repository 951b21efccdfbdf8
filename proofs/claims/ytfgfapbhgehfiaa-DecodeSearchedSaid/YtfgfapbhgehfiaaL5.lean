/-
  Layer 5's law: ints, alive.
-/
import Derived.Test.YtfgfapbhgehfiaaD7
import Derived.Test.YtfgfapbhgehfiaaR1
import Derived.Outline
namespace Go.Proofs.Ytfgfapbhgehfiaa
open Go.RowKit
set_option linter.unusedVariables false
set_option maxRecDepth 100000

set_option maxHeartbeats 1000000 in
theorem ints5_any (va vb : Value) (l : List Nat) (w : World) (hl : l.length ≤ 1000) (ha : Ints w va l) (hb : Ints w vb l) :
    Calls Try.prog 27 #[va, vb] w fun e w' => e = .returned (.bool true) ∧ Below w.heap.size w w' := by
  obtain ⟨A, cap, rfl, hc1, hr1⟩ := ha
  obtain ⟨A2, cap2, rfl, hc2, hr2⟩ := hb
  have H1 := Lib.hid hr1
  have H2 := Lib.hid hr2
  clear hr1 hr2
  obtain ⟨R, eR⟩ : ∃ R, l.length = R := ⟨_, rfl⟩
  rw [eR] at H1 H2 hc1 hc2 hl ⊢
  have hb1 : ((R : Int) != (R : Int)) = false := by simp
  clear eR
  go_enter Try.func27, Try.ntmps27
  go_wp2_with fail
  go_loopw [13] (fun ti wr => ∃ k : Nat, k ≤ R ∧ ti = .int .i64 k ∧ Below w.heap.size w wr) (fun ti _ => R - (intOf ti).toNat)
  case atStart => exact ⟨0, by omega, rfl, Below.refl _ _⟩
  case round =>
    obtain ⟨k, hk, rfl, hB⟩ := hrel
    have HB := Lib.hid hB
    clear hB
    by_cases hlt : k < R
    · obtain ⟨b, rfl, hbl, hc⟩ := H1.out (by omega)
      obtain ⟨b2, rfl, hbl2, hc2⟩ := H2.out (by omega)
      have d1 := (HB.out.cell (p := ⟨b, k, none⟩) hbl).trans (hc k hlt)
      have d2 := (HB.out.cell (p := ⟨b2, k, none⟩) hbl2).trans (hc2 k hlt)
      obtain ⟨x, ex⟩ : ∃ x, l.getD k 0 = x := ⟨_, rfl⟩
      rw [ex] at d1 d2
      have hbx : ((x : Int) != (x : Int)) = false := by simp
      clear hc hc2 ex
      go_wp2_with fail
      go_quiet (fail)
      have HB2 := Lib.hid (show Below w.heap.size w (wr.drewN nq) from ⟨HB.out.os, HB.out.tape, HB.out.output, HB.out.size, HB.out.block⟩)
      go_wp2_with fail
      go_roundw
      case rel => exact ⟨k + 1, by omega, by go_num, HB2.out⟩
      case measure => simp [intOf]; omega
    · go_wp2_with fail
      go_ret
      exact ⟨rfl, HB.out⟩


theorem pts_lit (w : World) (cs : Array Value) (xs ys : List Nat) (hyl : ys.length = xs.length) (hx : ∀ x ∈ xs, x < 18446744073709551616) (hy : ∀ y ∈ ys, y < 18446744073709551616) (hl : xs.length ≤ 1000) (hc : cs.toList = ptRow4 xs ys xs.length) :
    Pts (w.alloc (.cells cs 64)) (.slice (some ⟨w.heap.size, 0, none⟩) xs.length xs.length) xs ys := by
  have hs : cs.size = xs.length * 2 := by rw [← Array.length_toList, hc, ptRow4_len]
  refine pts_of_row4 (base := w.heap.size) hyl hx hy hl ⟨ptRow4_len _ _ _, .inr ⟨w.heap.size, xs.length, cs, rfl, Nat.le_refl _, heap_alloc_new w _, Nat.le_refl _, by unfold maxLen; omega, hs, ?_⟩⟩
  rw [hc, ← ptRow4_len xs ys xs.length, List.take_length]
theorem ints_lit (w : World) (x : Nat) : Ints (w.alloc (.cells #[.int .i64 (x : Nat)] 3)) (.slice (some ⟨w.heap.size, 0, none⟩) 1 1) [x] := by
  refine ⟨_, 1, rfl, by simp, fun _ => ⟨w.heap.size, rfl, by simp, fun i hi => ?_⟩⟩
  simp at hi
  subst hi
  simp
set_option maxHeartbeats 2000000 in
theorem alive_any (w : World) : Calls Try.prog 14 #[] w fun e w' => e = .returned (.bool true) ∧ Below w.heap.size w w' := by
  have hud : ∀ b : Bool, undef ≠ Value.bool b := fun b h => by cases h
  have i11 : M.isP 11 = true := by decide +kernel
  have ok : M.DOk 11 1 [1, 2, 3, 4, 5] [7, 10, 2, 0, 8] := ⟨i11, by decide, by decide, by decide +kernel, by decide +kernel, by decide +kernel⟩
  have good : M.Good 11 1 1 [1, 2, 3, 4, 5] [7, 10, 2, 0, 8] [4, 3] := ⟨by decide +kernel, by decide +kernel, by decide, by decide +kernel⟩
  have off : M.offI 11 [4, 3] [1, 2, 3, 4, 5] [7, 10, 2, 0, 8] = [3] := by decide +kernel
  have HU := Lib.hid fun f (h : M.Good 11 1 1 [1, 2, 3, 4, 5] [7, 10, 2, 0, 8] f) => M.Good.unique i11 ok.nod ok.wx (by decide) h good
  have HG := Lib.hid good
  have HO := Lib.hid off
  have HB := Lib.hid fun (W : World) v (h : Pts W v [1, 2, 3, 4, 5] [7, 10, 2, 0, 8]) => best_ok 11 1 v _ _ W ok (by decide) h
  have HM := Lib.hid fun (W : World) => most_any 5 1 W (by omega) (by omega) (by omega) (by omega)
  have HP := Lib.hid (pts_lit w #[.int .u64 1, .int .u64 7, .int .u64 2, .int .u64 10, .int .u64 3, .int .u64 2, .int .u64 4, .int .u64 0, .int .u64 5, .int .u64 8] [1, 2, 3, 4, 5] [7, 10, 2, 0, 8] rfl (by decide) (by decide) (by decide) rfl)
  have h51 : M.most 5 1 = 1 := by decide
  rw [h51] at HM
  clear i11 ok good off h51
  go_enter Try.func14, Try.ntmps14
  go_wp2_with fail
  refine (HB.out _ _ HP.out).mono ?_
  rintro e w1 ⟨hb, ⟨f, v1, u, hg, rfl, hf, ho⟩ | ⟨hno, _⟩⟩
  case inr => exact absurd HG.out (hno [4, 3])
  obtain rfl := HU.out f hg
  rw [HO.out] at ho
  have B1 := Lib.hid (bnext (balloc w _) hb)
  have HF := Lib.hid hf
  have HI := Lib.hid (show Ints w1 u [3] from ints_of_owns ho)
  obtain ⟨Af, cf, rfl⟩ := nums_slice' hf
  obtain ⟨Au, cu, rfl⟩ := ints_slice HI.out
  clear hb hg hf ho HB HG HU HP HO
  have hN2 := nums2 w1 4 3 (by omega) (by omega)
  have HN2 := Lib.hid hN2
  have HF2 := Lib.hid (HF.out.below (balloc w1 (.cells #[.int .u64 4, .int .u64 3] 22)))
  have HI2 := Lib.hid (HI.out.below (balloc w1 (.cells #[.int .u64 4, .int .u64 3] 22)))
  have B2 := Lib.hid (bnext B1.out (balloc w1 (.cells #[.int .u64 4, .int .u64 3] 22)))
  clear hN2
  go_wp2_with fail
  refine (same_any _ _ _ _ HF2.out HN2.out).mono ?_
  rintro e w2 ⟨rfl, hb⟩
  have B3 := Lib.hid (bnext B2.out hb)
  have HI3 := Lib.hid (HI2.out.below hb)
  clear hb
  have HIL := Lib.hid (ints_lit w2 3)
  have HI4 := Lib.hid (HI3.out.below (balloc w2 (.cells #[.int .i64 (3 : Nat)] 3)))
  have B4 := Lib.hid (bnext B3.out (balloc w2 (.cells #[.int .i64 (3 : Nat)] 3)))
  go_wp2_with fail
  refine (ints5_any _ _ [3] _ (by decide) HI4.out HIL.out).mono ?_
  rintro e w3 ⟨rfl, hb⟩
  have B5 := Lib.hid (bnext B4.out hb)
  clear hb
  go_wp2_with fail
  refine (HM.out _).mono ?_
  rintro e w4 ⟨rfl, rfl⟩
  go_wp2_with fail
  go_ret
  exact ⟨rfl, B5.out⟩
end Go.Proofs.Ytfgfapbhgehfiaa
