/-
  Law package: Same of the reference, is, list, ints, alive.
-/
import Derived.Test.YtgoognipljknjaaMr13
import Derived.Test.YtgoognipljknjaaMr15
namespace Go.Proofs.Ytgoognipljknjaa
open Go.RowKit
set_option linter.unusedVariables false
set_option maxRecDepth 100000

set_option maxHeartbeats 1000000 in
set_option maxRecDepth 100000 in
theorem rsame_any (va vb : Value) (m : List (List Nat)) (w : World) (ha : Mat w va m) (hb : Mat w vb m) :
    Calls Try.prog 57 #[va, vb] w fun e w' => e = .returned (.bool true) ∧ Below w.heap.size w w' := by
  obtain ⟨A, cap, rfl, hc1, hml, hr1⟩ := mat_view ha
  obtain ⟨A2, cap2, rfl, hc2, _, hr2⟩ := mat_view hb
  have H1 := Lib.hid hr1
  have H2 := Lib.hid hr2
  clear ha hb hr1 hr2
  obtain ⟨R, eR⟩ : ∃ R, m.length = R := ⟨_, rfl⟩
  rw [eR] at H1 H2 hc1 hc2 hml ⊢
  have hb1 : ((R : Int) != (R : Int)) = false := by simp
  clear eR
  go_enter Try.func57, Try.ntmps57
  go_wp2_with fail
  go_loopw [13] (fun ti wr => ∃ k : Nat, k ≤ R ∧ ti = .int .i64 k ∧ Below w.heap.size w wr) (fun ti _ => R - (intOf ti).toNat)
  case atStart => exact ⟨0, by omega, rfl, Below.refl _ _⟩
  case round =>
    obtain ⟨k, hk, rfl, hB⟩ := hrel
    have HB := Lib.hid hB
    clear hB
    by_cases hlt : k < R
    · obtain ⟨b, off, rfl, hbl, hc⟩ := H1.out (by omega)
      obtain ⟨b2, off2, rfl, hbl2, hc2⟩ := H2.out (by omega)
      obtain ⟨Au, cu, ck, hN⟩ := hc k hlt
      obtain ⟨Au2, cu2, ck2, hN2⟩ := hc2 k hlt
      obtain ⟨L, eL⟩ : ∃ L, (m.getD k []).length = L := ⟨_, rfl⟩
      rw [eL] at ck ck2 hN hN2
      have d1 := (HB.out.cell (p := ⟨b, off + k, none⟩) hbl).trans ck
      have d2 := (HB.out.cell (p := ⟨b2, off2 + k, none⟩) hbl2).trans ck2
      have HS := Lib.hid (same_any _ _ _ wr.drew (hN.below HB.out.drew) (hN2.below HB.out.drew))
      clear hc hc2 ck ck2 hN hN2 eL
      go_wp2_with fail
      go_still_tail 8, (by kernel_rfl)
      change wpList _ _ _ _ _ wr.drew
      go_wp2_with fail
      refine HS.out.mono ?_
      rintro e w2 ⟨rfl, hb⟩
      have HB2 := Lib.hid (HB.out.drew.trans (hb.mono HB.out.size))
      clear hb
      go_wp2_with fail
      go_roundw
      case rel => exact ⟨k + 1, by omega, by go_num, HB2.out⟩
      case measure => simp [intOf]; omega
    · go_wp2_with fail
      go_ret
      exact ⟨rfl, HB.out⟩

theorem mat2 (w : World) (a b c d : Nat) (ha : a < 65537) (hb : b < 65537) (hc : c < 65537) (hd : d < 65537) :
    Mat (((w.alloc (.cells #[.int .u64 a, .int .u64 b] 22)).alloc (.cells #[.int .u64 c, .int .u64 d] 22)).alloc (.cells #[.slice (some ⟨w.heap.size, 0, none⟩) 2 2, .slice (some ⟨w.heap.size + 1, 0, none⟩) 2 2] 24))
      (.slice (some ⟨w.heap.size + 1 + 1, 0, none⟩) 2 2) [[a, b], [c, d]] := by
  have h1 := nums2 w a b (by omega) (by omega)
  have h2 := nums2 (w.alloc (.cells #[.int .u64 a, .int .u64 b] 22)) c d (by omega) (by omega)
  have h3 := h1.below (balloc _ (.cells #[.int .u64 c, .int .u64 d] 22))
  have h4 := h3.below (balloc _ (.cells #[.slice (some ⟨w.heap.size, 0, none⟩) 2 2, .slice (some ⟨w.heap.size + 1, 0, none⟩) 2 2] 24))
  have h5 := h2.below (balloc _ (.cells #[.slice (some ⟨w.heap.size, 0, none⟩) 2 2, .slice (some ⟨w.heap.size + 1, 0, none⟩) 2 2] 24))
  rw [World.size_alloc] at h5
  have hh : (((w.alloc (.cells #[.int .u64 a, .int .u64 b] 22)).alloc (.cells #[.int .u64 c, .int .u64 d] 22)).alloc (.cells #[.slice (some ⟨w.heap.size, 0, none⟩) 2 2, .slice (some ⟨w.heap.size + 1, 0, none⟩) 2 2] 24)).heap[w.heap.size + 1 + 1]? = some (.cells #[.slice (some ⟨w.heap.size, 0, none⟩) 2 2, .slice (some ⟨w.heap.size + 1, 0, none⟩) 2 2] 24 (0, 0)) := by
    have := heap_alloc_new ((w.alloc (.cells #[.int .u64 a, .int .u64 b] 22)).alloc (.cells #[.int .u64 c, .int .u64 d] 22)) (.cells #[.slice (some ⟨w.heap.size, 0, none⟩) 2 2, .slice (some ⟨w.heap.size + 1, 0, none⟩) 2 2] 24)
    rw [World.size_alloc, World.size_alloc] at this
    exact this
  refine ⟨by simp, _, 2, rfl, by simp, fun _ => ⟨w.heap.size + 1 + 1, 0, rfl, lt_of_block hh, fun i hi => ?_⟩⟩
  rw [Nat.zero_add, cell_of_row _ _ i _ _ (0, 0) hh]
  match i, hi with
  | 0, _ => exact ⟨_, rfl, h4⟩
  | 1, _ => exact ⟨_, rfl, h5⟩

set_option maxHeartbeats 2000000 in
theorem alive_any (w : World) : Calls Try.prog 17 #[] w fun e w' => e = .returned (.bool true) ∧ Below w.heap.size w w' := by
  have hok : M.Ok 7 [[1, 2], [3, 4]] 2 2 := by
    have := M.chkm_ok (p := 7) (m := [[1, 2], [3, 4]]) (by decide +kernel)
    exact this
  have kd : M.det 7 [[1, 2], [3, 4]] 2 = 5 := by decide +kernel
  have ki : (M.rdI 7 [[1, 2], [3, 4]] 2).lead.length = 2 := by decide +kernel
  have kv : M.inv 7 [[1, 2], [3, 4]] 2 = [[5, 1], [5, 3]] := by decide +kernel
  have kl : (M.rdS 7 [[1, 2], [3, 4]] [1, 0] 2 2).lead.length = 2 := by decide +kernel
  have ks : M.tabM 2 (M.solK (M.rdS 7 [[1, 2], [3, 4]] [1, 0] 2 2) 2 (M.rdS 7 [[1, 2], [3, 4]] [1, 0] 2 2).lead.length) = [5, 5] := by decide +kernel
  have H1 := Lib.hid fun W v (hv : Mat W v [[1, 2], [3, 4]]) => det_ok 7 2 v _ W hok hv
  have H2 := Lib.hid fun W v (hv : Mat W v [[1, 2], [3, 4]]) => inverse_ok 7 2 v _ W hok hv
  have H3 := Lib.hid fun W v vv (hv : Mat W v [[1, 2], [3, 4]]) (hz : Nums W vv [1, 0]) => solve_ok 7 2 2 v _ vv [1, 0] W hok hv hz rfl rfl
  rw [kd] at H1
  have KI := Lib.hid ki
  have KV := Lib.hid kv
  have KL := Lib.hid kl
  have KS := Lib.hid ks
  have hud : ∀ b : Bool, undef ≠ Value.bool b := fun b h => by cases h
  have HM := Lib.hid (mat2 w 1 2 3 4 (by omega) (by omega) (by omega) (by omega))
  have HB := Lib.hid (show Below w.heap.size w (((w.alloc (.cells #[.int .u64 (1 : Nat), .int .u64 (2 : Nat)] 22)).alloc (.cells #[.int .u64 (3 : Nat), .int .u64 (4 : Nat)] 22)).alloc (.cells #[.slice (some ⟨w.heap.size, 0, none⟩) 2 2, .slice (some ⟨w.heap.size + 1, 0, none⟩) 2 2] 24)) from (((Below.refl _ _).alloc (Nat.le_refl _) _).alloc (by simp) _).alloc (by simp; omega) _)
  clear hok kd ki kv kl ks
  go_enter Try.func17, Try.ntmps17
  go_wp2_with fail
  refine (H1.out _ _ HM.out).mono ?_
  rintro e w1 ⟨rfl, hb1⟩
  have HB1 := Lib.hid (bnext HB.out hb1)
  have HM1 := Lib.hid (HM.out.below hb1)
  clear hb1
  go_wp2_with fail
  refine (H2.out _ _ HM1.out).mono ?_
  rintro e w2 ⟨hb2, ⟨h, _⟩ | ⟨_, vi, rfl, hvi⟩⟩
  case inl => exact absurd h (by rw [KI.out]; omega)
  rw [KV.out] at hvi
  have HB2 := Lib.hid (bnext HB1.out hb2)
  have HM2 := Lib.hid (HM1.out.below hb2)
  have HI2 := Lib.hid hvi
  obtain ⟨Ai, ci, rfl, _⟩ := mat_view hvi
  clear hb2 hvi
  go_wp2_with fail
  refine (H3.out _ _ _ (HM2.out.below (balloc w2 _)) (nums2 w2 1 0 (by omega) (by omega))).mono ?_
  rintro e w3 ⟨hb3, ⟨⟨i, h1, h2, _⟩, _⟩ | ⟨_, g, c, rfl, hg, hc, hr⟩⟩
  case inl => exact absurd h1 (by rw [KL.out]; omega)
  have hn := hr.nums (n := 2) (cap := c) (Nat.le_refl _) hc (by omega) (fun j hj => by
    have := KS.out
    have e := congrArg (fun l => l.getD j 0) this
    simp only [M.tabM_at _ hj] at e
    rw [e]
    match j, hj with
    | 0, _ => decide
    | 1, _ => decide)
  rw [KS.out] at hn
  have HB3 := Lib.hid (bnext (bnext HB2.out (balloc w2 _)) hb3)
  have HI3 := Lib.hid ((HI2.out.below (balloc w2 _)).below hb3)
  have HN3 := Lib.hid hn
  clear hb3 hn hr hg
  go_wp2_with fail
  have HL := Lib.hid (show Below w3.heap.size w3 (((w3.alloc (.cells #[.int .u64 (5 : Nat), .int .u64 (1 : Nat)] 22)).alloc (.cells #[.int .u64 (5 : Nat), .int .u64 (3 : Nat)] 22)).alloc (.cells #[.slice (some ⟨w3.heap.size, 0, none⟩) 2 2, .slice (some ⟨w3.heap.size + 1, 0, none⟩) 2 2] 24)) from (((Below.refl _ _).alloc (Nat.le_refl _) _).alloc (by simp) _).alloc (by simp; omega) _)
  refine (rsame_any _ _ _ _ (HI3.out.below HL.out) (mat2 w3 5 1 5 3 (by omega) (by omega) (by omega) (by omega))).mono ?_
  rintro e w4 ⟨rfl, hb4⟩
  have HB4 := Lib.hid (bnext (bnext HB3.out HL.out) hb4)
  have HN4 := Lib.hid ((HN3.out.below HL.out).below hb4)
  clear hb4
  go_wp2_with fail
  refine (same_any _ _ [5, 5] _ (HN4.out.below (balloc w4 _)) (nums2 w4 5 5 (by omega) (by omega))).mono ?_
  rintro e w5 ⟨rfl, hb5⟩
  have HB5 := Lib.hid (bnext (bnext HB4.out (balloc w4 _)) hb5)
  clear hb5
  go_wp2_with fail
  go_ret
  exact ⟨rfl, HB5.out⟩
end Go.Proofs.Ytgoognipljknjaa
