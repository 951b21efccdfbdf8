/-
  The chapter's example: alive.
-/
import Derived.Test.YtafoonhmfieikaaP9
import Derived.Test.YtafoonhmfieikaaP10
import Derived.Test.YtafoonhmfieikaaLaw2
namespace Go.Proofs.Ytafoonhmfieikaa
open Go.RowKit
set_option linter.unusedVariables false

theorem pts2 (w : World) : Pts (w.alloc (.cells #[.int .u64 1, .int .u64 3, .int .u64 2, .int .u64 5] 61)) (.slice (some ⟨w.heap.size, 0, none⟩) 2 2) [1, 2] [3, 5] := by
  refine ⟨rfl, by simp, by simp, by simp, _, _, rfl, by simp, fun _ => ⟨w.heap.size, 0, rfl, by simp, fun i hi => ?_⟩⟩
  match i, hi with
  | 0, _ => simp
  | 1, _ => simp

set_option maxHeartbeats 1000000 in
theorem alive_any (w : World) : Calls Try.prog 21 #[] w fun e w' => e = .returned (.bool true) ∧ Below w.heap.size w w' := by
  have i7 : M.isP 7 = true := by decide +kernel
  have k1 : M.chkP 7 [1, 2] [3, 5] = 0 := by decide +kernel
  have k2 : M.chk 7 [1, 2] 200 = 0 := by decide +kernel
  have k3 : M.chk 7 [1, 2, 3] 201 = 0 := by decide +kernel
  have kw : M.weights 7 [1, 2, 3] 0 = [3, 4, 1] := by decide +kernel
  have n1 : ([1, 2] : List Nat).Nodup := by decide
  have n3 : ([1, 2, 3] : List Nat).Nodup := by decide
  have z2 : M.NoZ [1, 2] := by intro x hx; simp at hx; omega
  have t1 : ∀ f, M.Thru 7 [1, 2] [3, 5] f → f = [1, 2] := fun f hf => M.Thru.unique i7 n1 (by decide) hf ⟨by decide, by decide, by decide, fun i hi => by
    match i, hi with
    | 0, _ => decide
    | 1, _ => decide⟩
  have t2 : ∀ f, M.AwayOf 7 [1, 2] f → f = [1, 2, 4] := fun f hf => M.Thru.unique i7 (by decide) (by decide) hf ⟨by decide, by decide, by decide, fun i hi => by
    match i, hi with
    | 0, _ => decide
    | 1, _ => decide
    | 2, _ => decide⟩
  have H1 := Lib.hid (through_any 7 _ [1, 2] [3, 5] _ (pts2 w) k1)
  have H2 := Lib.hid fun W (h : Nums W (.slice (some ⟨W.heap.size - 1, 0, none⟩) 2 2) [1, 2]) => away_any 7 _ [1, 2] W h k2
  have HA := Lib.hid fun W v (h : Nums W v [1, 2]) => away_any 7 v [1, 2] W h k2
  have HW := Lib.hid fun W v (h : Nums W v [1, 2, 3]) => weights_any 7 0 v [1, 2, 3] W (by omega) h k3
  have T1 := Lib.hid t1
  have T2 := Lib.hid t2
  have N1 := Lib.hid n1
  have N3 := Lib.hid n3
  have Z2 := Lib.hid z2
  have KW := Lib.hid kw
  clear i7 k1 k2 k3 kw n1 n3 z2 t1 t2 H2
  go_enter Try.func21, Try.ntmps21
  go_wp2_with fail
  refine H1.out.mono ?_
  rintro e w1 ⟨hb1, ⟨_, v1, f1, rfl, hn1, hf1⟩ | ⟨h, _⟩⟩
  case inr => exact absurd N1.out h
  obtain rfl := T1.out _ hf1
  have B1 := Lib.hid (bnext (balloc w _) hb1)
  have V1 := Lib.hid hn1
  clear hb1 hf1 hn1
  go_wp2_with fail
  refine (HA.out _ _ (nums2 w1 1 2 (by omega) (by omega))).mono ?_
  rintro e w2 ⟨hh, _⟩
  obtain ⟨hb2, ⟨_, v2, f2, rfl, hn2, hf2⟩ | ⟨h, _⟩⟩ := hh Z2.out
  case inr => exact absurd N1.out h
  obtain rfl := T2.out _ hf2
  have B2 := Lib.hid (bnext (bnext B1.out (balloc w1 _)) hb2)
  have V1' := Lib.hid ((V1.out.below (balloc w1 _)).below hb2)
  have V2 := Lib.hid hn2
  clear hb2 hf2 hn2 hh
  go_wp2_with fail
  refine (HW.out _ _ (nums3 w2 1 2 3 (by omega) (by omega) (by omega))).mono ?_
  rintro e w3 ⟨hb3, ⟨_, v3, rfl, hn3⟩ | ⟨h, _⟩⟩
  case inr => exact absurd N3.out h
  rw [KW.out] at hn3
  have B3 := Lib.hid (bnext (bnext B2.out (balloc w2 _)) hb3)
  have V13 := Lib.hid ((V1'.out.below (balloc w2 _)).below hb3)
  have V23 := Lib.hid ((V2.out.below (balloc w2 _)).below hb3)
  have V3 := Lib.hid hn3
  clear hb3 hn3
  go_wp2_with fail
  refine (same_any _ _ [1, 2] _ (V13.out.below (balloc w3 _)) (nums2 w3 1 2 (by omega) (by omega))).mono ?_
  rintro e w4 ⟨rfl, hb4⟩
  have B4 := Lib.hid (bnext (bnext B3.out (balloc w3 _)) hb4)
  have V24 := Lib.hid ((V23.out.below (balloc w3 _)).below hb4)
  have V34 := Lib.hid ((V3.out.below (balloc w3 _)).below hb4)
  clear hb4
  go_wp2_with fail
  refine (same_any _ _ [1, 2, 4] _ (V24.out.below (balloc w4 _)) (nums3 w4 1 2 4 (by omega) (by omega) (by omega))).mono ?_
  rintro e w5 ⟨rfl, hb5⟩
  have B5 := Lib.hid (bnext (bnext B4.out (balloc w4 _)) hb5)
  have V35 := Lib.hid ((V34.out.below (balloc w4 _)).below hb5)
  clear hb5
  go_wp2_with fail
  refine (same_any _ _ [3, 4, 1] _ (V35.out.below (balloc w5 _)) (nums3 w5 3 4 1 (by omega) (by omega) (by omega))).mono ?_
  rintro e w6 ⟨rfl, hb6⟩
  have B6 := Lib.hid (bnext (bnext B5.out (balloc w5 _)) hb6)
  clear hb6
  go_wp2_with fail
  go_ret
  exact ⟨rfl, B6.out⟩
end Go.Proofs.Ytafoonhmfieikaa
