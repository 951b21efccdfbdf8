/-
  The walk of the law PolyThrough.
-/
import Derived.Test.YtafoonhmfieikaaLawLib2
import Derived.Test.YtafoonhmfieikaaRef2f
namespace Go.Proofs.Ytafoonhmfieikaa.polyThroughW
open Go.RowKit
set_option linter.unusedVariables false

set_option maxHeartbeats 1000000 in
theorem no (w : World) (p : Nat) (hp : p < 18446744073709551616) (v : Value) (xs ys : List Nat) (hv : Pts w v xs ys) (h : M.isP p = false) :
    Calls Try.prog 8 #[.int .u64 p, v] w fun e w' => e = .returned (.bool true) ∧ Below w.heap.size w w' := by
  have HV := Lib.hid hv
  have HM := Lib.hid (show Calls Try.prog 40 #[.int .u64 p, v] w (Fails2 w 2) by have := through_bad p v xs ys w hp hv (by rw [← M.chkP_no xs ys h]; omega); rwa [← M.chkP_no xs ys h] at this)
  have h1 := fun W => right_none p W hp
  rw [M.rgt_nil_no h] at h1
  have H1 := Lib.hid h1
  have hs : ((0 : Int) == 0) = true := rfl
  have hb : ((2 : Int) == 0) = false := rfl
  have hud : ∀ b : Bool, undef ≠ Value.bool b := fun b h => by cases h
  obtain ⟨_, _, _, _, A, cap, rfl, _, _⟩ := hv
  clear h1 h
  go_enter Try.func8, Try.ntmps8
  go_wp2_with fail
  refine (HM.out).mono ?_
  rintro e w1 ⟨rfl, hb1⟩
  have B1 := Lib.hid hb1
  clear hb1
  go_wp2_with fail
  refine (H1.out _).mono ?_
  rintro e w2 ⟨rfl, hb2⟩
  have B2 := Lib.hid (bnext B1.out hb2)
  clear hb2
  go_wp2_with fail
  refine (is_bad 2 _ _ (by omega)).mono ?_
  rintro e w' ⟨rfl, rfl⟩
  go_wp2_with fail
  refine (alive_any _).mono ?_
  rintro e w3 ⟨rfl, hb3⟩
  have B3 := Lib.hid (bnext B2.out hb3)
  clear hb3
  go_wp2_with fail
  go_ret
  exact ⟨rfl, B3.out⟩

set_option maxHeartbeats 1000000 in
theorem err (w : World) (p : Nat) (hp : p < 18446744073709551616) (v : Value) (xs ys : List Nat) (hv : Pts w v xs ys) (h : M.isP p = true) (c : Int) (hc : c ≠ 0) (hpc : M.ptErr p xs ys 201 = c) (hm : Calls Try.prog 40 #[.int .u64 p, v] w (Fails2 w c)) :
    Calls Try.prog 8 #[.int .u64 p, v] w fun e w' => e = .returned (.bool true) ∧ Below w.heap.size w w' := by
  have hb : (c != 0) = true := by rw [bne_iff_ne]; exact hc
  have HC := Lib.hid hc
  have HV := Lib.hid hv
  have HM := Lib.hid (hm)
  have h1 := fun W => right_none p W hp
  rw [M.rgt_nil h] at h1
  have H1 := Lib.hid h1
  have hs : ((0 : Int) == 0) = true := rfl
  have hpt := fun W (h1 : Pts W v xs ys) => rpoints_any p 201 v xs ys W hp (by omega) h1
  rw [hpc] at hpt
  have HPT := Lib.hid hpt
  have hud : ∀ b : Bool, undef ≠ Value.bool b := fun b h => by cases h
  obtain ⟨_, _, _, _, A, cap, rfl, _, _⟩ := hv
  clear h1 h hc hpt hpc hm
  go_enter Try.func8, Try.ntmps8
  go_wp2_with fail
  refine (HM.out).mono ?_
  rintro e w1 ⟨rfl, hb1⟩
  have B1 := Lib.hid hb1
  clear hb1
  go_wp2_with fail
  refine (H1.out _).mono ?_
  rintro e w2 ⟨rfl, hb2⟩
  have B2 := Lib.hid (bnext B1.out hb2)
  clear hb2
  go_wp2_with fail
  refine (HPT.out _ (HV.out.below B2.out)).mono ?_
  rintro e w3 ⟨rfl, hb3⟩
  have B3 := Lib.hid (bnext B2.out hb3)
  clear hb3
  go_wp2_with fail
  refine (is_bad c _ _ HC.out).mono ?_
  rintro e w' ⟨rfl, rfl⟩
  go_wp2_with fail
  refine (alive_any _).mono ?_
  rintro e w4 ⟨rfl, hb4⟩
  have B4 := Lib.hid (bnext B3.out hb4)
  clear hb4
  go_wp2_with fail
  go_ret
  exact ⟨rfl, B4.out⟩

set_option maxHeartbeats 1000000 in
theorem good (w : World) (p : Nat) (hp : p < 18446744073709551616) (v : Value) (xs ys : List Nat) (hv : Pts w v xs ys) (h : M.chkP p xs ys = 0) (hn : xs.Nodup) :
    Calls Try.prog 8 #[.int .u64 p, v] w fun e w' => e = .returned (.bool true) ∧ Below w.heap.size w w' := by
  obtain ⟨hi, hl, hwx, hwy⟩ := M.chkP_ok h
  
  obtain ⟨F, hF⟩ : ∃ F, ∀ f, M.Thru p xs ys f → f = F := by
    by_cases hh : ∃ F, M.Thru p xs ys F
    · obtain ⟨F, hF⟩ := hh
      exact ⟨F, fun f hf => M.Thru.unique hi hn hwx hf hF⟩
    · exact ⟨[], fun f hf => absurd ⟨f, hf⟩ hh⟩
  have hm : Calls Try.prog 40 #[.int .u64 p, v] w (Gives2 w F) := (through_any p v xs ys w hv h).mono fun e w' hh => by
    rcases hh with ⟨hb, ⟨_, v', f, he, hN, hA⟩ | ⟨hn', he⟩⟩
    · exact ⟨v', he, by rw [← hF f hA]; exact hN, hb⟩
    · exact absurd hn hn'
  have hr := fun W (h1 : Pts W v xs ys) => (rthrough_any p v xs ys W hi hl hwx hwy hn h1).mono (fun e w' (hh : ∃ v' f, e = .returned v' ∧ Nums w' v' f ∧ M.Thru p xs ys f ∧ Below W.heap.size W w') => show (Gives W F) e w' by
    obtain ⟨v', f, he, hN, hA, hb⟩ := hh
    exact ⟨v', he, by rw [← hF f hA]; exact hN, hb⟩)
  have HR := Lib.hid hr
  have HV := Lib.hid hv
  have HM := Lib.hid (hm)
  have h1 := fun W => right_none p W hp
  rw [M.rgt_nil hi] at h1
  have H1 := Lib.hid h1
  have hs : ((0 : Int) == 0) = true := rfl
  have hpt := fun W (h1 : Pts W v xs ys) => rpoints_any p 201 v xs ys W hp (by omega) h1
  rw [← M.ptErr_ok (p := p) (ys := ys) (L := 201) (by omega) ⟨hwx, hwy⟩ hn] at hpt
  have HPT := Lib.hid hpt
  have hud : ∀ b : Bool, undef ≠ Value.bool b := fun b h => by cases h
  obtain ⟨_, _, _, _, A, cap, rfl, _, _⟩ := hv
  clear h1 h hi hn hpt hm hr hF hwx hwy
  go_enter Try.func8, Try.ntmps8
  go_wp2_with fail
  refine (HM.out).mono ?_
  rintro e w1 ⟨v1, rfl, hNM, hb1⟩
  have B1 := Lib.hid hb1
  have NM := Lib.hid hNM
  clear hb1 hNM
  go_wp2_with fail
  refine (H1.out _).mono ?_
  rintro e w2 ⟨rfl, hb2⟩
  have B2 := Lib.hid (bnext B1.out hb2)
  have NM_2 := Lib.hid (NM.out.below hb2)
  clear hb2
  go_wp2_with fail
  refine (HPT.out _ (HV.out.below B2.out)).mono ?_
  rintro e w3 ⟨rfl, hb3⟩
  have B3 := Lib.hid (bnext B2.out hb3)
  have NM_3 := Lib.hid (NM_2.out.below hb3)
  clear hb3
  go_wp2_with fail
  refine (HR.out _ (HV.out.below B3.out)).mono ?_
  rintro e w4 ⟨v4, rfl, hNR, hb4⟩
  have B4 := Lib.hid (bnext B3.out hb4)
  have NM_4 := Lib.hid (NM_3.out.below hb4)
  have NR := Lib.hid hNR
  clear hb4 hNR
  go_wp2_with fail
  refine (is_good _ _ _ _ NM_4.out NR.out).mono ?_
  rintro e w5 ⟨rfl, hb5⟩
  have B5 := Lib.hid (bnext B4.out hb5)
  have NM_5 := Lib.hid (NM_4.out.below hb5)
  have NR_5 := Lib.hid (NR.out.below hb5)
  clear hb5
  go_wp2_with fail
  go_ret
  exact ⟨rfl, B5.out⟩

set_option maxHeartbeats 1000000 in
theorem walk (w : World) (p : Nat) (hp : p < 18446744073709551616) (v : Value) (xs ys : List Nat) (hv : Pts w v xs ys) :
    Calls Try.prog 8 #[.int .u64 p, v] w fun e w' => e = .returned (.bool true) ∧ Below w.heap.size w w' := by
  by_cases h : M.chkP p xs ys = 0
  · obtain ⟨hi, hl, hwx, hwy⟩ := M.chkP_ok h
    by_cases hn : xs.Nodup
    · exact good w p hp v xs ys hv h hn
    · refine err w p hp v xs ys hv hi 6 (by omega) (M.ptErr_twice (by omega) ⟨hwx, hwy⟩ hn).symm ((through_any p v xs ys w hv h).mono fun e w' hh => ?_)
      rcases hh with ⟨hb, ⟨hn', _⟩ | ⟨_, he⟩⟩
      · exact absurd hn' hn
      · exact ⟨he, hb⟩
  · have hm := through_bad p v xs ys w hp hv h
    cases hi : M.isP p with
    | false => exact no w p hp v xs ys hv hi
    | true =>
      refine err w p hp v xs ys hv hi _ h ?_ hm
      by_cases hl : 201 < xs.length
      · rw [← M.chkP_long hi hl, ← M.ptErr_long hl]
      · by_cases hw : M.within p xs = true ∧ M.within p ys = true
        · exact absurd (M.chkP_of hi hl hw).symm h
        · rw [← M.chkP_out hi hl hw, ← M.ptErr_out hl hw]
end Go.Proofs.Ytafoonhmfieikaa.polyThroughW
