/-
  The walk of the law PolyWeights.
-/
import Derived.Test.YtafoonhmfieikaaLawLib2
import Derived.Test.YtafoonhmfieikaaRef2e
namespace Go.Proofs.Ytafoonhmfieikaa.polyWeightsW
open Go.RowKit
set_option linter.unusedVariables false

set_option maxHeartbeats 1000000 in
theorem no (w : World) (p : Nat) (hp : p < 18446744073709551616) (v : Value) (xs : List Nat) (hv : Nums w v xs) (t : Nat) (ht : t < 18446744073709551616) (h : M.isP p = false) :
    Calls Try.prog 9 #[.int .u64 p, v, .int .u64 t] w fun e w' => e = .returned (.bool true) ∧ Below w.heap.size w w' := by
  have HV := Lib.hid hv
  have HM := Lib.hid (show Calls Try.prog 43 #[.int .u64 p, v, .int .u64 t] w (fun e w' => e = .returned (.tuple #[.slice none 0 0, .int .i64 2]) ∧ w = w') by have := weights_bad p t v xs w hp ht hv (by rw [← M.chk_no xs 201 h]; omega); rwa [← M.chk_no xs 201 h] at this)
  have h1 := fun W => right_none p W hp
  rw [M.rgt_nil_no h] at h1
  have H1 := Lib.hid h1
  have hs : ((0 : Int) == 0) = true := rfl
  have hb : ((2 : Int) == 0) = false := rfl
  have hud : ∀ b : Bool, undef ≠ Value.bool b := fun b h => by cases h
  obtain ⟨A, cap, rfl⟩ := nums_slice' hv
  clear hv h1 h
  go_enter Try.func9, Try.ntmps9
  go_wp2_with fail
  refine (HM.out).mono ?_
  rintro e w' ⟨rfl, rfl⟩
  go_wp2_with fail
  refine (H1.out _).mono ?_
  rintro e w1 ⟨rfl, hb1⟩
  have B1 := Lib.hid hb1
  clear hb1
  go_wp2_with fail
  refine (is_bad 2 _ _ (by omega)).mono ?_
  rintro e w' ⟨rfl, rfl⟩
  go_wp2_with fail
  refine (alive_any _).mono ?_
  rintro e w2 ⟨rfl, hb2⟩
  have B2 := Lib.hid (bnext B1.out hb2)
  clear hb2
  go_wp2_with fail
  go_ret
  exact ⟨rfl, B2.out⟩

set_option maxHeartbeats 1000000 in
theorem long (w : World) (p : Nat) (hp : p < 18446744073709551616) (v : Value) (xs : List Nat) (hv : Nums w v xs) (t : Nat) (ht : t < 18446744073709551616) (h : M.isP p = true) (hl : 201 < xs.length) :
    Calls Try.prog 9 #[.int .u64 p, v, .int .u64 t] w fun e w' => e = .returned (.bool true) ∧ Below w.heap.size w w' := by
  have HV := Lib.hid hv
  have HM := Lib.hid (show Calls Try.prog 43 #[.int .u64 p, v, .int .u64 t] w (fun e w' => e = .returned (.tuple #[.slice none 0 0, .int .i64 3]) ∧ w = w') by have := weights_bad p t v xs w hp ht hv (by rw [← M.chk_long h hl]; omega); rwa [← M.chk_long h hl] at this)
  have h1 := fun W => right_none p W hp
  rw [M.rgt_nil h] at h1
  have H1 := Lib.hid h1
  have hs : ((0 : Int) == 0) = true := rfl
  have hud : ∀ b : Bool, undef ≠ Value.bool b := fun b h => by cases h
  obtain ⟨A, cap, rfl⟩ := nums_slice' hv
  clear hv h1 h
  go_enter Try.func9, Try.ntmps9
  go_wp2_with fail
  refine (HM.out).mono ?_
  rintro e w' ⟨rfl, rfl⟩
  go_wp2_with fail
  refine (H1.out _).mono ?_
  rintro e w1 ⟨rfl, hb1⟩
  have B1 := Lib.hid hb1
  clear hb1
  go_wp2_with fail
  refine (is_bad 3 _ _ (by omega)).mono ?_
  rintro e w' ⟨rfl, rfl⟩
  go_wp2_with fail
  refine (alive_any _).mono ?_
  rintro e w2 ⟨rfl, hb2⟩
  have B2 := Lib.hid (bnext B1.out hb2)
  clear hb2
  go_wp2_with fail
  go_ret
  exact ⟨rfl, B2.out⟩

set_option maxHeartbeats 1000000 in
theorem out (w : World) (p : Nat) (hp : p < 18446744073709551616) (v : Value) (xs : List Nat) (hv : Nums w v xs) (t : Nat) (ht : t < 18446744073709551616) (h : M.isP p = true) (hl : ¬ 201 < xs.length) (hw : M.within p xs = false) :
    Calls Try.prog 9 #[.int .u64 p, v, .int .u64 t] w fun e w' => e = .returned (.bool true) ∧ Below w.heap.size w w' := by
  have HV := Lib.hid hv
  have HM := Lib.hid (show Calls Try.prog 43 #[.int .u64 p, v, .int .u64 t] w (fun e w' => e = .returned (.tuple #[.slice none 0 0, .int .i64 2]) ∧ w = w') by have := weights_bad p t v xs w hp ht hv (by rw [← M.chk_out h hl hw]; omega); rwa [← M.chk_out h hl hw] at this)
  have h1 := fun W => right_none p W hp
  rw [M.rgt_nil h] at h1
  have H1 := Lib.hid h1
  have hs : ((0 : Int) == 0) = true := rfl
  have hwi := fun W (h1 : Nums W v xs) => within_any p v xs W h1 rfl
  rw [M.err_f hw] at hwi
  have HWI := Lib.hid hwi
  have h6 := fun W => with_one p t W ht
  obtain ⟨c, ec⟩ : ∃ c, c = errOf (M.within p [t]) := ⟨_, rfl⟩
  rw [← ec] at h6
  have H6 := Lib.hid h6
  have hud : ∀ b : Bool, undef ≠ Value.bool b := fun b h => by cases h
  obtain ⟨A, cap, rfl⟩ := nums_slice' hv
  clear hv h1 h hwi h6 hw ec
  go_enter Try.func9, Try.ntmps9
  go_wp2_with fail
  refine (HM.out).mono ?_
  rintro e w' ⟨rfl, rfl⟩
  go_wp2_with fail
  refine (H1.out _).mono ?_
  rintro e w1 ⟨rfl, hb1⟩
  have B1 := Lib.hid hb1
  clear hb1
  go_wp2_with fail
  refine (HWI.out _ (HV.out.below B1.out)).mono ?_
  rintro e w' ⟨rfl, rfl⟩
  go_wp2_with fail
  refine (H6.out _).mono ?_
  rintro e w2 ⟨rfl, hb2⟩
  have B2 := Lib.hid (bnext B1.out hb2)
  clear hb2
  go_wp2_with fail
  refine (then_two _ _).mono ?_
  rintro e w' ⟨rfl, rfl⟩
  go_wp2_with fail
  refine (is_bad 2 _ _ (by omega)).mono ?_
  rintro e w' ⟨rfl, rfl⟩
  go_wp2_with fail
  refine (alive_any _).mono ?_
  rintro e w3 ⟨rfl, hb3⟩
  have B3 := Lib.hid (bnext B2.out hb3)
  clear hb3
  go_wp2_with fail
  go_ret
  exact ⟨rfl, B3.out⟩

set_option maxHeartbeats 1000000 in
theorem arg (w : World) (p : Nat) (hp : p < 18446744073709551616) (v : Value) (xs : List Nat) (hv : Nums w v xs) (t : Nat) (ht : t < 18446744073709551616) (h : M.chk p xs 201 = 0) (hc : ¬ t < p) :
    Calls Try.prog 9 #[.int .u64 p, v, .int .u64 t] w fun e w' => e = .returned (.bool true) ∧ Below w.heap.size w w' := by
  obtain ⟨hi, hl, hw⟩ := M.chk_ok h
  obtain ⟨h3, hp'⟩ := M.pos_of hi
  
  have HV := Lib.hid hv
  have HM := Lib.hid (weights_arg p t v xs w ht (by omega) hv h)
  have h1 := fun W => right_none p W hp
  rw [M.rgt_nil hi] at h1
  have H1 := Lib.hid h1
  have hs : ((0 : Int) == 0) = true := rfl
  have hwi := fun W (h1 : Nums W v xs) => within_any p v xs W h1 rfl
  rw [M.err_t hw] at hwi
  have HWI := Lib.hid hwi
  have h6 := fun W => with_one p t W ht
  rw [err_out hc] at h6
  have H6 := Lib.hid h6
  have hud : ∀ b : Bool, undef ≠ Value.bool b := fun b h => by cases h
  obtain ⟨A, cap, rfl⟩ := nums_slice' hv
  clear hv h1 h hwi h6 hw hi hc
  go_enter Try.func9, Try.ntmps9
  go_wp2_with fail
  refine (HM.out).mono ?_
  rintro e w' ⟨rfl, rfl⟩
  go_wp2_with fail
  refine (H1.out _).mono ?_
  rintro e w1 ⟨rfl, hb1⟩
  have B1 := Lib.hid hb1
  clear hb1
  go_wp2_with fail
  refine (HWI.out _ (HV.out.below B1.out)).mono ?_
  rintro e w' ⟨rfl, rfl⟩
  go_wp2_with fail
  refine (H6.out _).mono ?_
  rintro e w2 ⟨rfl, hb2⟩
  have B2 := Lib.hid (bnext B1.out hb2)
  clear hb2
  go_wp2_with fail
  refine (then_zero _ _).mono ?_
  rintro e w' ⟨rfl, rfl⟩
  go_wp2_with fail
  refine (is_bad 2 _ _ (by omega)).mono ?_
  rintro e w' ⟨rfl, rfl⟩
  go_wp2_with fail
  refine (alive_any _).mono ?_
  rintro e w3 ⟨rfl, hb3⟩
  have B3 := Lib.hid (bnext B2.out hb3)
  clear hb3
  go_wp2_with fail
  go_ret
  exact ⟨rfl, B3.out⟩

set_option maxHeartbeats 1000000 in
theorem twice (w : World) (p : Nat) (hp : p < 18446744073709551616) (v : Value) (xs : List Nat) (hv : Nums w v xs) (t : Nat) (ht : t < 18446744073709551616) (h : M.chk p xs 201 = 0) (hc : t < p) (hn : ¬ xs.Nodup) :
    Calls Try.prog 9 #[.int .u64 p, v, .int .u64 t] w fun e w' => e = .returned (.bool true) ∧ Below w.heap.size w w' := by
  obtain ⟨hi, hl, hw⟩ := M.chk_ok h
  obtain ⟨h3, hp'⟩ := M.pos_of hi
  
  have hm : Calls Try.prog 43 #[.int .u64 p, v, .int .u64 t] w (Fails2 w 6) := (weights_any p t v xs w hc hv h).mono fun e w' hh => by
    rcases hh with ⟨hb, ⟨hn', _⟩ | ⟨_, he⟩⟩
    · exact absurd hn' hn
    · exact ⟨he, hb⟩
  have HV := Lib.hid hv
  have HM := Lib.hid (hm)
  have h1 := fun W => right_none p W hp
  rw [M.rgt_nil hi] at h1
  have H1 := Lib.hid h1
  have hs : ((0 : Int) == 0) = true := rfl
  have hwi := fun W (h1 : Nums W v xs) => within_any p v xs W h1 rfl
  rw [M.err_t hw] at hwi
  have HWI := Lib.hid hwi
  have h6 := fun W => with_one p t W ht
  have htw := fun W (h1 : Nums W v xs) => twice_any v xs W h1
  rw [← M.twice_yes hn] at htw
  have HTW := Lib.hid htw
  rw [err_in hc] at h6
  have H6 := Lib.hid h6
  have hud : ∀ b : Bool, undef ≠ Value.bool b := fun b h => by cases h
  obtain ⟨A, cap, rfl⟩ := nums_slice' hv
  clear hv h1 h hwi h6 hw hi hc hm htw hn
  go_enter Try.func9, Try.ntmps9
  go_wp2_with fail
  refine (HM.out).mono ?_
  rintro e w1 ⟨rfl, hb1⟩
  have B1 := Lib.hid hb1
  clear hb1
  go_wp2_with fail
  refine (H1.out _).mono ?_
  rintro e w2 ⟨rfl, hb2⟩
  have B2 := Lib.hid (bnext B1.out hb2)
  clear hb2
  go_wp2_with fail
  refine (HWI.out _ (HV.out.below B2.out)).mono ?_
  rintro e w' ⟨rfl, rfl⟩
  go_wp2_with fail
  refine (H6.out _).mono ?_
  rintro e w3 ⟨rfl, hb3⟩
  have B3 := Lib.hid (bnext B2.out hb3)
  clear hb3
  go_wp2_with fail
  refine (then_zero _ _).mono ?_
  rintro e w' ⟨rfl, rfl⟩
  go_wp2_with fail
  refine (HTW.out _ (HV.out.below B3.out)).mono ?_
  rintro e w4 ⟨rfl, hb4⟩
  have B4 := Lib.hid (bnext B3.out hb4)
  clear hb4
  go_wp2_with fail
  refine (is_bad 6 _ _ (by omega)).mono ?_
  rintro e w' ⟨rfl, rfl⟩
  go_wp2_with fail
  refine (alive_any _).mono ?_
  rintro e w5 ⟨rfl, hb5⟩
  have B5 := Lib.hid (bnext B4.out hb5)
  clear hb5
  go_wp2_with fail
  go_ret
  exact ⟨rfl, B5.out⟩

set_option maxHeartbeats 1000000 in
theorem good (w : World) (p : Nat) (hp : p < 18446744073709551616) (v : Value) (xs : List Nat) (hv : Nums w v xs) (t : Nat) (ht : t < 18446744073709551616) (h : M.chk p xs 201 = 0) (hc : t < p) (hn : xs.Nodup) :
    Calls Try.prog 9 #[.int .u64 p, v, .int .u64 t] w fun e w' => e = .returned (.bool true) ∧ Below w.heap.size w w' := by
  obtain ⟨hi, hl, hw⟩ := M.chk_ok h
  obtain ⟨h3, hp'⟩ := M.pos_of hi
  
  have hm : Calls Try.prog 43 #[.int .u64 p, v, .int .u64 t] w (Gives2 w (M.weights p xs t)) := (weights_any p t v xs w hc hv h).mono fun e w' hh => by
    rcases hh with ⟨hb, ⟨hn', v', he, hN⟩ | ⟨hn', he⟩⟩
    · exact ⟨v', he, hN, hb⟩
    · exact absurd hn hn'
  have hr := fun W (h1 : Nums W v xs) => rweights_any p t v xs W h3 hp' hc hw hl h1
  have HR := Lib.hid hr
  have HV := Lib.hid hv
  have HM := Lib.hid (hm)
  have h1 := fun W => right_none p W hp
  rw [M.rgt_nil hi] at h1
  have H1 := Lib.hid h1
  have hs : ((0 : Int) == 0) = true := rfl
  have hwi := fun W (h1 : Nums W v xs) => within_any p v xs W h1 rfl
  rw [M.err_t hw] at hwi
  have HWI := Lib.hid hwi
  have h6 := fun W => with_one p t W ht
  have htw := fun W (h1 : Nums W v xs) => twice_any v xs W h1
  rw [← M.twice_no hn] at htw
  have HTW := Lib.hid htw
  rw [err_in hc] at h6
  have H6 := Lib.hid h6
  have hud : ∀ b : Bool, undef ≠ Value.bool b := fun b h => by cases h
  obtain ⟨A, cap, rfl⟩ := nums_slice' hv
  clear hv h1 h hwi h6 hw hi hc hm htw hn hr
  go_enter Try.func9, Try.ntmps9
  go_wp2_with fail
  refine (HM.out).mono ?_
  rintro e w1 ⟨v1, rfl, hNM, hb1⟩
  have B1 := Lib.hid hb1
  have NM := Lib.hid hNM
  clear hb1 hNM
  go_wp2_with fail
  refine (H1.out _).mono ?_
  rintro e w2 ⟨rfl, hb2⟩
  have B2 := Lib.hid (bnext B1.out hb2)
  have NM_2 := Lib.hid (NM.out.below hb2)
  clear hb2
  go_wp2_with fail
  refine (HWI.out _ (HV.out.below B2.out)).mono ?_
  rintro e w' ⟨rfl, rfl⟩
  go_wp2_with fail
  refine (H6.out _).mono ?_
  rintro e w3 ⟨rfl, hb3⟩
  have B3 := Lib.hid (bnext B2.out hb3)
  have NM_3 := Lib.hid (NM_2.out.below hb3)
  clear hb3
  go_wp2_with fail
  refine (then_zero _ _).mono ?_
  rintro e w' ⟨rfl, rfl⟩
  go_wp2_with fail
  refine (HTW.out _ (HV.out.below B3.out)).mono ?_
  rintro e w4 ⟨rfl, hb4⟩
  have B4 := Lib.hid (bnext B3.out hb4)
  have NM_4 := Lib.hid (NM_3.out.below hb4)
  clear hb4
  go_wp2_with fail
  refine (HR.out _ (HV.out.below B4.out)).mono ?_
  rintro e w5 ⟨v5, rfl, hNR, hb5⟩
  have B5 := Lib.hid (bnext B4.out hb5)
  have NM_5 := Lib.hid (NM_4.out.below hb5)
  have NR := Lib.hid hNR
  clear hb5 hNR
  go_wp2_with fail
  refine (is_good _ _ _ _ NM_5.out NR.out).mono ?_
  rintro e w6 ⟨rfl, hb6⟩
  have B6 := Lib.hid (bnext B5.out hb6)
  have NM_6 := Lib.hid (NM_5.out.below hb6)
  have NR_6 := Lib.hid (NR.out.below hb6)
  clear hb6
  go_wp2_with fail
  go_ret
  exact ⟨rfl, B6.out⟩

set_option maxHeartbeats 1000000 in
theorem walk (w : World) (p : Nat) (hp : p < 18446744073709551616) (v : Value) (xs : List Nat) (hv : Nums w v xs) (t : Nat) (ht : t < 18446744073709551616) :
    Calls Try.prog 9 #[.int .u64 p, v, .int .u64 t] w fun e w' => e = .returned (.bool true) ∧ Below w.heap.size w w' := by
  by_cases h : M.chk p xs 201 = 0
  · by_cases hc : t < p
    · by_cases hn : xs.Nodup
      · exact good w p hp v xs hv t ht h hc hn
      · exact twice w p hp v xs hv t ht h hc hn
    · exact arg w p hp v xs hv t ht h hc
  · cases hi : M.isP p with
    | false => exact no w p hp v xs hv t ht hi
    | true =>
      by_cases hl : 201 < xs.length
      · exact long w p hp v xs hv t ht hi hl
      · cases hw : M.within p xs with
        | false => exact out w p hp v xs hv t ht hi hl hw
        | true => exact absurd (M.chk_of hi (by omega) hw) h
end Go.Proofs.Ytafoonhmfieikaa.polyWeightsW
