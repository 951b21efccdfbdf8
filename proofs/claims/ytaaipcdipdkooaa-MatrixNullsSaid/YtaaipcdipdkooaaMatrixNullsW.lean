/-
  The walk of the law MatrixNulls.
-/
import Derived.Test.YtaaipcdipdkooaaPnull
import Derived.Test.YtaaipcdipdkooaaRnull
namespace Go.Proofs.Ytaaipcdipdkooaa.matrixNullsW
open Go.RowKit
set_option linter.unusedVariables false

set_option maxHeartbeats 1000000 in
theorem no (w : World) (p : Nat) (hp : p < 18446744073709551616) (v : Value) (m : List (List Nat)) (hv : Mat w v m) (h : M.chkm p m ≠ 0) :
    Calls Try.prog 9 #[.int .u64 p, v] w fun e w' => e = .returned (.bool true) ∧ Below w.heap.size w w' := by
  have H1 := Lib.hid (null_bad p v m w hp hv h)
  have H2 := Lib.hid fun W (hW : Mat W v m) => rcheck_one p v m W hp hW
  have HV := Lib.hid hv
  have hud : ∀ b : Bool, undef ≠ Value.bool b := fun b h => by cases h
  obtain ⟨A, cap, rfl, _⟩ := mat_view hv
  have hb2 : (M.chkm p m != 0) = true := by rw [bne_iff_ne]; exact h
  obtain ⟨c, ec⟩ : ∃ c, M.chkm p m = c := ⟨_, rfl⟩
  rw [ec] at H1 H2 hb2 h
  have H3 := Lib.hid fun W => is_bad c (.slice none 0 0) W h ⟨_, _, _, rfl⟩
  clear hv ec h
  go_enter Try.func9, Try.ntmps9
  go_wp2_with fail
  refine H1.out.mono ?_
  rintro e w1 ⟨rfl, hb1⟩
  have B1 := Lib.hid hb1
  clear hb1
  go_wp2_with fail
  refine (H2.out _ (HV.out.below B1.out)).mono ?_
  rintro e w3 ⟨rfl, hb3'⟩
  have B3 := Lib.hid (bnext B1.out hb3')
  clear hb3'
  go_wp2_with fail
  refine (H3.out _).mono ?_
  rintro e w' ⟨rfl, rfl⟩
  go_wp2_with fail
  refine (alive_any _).mono ?_
  rintro e w4 ⟨rfl, hb4⟩
  have B4 := Lib.hid (bnext B3.out hb4)
  clear hb4
  go_wp2_with fail
  go_ret
  exact ⟨rfl, B4.out⟩

set_option maxHeartbeats 2000000 in
theorem ok (w : World) (p R K : Nat) (hp : p < 18446744073709551616) (v : Value) (m : List (List Nat)) (hv : Mat w v m) (hok : M.Ok p m R K) :
    Calls Try.prog 9 #[.int .u64 p, v] w fun e w' => e = .returned (.bool true) ∧ Below w.heap.size w w' := by
  have H1 := Lib.hid (null_ok p R K v m w hok hv)
  have h2 := fun W (hW : Mat W v m) => rcheck_one p v m W hp hW
  rw [hok.chk] at h2
  have H2 := Lib.hid h2
  have H5 := Lib.hid fun W (hW : Mat W v m) => rnull_any p R K v m W hok hW
  obtain ⟨mm, em⟩ : ∃ mm, M.nulM p (M.rd p m R K) K = mm := ⟨_, rfl⟩
  rw [em] at H1 H5
  have HV := Lib.hid hv
  have hud : ∀ b : Bool, undef ≠ Value.bool b := fun b h => by cases h
  have hs1 : ((0 : Int) != 0) = false := rfl
  obtain ⟨A, cap, rfl, _⟩ := mat_view hv
  clear hv h2 hok em
  go_enter Try.func9, Try.ntmps9
  go_wp2_with fail
  refine H1.out.mono ?_
  rintro e w1 ⟨v1, rfl, hm1, hb1⟩
  have B1 := Lib.hid hb1
  have M1 := Lib.hid hm1
  clear hb1 hm1
  go_wp2_with fail
  refine (H2.out _ (HV.out.below B1.out)).mono ?_
  rintro e w3 ⟨rfl, hb3'⟩
  have B3 := Lib.hid (bnext B1.out hb3')
  have M3 := Lib.hid (M1.out.below hb3')
  clear hb3'
  go_wp2_with fail
  refine (H5.out _ (HV.out.below B3.out)).mono ?_
  rintro e w4 ⟨v4, rfl, hm4, hb4⟩
  have B4 := Lib.hid (bnext B3.out hb4)
  have M4 := Lib.hid hm4
  have M5 := Lib.hid (M3.out.below hb4)
  clear hb4 hm4
  go_wp2_with fail
  refine (is_good v1 v4 mm _ M5.out M4.out).mono ?_
  rintro e w5 ⟨rfl, hb5⟩
  have B5 := Lib.hid (bnext B4.out hb5)
  clear hb5
  go_wp2_with fail
  refine (alive_any _).mono ?_
  rintro e w6 ⟨rfl, hb6⟩
  have B6 := Lib.hid (bnext B5.out hb6)
  clear hb6
  go_wp2_with fail
  go_ret
  exact ⟨rfl, B6.out⟩

theorem walk (w : World) (p : Nat) (hp : p < 18446744073709551616) (v : Value) (m : List (List Nat)) (hv : Mat w v m) :
    Calls Try.prog 9 #[.int .u64 p, v] w fun e w' => e = .returned (.bool true) ∧ Below w.heap.size w w' := by
  by_cases h : M.chkm p m = 0
  · exact ok w p _ _ hp v m hv (M.chkm_ok h)
  · exact no w p hp v m hv h
end Go.Proofs.Ytaaipcdipdkooaa.matrixNullsW
