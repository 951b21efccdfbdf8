/-
  The walk of the law PolySlopes.
-/
import Derived.Test.YtafoonhmfieikaaLawLib
import Derived.Test.YtafoonhmfieikaaRef2g
namespace Go.Proofs.Ytafoonhmfieikaa.polySlopesW
open Go.RowKit
set_option linter.unusedVariables false

set_option maxHeartbeats 1000000 in
theorem bad (w : World) (p : Nat) (hp : p < 18446744073709551616) (v : Value) (f : List Nat) (hv : Nums w v f) (h : M.chk p f 201 ≠ 0) :
    Calls Try.prog 7 #[.int .u64 p, v] w fun e w' => e = .returned (.bool true) ∧ Below w.heap.size w w' := by
  have HV := Lib.hid hv
  have hm := slope2_bad p v f w hp hv h
  have h1 := fun W (h1 : Nums W v f) => right_one p v f W hp h1
  obtain ⟨c, ec⟩ : ∃ c, c = M.chk p f 201 := ⟨_, rfl⟩
  rw [← ec] at h hm h1
  have HM := Lib.hid hm
  have H1 := Lib.hid h1
  have HC := Lib.hid h
  have hb : (c != 0) = true := by rw [bne_iff_ne]; exact h
  obtain ⟨A, cap, rfl⟩ := nums_slice' hv
  have hud : ∀ b : Bool, undef ≠ Value.bool b := fun b h => by cases h
  clear ec h hv hm h1
  go_enter Try.func7, Try.ntmps7
  go_wp2_with fail
  refine (HM.out).mono ?_
  rintro e w1 ⟨rfl, hb1⟩
  have B1 := Lib.hid hb1
  clear hb1
  go_wp2_with fail
  refine (H1.out _ (HV.out.below B1.out)).mono ?_
  rintro e w2 ⟨rfl, hb2⟩
  have B2 := Lib.hid (bnext B1.out hb2)
  clear hb2
  go_wp2_with fail
  refine (is_bad c _ _ HC.out).mono ?_
  rintro e w' ⟨rfl, rfl⟩
  go_wp2_with fail
  refine (alive_any _).mono ?_
  rintro e w3 ⟨rfl, hb3⟩
  have B3 := Lib.hid (bnext B2.out hb3)
  clear hb3
  go_wp2_with fail
  go_ret
  exact ⟨rfl, B3.out⟩

set_option maxHeartbeats 1000000 in
theorem good (w : World) (p : Nat) (hp : p < 18446744073709551616) (v : Value) (f : List Nat) (hv : Nums w v f) (h : M.chk p f 201 = 0) :
    Calls Try.prog 7 #[.int .u64 p, v] w fun e w' => e = .returned (.bool true) ∧ Below w.heap.size w w' := by
  obtain ⟨hi, hl, hw⟩ := M.chk_ok h
  obtain ⟨h3, hp'⟩ := M.pos_of hi
  have HV := Lib.hid hv
  have HM := Lib.hid (slope2_ok p v f w hv h)
  have h1 := fun W (h1 : Nums W v f) => right_one p v f W hp h1
  rw [h] at h1
  have H1 := Lib.hid h1
  have HR := Lib.hid fun W (h1 : Nums W v f) => rslope_any p v f W (by omega) hp' hw (by omega) h1
  obtain ⟨A, cap, rfl⟩ := nums_slice' hv
  have hud : ∀ b : Bool, undef ≠ Value.bool b := fun b h => by cases h
  clear h hv h1 hi hw
  go_enter Try.func7, Try.ntmps7
  go_wp2_with fail
  refine (HM.out).mono ?_
  rintro e w1 ⟨v1, rfl, hNM, hb1⟩
  have B1 := Lib.hid hb1
  have NM := Lib.hid hNM
  clear hb1 hNM
  go_wp2_with fail
  refine (H1.out _ (HV.out.below B1.out)).mono ?_
  rintro e w2 ⟨rfl, hb2⟩
  have B2 := Lib.hid (bnext B1.out hb2)
  have NM_2 := Lib.hid (NM.out.below hb2)
  clear hb2
  go_wp2_with fail
  refine (HR.out _ (HV.out.below B2.out)).mono ?_
  rintro e w3 ⟨v3, rfl, hNR, hb3⟩
  have B3 := Lib.hid (bnext B2.out hb3)
  have NM_3 := Lib.hid (NM_2.out.below hb3)
  have NR := Lib.hid hNR
  clear hb3 hNR
  go_wp2_with fail
  refine (is_good _ _ _ _ NM_3.out NR.out).mono ?_
  rintro e w4 ⟨rfl, hb4⟩
  have B4 := Lib.hid (bnext B3.out hb4)
  have NM_4 := Lib.hid (NM_3.out.below hb4)
  have NR_4 := Lib.hid (NR.out.below hb4)
  clear hb4
  go_wp2_with fail
  refine (alive_any _).mono ?_
  rintro e w5 ⟨rfl, hb5⟩
  have B5 := Lib.hid (bnext B4.out hb5)
  have NM_5 := Lib.hid (NM_4.out.below hb5)
  have NR_5 := Lib.hid (NR_4.out.below hb5)
  clear hb5
  go_wp2_with fail
  go_ret
  exact ⟨rfl, B5.out⟩

set_option maxHeartbeats 1000000 in
theorem walk (w : World) (p : Nat) (hp : p < 18446744073709551616) (v : Value) (f : List Nat) (hv : Nums w v f) :
    Calls Try.prog 7 #[.int .u64 p, v] w fun e w' => e = .returned (.bool true) ∧ Below w.heap.size w w' := by
  by_cases h : M.chk p f 201 = 0
  · exact good w p hp v f hv h
  · exact bad w p hp v f hv h
end Go.Proofs.Ytafoonhmfieikaa.polySlopesW
