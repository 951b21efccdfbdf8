/-
  The walk of the law PolyValues.
-/
import Derived.Test.YtafoonhmfieikaaLawLib
import Derived.Test.YtafoonhmfieikaaApi1
import Derived.Test.YtafoonhmfieikaaRef2c
namespace Go.Proofs.Ytafoonhmfieikaa.polyValuesW
open Go.RowKit
set_option linter.unusedVariables false

set_option maxHeartbeats 1000000 in
theorem bad (w : World) (p : Nat) (hp : p < 18446744073709551616) (v : Value) (f : List Nat) (hv : Nums w v f) (x : Nat) (hx : x < 18446744073709551616) (h : M.chk p f 201 ≠ 0) :
    Calls Try.prog 3 #[.int .u64 p, v, .int .u64 x] w fun e w' => e = .returned (.bool true) ∧ Below w.heap.size w w' := by
  have HV := Lib.hid hv
  have H1 := Lib.hid (right_one p v f w hp hv)
  have H2 := Lib.hid fun W (hW : Nums W v f) => trim2_bad p v f W hp hW h
  have H3 := Lib.hid fun W (hW : Nums W v f) => eval_bad p x v f W hp hW h
  obtain ⟨A, cap, rfl⟩ := nums_slice' hv
  obtain ⟨c, ec⟩ : ∃ c, c = M.chk p f 201 := ⟨_, rfl⟩
  rw [← ec] at h H1 H2 H3
  have HC := Lib.hid h
  have hb : (c != 0) = true := by rw [bne_iff_ne]; exact h
  clear ec h hv
  go_enter Try.func3, Try.ntmps3
  go_wp2_with fail
  refine (H1.out).mono ?_
  rintro e w1 ⟨rfl, hb1⟩
  have B1 := Lib.hid hb1
  clear hb1
  go_wp2_with fail
  refine (H2.out w1 (HV.out.below B1.out)).mono ?_
  rintro e w2 ⟨rfl, hb2⟩
  have B2 := Lib.hid (bnext B1.out hb2)
  clear hb2
  go_wp2_with fail
  refine (H3.out w2 (HV.out.below B2.out)).mono ?_
  rintro e w' ⟨rfl, rfl⟩
  go_wp2_with fail
  refine (is_bad c _ _ HC.out).mono ?_
  rintro e w' ⟨rfl, rfl⟩
  go_wp2_with fail
  refine (number_bad c 0 _ HC.out).mono ?_
  rintro e w' ⟨rfl, rfl⟩
  go_wp2_with fail
  refine (alive_any _).mono ?_
  rintro e w3 ⟨rfl, hb3⟩
  have B3 := Lib.hid (bnext B2.out hb3)
  clear hb3
  go_wp2_with fail
  go_ret
  exact ⟨rfl, B3.out⟩

set_option maxHeartbeats 1000000 in
theorem ok_in (w : World) (p : Nat) (hp : p < 18446744073709551616) (v : Value) (f : List Nat) (hv : Nums w v f) (x : Nat) (hx : x < 18446744073709551616) (h : M.chk p f 201 = 0) (hc : x < p) :
    Calls Try.prog 3 #[.int .u64 p, v, .int .u64 x] w fun e w' => e = .returned (.bool true) ∧ Below w.heap.size w w' := by
  obtain ⟨hi, hl, hw⟩ := M.chk_ok h
  obtain ⟨h3, hp'⟩ := M.pos_of hi
  have HV := Lib.hid hv
  have h1 := right_one p v f w hp hv
  rw [h] at h1
  have H1 := Lib.hid h1
  have H2 := Lib.hid fun W (hW : Nums W v f) => trim2_ok p v f W hW h
  have H3 := Lib.hid fun W (hW : Nums W v f) => eval_ok p x v f W hc hW h
  have hxm : x % p < p := Nat.mod_lt _ (by omega)
  have h5 := fun W (hW : Nums W v f) => reval_any p (x % p) v f W (by omega) hp' hxm hw hW
  rw [Int.natCast_emod] at h5
  have H5 := Lib.hid h5
  have h6 := fun W => with_one p x W hx
  rw [err_in hc] at h6
  have hxx : M.pev p f (x % p) = M.pev p f x := by rw [Nat.mod_eq_of_lt hc]
  have HXX := Lib.hid hxx
  clear hxx
  have H6 := Lib.hid h6
  have hud : ∀ b : Bool, undef ≠ Value.bool b := fun b h => by cases h
  obtain ⟨A, cap, rfl⟩ := nums_slice' hv
  clear h1 h h5 h6 hv hi hw hc
  go_enter Try.func3, Try.ntmps3
  go_wp2_with fail
  refine (H1.out).mono ?_
  rintro e w1 ⟨rfl, hb1⟩
  have B1 := Lib.hid hb1
  clear hb1
  go_wp2_with fail
  refine (H2.out w1 (HV.out.below B1.out)).mono ?_
  rintro e w2 ⟨v2, rfl, hN2, hb2⟩
  have B2 := Lib.hid (bnext B1.out hb2)
  have N2 := Lib.hid hN2
  clear hb2 hN2
  go_wp2_with fail
  refine (H3.out w2 (HV.out.below B2.out)).mono ?_
  rintro e w3 ⟨rfl, hb3⟩
  have B3 := Lib.hid (bnext B2.out hb3)
  have N2_3 := Lib.hid (N2.out.below hb3)
  clear hb3
  go_wp2_with fail
  refine (rtrim_any _ f w3 (HV.out.below B3.out)).mono ?_
  rintro e w4 ⟨v4, rfl, hNT, hb4⟩
  have B4 := Lib.hid (bnext B3.out hb4)
  have N2_4 := Lib.hid (N2_3.out.below hb4)
  have NT := Lib.hid hNT
  clear hb4 hNT
  go_wp2_with fail
  refine (is_good _ _ _ _ N2_4.out NT.out).mono ?_
  rintro e w5 ⟨rfl, hb5⟩
  have B5 := Lib.hid (bnext B4.out hb5)
  have N2_5 := Lib.hid (N2_4.out.below hb5)
  have NT_5 := Lib.hid (NT.out.below hb5)
  clear hb5
  go_wp2_with fail
  refine (H5.out w5 (HV.out.below B5.out)).mono ?_
  rintro e w' ⟨rfl, rfl⟩
  go_wp2_with fail
  refine (H6.out _).mono ?_
  rintro e w6 ⟨rfl, hb6⟩
  have B6 := Lib.hid (bnext B5.out hb6)
  have N2_6 := Lib.hid (N2_5.out.below hb6)
  have NT_6 := Lib.hid (NT_5.out.below hb6)
  clear hb6
  rw [HXX.out]
  go_wp2_with fail
  refine (number_good _ _).mono ?_
  rintro e w' ⟨rfl, rfl⟩
  go_wp2_with fail
  go_ret
  exact ⟨rfl, B6.out⟩

set_option maxHeartbeats 1000000 in
theorem ok_out (w : World) (p : Nat) (hp : p < 18446744073709551616) (v : Value) (f : List Nat) (hv : Nums w v f) (x : Nat) (hx : x < 18446744073709551616) (h : M.chk p f 201 = 0) (hc : ¬ x < p) :
    Calls Try.prog 3 #[.int .u64 p, v, .int .u64 x] w fun e w' => e = .returned (.bool true) ∧ Below w.heap.size w w' := by
  obtain ⟨hi, hl, hw⟩ := M.chk_ok h
  obtain ⟨h3, hp'⟩ := M.pos_of hi
  have HV := Lib.hid hv
  have h1 := right_one p v f w hp hv
  rw [h] at h1
  have H1 := Lib.hid h1
  have H2 := Lib.hid fun W (hW : Nums W v f) => trim2_ok p v f W hW h
  have H3 := Lib.hid fun W (hW : Nums W v f) => eval_arg p x v f W hx (by omega) hW h
  have hxm : x % p < p := Nat.mod_lt _ (by omega)
  have h5 := fun W (hW : Nums W v f) => reval_any p (x % p) v f W (by omega) hp' hxm hw hW
  rw [Int.natCast_emod] at h5
  have H5 := Lib.hid h5
  have h6 := fun W => with_one p x W hx
  rw [err_out hc] at h6
  have H6 := Lib.hid h6
  have hud : ∀ b : Bool, undef ≠ Value.bool b := fun b h => by cases h
  obtain ⟨A, cap, rfl⟩ := nums_slice' hv
  clear h1 h h5 h6 hv hi hw hc
  go_enter Try.func3, Try.ntmps3
  go_wp2_with fail
  refine (H1.out).mono ?_
  rintro e w1 ⟨rfl, hb1⟩
  have B1 := Lib.hid hb1
  clear hb1
  go_wp2_with fail
  refine (H2.out w1 (HV.out.below B1.out)).mono ?_
  rintro e w2 ⟨v2, rfl, hN2, hb2⟩
  have B2 := Lib.hid (bnext B1.out hb2)
  have N2 := Lib.hid hN2
  clear hb2 hN2
  go_wp2_with fail
  refine (H3.out w2 (HV.out.below B2.out)).mono ?_
  rintro e w' ⟨rfl, rfl⟩
  go_wp2_with fail
  refine (rtrim_any _ f w2 (HV.out.below B2.out)).mono ?_
  rintro e w3 ⟨v3, rfl, hNT, hb3⟩
  have B3 := Lib.hid (bnext B2.out hb3)
  have N2_3 := Lib.hid (N2.out.below hb3)
  have NT := Lib.hid hNT
  clear hb3 hNT
  go_wp2_with fail
  refine (is_good _ _ _ _ N2_3.out NT.out).mono ?_
  rintro e w4 ⟨rfl, hb4⟩
  have B4 := Lib.hid (bnext B3.out hb4)
  have N2_4 := Lib.hid (N2_3.out.below hb4)
  have NT_4 := Lib.hid (NT.out.below hb4)
  clear hb4
  go_wp2_with fail
  refine (H5.out w4 (HV.out.below B4.out)).mono ?_
  rintro e w' ⟨rfl, rfl⟩
  go_wp2_with fail
  refine (H6.out _).mono ?_
  rintro e w5 ⟨rfl, hb5⟩
  have B5 := Lib.hid (bnext B4.out hb5)
  have N2_5 := Lib.hid (N2_4.out.below hb5)
  have NT_5 := Lib.hid (NT_4.out.below hb5)
  clear hb5
  go_wp2_with fail
  refine (number_bad 2 _ _ (by omega)).mono ?_
  rintro e w' ⟨rfl, rfl⟩
  go_wp2_with fail
  go_ret
  exact ⟨rfl, B5.out⟩

theorem walk (w : World) (p : Nat) (hp : p < 18446744073709551616) (v : Value) (f : List Nat) (hv : Nums w v f) (x : Nat) (hx : x < 18446744073709551616) :
    Calls Try.prog 3 #[.int .u64 p, v, .int .u64 x] w fun e w' => e = .returned (.bool true) ∧ Below w.heap.size w w' := by
  by_cases h : M.chk p f 201 = 0
  · by_cases hc : x < p
    · exact ok_in w p hp v f hv x hx h hc
    · exact ok_out w p hp v f hv x hx h hc
  · exact bad w p hp v f hv x hx h
end Go.Proofs.Ytafoonhmfieikaa.polyValuesW
