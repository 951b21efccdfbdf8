/-
  The walk of the law PolyProducts.
-/
import Derived.Test.YtafoonhmfieikaaLawLib
import Derived.Test.YtafoonhmfieikaaApi2
import Derived.Test.YtafoonhmfieikaaRef2c
namespace Go.Proofs.Ytafoonhmfieikaa.polyProductsW
open Go.RowKit
set_option linter.unusedVariables false

set_option maxHeartbeats 1000000 in
theorem bad (w : World) (p : Nat) (hp : p < 18446744073709551616) (v : Value) (f : List Nat) (hv : Nums w v f) (v2 : Value) (g : List Nat) (hv2 : Nums w v2 g) (h : M.rgt p [f, g] ≠ 0) :
    Calls Try.prog 5 #[.int .u64 p, v, v2] w fun e w' => e = .returned (.bool true) ∧ Below w.heap.size w w' := by
  have HV := Lib.hid hv
  have HV2 := Lib.hid hv2
  have hm := mul2_bad p v v2 f g w hp hv hv2 h
  have h1 := fun W (h1 : Nums W v f) (h2 : Nums W v2 g) => right_two p v v2 f g W hp h1 h2
  obtain ⟨c, ec⟩ : ∃ c, c = M.rgt p [f, g] := ⟨_, rfl⟩
  rw [← ec] at h hm h1
  have HM := Lib.hid hm
  have H1 := Lib.hid h1
  have HC := Lib.hid h
  have hb : (c != 0) = true := by rw [bne_iff_ne]; exact h
  obtain ⟨A, cap, rfl⟩ := nums_slice' hv
  obtain ⟨A2, cap2, rfl⟩ := nums_slice' hv2
  have hud : ∀ b : Bool, undef ≠ Value.bool b := fun b h => by cases h
  clear ec h hv hv2 hm h1
  go_enter Try.func5, Try.ntmps5
  go_wp2_with fail
  refine (HM.out).mono ?_
  rintro e w1 ⟨rfl, hb1⟩
  have B1 := Lib.hid hb1
  clear hb1
  go_wp2_with fail
  refine (H1.out _ (HV.out.below B1.out) (HV2.out.below B1.out)).mono ?_
  rintro e w2 ⟨rfl, hb2⟩
  have B2 := Lib.hid (bnext B1.out hb2)
  clear hb2
  go_wp2_with fail
  refine (is_bad c _ _ HC.out).mono ?_
  rintro e w' ⟨rfl, rfl⟩
  go_wp2_with fail
  refine (alive_any _).mono ?_
  rintro e w3 ⟨rfl, hb3⟩
  have B3 := Lib.hid (bnext B2.out hb3)
  clear hb3
  go_wp2_with fail
  go_ret
  exact ⟨rfl, B3.out⟩

set_option maxHeartbeats 1000000 in
theorem ok_0 (w : World) (p : Nat) (hp : p < 18446744073709551616) (v : Value) (f : List Nat) (hv : Nums w v f) (v2 : Value) (g : List Nat) (hv2 : Nums w v2 g) (h : M.rgt p [f, g] = 0) (hL : (M.pmul p f g).length ≤ 201) :
    Calls Try.prog 5 #[.int .u64 p, v, v2] w fun e w' => e = .returned (.bool true) ∧ Below w.heap.size w w' := by
  obtain ⟨hi, ⟨hlf, hwf⟩, hlg, hwg⟩ := M.rgt_ok h
  obtain ⟨h3, hp'⟩ := M.pos_of hi
  have HV := Lib.hid hv
  have HV2 := Lib.hid hv2
  have hm := (mul2_ok p v v2 f g w hv hv2 h).mono fun e w' hh => hh.1 hL
  have h1 := fun W (h1 : Nums W v f) (h2 : Nums W v2 g) => right_two p v v2 f g W hp h1 h2
  rw [h] at h1
  have hr := fun W (h1 : Nums W v f) (h2 : Nums W v2 g) => rmul_any p v v2 f g W (by omega) hp' hwf hwg (by omega) (by omega) h1 h2
  have HM := Lib.hid hm
  have H1 := Lib.hid h1
  have HR := Lib.hid hr
  
  obtain ⟨m, em⟩ : ∃ m, m = (M.pmul p f g).length := ⟨_, rfl⟩
  have hL' : m ≤ 201 := by rw [em]; exact hL
  obtain ⟨R, eR⟩ : ∃ R, R = M.pmul p f g := ⟨_, rfl⟩
  rw [← eR] at HM HR em
  have EM := Lib.hid em
  obtain ⟨A, cap, rfl⟩ := nums_slice' hv
  obtain ⟨A2, cap2, rfl⟩ := nums_slice' hv2
  have hud : ∀ b : Bool, undef ≠ Value.bool b := fun b h => by cases h
  clear h hv hv2 hm h1 hr hi hwf hwg eR em hL
  go_enter Try.func5, Try.ntmps5
  go_wp2_with fail
  refine (HM.out).mono ?_
  rintro e w1 ⟨v1, rfl, hNM, hb1⟩
  have B1 := Lib.hid hb1
  have NM := Lib.hid hNM
  clear hb1 hNM
  go_wp2_with fail
  refine (H1.out _ (HV.out.below B1.out) (HV2.out.below B1.out)).mono ?_
  rintro e w2 ⟨rfl, hb2⟩
  have B2 := Lib.hid (bnext B1.out hb2)
  have NM_2 := Lib.hid (NM.out.below hb2)
  clear hb2
  go_wp2_with fail
  refine (HR.out _ (HV.out.below B2.out) (HV2.out.below B2.out)).mono ?_
  rintro e w3 ⟨v3, rfl, hNR, hb3⟩
  have B3 := Lib.hid (bnext B2.out hb3)
  have NM_3 := Lib.hid (NM_2.out.below hb3)
  have NR := Lib.hid hNR
  clear hb3 hNR
  obtain ⟨aR, cR, rfl⟩ := nums_slice' NR.out
  have hL2 : R.length ≤ 201 := by rw [← EM.out]; exact hL'
  go_wp2_with fail
  refine (is_good _ _ _ _ NM_3.out NR.out).mono ?_
  rintro e w4 ⟨rfl, hb4⟩
  have B4 := Lib.hid (bnext B3.out hb4)
  have NM_4 := Lib.hid (NM_3.out.below hb4)
  have NR_4 := Lib.hid (NR.out.below hb4)
  clear hb4
  go_wp2_with fail
  refine (alive_any _).mono ?_
  rintro e w5 ⟨rfl, hb5⟩
  have B5 := Lib.hid (bnext B4.out hb5)
  have NM_5 := Lib.hid (NM_4.out.below hb5)
  have NR_5 := Lib.hid (NR_4.out.below hb5)
  clear hb5
  go_wp2_with fail
  go_ret
  exact ⟨rfl, B5.out⟩

set_option maxHeartbeats 1000000 in
theorem ok_1 (w : World) (p : Nat) (hp : p < 18446744073709551616) (v : Value) (f : List Nat) (hv : Nums w v f) (v2 : Value) (g : List Nat) (hv2 : Nums w v2 g) (h : M.rgt p [f, g] = 0) (hL : 201 < (M.pmul p f g).length) :
    Calls Try.prog 5 #[.int .u64 p, v, v2] w fun e w' => e = .returned (.bool true) ∧ Below w.heap.size w w' := by
  obtain ⟨hi, ⟨hlf, hwf⟩, hlg, hwg⟩ := M.rgt_ok h
  obtain ⟨h3, hp'⟩ := M.pos_of hi
  have HV := Lib.hid hv
  have HV2 := Lib.hid hv2
  have hm := (mul2_ok p v v2 f g w hv hv2 h).mono fun e w' hh => hh.2 hL
  have h1 := fun W (h1 : Nums W v f) (h2 : Nums W v2 g) => right_two p v v2 f g W hp h1 h2
  rw [h] at h1
  have hr := fun W (h1 : Nums W v f) (h2 : Nums W v2 g) => rmul_any p v v2 f g W (by omega) hp' hwf hwg (by omega) (by omega) h1 h2
  have HM := Lib.hid hm
  have H1 := Lib.hid h1
  have HR := Lib.hid hr
  
  obtain ⟨m, em⟩ : ∃ m, m = (M.pmul p f g).length := ⟨_, rfl⟩
  have hL' : 201 < m := by rw [em]; exact hL
  obtain ⟨R, eR⟩ : ∃ R, R = M.pmul p f g := ⟨_, rfl⟩
  rw [← eR] at HR em
  have EM := Lib.hid em
  obtain ⟨A, cap, rfl⟩ := nums_slice' hv
  obtain ⟨A2, cap2, rfl⟩ := nums_slice' hv2
  have hud : ∀ b : Bool, undef ≠ Value.bool b := fun b h => by cases h
  clear h hv hv2 hm h1 hr hi hwf hwg eR em hL
  go_enter Try.func5, Try.ntmps5
  go_wp2_with fail
  refine (HM.out).mono ?_
  rintro e w1 ⟨rfl, hb1⟩
  have B1 := Lib.hid hb1
  clear hb1
  go_wp2_with fail
  refine (H1.out _ (HV.out.below B1.out) (HV2.out.below B1.out)).mono ?_
  rintro e w2 ⟨rfl, hb2⟩
  have B2 := Lib.hid (bnext B1.out hb2)
  clear hb2
  go_wp2_with fail
  refine (HR.out _ (HV.out.below B2.out) (HV2.out.below B2.out)).mono ?_
  rintro e w3 ⟨v3, rfl, hNR, hb3⟩
  have B3 := Lib.hid (bnext B2.out hb3)
  have NR := Lib.hid hNR
  clear hb3 hNR
  obtain ⟨aR, cR, rfl⟩ := nums_slice' NR.out
  have hL2 : 201 < R.length := by rw [← EM.out]; exact hL'
  go_wp2_with fail
  refine (is_bad 3 _ _ (by omega)).mono ?_
  rintro e w' ⟨rfl, rfl⟩
  go_wp2_with fail
  go_ret
  exact ⟨rfl, B3.out⟩

set_option maxHeartbeats 1000000 in
theorem walk (w : World) (p : Nat) (hp : p < 18446744073709551616) (v : Value) (f : List Nat) (hv : Nums w v f) (v2 : Value) (g : List Nat) (hv2 : Nums w v2 g) :
    Calls Try.prog 5 #[.int .u64 p, v, v2] w fun e w' => e = .returned (.bool true) ∧ Below w.heap.size w w' := by
  by_cases h : M.rgt p [f, g] = 0
  · rcases Nat.lt_or_ge 201 (M.pmul p f g).length with hL | hL
    · exact ok_1 w p hp v f hv v2 g hv2 h hL
    · exact ok_0 w p hp v f hv v2 g hv2 h hL
  · exact bad w p hp v f hv v2 g hv2 h
end Go.Proofs.Ytafoonhmfieikaa.polyProductsW
