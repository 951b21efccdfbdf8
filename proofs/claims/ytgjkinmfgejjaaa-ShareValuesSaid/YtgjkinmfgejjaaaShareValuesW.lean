/-
  The walk of the law ShareValues.
-/
import Derived.Test.YtgjkinmfgejjaaaS9
import Derived.Test.YtgjkinmfgejjaaaKept
namespace Go.Proofs.Ytgjkinmfgejjaaa.shareValuesW
open Go.RowKit
set_option linter.unusedVariables false
set_option maxRecDepth 100000

set_option maxHeartbeats 2000000 in
theorem ok (w : World) (p N : Nat) (t : Int) (vf : Value) (f : List Nat) (hok : M.okS p (N : Int) t = true) (hv : Nums w vf f) (h : M.chk p f 201 = 0) :
    Calls Try.prog 5 #[suV p (N : Int) t, vf] w fun e w' => e = .returned (.bool true) ∧ Below w.heap.size w w' := by
  obtain ⟨hi, hn1, hn2, ht1, ht2, hnp⟩ := M.okS_iff.1 hok
  obtain ⟨h3, hp⟩ := M.pos_of hi
  have H1 := Lib.hid fun W (hW : Nums W vf f) => shares_ok p N t vf f W hok hW h
  have h2 := fun W => rsetup_any p (N : Int) t W (by omega) (by omega) (by omega) (by omega) (by omega)
  rw [← M.errS_ok hok] at h2
  have H2 := Lib.hid h2
  have h3' := fun W (hW : Nums W vf f) => rwithin_any p vf f W hW
  rw [M.errW_chk hi, h] at h3'
  have H3 := Lib.hid h3'
  have H4 := Lib.hid fun W (hW : Nums W vf f) => rshares_any p N t vf f W hi (by omega) (by omega) (M.chk_ok h).2.2 hW
  have HV := Lib.hid hv
  have hs0 : ((0 : Int) == 0) = true := rfl
  have hs1 : ((0 : Int) != 0) = false := rfl
  obtain ⟨A, cap, rfl⟩ := nums_slice' hv
  unfold suV at H1 H2 H4 ⊢
  clear h2 h3' hv hi h hok
  have hB0 := (balloc w (.cells #[.int .u64 p, .int .i64 N, .int .i64 t] 24))
  have hK0 := (kept3 w (w.heap.size) (by simp) (.int .u64 p) (.int .i64 N) (.int .i64 t) 24)
  obtain ⟨w0, hw0⟩ : ∃ w0, (w.alloc (.cells #[.int .u64 p, .int .i64 N, .int .i64 t] 24)) = w0 := ⟨_, rfl⟩
  rw [hw0] at hB0 hK0
  have B0 := Lib.hid hB0
  have K0 := Lib.hid hK0
  clear hB0 hK0
  obtain ⟨d0_0, d0_1, d0_2⟩ := K0.out.c3
  go_enter Try.func5, Try.ntmps5
  go_wp2_with fail
  clear hw0
  have V_0 := Lib.hid (HV.out.below B0.out)
  refine (H1.out _ V_0.out).mono ?_
  rintro e w1 ⟨v1, rfl, hF, hb1⟩
  have B1 := Lib.hid (bnext B0.out hb1)
  have K1 := Lib.hid (K0.out.below hb1)
  have V_1 := Lib.hid (V_0.out.below hb1)
  have F_1 := Lib.hid hF
  clear hb1 hF d0_0 d0_1 d0_2
  obtain ⟨d1_0, d1_1, d1_2⟩ := K1.out.c3
  go_wp2_with fail
  refine (H2.out _).mono ?_
  rintro e w2 ⟨rfl, hb2⟩
  have B2 := Lib.hid (bnext B1.out hb2)
  have K2 := Lib.hid (K1.out.below hb2)
  have V_2 := Lib.hid (V_1.out.below hb2)
  have F_2 := Lib.hid (F_1.out.below hb2)
  clear hb2  d1_0 d1_1 d1_2
  obtain ⟨d2_0, d2_1, d2_2⟩ := K2.out.c3
  go_wp2_with fail
  refine (H3.out _ V_2.out).mono ?_
  rintro e w' ⟨rfl, rfl⟩
  go_wp2_with fail
  refine (H4.out _ V_2.out).mono ?_
  rintro e w3 ⟨v4, rfl, hG, hb3⟩
  have B3 := Lib.hid (bnext B2.out hb3)
  have K3 := Lib.hid (K2.out.below hb3)
  have V_3 := Lib.hid (V_2.out.below hb3)
  have F_3 := Lib.hid (F_2.out.below hb3)
  have G_3 := Lib.hid hG
  clear hb3 hG d2_0 d2_1 d2_2
  obtain ⟨d3_0, d3_1, d3_2⟩ := K3.out.c3
  go_wp2_with fail
  refine (is_good _ _ _ _ F_3.out G_3.out).mono ?_
  rintro e w4 ⟨rfl, hb4⟩
  have B4 := Lib.hid (bnext B3.out hb4)
  have K4 := Lib.hid (K3.out.below hb4)
  have V_4 := Lib.hid (V_3.out.below hb4)
  have F_4 := Lib.hid (F_3.out.below hb4)
  have G_4 := Lib.hid (G_3.out.below hb4)
  clear hb4  d3_0 d3_1 d3_2
  obtain ⟨d4_0, d4_1, d4_2⟩ := K4.out.c3
  go_wp2_with fail
  go_ret
  exact ⟨rfl, B4.out⟩

set_option maxHeartbeats 2000000 in
theorem bad (w : World) (p N : Nat) (t : Int) (vf : Value) (f : List Nat) (hok : M.okS p (N : Int) t = true) (hv : Nums w vf f) (h : M.chk p f 201 ≠ 0) :
    Calls Try.prog 5 #[suV p (N : Int) t, vf] w fun e w' => e = .returned (.bool true) ∧ Below w.heap.size w w' := by
  obtain ⟨hi, hn1, hn2, ht1, ht2, hnp⟩ := M.okS_iff.1 hok
  obtain ⟨h3, hp⟩ := M.pos_of hi
  have H1 := Lib.hid fun W (hW : Nums W vf f) => shares_bad p N t vf f W hok hW h
  have h2 := fun W => rsetup_any p (N : Int) t W (by omega) (by omega) (by omega) (by omega) (by omega)
  rw [← M.errS_ok hok] at h2
  have H2 := Lib.hid h2
  have h3' := fun W (hW : Nums W vf f) => rwithin_any p vf f W hW
  rw [M.errW_chk hi] at h3'
  have H3 := Lib.hid h3'
  obtain ⟨c, ec⟩ : ∃ c, M.chk p f 201 = c := ⟨_, rfl⟩
  rw [ec] at H1 H3 h
  have hc := h
  have HV := Lib.hid hv
  have hs0 : ((0 : Int) == 0) = true := rfl
  have hs1 : (c != 0) = true := by rw [bne_iff_ne]; exact hc
  obtain ⟨A, cap, rfl⟩ := nums_slice' hv
  unfold suV at H1 H2 ⊢
  clear h2 h3' hv hi h hok ec
  have hB0 := (balloc w (.cells #[.int .u64 p, .int .i64 N, .int .i64 t] 24))
  have hK0 := (kept3 w (w.heap.size) (by simp) (.int .u64 p) (.int .i64 N) (.int .i64 t) 24)
  obtain ⟨w0, hw0⟩ : ∃ w0, (w.alloc (.cells #[.int .u64 p, .int .i64 N, .int .i64 t] 24)) = w0 := ⟨_, rfl⟩
  rw [hw0] at hB0 hK0
  have B0 := Lib.hid hB0
  have K0 := Lib.hid hK0
  clear hB0 hK0
  obtain ⟨d0_0, d0_1, d0_2⟩ := K0.out.c3
  go_enter Try.func5, Try.ntmps5
  go_wp2_with fail
  clear hw0
  have V_0 := Lib.hid (HV.out.below B0.out)
  refine (H1.out _ V_0.out).mono ?_
  rintro e w1 ⟨rfl, hb1⟩
  have B1 := Lib.hid (bnext B0.out hb1)
  have K1 := Lib.hid (K0.out.below hb1)
  have V_1 := Lib.hid (V_0.out.below hb1)
  clear hb1  d0_0 d0_1 d0_2
  obtain ⟨d1_0, d1_1, d1_2⟩ := K1.out.c3
  go_wp2_with fail
  refine (H2.out _).mono ?_
  rintro e w2 ⟨rfl, hb2⟩
  have B2 := Lib.hid (bnext B1.out hb2)
  have K2 := Lib.hid (K1.out.below hb2)
  have V_2 := Lib.hid (V_1.out.below hb2)
  clear hb2  d1_0 d1_1 d1_2
  obtain ⟨d2_0, d2_1, d2_2⟩ := K2.out.c3
  go_wp2_with fail
  refine (H3.out _ V_2.out).mono ?_
  rintro e w' ⟨rfl, rfl⟩
  go_wp2_with fail
  refine (is_bad c _ _ hc).mono ?_
  rintro e w' ⟨rfl, rfl⟩
  go_wp2_with fail
  refine (alive_any _).mono ?_
  rintro e w3 ⟨rfl, hb3⟩
  have B3 := Lib.hid (bnext B2.out hb3)
  have K3 := Lib.hid (K2.out.below hb3)
  have V_3 := Lib.hid (V_2.out.below hb3)
  clear hb3  d2_0 d2_1 d2_2
  obtain ⟨d3_0, d3_1, d3_2⟩ := K3.out.c3
  go_wp2_with fail
  go_ret
  exact ⟨rfl, B3.out⟩

set_option maxHeartbeats 2000000 in
theorem no (w : World) (p : Nat) (n t : Int) (vf : Value) (f : List Nat) (hp : p < 18446744073709551616) (hn1 : -9223372036854775808 ≤ n) (hn2 : n ≤ 9223372036854775807) (ht1 : -9223372036854775808 ≤ t) (ht2 : t ≤ 9223372036854775807) (hs : M.okS p n t = false) (hv : Nums w vf f) :
    Calls Try.prog 5 #[suV p n t, vf] w fun e w' => e = .returned (.bool true) ∧ Below w.heap.size w w' := by
  have H1 := Lib.hid fun W (hW : Nums W vf f) => shares_no p n t vf f W hW hp hn1 hn2 ht1 ht2 hs
  have h2 := fun W => rsetup_any p n t W hp hn1 hn2 ht1 ht2
  rw [show M.errS p n t = 2 by simp [M.errS, hs]] at h2
  have H2 := Lib.hid h2
  have HV := Lib.hid hv
  have hs0 : ((2 : Int) == 0) = false := rfl
  have hs1 : ((2 : Int) != 0) = true := rfl
  obtain ⟨A, cap, rfl⟩ := nums_slice' hv
  unfold suV at H1 H2 ⊢
  clear h2 hv hs
  have hB0 := (balloc w (.cells #[.int .u64 p, .int .i64 n, .int .i64 t] 24))
  have hK0 := (kept3 w (w.heap.size) (by simp) (.int .u64 p) (.int .i64 n) (.int .i64 t) 24)
  obtain ⟨w0, hw0⟩ : ∃ w0, (w.alloc (.cells #[.int .u64 p, .int .i64 n, .int .i64 t] 24)) = w0 := ⟨_, rfl⟩
  rw [hw0] at hB0 hK0
  have B0 := Lib.hid hB0
  have K0 := Lib.hid hK0
  clear hB0 hK0
  obtain ⟨d0_0, d0_1, d0_2⟩ := K0.out.c3
  go_enter Try.func5, Try.ntmps5
  go_wp2_with fail
  clear hw0
  have V_0 := Lib.hid (HV.out.below B0.out)
  refine (H1.out _ V_0.out).mono ?_
  rintro e w1 ⟨rfl, hb1⟩
  have B1 := Lib.hid (bnext B0.out hb1)
  have K1 := Lib.hid (K0.out.below hb1)
  have V_1 := Lib.hid (V_0.out.below hb1)
  clear hb1  d0_0 d0_1 d0_2
  obtain ⟨d1_0, d1_1, d1_2⟩ := K1.out.c3
  go_wp2_with fail
  refine (H2.out _).mono ?_
  rintro e w2 ⟨rfl, hb2⟩
  have B2 := Lib.hid (bnext B1.out hb2)
  have K2 := Lib.hid (K1.out.below hb2)
  have V_2 := Lib.hid (V_1.out.below hb2)
  clear hb2  d1_0 d1_1 d1_2
  obtain ⟨d2_0, d2_1, d2_2⟩ := K2.out.c3
  go_wp2_with fail
  refine (is_bad 2 _ _ (by omega)).mono ?_
  rintro e w' ⟨rfl, rfl⟩
  go_wp2_with fail
  refine (alive_any _).mono ?_
  rintro e w3 ⟨rfl, hb3⟩
  have B3 := Lib.hid (bnext B2.out hb3)
  have K3 := Lib.hid (K2.out.below hb3)
  have V_3 := Lib.hid (V_2.out.below hb3)
  clear hb3  d2_0 d2_1 d2_2
  obtain ⟨d3_0, d3_1, d3_2⟩ := K3.out.c3
  go_wp2_with fail
  go_ret
  exact ⟨rfl, B3.out⟩

theorem walk (w : World) (p : Nat) (n t : Int) (hp : p < 18446744073709551616) (hn1 : -9223372036854775808 ≤ n) (hn2 : n ≤ 9223372036854775807) (ht1 : -9223372036854775808 ≤ t) (ht2 : t ≤ 9223372036854775807) (vf : Value) (f : List Nat) (hv : Nums w vf f) :
    Calls Try.prog 5 #[suV p n t, vf] w fun e w' => e = .returned (.bool true) ∧ Below w.heap.size w w' := by
  cases hs : M.okS p n t with
  | false => exact no w p n t vf f hp hn1 hn2 ht1 ht2 hs hv
  | true =>
    obtain ⟨N, T, rfl, rfl, _⟩ := M.okS_nat hs
    by_cases h : M.chk p f 201 = 0
    · exact ok w p N T vf f hs hv h
    · exact bad w p N T vf f hs hv h
end Go.Proofs.Ytgjkinmfgejjaaa.shareValuesW
