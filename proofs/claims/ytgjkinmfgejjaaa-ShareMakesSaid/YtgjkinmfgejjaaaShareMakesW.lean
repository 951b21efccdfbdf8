/-
  The walk of the law ShareMakes.
-/
import Derived.Test.YtgjkinmfgejjaaaS8
import Derived.Test.YtgjkinmfgejjaaaKept
namespace Go.Proofs.Ytgjkinmfgejjaaa.shareMakesW
open Go.RowKit
set_option linter.unusedVariables false
set_option maxRecDepth 100000

set_option maxHeartbeats 2000000 in
theorem ok (w : World) (p : Nat) (n t : Int) (a d : Nat) (vt : Value) (zs : List Nat) (hok : M.okS p n t = true) (ha : a < p) (hd : (d : Int) < n) (hv : Nums w vt zs) :
    Calls Try.prog 4 #[suV p n t, .agg #[.int .u64 a, .int .i64 d, vt]] w fun e w' => e = .returned (.bool true) ∧ Below w.heap.size w w' := by
  obtain ⟨hi, hn1, hn2, ht1, ht2, hnp⟩ := M.okS_iff.1 hok
  obtain ⟨h3, hp⟩ := M.pos_of hi
  have H1 := Lib.hid fun W (hW : Nums W vt zs) => make_ok p a d n t vt zs W hok ha hd hW
  have h2 := fun W => rsetup_any p n t W (by omega) (by omega) (by omega) (by omega) (by omega)
  rw [← M.errS_ok hok] at h2
  have H2 := Lib.hid h2
  have H3 := Lib.hid fun W (hW : Nums W vt zs) => rmake_any p a d n t vt zs W hi ha (by omega) hW
  have HV := Lib.hid hv
  have hud : ∀ b : Bool, undef ≠ Value.bool b := fun b h => by cases h
  have hs0 : ((0 : Int) == 0) = true := rfl
  have hs1 : ((0 : Int) != 0) = false := rfl
  obtain ⟨A, cap, rfl⟩ := nums_slice' hv
  unfold suV at H1 H2 H3 ⊢
  clear h2 hv hi
  have hB0 := (bnext (balloc w (.cells #[.int .u64 p, .int .i64 n, .int .i64 t] 24)) (balloc (w.alloc (.cells #[.int .u64 p, .int .i64 n, .int .i64 t] 24)) (.cells #[.int .u64 a, .int .i64 d, .slice A zs.length cap] 33)))
  have hK0 := ((((kept3 w (w.heap.size) (by simp) (.int .u64 p) (.int .i64 n) (.int .i64 t) 24)).alloc _).app (kept3 (w.alloc (.cells #[.int .u64 p, .int .i64 n, .int .i64 t] 24)) (w.heap.size + 1) (by simp) (.int .u64 a) (.int .i64 d) (.slice A zs.length cap) 33))
  obtain ⟨w0, hw0⟩ : ∃ w0, ((w.alloc (.cells #[.int .u64 p, .int .i64 n, .int .i64 t] 24)).alloc (.cells #[.int .u64 a, .int .i64 d, .slice A zs.length cap] 33)) = w0 := ⟨_, rfl⟩
  rw [hw0] at hB0 hK0
  have B0 := Lib.hid hB0
  have K0 := Lib.hid hK0
  clear hB0 hK0
  obtain ⟨d0_0, d0_1, d0_2, d0_3, d0_4, d0_5⟩ := K0.out.c6
  go_enter Try.func4, Try.ntmps4
  go_wp2_with fail
  clear hw0
  have V_0 := Lib.hid (HV.out.below B0.out)
  refine (H1.out _ V_0.out).mono ?_
  rintro e w1 ⟨v1, v2, rfl, hF, hR, hb1⟩
  have B1 := Lib.hid (bnext B0.out hb1)
  have K1 := Lib.hid (K0.out.below hb1)
  have V_1 := Lib.hid (V_0.out.below hb1)
  have F_1 := Lib.hid hF
  have R_1 := Lib.hid hR
  clear hb1 hF hR d0_0 d0_1 d0_2 d0_3 d0_4 d0_5
  obtain ⟨d1_0, d1_1, d1_2, d1_3, d1_4, d1_5⟩ := K1.out.c6
  go_wp2_with fail
  refine (H2.out _).mono ?_
  rintro e w2 ⟨rfl, hb2⟩
  have B2 := Lib.hid (bnext B1.out hb2)
  have K2 := Lib.hid (K1.out.below hb2)
  have V_2 := Lib.hid (V_1.out.below hb2)
  have F_2 := Lib.hid (F_1.out.below hb2)
  have R_2 := Lib.hid (R_1.out.below hb2)
  clear hb2  d1_0 d1_1 d1_2 d1_3 d1_4 d1_5
  obtain ⟨d2_0, d2_1, d2_2, d2_3, d2_4, d2_5⟩ := K2.out.c6
  go_wp2_with fail
  refine (H3.out _ V_2.out).mono ?_
  rintro e w3 ⟨v3, v4, rfl, hG, hS, hb3⟩
  have B3 := Lib.hid (bnext B2.out hb3)
  have K3 := Lib.hid (K2.out.below hb3)
  have V_3 := Lib.hid (V_2.out.below hb3)
  have F_3 := Lib.hid (F_2.out.below hb3)
  have R_3 := Lib.hid (R_2.out.below hb3)
  have G_3 := Lib.hid hG
  have S_3 := Lib.hid hS
  clear hb3 hG hS d2_0 d2_1 d2_2 d2_3 d2_4 d2_5
  obtain ⟨d3_0, d3_1, d3_2, d3_3, d3_4, d3_5⟩ := K3.out.c6
  go_wp2_with fail
  refine (is_good _ _ _ _ F_3.out G_3.out).mono ?_
  rintro e w4 ⟨rfl, hb4⟩
  have B4 := Lib.hid (bnext B3.out hb4)
  have K4 := Lib.hid (K3.out.below hb4)
  have V_4 := Lib.hid (V_3.out.below hb4)
  have F_4 := Lib.hid (F_3.out.below hb4)
  have R_4 := Lib.hid (R_3.out.below hb4)
  have G_4 := Lib.hid (G_3.out.below hb4)
  have S_4 := Lib.hid (S_3.out.below hb4)
  clear hb4  d3_0 d3_1 d3_2 d3_3 d3_4 d3_5
  obtain ⟨d4_0, d4_1, d4_2, d4_3, d4_4, d4_5⟩ := K4.out.c6
  go_wp2_with fail
  refine (same_any _ _ _ _ R_4.out S_4.out).mono ?_
  rintro e w5 ⟨rfl, hb5⟩
  have B5 := Lib.hid (bnext B4.out hb5)
  have K5 := Lib.hid (K4.out.below hb5)
  have V_5 := Lib.hid (V_4.out.below hb5)
  have F_5 := Lib.hid (F_4.out.below hb5)
  have R_5 := Lib.hid (R_4.out.below hb5)
  have G_5 := Lib.hid (G_4.out.below hb5)
  have S_5 := Lib.hid (S_4.out.below hb5)
  clear hb5  d4_0 d4_1 d4_2 d4_3 d4_4 d4_5
  obtain ⟨d5_0, d5_1, d5_2, d5_3, d5_4, d5_5⟩ := K5.out.c6
  go_wp2_with fail
  go_ret
  exact ⟨rfl, B5.out⟩

set_option maxHeartbeats 2000000 in
theorem bad (w : World) (p a : Nat) (n t d : Int) (vt : Value) (zs : List Nat) (hp : p < 18446744073709551616) (hn1 : -9223372036854775808 ≤ n) (hn2 : n ≤ 9223372036854775807) (ht1 : -9223372036854775808 ≤ t) (ht2 : t ≤ 9223372036854775807) (ha : a < 18446744073709551616) (hd1 : -9223372036854775808 ≤ d) (hd2 : d ≤ 9223372036854775807) (hv : Nums w vt zs) (h : M.okS p n t = false) :
    Calls Try.prog 4 #[suV p n t, .agg #[.int .u64 a, .int .i64 d, vt]] w fun e w' => e = .returned (.bool true) ∧ Below w.heap.size w w' := by
  have H1 := Lib.hid fun W (hW : Nums W vt zs) => make_bad p a n t d vt zs W hp ha hn1 hn2 ht1 ht2 hd1 hd2 hW (.inl h)
  have h2 := fun W => rsetup_any p n t W hp hn1 hn2 ht1 ht2
  rw [show M.errS p n t = 2 by simp [M.errS, h]] at h2
  have H2 := Lib.hid h2
  have HV := Lib.hid hv
  have hud : ∀ b : Bool, undef ≠ Value.bool b := fun b h => by cases h
  have hs0 : ((2 : Int) == 0) = false := rfl
  have hs1 : ((2 : Int) != 0) = true := rfl
  obtain ⟨A, cap, rfl⟩ := nums_slice' hv
  unfold suV at H1 H2 ⊢
  clear h2 hv h
  have hB0 := (bnext (balloc w (.cells #[.int .u64 p, .int .i64 n, .int .i64 t] 24)) (balloc (w.alloc (.cells #[.int .u64 p, .int .i64 n, .int .i64 t] 24)) (.cells #[.int .u64 a, .int .i64 d, .slice A zs.length cap] 33)))
  have hK0 := ((((kept3 w (w.heap.size) (by simp) (.int .u64 p) (.int .i64 n) (.int .i64 t) 24)).alloc _).app (kept3 (w.alloc (.cells #[.int .u64 p, .int .i64 n, .int .i64 t] 24)) (w.heap.size + 1) (by simp) (.int .u64 a) (.int .i64 d) (.slice A zs.length cap) 33))
  obtain ⟨w0, hw0⟩ : ∃ w0, ((w.alloc (.cells #[.int .u64 p, .int .i64 n, .int .i64 t] 24)).alloc (.cells #[.int .u64 a, .int .i64 d, .slice A zs.length cap] 33)) = w0 := ⟨_, rfl⟩
  rw [hw0] at hB0 hK0
  have B0 := Lib.hid hB0
  have K0 := Lib.hid hK0
  clear hB0 hK0
  obtain ⟨d0_0, d0_1, d0_2, d0_3, d0_4, d0_5⟩ := K0.out.c6
  go_enter Try.func4, Try.ntmps4
  go_wp2_with fail
  clear hw0
  have V_0 := Lib.hid (HV.out.below B0.out)
  refine (H1.out _ V_0.out).mono ?_
  rintro e w1 ⟨rfl, hb1⟩
  have B1 := Lib.hid (bnext B0.out hb1)
  have K1 := Lib.hid (K0.out.below hb1)
  have V_1 := Lib.hid (V_0.out.below hb1)
  clear hb1  d0_0 d0_1 d0_2 d0_3 d0_4 d0_5
  obtain ⟨d1_0, d1_1, d1_2, d1_3, d1_4, d1_5⟩ := K1.out.c6
  go_wp2_with fail
  refine (H2.out _).mono ?_
  rintro e w2 ⟨rfl, hb2⟩
  have B2 := Lib.hid (bnext B1.out hb2)
  have K2 := Lib.hid (K1.out.below hb2)
  have V_2 := Lib.hid (V_1.out.below hb2)
  clear hb2  d1_0 d1_1 d1_2 d1_3 d1_4 d1_5
  obtain ⟨d2_0, d2_1, d2_2, d2_3, d2_4, d2_5⟩ := K2.out.c6
  go_wp2_with fail
  refine (is_bad 2 _ _ (by omega)).mono ?_
  rintro e w' ⟨rfl, rfl⟩
  go_wp2_with fail
  refine (alive_any _).mono ?_
  rintro e w3 ⟨rfl, hb3⟩
  have B3 := Lib.hid (bnext B2.out hb3)
  have K3 := Lib.hid (K2.out.below hb3)
  have V_3 := Lib.hid (V_2.out.below hb3)
  clear hb3  d2_0 d2_1 d2_2 d2_3 d2_4 d2_5
  obtain ⟨d3_0, d3_1, d3_2, d3_3, d3_4, d3_5⟩ := K3.out.c6
  go_wp2_with fail
  go_ret
  exact ⟨rfl, B3.out⟩

set_option maxHeartbeats 2000000 in
theorem arg (w : World) (p a : Nat) (n t d : Int) (vt : Value) (zs : List Nat) (hok : M.okS p n t = true) (ha : a < 18446744073709551616) (hd1 : -9223372036854775808 ≤ d) (hd2 : d ≤ 9223372036854775807) (hv : Nums w vt zs) (h : p ≤ a ∨ d < 0 ∨ n - 1 < d) :
    Calls Try.prog 4 #[suV p n t, .agg #[.int .u64 a, .int .i64 d, vt]] w fun e w' => e = .returned (.bool true) ∧ Below w.heap.size w w' := by
  obtain ⟨hi, hn1, hn2, ht1, ht2, hnp⟩ := M.okS_iff.1 hok
  obtain ⟨h3, hp⟩ := M.pos_of hi
  have H1 := Lib.hid fun W (hW : Nums W vt zs) => make_bad p a n t d vt zs W (by omega) ha (by omega) (by omega) (by omega) (by omega) hd1 hd2 hW (.inr h)
  have h2 := fun W => rsetup_any p n t W (by omega) (by omega) (by omega) (by omega) (by omega)
  rw [← M.errS_ok hok] at h2
  have H2 := Lib.hid h2
  have HV := Lib.hid hv
  have hud : ∀ b : Bool, undef ≠ Value.bool b := fun b h => by cases h
  have hs0 : ((0 : Int) == 0) = true := rfl
  have hs1 : ((2 : Int) != 0) = true := rfl
  obtain ⟨A, cap, rfl⟩ := nums_slice' hv
  unfold suV at H1 H2 ⊢
  clear h2 hv hok hi
  by_cases g1 : p ≤ a
  · clear h
    have hB0 := (bnext (balloc w (.cells #[.int .u64 p, .int .i64 n, .int .i64 t] 24)) (balloc (w.alloc (.cells #[.int .u64 p, .int .i64 n, .int .i64 t] 24)) (.cells #[.int .u64 a, .int .i64 d, .slice A zs.length cap] 33)))
    have hK0 := ((((kept3 w (w.heap.size) (by simp) (.int .u64 p) (.int .i64 n) (.int .i64 t) 24)).alloc _).app (kept3 (w.alloc (.cells #[.int .u64 p, .int .i64 n, .int .i64 t] 24)) (w.heap.size + 1) (by simp) (.int .u64 a) (.int .i64 d) (.slice A zs.length cap) 33))
    obtain ⟨w0, hw0⟩ : ∃ w0, ((w.alloc (.cells #[.int .u64 p, .int .i64 n, .int .i64 t] 24)).alloc (.cells #[.int .u64 a, .int .i64 d, .slice A zs.length cap] 33)) = w0 := ⟨_, rfl⟩
    rw [hw0] at hB0 hK0
    have B0 := Lib.hid hB0
    have K0 := Lib.hid hK0
    clear hB0 hK0
    obtain ⟨d0_0, d0_1, d0_2, d0_3, d0_4, d0_5⟩ := K0.out.c6
    go_enter Try.func4, Try.ntmps4
    go_wp2_with fail
    clear hw0
    have V_0 := Lib.hid (HV.out.below B0.out)
    refine (H1.out _ V_0.out).mono ?_
    rintro e w1 ⟨rfl, hb1⟩
    have B1 := Lib.hid (bnext B0.out hb1)
    have K1 := Lib.hid (K0.out.below hb1)
    have V_1 := Lib.hid (V_0.out.below hb1)
    clear hb1  d0_0 d0_1 d0_2 d0_3 d0_4 d0_5
    obtain ⟨d1_0, d1_1, d1_2, d1_3, d1_4, d1_5⟩ := K1.out.c6
    go_wp2_with fail
    refine (H2.out _).mono ?_
    rintro e w2 ⟨rfl, hb2⟩
    have B2 := Lib.hid (bnext B1.out hb2)
    have K2 := Lib.hid (K1.out.below hb2)
    have V_2 := Lib.hid (V_1.out.below hb2)
    clear hb2  d1_0 d1_1 d1_2 d1_3 d1_4 d1_5
    obtain ⟨d2_0, d2_1, d2_2, d2_3, d2_4, d2_5⟩ := K2.out.c6
    go_wp2_with fail
    refine (is_bad 2 _ _ (by omega)).mono ?_
    rintro e w' ⟨rfl, rfl⟩
    go_wp2_with fail
    refine (alive_any _).mono ?_
    rintro e w3 ⟨rfl, hb3⟩
    have B3 := Lib.hid (bnext B2.out hb3)
    have K3 := Lib.hid (K2.out.below hb3)
    have V_3 := Lib.hid (V_2.out.below hb3)
    clear hb3  d2_0 d2_1 d2_2 d2_3 d2_4 d2_5
    obtain ⟨d3_0, d3_1, d3_2, d3_3, d3_4, d3_5⟩ := K3.out.c6
    go_wp2_with fail
    go_ret
    exact ⟨rfl, B3.out⟩
  
  by_cases g2 : d < 0
  · clear h
    have hB0 := (bnext (balloc w (.cells #[.int .u64 p, .int .i64 n, .int .i64 t] 24)) (balloc (w.alloc (.cells #[.int .u64 p, .int .i64 n, .int .i64 t] 24)) (.cells #[.int .u64 a, .int .i64 d, .slice A zs.length cap] 33)))
    have hK0 := ((((kept3 w (w.heap.size) (by simp) (.int .u64 p) (.int .i64 n) (.int .i64 t) 24)).alloc _).app (kept3 (w.alloc (.cells #[.int .u64 p, .int .i64 n, .int .i64 t] 24)) (w.heap.size + 1) (by simp) (.int .u64 a) (.int .i64 d) (.slice A zs.length cap) 33))
    obtain ⟨w0, hw0⟩ : ∃ w0, ((w.alloc (.cells #[.int .u64 p, .int .i64 n, .int .i64 t] 24)).alloc (.cells #[.int .u64 a, .int .i64 d, .slice A zs.length cap] 33)) = w0 := ⟨_, rfl⟩
    rw [hw0] at hB0 hK0
    have B0 := Lib.hid hB0
    have K0 := Lib.hid hK0
    clear hB0 hK0
    obtain ⟨d0_0, d0_1, d0_2, d0_3, d0_4, d0_5⟩ := K0.out.c6
    go_enter Try.func4, Try.ntmps4
    go_wp2_with fail
    clear hw0
    have V_0 := Lib.hid (HV.out.below B0.out)
    refine (H1.out _ V_0.out).mono ?_
    rintro e w1 ⟨rfl, hb1⟩
    have B1 := Lib.hid (bnext B0.out hb1)
    have K1 := Lib.hid (K0.out.below hb1)
    have V_1 := Lib.hid (V_0.out.below hb1)
    clear hb1  d0_0 d0_1 d0_2 d0_3 d0_4 d0_5
    obtain ⟨d1_0, d1_1, d1_2, d1_3, d1_4, d1_5⟩ := K1.out.c6
    go_wp2_with fail
    refine (H2.out _).mono ?_
    rintro e w2 ⟨rfl, hb2⟩
    have B2 := Lib.hid (bnext B1.out hb2)
    have K2 := Lib.hid (K1.out.below hb2)
    have V_2 := Lib.hid (V_1.out.below hb2)
    clear hb2  d1_0 d1_1 d1_2 d1_3 d1_4 d1_5
    obtain ⟨d2_0, d2_1, d2_2, d2_3, d2_4, d2_5⟩ := K2.out.c6
    go_wp2_with fail
    refine (is_bad 2 _ _ (by omega)).mono ?_
    rintro e w' ⟨rfl, rfl⟩
    go_wp2_with fail
    refine (alive_any _).mono ?_
    rintro e w3 ⟨rfl, hb3⟩
    have B3 := Lib.hid (bnext B2.out hb3)
    have K3 := Lib.hid (K2.out.below hb3)
    have V_3 := Lib.hid (V_2.out.below hb3)
    clear hb3  d2_0 d2_1 d2_2 d2_3 d2_4 d2_5
    obtain ⟨d3_0, d3_1, d3_2, d3_3, d3_4, d3_5⟩ := K3.out.c6
    go_wp2_with fail
    go_ret
    exact ⟨rfl, B3.out⟩
  
  have g3 : n - 1 < d := by omega
  clear h
  have hB0 := (bnext (balloc w (.cells #[.int .u64 p, .int .i64 n, .int .i64 t] 24)) (balloc (w.alloc (.cells #[.int .u64 p, .int .i64 n, .int .i64 t] 24)) (.cells #[.int .u64 a, .int .i64 d, .slice A zs.length cap] 33)))
  have hK0 := ((((kept3 w (w.heap.size) (by simp) (.int .u64 p) (.int .i64 n) (.int .i64 t) 24)).alloc _).app (kept3 (w.alloc (.cells #[.int .u64 p, .int .i64 n, .int .i64 t] 24)) (w.heap.size + 1) (by simp) (.int .u64 a) (.int .i64 d) (.slice A zs.length cap) 33))
  obtain ⟨w0, hw0⟩ : ∃ w0, ((w.alloc (.cells #[.int .u64 p, .int .i64 n, .int .i64 t] 24)).alloc (.cells #[.int .u64 a, .int .i64 d, .slice A zs.length cap] 33)) = w0 := ⟨_, rfl⟩
  rw [hw0] at hB0 hK0
  have B0 := Lib.hid hB0
  have K0 := Lib.hid hK0
  clear hB0 hK0
  obtain ⟨d0_0, d0_1, d0_2, d0_3, d0_4, d0_5⟩ := K0.out.c6
  go_enter Try.func4, Try.ntmps4
  go_wp2_with fail
  clear hw0
  have V_0 := Lib.hid (HV.out.below B0.out)
  refine (H1.out _ V_0.out).mono ?_
  rintro e w1 ⟨rfl, hb1⟩
  have B1 := Lib.hid (bnext B0.out hb1)
  have K1 := Lib.hid (K0.out.below hb1)
  have V_1 := Lib.hid (V_0.out.below hb1)
  clear hb1  d0_0 d0_1 d0_2 d0_3 d0_4 d0_5
  obtain ⟨d1_0, d1_1, d1_2, d1_3, d1_4, d1_5⟩ := K1.out.c6
  go_wp2_with fail
  refine (H2.out _).mono ?_
  rintro e w2 ⟨rfl, hb2⟩
  have B2 := Lib.hid (bnext B1.out hb2)
  have K2 := Lib.hid (K1.out.below hb2)
  have V_2 := Lib.hid (V_1.out.below hb2)
  clear hb2  d1_0 d1_1 d1_2 d1_3 d1_4 d1_5
  obtain ⟨d2_0, d2_1, d2_2, d2_3, d2_4, d2_5⟩ := K2.out.c6
  go_wp2_with fail
  refine (is_bad 2 _ _ (by omega)).mono ?_
  rintro e w' ⟨rfl, rfl⟩
  go_wp2_with fail
  refine (alive_any _).mono ?_
  rintro e w3 ⟨rfl, hb3⟩
  have B3 := Lib.hid (bnext B2.out hb3)
  have K3 := Lib.hid (K2.out.below hb3)
  have V_3 := Lib.hid (V_2.out.below hb3)
  clear hb3  d2_0 d2_1 d2_2 d2_3 d2_4 d2_5
  obtain ⟨d3_0, d3_1, d3_2, d3_3, d3_4, d3_5⟩ := K3.out.c6
  go_wp2_with fail
  go_ret
  exact ⟨rfl, B3.out⟩

theorem walk (w : World) (p : Nat) (n t : Int) (hp : p < 18446744073709551616) (hn1 : -9223372036854775808 ≤ n) (hn2 : n ≤ 9223372036854775807) (ht1 : -9223372036854775808 ≤ t) (ht2 : t ≤ 9223372036854775807)
    (a : Nat) (d : Int) (vt : Value) (zs : List Nat) (ha : a < 18446744073709551616) (hd1 : -9223372036854775808 ≤ d) (hd2 : d ≤ 9223372036854775807) (hv : Nums w vt zs) :
    Calls Try.prog 4 #[suV p n t, .agg #[.int .u64 a, .int .i64 d, vt]] w fun e w' => e = .returned (.bool true) ∧ Below w.heap.size w w' := by
  cases hs : M.okS p n t with
  | false => exact bad w p a n t d vt zs hp hn1 hn2 ht1 ht2 ha hd1 hd2 hv hs
  | true =>
    by_cases h : p ≤ a ∨ d < 0 ∨ n - 1 < d
    · exact arg w p a n t d vt zs hs ha hd1 hd2 hv h
    · obtain ⟨D, rfl⟩ := Int.eq_ofNat_of_zero_le (show 0 ≤ d by omega)
      exact ok w p n t a D vt zs hs (by omega) (by omega) hv
end Go.Proofs.Ytgjkinmfgejjaaa.shareMakesW
