/-
  The walk of the law ShareFits.
-/
import Derived.Test.YtgjkinmfgejjaaaS12
namespace Go.Proofs.Ytgjkinmfgejjaaa.shareFitsW
open Go.RowKit
set_option linter.unusedVariables false
set_option maxRecDepth 100000

set_option maxHeartbeats 1000000 in
theorem no (w : World) (p : Nat) (n t d : Int) (hp : p < 18446744073709551616) (hn1 : -9223372036854775808 ≤ n) (hn2 : n ≤ 9223372036854775807) (ht1 : -9223372036854775808 ≤ t) (ht2 : t ≤ 9223372036854775807) (hd1 : -9223372036854775808 ≤ d) (hd2 : d ≤ 9223372036854775807) (v : Value) (zs : List Nat) (hv : Nums w v zs) (h : M.okS p n t = false) :
    Calls Try.prog 7 #[suV p n t, .int .i64 d, v] w fun e w' => e = .returned (.bool true) ∧ Below w.heap.size w w' := by
  have H1 := Lib.hid fun W (hW : Nums W v zs) => fits_arg p n t d v zs W hp hn1 hn2 ht1 ht2 hd1 hd2 hW (.inl h)
  have h2 := fun W => rsetup_any p n t W hp hn1 hn2 ht1 ht2
  rw [show M.errS p n t = 2 by simp [M.errS, h]] at h2
  have H2 := Lib.hid h2
  have hs0 : ((2 : Int) == 0) = false := rfl
  have hs1 : ((2 : Int) != 0) = true := rfl
  have hs2 : ((2 : Int) == 2) = true := rfl
  have HV := Lib.hid hv
  have hud : ∀ b : Bool, undef ≠ Value.bool b := fun b h => by cases h
  obtain ⟨A, cap, rfl⟩ := nums_slice' hv
  unfold suV at H1 H2 ⊢
  clear h2 hv h
  have hB0 := (balloc w (.cells #[.int .u64 p, .int .i64 n, .int .i64 t] 24))
  have hK0 := (kept3 w (w.heap.size) (by simp) (.int .u64 p) (.int .i64 n) (.int .i64 t) 24)
  obtain ⟨w0, hw0⟩ : ∃ w0, (w.alloc (.cells #[.int .u64 p, .int .i64 n, .int .i64 t] 24)) = w0 := ⟨_, rfl⟩
  rw [hw0] at hB0 hK0
  have B0 := Lib.hid hB0
  have K0 := Lib.hid hK0
  clear hB0 hK0
  obtain ⟨d0_0, d0_1, d0_2⟩ := K0.out.c3
  go_enter Try.func7, Try.ntmps7
  go_wp2_with fail
  clear hw0
  have V_0 := Lib.hid (HV.out.below B0.out)
  refine (H1.out _ V_0.out).mono ?_
  rintro e w1 ⟨rfl, hb1⟩
  have B1 := Lib.hid (bnext B0.out hb1)
  have K1 := Lib.hid (K0.out.below hb1)
  have V_1 := Lib.hid (V_0.out.below hb1)
  clear hb1  d0_0 d0_1 d0_2
  obtain ⟨d1_0, d1_1, d1_2⟩ := K1.out.c3
  go_wp2_with fail
  refine (H2.out _).mono ?_
  rintro e w2 ⟨rfl, hb2⟩
  have B2 := Lib.hid (bnext B1.out hb2)
  have K2 := Lib.hid (K1.out.below hb2)
  have V_2 := Lib.hid (V_1.out.below hb2)
  clear hb2  d1_0 d1_1 d1_2
  obtain ⟨d2_0, d2_1, d2_2⟩ := K2.out.c3
  go_wp2_with fail
  refine (alive_any _).mono ?_
  rintro e w3 ⟨rfl, hb3⟩
  have B3 := Lib.hid (bnext B2.out hb3)
  have K3 := Lib.hid (K2.out.below hb3)
  have V_3 := Lib.hid (V_2.out.below hb3)
  clear hb3  d2_0 d2_1 d2_2
  obtain ⟨d3_0, d3_1, d3_2⟩ := K3.out.c3
  go_wp2_with fail
  go_ret
  exact ⟨rfl, B3.out⟩

set_option maxHeartbeats 1000000 in
theorem neg (w : World) (p : Nat) (n t d : Int) (hp : p < 18446744073709551616) (hn1 : -9223372036854775808 ≤ n) (hn2 : n ≤ 9223372036854775807) (ht1 : -9223372036854775808 ≤ t) (ht2 : t ≤ 9223372036854775807) (hd1 : -9223372036854775808 ≤ d) (hd2 : d ≤ 9223372036854775807) (v : Value) (zs : List Nat) (hv : Nums w v zs) (hok : M.okS p n t = true) (h : d < 0) :
    Calls Try.prog 7 #[suV p n t, .int .i64 d, v] w fun e w' => e = .returned (.bool true) ∧ Below w.heap.size w w' := by
  have H1 := Lib.hid fun W (hW : Nums W v zs) => fits_arg p n t d v zs W hp hn1 hn2 ht1 ht2 hd1 hd2 hW (.inr (.inl h))
  have h2 := fun W => rsetup_any p n t W hp hn1 hn2 ht1 ht2
  rw [← M.errS_ok hok] at h2
  have H2 := Lib.hid h2
  have hs0 : ((0 : Int) == 0) = true := rfl
  have hs1 : ((2 : Int) != 0) = true := rfl
  have hs2 : ((2 : Int) == 2) = true := rfl
  have HV := Lib.hid hv
  have hud : ∀ b : Bool, undef ≠ Value.bool b := fun b h => by cases h
  obtain ⟨A, cap, rfl⟩ := nums_slice' hv
  unfold suV at H1 H2 ⊢
  clear h2 hv hok
  have hB0 := (balloc w (.cells #[.int .u64 p, .int .i64 n, .int .i64 t] 24))
  have hK0 := (kept3 w (w.heap.size) (by simp) (.int .u64 p) (.int .i64 n) (.int .i64 t) 24)
  obtain ⟨w0, hw0⟩ : ∃ w0, (w.alloc (.cells #[.int .u64 p, .int .i64 n, .int .i64 t] 24)) = w0 := ⟨_, rfl⟩
  rw [hw0] at hB0 hK0
  have B0 := Lib.hid hB0
  have K0 := Lib.hid hK0
  clear hB0 hK0
  obtain ⟨d0_0, d0_1, d0_2⟩ := K0.out.c3
  go_enter Try.func7, Try.ntmps7
  go_wp2_with fail
  clear hw0
  have V_0 := Lib.hid (HV.out.below B0.out)
  refine (H1.out _ V_0.out).mono ?_
  rintro e w1 ⟨rfl, hb1⟩
  have B1 := Lib.hid (bnext B0.out hb1)
  have K1 := Lib.hid (K0.out.below hb1)
  have V_1 := Lib.hid (V_0.out.below hb1)
  clear hb1  d0_0 d0_1 d0_2
  obtain ⟨d1_0, d1_1, d1_2⟩ := K1.out.c3
  go_wp2_with fail
  refine (H2.out _).mono ?_
  rintro e w2 ⟨rfl, hb2⟩
  have B2 := Lib.hid (bnext B1.out hb2)
  have K2 := Lib.hid (K1.out.below hb2)
  have V_2 := Lib.hid (V_1.out.below hb2)
  clear hb2  d1_0 d1_1 d1_2
  obtain ⟨d2_0, d2_1, d2_2⟩ := K2.out.c3
  go_wp2_with fail
  refine (alive_any _).mono ?_
  rintro e w3 ⟨rfl, hb3⟩
  have B3 := Lib.hid (bnext B2.out hb3)
  have K3 := Lib.hid (K2.out.below hb3)
  have V_3 := Lib.hid (V_2.out.below hb3)
  clear hb3  d2_0 d2_1 d2_2
  obtain ⟨d3_0, d3_1, d3_2⟩ := K3.out.c3
  go_wp2_with fail
  go_ret
  exact ⟨rfl, B3.out⟩

set_option maxHeartbeats 1000000 in
theorem bad (w : World) (p N : Nat) (t d : Int) (hd1 : 0 ≤ d) (hd2 : d ≤ 9223372036854775807) (v : Value) (zs : List Nat) (hv : Nums w v zs) (hok : M.okS p (N : Int) t = true) (h : ¬ (zs.length = N ∧ M.within p zs = true)) :
    Calls Try.prog 7 #[suV p (N : Int) t, .int .i64 d, v] w fun e w' => e = .returned (.bool true) ∧ Below w.heap.size w w' := by
  obtain ⟨hi, hn1, hn2, ht1, ht2, hnp⟩ := M.okS_iff.1 hok
  obtain ⟨h3, hp⟩ := M.pos_of hi
  have h1 : ∀ W, Nums W v zs → Calls Try.prog 32 #[suV p (N : Int) t, .int .i64 d, v] W fun e w' => e = .returned (.tuple #[.bool false, .int .i64 2]) ∧ Below W.heap.size W w' := by
    intro W hW
    by_cases hl : zs.length = N
    · refine (fits_any p N t d v zs W hok hd1 hd2 hW hl).mono ?_
      rintro e w' ⟨hb, ⟨hw, _⟩ | ⟨_, rfl⟩⟩
      · exact absurd ⟨hl, hw⟩ h
      · exact ⟨rfl, hb⟩
    · exact fits_arg p (N : Int) t d v zs W (by omega) (by omega) (by omega) (by omega) (by omega) (by omega) (by omega) hW (.inr (.inr (by omega)))
  have H1 := Lib.hid h1
  have h2 := fun W => rsetup_any p (N : Int) t W (by omega) (by omega) (by omega) (by omega) (by omega)
  rw [← M.errS_ok hok] at h2
  have H2 := Lib.hid h2
  have h3' := fun W (hW : Nums W v zs) => rall_any p (N : Int) t v zs W hW
  rw [show (if (zs.length : Int) = (N : Int) then errOf (M.within p zs) else 2) = 2 by
    split
    · rename_i hl
      cases hw : M.within p zs with
      | true => exact absurd ⟨by omega, hw⟩ h
      | false => rfl
    · rfl] at h3'
  have H3 := Lib.hid h3'
  have hs0 : ((0 : Int) == 0) = true := rfl
  have hs1 : ((2 : Int) != 0) = true := rfl
  have hs2 : ((2 : Int) == 2) = true := rfl
  have hd0 : ¬ d < 0 := by omega
  have HV := Lib.hid hv
  have hud : ∀ b : Bool, undef ≠ Value.bool b := fun b h => by cases h
  obtain ⟨A, cap, rfl⟩ := nums_slice' hv
  unfold suV at H1 H2 H3 ⊢
  clear h1 h2 h3' hv hok hi h
  have hB0 := (balloc w (.cells #[.int .u64 p, .int .i64 N, .int .i64 t] 24))
  have hK0 := (kept3 w (w.heap.size) (by simp) (.int .u64 p) (.int .i64 N) (.int .i64 t) 24)
  obtain ⟨w0, hw0⟩ : ∃ w0, (w.alloc (.cells #[.int .u64 p, .int .i64 N, .int .i64 t] 24)) = w0 := ⟨_, rfl⟩
  rw [hw0] at hB0 hK0
  have B0 := Lib.hid hB0
  have K0 := Lib.hid hK0
  clear hB0 hK0
  obtain ⟨d0_0, d0_1, d0_2⟩ := K0.out.c3
  go_enter Try.func7, Try.ntmps7
  go_wp2_with fail
  clear hw0
  have V_0 := Lib.hid (HV.out.below B0.out)
  refine (H1.out _ V_0.out).mono ?_
  rintro e w1 ⟨rfl, hb1⟩
  have B1 := Lib.hid (bnext B0.out hb1)
  have K1 := Lib.hid (K0.out.below hb1)
  have V_1 := Lib.hid (V_0.out.below hb1)
  clear hb1  d0_0 d0_1 d0_2
  obtain ⟨d1_0, d1_1, d1_2⟩ := K1.out.c3
  go_wp2_with fail
  refine (H2.out _).mono ?_
  rintro e w2 ⟨rfl, hb2⟩
  have B2 := Lib.hid (bnext B1.out hb2)
  have K2 := Lib.hid (K1.out.below hb2)
  have V_2 := Lib.hid (V_1.out.below hb2)
  clear hb2  d1_0 d1_1 d1_2
  obtain ⟨d2_0, d2_1, d2_2⟩ := K2.out.c3
  go_wp2_with fail
  refine (H3.out _ V_2.out).mono ?_
  rintro e w3 ⟨rfl, hb3⟩
  have B3 := Lib.hid (bnext B2.out hb3)
  have K3 := Lib.hid (K2.out.below hb3)
  have V_3 := Lib.hid (V_2.out.below hb3)
  clear hb3  d2_0 d2_1 d2_2
  obtain ⟨d3_0, d3_1, d3_2⟩ := K3.out.c3
  go_wp2_with fail
  refine (alive_any _).mono ?_
  rintro e w4 ⟨rfl, hb4⟩
  have B4 := Lib.hid (bnext B3.out hb4)
  have K4 := Lib.hid (K3.out.below hb4)
  have V_4 := Lib.hid (V_3.out.below hb4)
  clear hb4  d3_0 d3_1 d3_2
  obtain ⟨d4_0, d4_1, d4_2⟩ := K4.out.c3
  go_wp2_with fail
  go_ret
  exact ⟨rfl, B4.out⟩

set_option maxHeartbeats 2000000 in
theorem ok (w : World) (p N : Nat) (t d : Int) (hd1 : 0 ≤ d) (hd2 : d ≤ 9223372036854775807) (v : Value) (zs : List Nat) (hv : Nums w v zs) (hok : M.okS p (N : Int) t = true) (hl : zs.length = N) (hw : M.within p zs = true) :
    Calls Try.prog 7 #[suV p (N : Int) t, .int .i64 d, v] w fun e w' => e = .returned (.bool true) ∧ Below w.heap.size w w' := by
  obtain ⟨hi, hn1, hn2, ht1, ht2, hnp⟩ := M.okS_iff.1 hok
  obtain ⟨h3, hp⟩ := M.pos_of hi
  have H1 := Lib.hid fun W (hW : Nums W v zs) => fits_any p N t d v zs W hok hd1 hd2 hW hl
  have h2 := fun W => rsetup_any p (N : Int) t W (by omega) (by omega) (by omega) (by omega) (by omega)
  rw [← M.errS_ok hok] at h2
  have H2 := Lib.hid h2
  have h3' := fun W (hW : Nums W v zs) => rall_any p (N : Int) t v zs W hW
  rw [show (if (zs.length : Int) = (N : Int) then errOf (M.within p zs) else 2) = 0 by rw [if_pos (by omega), hw]; rfl] at h3'
  have H3 := Lib.hid h3'
  have h4 := fun W (hW : Nums W v zs) => rpts_any v zs W (by omega) hW
  rw [hl] at h4
  have H4 := Lib.hid h4
  have H5 := Lib.hid fun W u (hP : Pts W u (M.prts N) zs) => rline_any p (min d (N : Int)) u _ zs W (by omega) (by omega) hP hi (by rw [M.prts_len]; omega) (M.prts_within (by omega)) hw (M.prts_nodup N)
  have HU := Lib.hid fun f f' (a : M.Thru p (M.prts N) zs f) (b : M.Thru p (M.prts N) zs f') => M.Thru.unique hi (M.prts_nodup N) (M.prts_within (by omega)) a b
  have HM : Hid (∀ f, M.Thru p (M.prts N) zs f → decide ((f.length : Int) ≤ min d (N : Int) + 1) = decide ((f.length : Int) - 1 ≤ d)) := Lib.hid fun f hT => by
    have := hT.2.2.1
    rw [M.prts_len] at this
    rw [decide_eq_decide]
    omega
  have HW := Lib.hid hw
  have hs0 : ((0 : Int) == 0) = true := rfl
  have hs1 : ((0 : Int) != 0) = false := rfl
  have hd0 : ¬ d < 0 := by omega
  have HV := Lib.hid hv
  have hud : ∀ b : Bool, undef ≠ Value.bool b := fun b h => by cases h
  obtain ⟨A, cap, rfl⟩ := nums_slice' hv
  unfold suV at H1 H2 H3 ⊢
  rw [hl] at *
  clear h2 h3' h4 hv hok hi hl hw
  have hB0 := (balloc w (.cells #[.int .u64 p, .int .i64 N, .int .i64 t] 24))
  have hK0 := (kept3 w (w.heap.size) (by simp) (.int .u64 p) (.int .i64 N) (.int .i64 t) 24)
  obtain ⟨w0, hw0⟩ : ∃ w0, (w.alloc (.cells #[.int .u64 p, .int .i64 N, .int .i64 t] 24)) = w0 := ⟨_, rfl⟩
  rw [hw0] at hB0 hK0
  have B0 := Lib.hid hB0
  have K0 := Lib.hid hK0
  clear hB0 hK0
  obtain ⟨d0_0, d0_1, d0_2⟩ := K0.out.c3
  go_enter Try.func7, Try.ntmps7
  go_wp2_with fail
  clear hw0
  have V_0 := Lib.hid (HV.out.below B0.out)
  refine (H1.out _ V_0.out).mono ?_
  rintro e w1 ⟨hb1, ⟨_, f, hT, rfl⟩ | ⟨hw, _⟩⟩
  case inr => exact absurd HW.out (by rw [hw]; simp)
  have HT := Lib.hid hT
  clear hT
  have B1 := Lib.hid (bnext B0.out hb1)
  have K1 := Lib.hid (K0.out.below hb1)
  have V_1 := Lib.hid (V_0.out.below hb1)
  clear hb1  d0_0 d0_1 d0_2
  obtain ⟨d1_0, d1_1, d1_2⟩ := K1.out.c3
  go_wp2_with fail
  refine (H2.out _).mono ?_
  rintro e w2 ⟨rfl, hb2⟩
  have B2 := Lib.hid (bnext B1.out hb2)
  have K2 := Lib.hid (K1.out.below hb2)
  have V_2 := Lib.hid (V_1.out.below hb2)
  clear hb2  d1_0 d1_1 d1_2
  obtain ⟨d2_0, d2_1, d2_2⟩ := K2.out.c3
  go_wp2_with fail
  refine (H3.out _ V_2.out).mono ?_
  rintro e w3 ⟨rfl, hb3⟩
  have B3 := Lib.hid (bnext B2.out hb3)
  have K3 := Lib.hid (K2.out.below hb3)
  have V_3 := Lib.hid (V_2.out.below hb3)
  clear hb3  d2_0 d2_1 d2_2
  obtain ⟨d3_0, d3_1, d3_2⟩ := K3.out.c3
  have HMN := HM.out f HT.out
  generalize hgd : decide ((f.length : Int) - 1 ≤ d) = r at HMN ⊢
  have hrr : (r == r) = true := by simp
  clear hgd
  go_wp2_with fail
  have hK := K3.out
  have hB := B3.out
  go_region_held3 (fun W' => W'.cell? ⟨w.heap.size, 0, none⟩ = some (.int .u64 p) ∧ W'.cell? ⟨w.heap.size, 1, none⟩ = some (.int .i64 N) ∧ W'.cell? ⟨w.heap.size, 2, none⟩ = some (.int .i64 t))
    (first | exact hK.c3 | go_keep | exact q4.c3 | exact q5.c3)
    (first
      | (go_at_call 30; refine (H5.out _ _ (hP)).mono ?_; rintro e w5 ⟨u5, f', rfl, hF', hT', hb5⟩; have q5 := Kept.below q4 hb5; have r5 := bnext r4 hb5; have V5 := (V4).below hb5; have P5 := (hP).below hb5)
      | (go_at_call 34; refine (H4.out _ ((V_3.out).below (Below.refl _ _).drew)).mono ?_; rintro e w4 ⟨u4, rfl, hP, hb4⟩; have q4 := Kept.below hK (below_of_drew hb4); have r4 := bnext hB (below_of_drew hb4); have V4 := (V_3.out).below (below_of_drew hb4)))
  all_goals
    have B5 := Lib.hid r5
    have K5 := Lib.hid q5
    have V_5 := Lib.hid (V5)
    have P_5 := Lib.hid (P5)
    have F'_5 := Lib.hid (hF')
    clear hK hB d3_0 d3_1 d3_2 hb4 q4 r4 hb5 q5 r5
    obtain ⟨d5_0, d5_1, d5_2⟩ := K5.out.c3
    have e := HU.out _ _ HT.out hT'
    rw [← e, HMN]
    clear hT' e HMN
    go_wp2_with fail
    refine (alive_any _).mono ?_
    rintro e w6 ⟨rfl, hb6⟩
    have B6 := Lib.hid (bnext B5.out hb6)
    have K6 := Lib.hid (K5.out.below hb6)
    have V_6 := Lib.hid (V_5.out.below hb6)
    have P_6 := Lib.hid (P_5.out.below hb6)
    have F'_6 := Lib.hid (F'_5.out.below hb6)
    clear hb6  d5_0 d5_1 d5_2
    obtain ⟨d6_0, d6_1, d6_2⟩ := K6.out.c3
    go_wp2_with fail
    go_ret
    exact ⟨rfl, B6.out⟩

theorem walk (w : World) (p : Nat) (n t : Int) (hp : p < 18446744073709551616) (hn1 : -9223372036854775808 ≤ n) (hn2 : n ≤ 9223372036854775807) (ht1 : -9223372036854775808 ≤ t) (ht2 : t ≤ 9223372036854775807) (d : Int) (hd1 : -9223372036854775808 ≤ d) (hd2 : d ≤ 9223372036854775807) (v : Value) (zs : List Nat) (hv : Nums w v zs) :
    Calls Try.prog 7 #[suV p n t, .int .i64 d, v] w fun e w' => e = .returned (.bool true) ∧ Below w.heap.size w w' := by
  cases hs : M.okS p n t with
  | false => exact no w p n t d hp hn1 hn2 ht1 ht2 hd1 hd2 v zs hv hs
  | true =>
    by_cases hd : d < 0
    · exact neg w p n t d hp hn1 hn2 ht1 ht2 hd1 hd2 v zs hv hs hd
    · obtain ⟨N, T, rfl, rfl, _⟩ := M.okS_nat hs
      by_cases h : zs.length = N ∧ M.within p zs = true
      · exact ok w p N T d (by omega) hd2 v zs hv hs h.1 h.2
      · exact bad w p N T d (by omega) hd2 v zs hv hs h
end Go.Proofs.Ytgjkinmfgejjaaa.shareFitsW
