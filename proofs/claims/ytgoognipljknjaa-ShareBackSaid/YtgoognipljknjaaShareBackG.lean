/-
  The walk of the law ShareBack.
-/
import Derived.RegionTactic
import Derived.ChangeAlike
import Derived.Test.YtgoognipljknjaaBack6
namespace Go.Proofs.Ytgoognipljknjaa.shareBackW
open Go.RowKit
set_option linter.unusedVariables false
set_option maxRecDepth 100000

set_option maxHeartbeats 4000000 in
theorem ok (w : World) (p N D a b c : Nat) (t d2 : Int) (vt vt2 : Value) (zs zs2 : List Nat) (hok : M.okS p (N : Int) t = true) (ha : a < p) (hb : b < p) (hD : D < N) (hc : c < p) (hv : Nums w vt zs) (hv2 : Nums w vt2 zs2) :
    Calls Try.prog 11 #[suV p (N : Int) t, .agg #[.int .u64 a, .int .i64 D, vt, .int .u64 b, .int .i64 d2, vt2], .int .u64 c] w fun e w' => e = .returned (.bool true) ∧ Below w.heap.size w w' := by
  obtain ⟨hi, hn1, hn2, ht1, ht2, hnp⟩ := M.okS_iff.1 hok
  obtain ⟨h3, hp⟩ := M.pos_of hi
  have HMA := Lib.hid fun W (hW : Nums W vt zs) => make_ok p a D (N : Int) t vt zs W hok ha (by omega) hW
  have HMB := Lib.hid fun W (hW : Nums W vt2 zs2) => make_ok p b D (N : Int) t vt2 zs2 W hok hb (by omega) hW
  have hset := fun W => rsetup_any p (N : Int) t W (by omega) (by omega) (by omega) (by omega) (by omega)
  rw [← M.errS_ok hok] at hset
  have HSET := Lib.hid hset
  obtain ⟨f, ef⟩ : ∃ f, f = M.mk p a D zs := ⟨_, rfl⟩
  obtain ⟨g, eg⟩ : ∃ g, g = M.mk p b D zs2 := ⟨_, rfl⟩
  have hfw : M.within p f = true := by rw [ef]; exact M.within_trim (M.mkL_within ha _ _)
  have hgw : M.within p g = true := by rw [eg]; exact M.within_trim (M.mkL_within hb _ _)
  have hft : M.trim f = f := by rw [ef]; exact M.trim_trim _
  have hgt : M.trim g = g := by rw [eg]; exact M.trim_trim _
  have hfl : f.length ≤ D + 1 := by rw [ef]; refine Nat.le_trans (M.trim_len_le _) ?_; simp [M.drawn_len]
  have hgl : g.length ≤ D + 1 := by rw [eg]; refine Nat.le_trans (M.trim_len_le _) ?_; simp [M.drawn_len]
  have hf0 : M.pev p f 0 = a := by rw [ef]; unfold M.mk; rw [M.pev_trim]; simp [M.pev, M.evN, Nat.mod_eq_of_lt ha]
  have hg0 : M.pev p g 0 = b := by rw [eg]; unfold M.mk; rw [M.pev_trim]; simp [M.pev, M.evN, Nat.mod_eq_of_lt hb]
  rw [← ef] at HMA
  rw [← eg] at HMB
  have hkf : M.chk p f 201 = 0 := M.chk_of hi (by omega) hfw
  have hkg : M.chk p g 201 = 0 := M.chk_of hi (by omega) hgw
  have HSF := Lib.hid fun W v (hW : Nums W v f) => shares_ok p N t v f W hok hW hkf
  have HSG := Lib.hid fun W v (hW : Nums W v g) => shares_ok p N t v g W hok hW hkg
  have hsl := fun h => M.shsb_len p N h
  have hsw := fun h => M.shsb_within (p := p) (by omega) N h
  have HSUM := Lib.hid fun W vx vy (hx : Nums W vx (M.shs p N f)) (hy : Nums W vy (M.shs p N g)) => sum_pair p N t vx vy _ _ W hok (hsl f) (hsl g) (hsw f) (hsw g) hx hy
  have HSCL := Lib.hid fun W vx (hx : Nums W vx (M.shs p N f)) => scale_good p N c t vx _ W hok (hsl f) (hsw f) hc hx
  rw [M.shs_add (by omega)] at HSUM
  rw [M.shs_scale] at HSCL
  have hSf : M.Sh p D f := ⟨hfw, hft, hfl⟩
  have hSg : M.Sh p D g := ⟨hgw, hgt, hgl⟩
  have hSu : M.Sh p D (M.padd p f g) := hSf.add (by omega) hSg
  have hSt : M.Sh p D (M.pscale p f c) := hSf.scale (by omega) c
  have HTRI := Lib.hid (tri p N D f (M.padd p f g) (M.pscale p f c) hSf hSu hSt)
  have HFIT := Lib.hid fun W v q (hq : M.Sh p D q) (hW : Nums W v (M.shs p N q)) => fits_good p N D t q v W hok hD hq hW
  have hpt := fun W v q (hW : Nums W v (M.shs p N q)) => rpts_any v (M.shs p N q) W (by rw [M.shsb_len]; omega) hW
  simp only [M.shsb_len] at hpt
  have HPT := Lib.hid hpt
  obtain ⟨m, em⟩ : ∃ m, m = N - 1 - D := ⟨_, rfl⟩
  have hlow : IntKind.i64.wrap (IntKind.i64.wrap ((N : Int) - 1) - D) = m := by
    rw [IntWalk.i64_in ((N : Int) - 1) (by omega), IntWalk.i64_in _ (by omega)]; omega
  have hmN : m ≤ N := by omega
  have HMD := Lib.hid (show D + m + 1 = N by omega)
  have hs1 := fun W v (hW : Pts W v ((M.prts N).drop m) ((M.shs p N f).drop m)) => secret_cut p N D m t f v W hok (by omega) hSf hW
  rw [hf0] at hs1
  have HS1 := Lib.hid hs1
  have hs2 := fun W v (hW : Pts W v (M.prts N) (M.shs p N (M.padd p f g))) => secret_all p N D t _ v W hok hD hSu hW
  rw [M.pev_add, hf0, hg0] at hs2
  have hs3 := fun W v (hW : Pts W v (M.prts N) (M.shs p N (M.pscale p f c))) => secret_all p N D t _ v W hok hD hSt hW
  rw [M.pev_scale, hf0] at hs3
  have hadd := fun W => refAdd_any p a b W (by omega) (by omega) ha hb
  have hmul := fun W => refMul_any p a c W (by omega) (by omega) ha hc
  obtain ⟨y, ey⟩ : ∃ y, y = (a + b) % p := ⟨_, rfl⟩
  rw [← ey] at hs2 hadd
  obtain ⟨z, ez⟩ : ∃ z, z = a * c % p := ⟨_, rfl⟩
  rw [← ez] at hs3 hmul
  have HS2 := Lib.hid hs2
  have HS3 := Lib.hid hs3
  have HADD := Lib.hid hadd
  have HMUL := Lib.hid hmul
  have hqa : ((a : Int) == a) = true := by simp
  have hqy : ((y : Int) == y) = true := by simp
  have hqz : ((z : Int) == z) = true := by simp
  have hPL := M.prts_len N
  have HV := Lib.hid hv
  have HZ := Lib.hid hv2
  obtain ⟨A, cap, rfl⟩ := nums_slice' hv
  obtain ⟨A2, cap2, rfl⟩ := nums_slice' hv2
  have hB0 := bnext (balloc w (.cells #[.int .u64 p, .int .i64 N, .int .i64 t] 40)) (balloc (w.alloc (.cells #[.int .u64 p, .int .i64 N, .int .i64 t] 40)) (.cells #[.int .u64 a, .int .i64 D, .slice A zs.length cap, .int .u64 b, .int .i64 d2, .slice A2 zs2.length cap2] 79))
  have hK0 := ((kept3 w w.heap.size rfl (.int .u64 p) (.int .i64 N) (.int .i64 t) 40).alloc (.cells #[.int .u64 a, .int .i64 D, .slice A zs.length cap, .int .u64 b, .int .i64 d2, .slice A2 zs2.length cap2] 79)).app (kept6 (w.alloc (.cells #[.int .u64 p, .int .i64 N, .int .i64 t] 40)) (w.heap.size + 1) (by simp) (.int .u64 a) (.int .i64 D) (.slice A zs.length cap) (.int .u64 b) (.int .i64 d2) (.slice A2 zs2.length cap2) 79)
  obtain ⟨w0, hw0⟩ : ∃ w0, (w.alloc (.cells #[.int .u64 p, .int .i64 N, .int .i64 t] 40)).alloc (.cells #[.int .u64 a, .int .i64 D, .slice A zs.length cap, .int .u64 b, .int .i64 d2, .slice A2 zs2.length cap2] 79) = w0 := ⟨_, rfl⟩
  have hs0 : w0.heap.size = w.heap.size + 2 := by rw [← hw0]; simp
  rw [hw0] at hB0 hK0
  have B0 := Lib.hid hB0
  have KS0 := Lib.hid hK0.left
  have q0 : w0.cell? ⟨w.heap.size + 1, 0, none⟩ = some (.int .u64 a) := hK0.of (by simp)
  have q1 : w0.cell? ⟨w.heap.size + 1, 1, none⟩ = some (.int .i64 D) := hK0.of (by simp)
  have q2 : w0.cell? ⟨w.heap.size + 1, 2, none⟩ = some (.slice A zs.length cap) := hK0.of (by simp)
  have q3 : w0.cell? ⟨w.heap.size + 1, 3, none⟩ = some (.int .u64 b) := hK0.of (by simp)
  have q4 : w0.cell? ⟨w.heap.size + 1, 4, none⟩ = some (.int .i64 d2) := hK0.of (by simp)
  have q5 : w0.cell? ⟨w.heap.size + 1, 5, none⟩ = some (.slice A2 zs2.length cap2) := hK0.of (by simp)
  have n1 : w.heap.size + 1 ≠ w0.heap.size := by omega
  have n2 : w.heap.size + 1 ≠ w0.heap.size + 1 := by omega
  have n3 : w0.heap.size ≠ w.heap.size + 1 := by omega
  have n4 : w.heap.size + 1 < w0.heap.size := by omega
  have n5 : w0.heap.size + 1 ≠ w.heap.size + 1 := by omega
  have n6 : w.heap.size + 1 < w0.heap.size + 1 := by omega
  have HS0 := Lib.hid hs0
  have hud : ∀ b : Bool, undef ≠ Value.bool b := fun b h => by cases h
  have hs9 : ((0 : Int) != 0) = false := rfl
  have hs8 : ((0 : Int) == 0) = true := rfl
  unfold suV at HMA HMB HSET HSF HSG HSUM HSCL ⊢
  clear hB0 hK0 hs0 hset hok hv hv2 hi ef eg hfw hgw hft hgt hf0 hg0 hSf hSg hSu hSt hpt hs1 hs2 hs3 em ey ez hadd hmul hkf hkg hsl hsw
  go_enter Try.func11, Try.ntmps11
  go_wp2_with fail
  clear hw0
  go_region
  · skip
    obtain ⟨ka, eka⟩ : ∃ ka, ka = w0.heap.size := ⟨_, rfl⟩
    have hb1 : Below w0.heap.size w0 ((w0.alloc (.cells #[.int .u64 a, .int .i64 D, .slice A zs.length cap] 45)).alloc (.cells #[.int .u64 b, .int .i64 d2, .slice A2 zs2.length cap2] 45)).drew := (bnext (balloc w0 _) (balloc _ _)).drew
    have hk1 := (((KS0.out.alloc _).alloc _).app (((kept3 w0 ka eka (.int .u64 a) (.int .i64 D) (.slice A zs.length cap) 45).alloc _).app (kept3 (w0.alloc (.cells #[.int .u64 a, .int .i64 D, .slice A zs.length cap] 45)) (ka + 1) (by rw [eka]; simp) (.int .u64 b) (.int .i64 d2) (.slice A2 zs2.length cap2) 45))).drew
    obtain ⟨w1, hw1⟩ : ∃ w1, ((w0.alloc (.cells #[.int .u64 a, .int .i64 D, .slice A zs.length cap] 45)).alloc (.cells #[.int .u64 b, .int .i64 d2, .slice A2 zs2.length cap2] 45)).drew = w1 := ⟨_, rfl⟩
    rw [hw1] at hb1 hk1 ⊢
    rw [← eka]
    have B1 := Lib.hid (bnext B0.out hb1)
    have K1 := Lib.hid hk1
    have V_1 := Lib.hid (HV.out.below B1.out)
    have Z_1 := Lib.hid (HZ.out.below B1.out)
    clear hb1 hk1 hw1 q0 q1 q2 q3 q4 q5 n1 n2 n3 n4 n5 n6 eka
    obtain ⟨d1_0, d1_1, d1_2, d1_3, d1_4, d1_5, d1_6, d1_7, d1_8⟩ := K1.out.c9
    go_wp2_with fail
    refine (HSET.out _).mono ?_
    rintro e w2 ⟨rfl, hb2⟩
    have B2 := Lib.hid (bnext B1.out hb2)
    have K2 := Lib.hid (K1.out.below hb2)
    have V_2 := Lib.hid (V_1.out.below hb2)
    have Z_2 := Lib.hid (Z_1.out.below hb2)
    clear hb2  d1_0 d1_1 d1_2 d1_3 d1_4 d1_5 d1_6 d1_7 d1_8
    obtain ⟨d2_0, d2_1, d2_2, d2_3, d2_4, d2_5, d2_6, d2_7, d2_8⟩ := K2.out.c9
    go_wp2_with fail
    refine (HMA.out _ V_2.out).mono ?_
    rintro e w3 ⟨v3, u3, rfl, hF, hR, hb3⟩
    have B3 := Lib.hid (bnext B2.out hb3)
    have K3 := Lib.hid (K2.out.below hb3)
    have V_3 := Lib.hid (V_2.out.below hb3)
    have Z_3 := Lib.hid (Z_2.out.below hb3)
    have F_3 := Lib.hid hF
    clear hb3 hF d2_0 d2_1 d2_2 d2_3 d2_4 d2_5 d2_6 d2_7 d2_8
    obtain ⟨d3_0, d3_1, d3_2, d3_3, d3_4, d3_5, d3_6, d3_7, d3_8⟩ := K3.out.c9
    go_wp2_with fail
    refine (HMB.out _ Z_3.out).mono ?_
    rintro e w4 ⟨v4, u4, rfl, hG, hR2, hb4⟩
    have B4 := Lib.hid (bnext B3.out hb4)
    have K4 := Lib.hid (K3.out.below hb4)
    have V_4 := Lib.hid (V_3.out.below hb4)
    have Z_4 := Lib.hid (Z_3.out.below hb4)
    have F_4 := Lib.hid (F_3.out.below hb4)
    have G_4 := Lib.hid hG
    clear hb4 hG d3_0 d3_1 d3_2 d3_3 d3_4 d3_5 d3_6 d3_7 d3_8
    obtain ⟨d4_0, d4_1, d4_2, d4_3, d4_4, d4_5, d4_6, d4_7, d4_8⟩ := K4.out.c9
    go_wp2_with fail
    refine (HSF.out _ _ F_4.out).mono ?_
    rintro e w5 ⟨v5, rfl, hX, hb5⟩
    have B5 := Lib.hid (bnext B4.out hb5)
    have K5 := Lib.hid (K4.out.below hb5)
    have V_5 := Lib.hid (V_4.out.below hb5)
    have Z_5 := Lib.hid (Z_4.out.below hb5)
    have F_5 := Lib.hid (F_4.out.below hb5)
    have G_5 := Lib.hid (G_4.out.below hb5)
    have X_5 := Lib.hid hX
    clear hb5 hX d4_0 d4_1 d4_2 d4_3 d4_4 d4_5 d4_6 d4_7 d4_8
    obtain ⟨d5_0, d5_1, d5_2, d5_3, d5_4, d5_5, d5_6, d5_7, d5_8⟩ := K5.out.c9
    go_wp2_with fail
    refine (HSG.out _ _ G_5.out).mono ?_
    rintro e w6 ⟨v6, rfl, hY, hb6⟩
    have B6 := Lib.hid (bnext B5.out hb6)
    have K6 := Lib.hid (K5.out.below hb6)
    have V_6 := Lib.hid (V_5.out.below hb6)
    have Z_6 := Lib.hid (Z_5.out.below hb6)
    have F_6 := Lib.hid (F_5.out.below hb6)
    have G_6 := Lib.hid (G_5.out.below hb6)
    have X_6 := Lib.hid (X_5.out.below hb6)
    have Y_6 := Lib.hid hY
    clear hb6 hY d5_0 d5_1 d5_2 d5_3 d5_4 d5_5 d5_6 d5_7 d5_8
    obtain ⟨d6_0, d6_1, d6_2, d6_3, d6_4, d6_5, d6_6, d6_7, d6_8⟩ := K6.out.c9
    obtain ⟨Ax, cx, ex⟩ := nums_slice' X_6.out
    rw [M.shsb_len] at ex
    subst ex
    obtain ⟨Ay, cy, ey⟩ := nums_slice' Y_6.out
    rw [M.shsb_len] at ey
    subst ey
    go_wp2_with fail
    refine (HSUM.out _ _ _ X_6.out Y_6.out).mono ?_
    rintro e w7 ⟨v7, rfl, hU, hb7⟩
    have B7 := Lib.hid (bnext B6.out hb7)
    have K7 := Lib.hid (K6.out.below hb7)
    have V_7 := Lib.hid (V_6.out.below hb7)
    have Z_7 := Lib.hid (Z_6.out.below hb7)
    have F_7 := Lib.hid (F_6.out.below hb7)
    have G_7 := Lib.hid (G_6.out.below hb7)
    have X_7 := Lib.hid (X_6.out.below hb7)
    have Y_7 := Lib.hid (Y_6.out.below hb7)
    have U_7 := Lib.hid hU
    clear hb7 hU d6_0 d6_1 d6_2 d6_3 d6_4 d6_5 d6_6 d6_7 d6_8
    obtain ⟨d7_0, d7_1, d7_2, d7_3, d7_4, d7_5, d7_6, d7_7, d7_8⟩ := K7.out.c9
    go_wp2_with fail
    refine (HSCL.out _ _ X_7.out).mono ?_
    rintro e w8 ⟨v8, rfl, hT, hb8⟩
    have B8 := Lib.hid (bnext B7.out hb8)
    have K8 := Lib.hid (K7.out.below hb8)
    have V_8 := Lib.hid (V_7.out.below hb8)
    have Z_8 := Lib.hid (Z_7.out.below hb8)
    have F_8 := Lib.hid (F_7.out.below hb8)
    have G_8 := Lib.hid (G_7.out.below hb8)
    have X_8 := Lib.hid (X_7.out.below hb8)
    have Y_8 := Lib.hid (Y_7.out.below hb8)
    have U_8 := Lib.hid (U_7.out.below hb8)
    have T_8 := Lib.hid hT
    clear hb8 hT d7_0 d7_1 d7_2 d7_3 d7_4 d7_5 d7_6 d7_7 d7_8
    obtain ⟨d8_0, d8_1, d8_2, d8_3, d8_4, d8_5, d8_6, d8_7, d8_8⟩ := K8.out.c9
    obtain ⟨Au, cu, eu⟩ := nums_slice' U_8.out
    rw [M.shsb_len] at eu
    subst eu
    obtain ⟨At, ct, et⟩ := nums_slice' T_8.out
    rw [M.shsb_len] at et
    subst et
    have HM0 := mat3 w8 _ _ _ _ _ _ X_8.out U_8.out T_8.out
    have hb9 := balloc w8 (.cells #[.slice Ax N cx, .slice Au N cu, .slice At N ct] 24)
    obtain ⟨w9, hw9⟩ : ∃ w9, w8.alloc (.cells #[.slice Ax N cx, .slice Au N cu, .slice At N ct] 24) = w9 := ⟨_, rfl⟩
    rw [hw9] at HM0 hb9
    have HM := Lib.hid HM0
    clear HM0
    have B9 := Lib.hid (bnext B8.out hb9)
    have K9 := Lib.hid (K8.out.below hb9)
    have V_9 := Lib.hid (V_8.out.below hb9)
    have Z_9 := Lib.hid (Z_8.out.below hb9)
    have F_9 := Lib.hid (F_8.out.below hb9)
    have G_9 := Lib.hid (G_8.out.below hb9)
    have X_9 := Lib.hid (X_8.out.below hb9)
    have Y_9 := Lib.hid (Y_8.out.below hb9)
    have U_9 := Lib.hid (U_8.out.below hb9)
    have T_9 := Lib.hid (T_8.out.below hb9)
    clear hb9
    go_wp2_with fail
    clear hw9 d8_0 d8_1 d8_2 d8_3 d8_4 d8_5 d8_6 d8_7 d8_8
    go_loopw [131] (fun ti wr => ∃ k : Nat, k ≤ 3 ∧ ti = .int .i64 k ∧ Below w9.heap.size w9 wr) (fun ti _ => 3 - (intOf ti).toNat)
    case atStart => exact ⟨0, by omega, rfl, Below.refl _ _⟩
    case round =>
      obtain ⟨k, hk, rfl, hB⟩ := hrel
      have HBr := Lib.hid hB
      clear hB
      by_cases hlt : k < 3
      · skip
        have KR := Lib.hid (K9.out.below HBr.out)
        obtain ⟨dr_0, dr_1, dr_2, dr_3, dr_4, dr_5, dr_6, dr_7, dr_8⟩ := KR.out.c9
        obtain ⟨hb0, u, hcu, hNu⟩ := mat3_cell HM.out (i := k) (by simpa using hlt)
        obtain ⟨q, hq, eq⟩ := HTRI.out k hlt
        rw [eq] at hNu
        have hc0 := (HBr.out.cell (p := ⟨w8.heap.size, k, none⟩) hb0).trans hcu
        obtain ⟨Aq, cq, euq⟩ := nums_slice' hNu
        rw [M.shsb_len] at euq
        subst euq
        have NQ := Lib.hid (hNu.below HBr.out)
        have SQ := Lib.hid hq
        have hkn : (k : Int) < 3 := by omega
        have hNN : ((N : Int) != N) = false := by simp
        clear hcu hNu eq hq
        go_wp2_with fail
        refine (HFIT.out _ _ _ SQ.out NQ.out).mono ?_
        rintro e wf ⟨rfl, hbf⟩
        have HBf := Lib.hid (HBr.out.trans (hbf.mono HBr.out.size))
        have KF := Lib.hid (KR.out.below hbf)
        clear hbf dr_0 dr_1 dr_2 dr_3 dr_4 dr_5 dr_6 dr_7 dr_8
        obtain ⟨df_0, df_1, df_2, df_3, df_4, df_5, df_6, df_7, df_8⟩ := KF.out.c9
        go_wp2_with fail
        go_roundw
        case rel => exact ⟨k + 1, by omega, by go_num, HBf.out⟩
        case measure => simp [intOf]; omega
      · obtain rfl : k = 3 := by omega
        have hb10 := HBr.out
        have B10 := Lib.hid (bnext B9.out hb10)
        have K10 := Lib.hid (K9.out.below hb10)
        have V_10 := Lib.hid (V_9.out.below hb10)
        have Z_10 := Lib.hid (Z_9.out.below hb10)
        have F_10 := Lib.hid (F_9.out.below hb10)
        have G_10 := Lib.hid (G_9.out.below hb10)
        have X_10 := Lib.hid (X_9.out.below hb10)
        have Y_10 := Lib.hid (Y_9.out.below hb10)
        have U_10 := Lib.hid (U_9.out.below hb10)
        have T_10 := Lib.hid (T_9.out.below hb10)
        clear hb10  
        obtain ⟨d10_0, d10_1, d10_2, d10_3, d10_4, d10_5, d10_6, d10_7, d10_8⟩ := K10.out.c9
        go_wp2_with fail
        have hK := K10.out
        have hB := B10.out
        go_region_held3 (fun W' => W'.cell? ⟨w.heap.size, 0, none⟩ = some (.int .u64 p) ∧ W'.cell? ⟨w.heap.size, 1, none⟩ = some (.int .i64 N) ∧ W'.cell? ⟨w.heap.size, 2, none⟩ = some (.int .i64 t) ∧ W'.cell? ⟨ka, 0, none⟩ = some (.int .u64 a) ∧ W'.cell? ⟨ka, 1, none⟩ = some (.int .i64 D) ∧ W'.cell? ⟨ka, 2, none⟩ = some (.slice A zs.length cap) ∧ W'.cell? ⟨ka + 1, 0, none⟩ = some (.int .u64 b) ∧ W'.cell? ⟨ka + 1, 1, none⟩ = some (.int .i64 d2) ∧ W'.cell? ⟨ka + 1, 2, none⟩ = some (.slice A2 zs2.length cap2))
          (first | exact hK.c9 | go_keep | exact q11.c9 | exact q12.c9)
          (first
            | (go_at_call 37; refine (HS1.out _ _ (pts_cut (hP) (by have := HMD.out; omega))).mono ?_; rintro e w12 ⟨rfl, hb12⟩; have q12 := Kept.below q11 hb12; have r12 := bnext r11 hb12; have V12 := (V11).below hb12; have Z12 := (Z11).below hb12; have F12 := (F11).below hb12; have G12 := (G11).below hb12; have X12 := (X11).below hb12; have Y12 := (Y11).below hb12; have U12 := (U11).below hb12; have T12 := (T11).below hb12; have P12 := (hP).below hb12)
            | (go_at_call 44; refine (HPT.out _ _ _ ((X_10.out).below (Below.refl _ _).drew)).mono ?_; rintro e w11 ⟨u11, rfl, hP, hb11⟩; have q11 := Kept.below hK (below_of_drew hb11); have r11 := bnext hB (below_of_drew hb11); have V11 := (V_10.out).below (below_of_drew hb11); have Z11 := (Z_10.out).below (below_of_drew hb11); have F11 := (F_10.out).below (below_of_drew hb11); have G11 := (G_10.out).below (below_of_drew hb11); have X11 := (X_10.out).below (below_of_drew hb11); have Y11 := (Y_10.out).below (below_of_drew hb11); have U11 := (U_10.out).below (below_of_drew hb11); have T11 := (T_10.out).below (below_of_drew hb11); obtain ⟨bp11, op11, cp11, rfl, hcp11⟩ := pts_addr' hP hPL (by omega); have hcm11 : ¬ (cp11 = m) := by have := HMD.out; omega))
        all_goals
          have B12 := Lib.hid r12
          have K12 := Lib.hid q12
          have V_12 := Lib.hid (V12)
          have Z_12 := Lib.hid (Z12)
          have F_12 := Lib.hid (F12)
          have G_12 := Lib.hid (G12)
          have X_12 := Lib.hid (X12)
          have Y_12 := Lib.hid (Y12)
          have U_12 := Lib.hid (U12)
          have T_12 := Lib.hid (T12)
          have P_12 := Lib.hid (P12)
          clear hK hB d10_0 d10_1 d10_2 d10_3 d10_4 d10_5 d10_6 d10_7 d10_8 hb11 q11 r11 hb12 q12 r12
          obtain ⟨d12_0, d12_1, d12_2, d12_3, d12_4, d12_5, d12_6, d12_7, d12_8⟩ := K12.out.c9
          go_wp2_with fail
          have hK := K12.out
          have hB := B12.out
          go_region_held3 (fun W' => W'.cell? ⟨w.heap.size, 0, none⟩ = some (.int .u64 p) ∧ W'.cell? ⟨w.heap.size, 1, none⟩ = some (.int .i64 N) ∧ W'.cell? ⟨w.heap.size, 2, none⟩ = some (.int .i64 t) ∧ W'.cell? ⟨ka, 0, none⟩ = some (.int .u64 a) ∧ W'.cell? ⟨ka, 1, none⟩ = some (.int .i64 D) ∧ W'.cell? ⟨ka, 2, none⟩ = some (.slice A zs.length cap) ∧ W'.cell? ⟨ka + 1, 0, none⟩ = some (.int .u64 b) ∧ W'.cell? ⟨ka + 1, 1, none⟩ = some (.int .i64 d2) ∧ W'.cell? ⟨ka + 1, 2, none⟩ = some (.slice A2 zs2.length cap2))
            (first | exact hK.c9 | go_keep | exact q13.c9 | exact q14.c9)
            (first
              | (go_at_call 37; refine (HS2.out _ _ (hP)).mono ?_; rintro e w14 ⟨rfl, hb14⟩; have q14 := Kept.below q13 hb14; have r14 := bnext r13 hb14; have V14 := (V13).below hb14; have Z14 := (Z13).below hb14; have F14 := (F13).below hb14; have G14 := (G13).below hb14; have X14 := (X13).below hb14; have Y14 := (Y13).below hb14; have U14 := (U13).below hb14; have T14 := (T13).below hb14; have P14 := (hP).below hb14)
              | (go_at_call 44; refine (HPT.out _ _ _ ((U_12.out).below (Below.refl _ _).drew)).mono ?_; rintro e w13 ⟨u13, rfl, hP, hb13⟩; have q13 := Kept.below hK (below_of_drew hb13); have r13 := bnext hB (below_of_drew hb13); have V13 := (V_12.out).below (below_of_drew hb13); have Z13 := (Z_12.out).below (below_of_drew hb13); have F13 := (F_12.out).below (below_of_drew hb13); have G13 := (G_12.out).below (below_of_drew hb13); have X13 := (X_12.out).below (below_of_drew hb13); have Y13 := (Y_12.out).below (below_of_drew hb13); have U13 := (U_12.out).below (below_of_drew hb13); have T13 := (T_12.out).below (below_of_drew hb13); obtain ⟨bp13, op13, cp13, rfl, hcp13⟩ := pts_addr' hP hPL (by omega)))
          all_goals
            have B14 := Lib.hid r14
            have K14 := Lib.hid q14
            have V_14 := Lib.hid (V14)
            have Z_14 := Lib.hid (Z14)
            have F_14 := Lib.hid (F14)
            have G_14 := Lib.hid (G14)
            have X_14 := Lib.hid (X14)
            have Y_14 := Lib.hid (Y14)
            have U_14 := Lib.hid (U14)
            have T_14 := Lib.hid (T14)
            have P_14 := Lib.hid (P14)
            clear hK hB d12_0 d12_1 d12_2 d12_3 d12_4 d12_5 d12_6 d12_7 d12_8 hb13 q13 r13 hb14 q14 r14
            obtain ⟨d14_0, d14_1, d14_2, d14_3, d14_4, d14_5, d14_6, d14_7, d14_8⟩ := K14.out.c9
            go_wp2_with fail
            have hK := K14.out
            have hB := B14.out
            go_region_held3 (fun W' => W'.cell? ⟨w.heap.size, 0, none⟩ = some (.int .u64 p) ∧ W'.cell? ⟨w.heap.size, 1, none⟩ = some (.int .i64 N) ∧ W'.cell? ⟨w.heap.size, 2, none⟩ = some (.int .i64 t) ∧ W'.cell? ⟨ka, 0, none⟩ = some (.int .u64 a) ∧ W'.cell? ⟨ka, 1, none⟩ = some (.int .i64 D) ∧ W'.cell? ⟨ka, 2, none⟩ = some (.slice A zs.length cap) ∧ W'.cell? ⟨ka + 1, 0, none⟩ = some (.int .u64 b) ∧ W'.cell? ⟨ka + 1, 1, none⟩ = some (.int .i64 d2) ∧ W'.cell? ⟨ka + 1, 2, none⟩ = some (.slice A2 zs2.length cap2))
              (first | exact hK.c9 | go_keep | exact q15.c9 | exact q16.c9)
              (first
                | (go_at_call 37; refine (HS3.out _ _ (hP)).mono ?_; rintro e w16 ⟨rfl, hb16⟩; have q16 := Kept.below q15 hb16; have r16 := bnext r15 hb16; have V16 := (V15).below hb16; have Z16 := (Z15).below hb16; have F16 := (F15).below hb16; have G16 := (G15).below hb16; have X16 := (X15).below hb16; have Y16 := (Y15).below hb16; have U16 := (U15).below hb16; have T16 := (T15).below hb16; have P16 := (hP).below hb16)
                | (go_at_call 44; refine (HPT.out _ _ _ ((T_14.out).below (Below.refl _ _).drew)).mono ?_; rintro e w15 ⟨u15, rfl, hP, hb15⟩; have q15 := Kept.below hK (below_of_drew hb15); have r15 := bnext hB (below_of_drew hb15); have V15 := (V_14.out).below (below_of_drew hb15); have Z15 := (Z_14.out).below (below_of_drew hb15); have F15 := (F_14.out).below (below_of_drew hb15); have G15 := (G_14.out).below (below_of_drew hb15); have X15 := (X_14.out).below (below_of_drew hb15); have Y15 := (Y_14.out).below (below_of_drew hb15); have U15 := (U_14.out).below (below_of_drew hb15); have T15 := (T_14.out).below (below_of_drew hb15); obtain ⟨bp15, op15, cp15, rfl, hcp15⟩ := pts_addr' hP hPL (by omega)))
            all_goals
              have B16 := Lib.hid r16
              have K16 := Lib.hid q16
              have V_16 := Lib.hid (V16)
              have Z_16 := Lib.hid (Z16)
              have F_16 := Lib.hid (F16)
              have G_16 := Lib.hid (G16)
              have X_16 := Lib.hid (X16)
              have Y_16 := Lib.hid (Y16)
              have U_16 := Lib.hid (U16)
              have T_16 := Lib.hid (T16)
              have P_16 := Lib.hid (P16)
              clear hK hB d14_0 d14_1 d14_2 d14_3 d14_4 d14_5 d14_6 d14_7 d14_8 hb15 q15 r15 hb16 q16 r16
              obtain ⟨d16_0, d16_1, d16_2, d16_3, d16_4, d16_5, d16_6, d16_7, d16_8⟩ := K16.out.c9
              go_wp2_with fail
              refine (HADD.out _).mono ?_
              rintro e w' ⟨rfl, rfl⟩
              go_wp2_with fail
              refine (HMUL.out _).mono ?_
              rintro e w' ⟨rfl, rfl⟩
              go_wp2_with fail
              refine (alive_any _).mono ?_
              rintro e w17 ⟨rfl, hb17⟩
              have B17 := Lib.hid (bnext B16.out hb17)
              have K17 := Lib.hid (K16.out.below hb17)
              have V_17 := Lib.hid (V_16.out.below hb17)
              have Z_17 := Lib.hid (Z_16.out.below hb17)
              have F_17 := Lib.hid (F_16.out.below hb17)
              have G_17 := Lib.hid (G_16.out.below hb17)
              have X_17 := Lib.hid (X_16.out.below hb17)
              have Y_17 := Lib.hid (Y_16.out.below hb17)
              have U_17 := Lib.hid (U_16.out.below hb17)
              have T_17 := Lib.hid (T_16.out.below hb17)
              have P_17 := Lib.hid (P_16.out.below hb17)
              clear hb17  d16_0 d16_1 d16_2 d16_3 d16_4 d16_5 d16_6 d16_7 d16_8
              obtain ⟨d17_0, d17_1, d17_2, d17_3, d17_4, d17_5, d17_6, d17_7, d17_8⟩ := K17.out.c9
              go_wp2_with fail
              go_ret
              exact ⟨rfl, B17.out⟩
  · skip
    obtain ⟨ka, eka⟩ : ∃ ka, ka = w0.heap.size := ⟨_, rfl⟩
    have hb1 : Below w0.heap.size w0 ((w0.alloc (.cells #[.int .u64 b, .int .i64 d2, .slice A2 zs2.length cap2] 45)).alloc (.cells #[.int .u64 a, .int .i64 D, .slice A zs.length cap] 45)).drew := (bnext (balloc w0 _) (balloc _ _)).drew
    have hk1 := (((KS0.out.alloc _).alloc _).app ((kept3 (w0.alloc (.cells #[.int .u64 b, .int .i64 d2, .slice A2 zs2.length cap2] 45)) (ka + 1) (by rw [eka]; simp) (.int .u64 a) (.int .i64 D) (.slice A zs.length cap) 45).app ((kept3 w0 ka eka (.int .u64 b) (.int .i64 d2) (.slice A2 zs2.length cap2) 45).alloc _))).drew
    obtain ⟨w1, hw1⟩ : ∃ w1, ((w0.alloc (.cells #[.int .u64 b, .int .i64 d2, .slice A2 zs2.length cap2] 45)).alloc (.cells #[.int .u64 a, .int .i64 D, .slice A zs.length cap] 45)).drew = w1 := ⟨_, rfl⟩
    rw [hw1] at hb1 hk1 ⊢
    rw [← eka]
    have B1 := Lib.hid (bnext B0.out hb1)
    have K1 := Lib.hid hk1
    have V_1 := Lib.hid (HV.out.below B1.out)
    have Z_1 := Lib.hid (HZ.out.below B1.out)
    clear hb1 hk1 hw1 q0 q1 q2 q3 q4 q5 n1 n2 n3 n4 n5 n6 eka
    obtain ⟨d1_0, d1_1, d1_2, d1_3, d1_4, d1_5, d1_6, d1_7, d1_8⟩ := K1.out.c9
    go_wp2_with fail
    refine (HSET.out _).mono ?_
    rintro e w2 ⟨rfl, hb2⟩
    have B2 := Lib.hid (bnext B1.out hb2)
    have K2 := Lib.hid (K1.out.below hb2)
    have V_2 := Lib.hid (V_1.out.below hb2)
    have Z_2 := Lib.hid (Z_1.out.below hb2)
    clear hb2  d1_0 d1_1 d1_2 d1_3 d1_4 d1_5 d1_6 d1_7 d1_8
    obtain ⟨d2_0, d2_1, d2_2, d2_3, d2_4, d2_5, d2_6, d2_7, d2_8⟩ := K2.out.c9
    go_wp2_with fail
    refine (HMA.out _ V_2.out).mono ?_
    rintro e w3 ⟨v3, u3, rfl, hF, hR, hb3⟩
    have B3 := Lib.hid (bnext B2.out hb3)
    have K3 := Lib.hid (K2.out.below hb3)
    have V_3 := Lib.hid (V_2.out.below hb3)
    have Z_3 := Lib.hid (Z_2.out.below hb3)
    have F_3 := Lib.hid hF
    clear hb3 hF d2_0 d2_1 d2_2 d2_3 d2_4 d2_5 d2_6 d2_7 d2_8
    obtain ⟨d3_0, d3_1, d3_2, d3_3, d3_4, d3_5, d3_6, d3_7, d3_8⟩ := K3.out.c9
    go_wp2_with fail
    refine (HMB.out _ Z_3.out).mono ?_
    rintro e w4 ⟨v4, u4, rfl, hG, hR2, hb4⟩
    have B4 := Lib.hid (bnext B3.out hb4)
    have K4 := Lib.hid (K3.out.below hb4)
    have V_4 := Lib.hid (V_3.out.below hb4)
    have Z_4 := Lib.hid (Z_3.out.below hb4)
    have F_4 := Lib.hid (F_3.out.below hb4)
    have G_4 := Lib.hid hG
    clear hb4 hG d3_0 d3_1 d3_2 d3_3 d3_4 d3_5 d3_6 d3_7 d3_8
    obtain ⟨d4_0, d4_1, d4_2, d4_3, d4_4, d4_5, d4_6, d4_7, d4_8⟩ := K4.out.c9
    go_wp2_with fail
    refine (HSF.out _ _ F_4.out).mono ?_
    rintro e w5 ⟨v5, rfl, hX, hb5⟩
    have B5 := Lib.hid (bnext B4.out hb5)
    have K5 := Lib.hid (K4.out.below hb5)
    have V_5 := Lib.hid (V_4.out.below hb5)
    have Z_5 := Lib.hid (Z_4.out.below hb5)
    have F_5 := Lib.hid (F_4.out.below hb5)
    have G_5 := Lib.hid (G_4.out.below hb5)
    have X_5 := Lib.hid hX
    clear hb5 hX d4_0 d4_1 d4_2 d4_3 d4_4 d4_5 d4_6 d4_7 d4_8
    obtain ⟨d5_0, d5_1, d5_2, d5_3, d5_4, d5_5, d5_6, d5_7, d5_8⟩ := K5.out.c9
    go_wp2_with fail
    refine (HSG.out _ _ G_5.out).mono ?_
    rintro e w6 ⟨v6, rfl, hY, hb6⟩
    have B6 := Lib.hid (bnext B5.out hb6)
    have K6 := Lib.hid (K5.out.below hb6)
    have V_6 := Lib.hid (V_5.out.below hb6)
    have Z_6 := Lib.hid (Z_5.out.below hb6)
    have F_6 := Lib.hid (F_5.out.below hb6)
    have G_6 := Lib.hid (G_5.out.below hb6)
    have X_6 := Lib.hid (X_5.out.below hb6)
    have Y_6 := Lib.hid hY
    clear hb6 hY d5_0 d5_1 d5_2 d5_3 d5_4 d5_5 d5_6 d5_7 d5_8
    obtain ⟨d6_0, d6_1, d6_2, d6_3, d6_4, d6_5, d6_6, d6_7, d6_8⟩ := K6.out.c9
    obtain ⟨Ax, cx, ex⟩ := nums_slice' X_6.out
    rw [M.shsb_len] at ex
    subst ex
    obtain ⟨Ay, cy, ey⟩ := nums_slice' Y_6.out
    rw [M.shsb_len] at ey
    subst ey
    go_wp2_with fail
    refine (HSUM.out _ _ _ X_6.out Y_6.out).mono ?_
    rintro e w7 ⟨v7, rfl, hU, hb7⟩
    have B7 := Lib.hid (bnext B6.out hb7)
    have K7 := Lib.hid (K6.out.below hb7)
    have V_7 := Lib.hid (V_6.out.below hb7)
    have Z_7 := Lib.hid (Z_6.out.below hb7)
    have F_7 := Lib.hid (F_6.out.below hb7)
    have G_7 := Lib.hid (G_6.out.below hb7)
    have X_7 := Lib.hid (X_6.out.below hb7)
    have Y_7 := Lib.hid (Y_6.out.below hb7)
    have U_7 := Lib.hid hU
    clear hb7 hU d6_0 d6_1 d6_2 d6_3 d6_4 d6_5 d6_6 d6_7 d6_8
    obtain ⟨d7_0, d7_1, d7_2, d7_3, d7_4, d7_5, d7_6, d7_7, d7_8⟩ := K7.out.c9
    go_wp2_with fail
    refine (HSCL.out _ _ X_7.out).mono ?_
    rintro e w8 ⟨v8, rfl, hT, hb8⟩
    have B8 := Lib.hid (bnext B7.out hb8)
    have K8 := Lib.hid (K7.out.below hb8)
    have V_8 := Lib.hid (V_7.out.below hb8)
    have Z_8 := Lib.hid (Z_7.out.below hb8)
    have F_8 := Lib.hid (F_7.out.below hb8)
    have G_8 := Lib.hid (G_7.out.below hb8)
    have X_8 := Lib.hid (X_7.out.below hb8)
    have Y_8 := Lib.hid (Y_7.out.below hb8)
    have U_8 := Lib.hid (U_7.out.below hb8)
    have T_8 := Lib.hid hT
    clear hb8 hT d7_0 d7_1 d7_2 d7_3 d7_4 d7_5 d7_6 d7_7 d7_8
    obtain ⟨d8_0, d8_1, d8_2, d8_3, d8_4, d8_5, d8_6, d8_7, d8_8⟩ := K8.out.c9
    obtain ⟨Au, cu, eu⟩ := nums_slice' U_8.out
    rw [M.shsb_len] at eu
    subst eu
    obtain ⟨At, ct, et⟩ := nums_slice' T_8.out
    rw [M.shsb_len] at et
    subst et
    have HM0 := mat3 w8 _ _ _ _ _ _ X_8.out U_8.out T_8.out
    have hb9 := balloc w8 (.cells #[.slice Ax N cx, .slice Au N cu, .slice At N ct] 24)
    obtain ⟨w9, hw9⟩ : ∃ w9, w8.alloc (.cells #[.slice Ax N cx, .slice Au N cu, .slice At N ct] 24) = w9 := ⟨_, rfl⟩
    rw [hw9] at HM0 hb9
    have HM := Lib.hid HM0
    clear HM0
    have B9 := Lib.hid (bnext B8.out hb9)
    have K9 := Lib.hid (K8.out.below hb9)
    have V_9 := Lib.hid (V_8.out.below hb9)
    have Z_9 := Lib.hid (Z_8.out.below hb9)
    have F_9 := Lib.hid (F_8.out.below hb9)
    have G_9 := Lib.hid (G_8.out.below hb9)
    have X_9 := Lib.hid (X_8.out.below hb9)
    have Y_9 := Lib.hid (Y_8.out.below hb9)
    have U_9 := Lib.hid (U_8.out.below hb9)
    have T_9 := Lib.hid (T_8.out.below hb9)
    clear hb9
    go_wp2_with fail
    clear hw9 d8_0 d8_1 d8_2 d8_3 d8_4 d8_5 d8_6 d8_7 d8_8
    go_loopw [131] (fun ti wr => ∃ k : Nat, k ≤ 3 ∧ ti = .int .i64 k ∧ Below w9.heap.size w9 wr) (fun ti _ => 3 - (intOf ti).toNat)
    case atStart => exact ⟨0, by omega, rfl, Below.refl _ _⟩
    case round =>
      obtain ⟨k, hk, rfl, hB⟩ := hrel
      have HBr := Lib.hid hB
      clear hB
      by_cases hlt : k < 3
      · skip
        have KR := Lib.hid (K9.out.below HBr.out)
        obtain ⟨dr_0, dr_1, dr_2, dr_3, dr_4, dr_5, dr_6, dr_7, dr_8⟩ := KR.out.c9
        obtain ⟨hb0, u, hcu, hNu⟩ := mat3_cell HM.out (i := k) (by simpa using hlt)
        obtain ⟨q, hq, eq⟩ := HTRI.out k hlt
        rw [eq] at hNu
        have hc0 := (HBr.out.cell (p := ⟨w8.heap.size, k, none⟩) hb0).trans hcu
        obtain ⟨Aq, cq, euq⟩ := nums_slice' hNu
        rw [M.shsb_len] at euq
        subst euq
        have NQ := Lib.hid (hNu.below HBr.out)
        have SQ := Lib.hid hq
        have hkn : (k : Int) < 3 := by omega
        have hNN : ((N : Int) != N) = false := by simp
        clear hcu hNu eq hq
        go_wp2_with fail
        refine (HFIT.out _ _ _ SQ.out NQ.out).mono ?_
        rintro e wf ⟨rfl, hbf⟩
        have HBf := Lib.hid (HBr.out.trans (hbf.mono HBr.out.size))
        have KF := Lib.hid (KR.out.below hbf)
        clear hbf dr_0 dr_1 dr_2 dr_3 dr_4 dr_5 dr_6 dr_7 dr_8
        obtain ⟨df_0, df_1, df_2, df_3, df_4, df_5, df_6, df_7, df_8⟩ := KF.out.c9
        go_wp2_with fail
        go_roundw
        case rel => exact ⟨k + 1, by omega, by go_num, HBf.out⟩
        case measure => simp [intOf]; omega
      · obtain rfl : k = 3 := by omega
        have hb10 := HBr.out
        have B10 := Lib.hid (bnext B9.out hb10)
        have K10 := Lib.hid (K9.out.below hb10)
        have V_10 := Lib.hid (V_9.out.below hb10)
        have Z_10 := Lib.hid (Z_9.out.below hb10)
        have F_10 := Lib.hid (F_9.out.below hb10)
        have G_10 := Lib.hid (G_9.out.below hb10)
        have X_10 := Lib.hid (X_9.out.below hb10)
        have Y_10 := Lib.hid (Y_9.out.below hb10)
        have U_10 := Lib.hid (U_9.out.below hb10)
        have T_10 := Lib.hid (T_9.out.below hb10)
        clear hb10  
        obtain ⟨d10_0, d10_1, d10_2, d10_3, d10_4, d10_5, d10_6, d10_7, d10_8⟩ := K10.out.c9
        go_wp2_with fail
        have hK := K10.out
        have hB := B10.out
        go_region_held3 (fun W' => W'.cell? ⟨w.heap.size, 0, none⟩ = some (.int .u64 p) ∧ W'.cell? ⟨w.heap.size, 1, none⟩ = some (.int .i64 N) ∧ W'.cell? ⟨w.heap.size, 2, none⟩ = some (.int .i64 t) ∧ W'.cell? ⟨ka + 1, 0, none⟩ = some (.int .u64 a) ∧ W'.cell? ⟨ka + 1, 1, none⟩ = some (.int .i64 D) ∧ W'.cell? ⟨ka + 1, 2, none⟩ = some (.slice A zs.length cap) ∧ W'.cell? ⟨ka, 0, none⟩ = some (.int .u64 b) ∧ W'.cell? ⟨ka, 1, none⟩ = some (.int .i64 d2) ∧ W'.cell? ⟨ka, 2, none⟩ = some (.slice A2 zs2.length cap2))
          (first | exact hK.c9 | go_keep | exact q11.c9 | exact q12.c9)
          (first
            | (go_at_call 37; refine (HS1.out _ _ (pts_cut (hP) (by have := HMD.out; omega))).mono ?_; rintro e w12 ⟨rfl, hb12⟩; have q12 := Kept.below q11 hb12; have r12 := bnext r11 hb12; have V12 := (V11).below hb12; have Z12 := (Z11).below hb12; have F12 := (F11).below hb12; have G12 := (G11).below hb12; have X12 := (X11).below hb12; have Y12 := (Y11).below hb12; have U12 := (U11).below hb12; have T12 := (T11).below hb12; have P12 := (hP).below hb12)
            | (go_at_call 44; refine (HPT.out _ _ _ ((X_10.out).below (Below.refl _ _).drew)).mono ?_; rintro e w11 ⟨u11, rfl, hP, hb11⟩; have q11 := Kept.below hK (below_of_drew hb11); have r11 := bnext hB (below_of_drew hb11); have V11 := (V_10.out).below (below_of_drew hb11); have Z11 := (Z_10.out).below (below_of_drew hb11); have F11 := (F_10.out).below (below_of_drew hb11); have G11 := (G_10.out).below (below_of_drew hb11); have X11 := (X_10.out).below (below_of_drew hb11); have Y11 := (Y_10.out).below (below_of_drew hb11); have U11 := (U_10.out).below (below_of_drew hb11); have T11 := (T_10.out).below (below_of_drew hb11); obtain ⟨bp11, op11, cp11, rfl, hcp11⟩ := pts_addr' hP hPL (by omega); have hcm11 : ¬ (cp11 = m) := by have := HMD.out; omega))
        all_goals
          have B12 := Lib.hid r12
          have K12 := Lib.hid q12
          have V_12 := Lib.hid (V12)
          have Z_12 := Lib.hid (Z12)
          have F_12 := Lib.hid (F12)
          have G_12 := Lib.hid (G12)
          have X_12 := Lib.hid (X12)
          have Y_12 := Lib.hid (Y12)
          have U_12 := Lib.hid (U12)
          have T_12 := Lib.hid (T12)
          have P_12 := Lib.hid (P12)
          clear hK hB d10_0 d10_1 d10_2 d10_3 d10_4 d10_5 d10_6 d10_7 d10_8 hb11 q11 r11 hb12 q12 r12
          obtain ⟨d12_0, d12_1, d12_2, d12_3, d12_4, d12_5, d12_6, d12_7, d12_8⟩ := K12.out.c9
          go_wp2_with fail
          have hK := K12.out
          have hB := B12.out
          go_region_held3 (fun W' => W'.cell? ⟨w.heap.size, 0, none⟩ = some (.int .u64 p) ∧ W'.cell? ⟨w.heap.size, 1, none⟩ = some (.int .i64 N) ∧ W'.cell? ⟨w.heap.size, 2, none⟩ = some (.int .i64 t) ∧ W'.cell? ⟨ka + 1, 0, none⟩ = some (.int .u64 a) ∧ W'.cell? ⟨ka + 1, 1, none⟩ = some (.int .i64 D) ∧ W'.cell? ⟨ka + 1, 2, none⟩ = some (.slice A zs.length cap) ∧ W'.cell? ⟨ka, 0, none⟩ = some (.int .u64 b) ∧ W'.cell? ⟨ka, 1, none⟩ = some (.int .i64 d2) ∧ W'.cell? ⟨ka, 2, none⟩ = some (.slice A2 zs2.length cap2))
            (first | exact hK.c9 | go_keep | exact q13.c9 | exact q14.c9)
            (first
              | (go_at_call 37; refine (HS2.out _ _ (hP)).mono ?_; rintro e w14 ⟨rfl, hb14⟩; have q14 := Kept.below q13 hb14; have r14 := bnext r13 hb14; have V14 := (V13).below hb14; have Z14 := (Z13).below hb14; have F14 := (F13).below hb14; have G14 := (G13).below hb14; have X14 := (X13).below hb14; have Y14 := (Y13).below hb14; have U14 := (U13).below hb14; have T14 := (T13).below hb14; have P14 := (hP).below hb14)
              | (go_at_call 44; refine (HPT.out _ _ _ ((U_12.out).below (Below.refl _ _).drew)).mono ?_; rintro e w13 ⟨u13, rfl, hP, hb13⟩; have q13 := Kept.below hK (below_of_drew hb13); have r13 := bnext hB (below_of_drew hb13); have V13 := (V_12.out).below (below_of_drew hb13); have Z13 := (Z_12.out).below (below_of_drew hb13); have F13 := (F_12.out).below (below_of_drew hb13); have G13 := (G_12.out).below (below_of_drew hb13); have X13 := (X_12.out).below (below_of_drew hb13); have Y13 := (Y_12.out).below (below_of_drew hb13); have U13 := (U_12.out).below (below_of_drew hb13); have T13 := (T_12.out).below (below_of_drew hb13); obtain ⟨bp13, op13, cp13, rfl, hcp13⟩ := pts_addr' hP hPL (by omega)))
          all_goals
            have B14 := Lib.hid r14
            have K14 := Lib.hid q14
            have V_14 := Lib.hid (V14)
            have Z_14 := Lib.hid (Z14)
            have F_14 := Lib.hid (F14)
            have G_14 := Lib.hid (G14)
            have X_14 := Lib.hid (X14)
            have Y_14 := Lib.hid (Y14)
            have U_14 := Lib.hid (U14)
            have T_14 := Lib.hid (T14)
            have P_14 := Lib.hid (P14)
            clear hK hB d12_0 d12_1 d12_2 d12_3 d12_4 d12_5 d12_6 d12_7 d12_8 hb13 q13 r13 hb14 q14 r14
            obtain ⟨d14_0, d14_1, d14_2, d14_3, d14_4, d14_5, d14_6, d14_7, d14_8⟩ := K14.out.c9
            go_wp2_with fail
            have hK := K14.out
            have hB := B14.out
            go_region_held3 (fun W' => W'.cell? ⟨w.heap.size, 0, none⟩ = some (.int .u64 p) ∧ W'.cell? ⟨w.heap.size, 1, none⟩ = some (.int .i64 N) ∧ W'.cell? ⟨w.heap.size, 2, none⟩ = some (.int .i64 t) ∧ W'.cell? ⟨ka + 1, 0, none⟩ = some (.int .u64 a) ∧ W'.cell? ⟨ka + 1, 1, none⟩ = some (.int .i64 D) ∧ W'.cell? ⟨ka + 1, 2, none⟩ = some (.slice A zs.length cap) ∧ W'.cell? ⟨ka, 0, none⟩ = some (.int .u64 b) ∧ W'.cell? ⟨ka, 1, none⟩ = some (.int .i64 d2) ∧ W'.cell? ⟨ka, 2, none⟩ = some (.slice A2 zs2.length cap2))
              (first | exact hK.c9 | go_keep | exact q15.c9 | exact q16.c9)
              (first
                | (go_at_call 37; refine (HS3.out _ _ (hP)).mono ?_; rintro e w16 ⟨rfl, hb16⟩; have q16 := Kept.below q15 hb16; have r16 := bnext r15 hb16; have V16 := (V15).below hb16; have Z16 := (Z15).below hb16; have F16 := (F15).below hb16; have G16 := (G15).below hb16; have X16 := (X15).below hb16; have Y16 := (Y15).below hb16; have U16 := (U15).below hb16; have T16 := (T15).below hb16; have P16 := (hP).below hb16)
                | (go_at_call 44; refine (HPT.out _ _ _ ((T_14.out).below (Below.refl _ _).drew)).mono ?_; rintro e w15 ⟨u15, rfl, hP, hb15⟩; have q15 := Kept.below hK (below_of_drew hb15); have r15 := bnext hB (below_of_drew hb15); have V15 := (V_14.out).below (below_of_drew hb15); have Z15 := (Z_14.out).below (below_of_drew hb15); have F15 := (F_14.out).below (below_of_drew hb15); have G15 := (G_14.out).below (below_of_drew hb15); have X15 := (X_14.out).below (below_of_drew hb15); have Y15 := (Y_14.out).below (below_of_drew hb15); have U15 := (U_14.out).below (below_of_drew hb15); have T15 := (T_14.out).below (below_of_drew hb15); obtain ⟨bp15, op15, cp15, rfl, hcp15⟩ := pts_addr' hP hPL (by omega)))
            all_goals
              have B16 := Lib.hid r16
              have K16 := Lib.hid q16
              have V_16 := Lib.hid (V16)
              have Z_16 := Lib.hid (Z16)
              have F_16 := Lib.hid (F16)
              have G_16 := Lib.hid (G16)
              have X_16 := Lib.hid (X16)
              have Y_16 := Lib.hid (Y16)
              have U_16 := Lib.hid (U16)
              have T_16 := Lib.hid (T16)
              have P_16 := Lib.hid (P16)
              clear hK hB d14_0 d14_1 d14_2 d14_3 d14_4 d14_5 d14_6 d14_7 d14_8 hb15 q15 r15 hb16 q16 r16
              obtain ⟨d16_0, d16_1, d16_2, d16_3, d16_4, d16_5, d16_6, d16_7, d16_8⟩ := K16.out.c9
              go_wp2_with fail
              refine (HADD.out _).mono ?_
              rintro e w' ⟨rfl, rfl⟩
              go_wp2_with fail
              refine (HMUL.out _).mono ?_
              rintro e w' ⟨rfl, rfl⟩
              go_wp2_with fail
              refine (alive_any _).mono ?_
              rintro e w17 ⟨rfl, hb17⟩
              have B17 := Lib.hid (bnext B16.out hb17)
              have K17 := Lib.hid (K16.out.below hb17)
              have V_17 := Lib.hid (V_16.out.below hb17)
              have Z_17 := Lib.hid (Z_16.out.below hb17)
              have F_17 := Lib.hid (F_16.out.below hb17)
              have G_17 := Lib.hid (G_16.out.below hb17)
              have X_17 := Lib.hid (X_16.out.below hb17)
              have Y_17 := Lib.hid (Y_16.out.below hb17)
              have U_17 := Lib.hid (U_16.out.below hb17)
              have T_17 := Lib.hid (T_16.out.below hb17)
              have P_17 := Lib.hid (P_16.out.below hb17)
              clear hb17  d16_0 d16_1 d16_2 d16_3 d16_4 d16_5 d16_6 d16_7 d16_8
              obtain ⟨d17_0, d17_1, d17_2, d17_3, d17_4, d17_5, d17_6, d17_7, d17_8⟩ := K17.out.c9
              go_wp2_with fail
              go_ret
              exact ⟨rfl, B17.out⟩
end Go.Proofs.Ytgoognipljknjaa.shareBackW
