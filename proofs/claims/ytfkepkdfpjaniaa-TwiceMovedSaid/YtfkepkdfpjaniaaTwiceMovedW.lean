/-
  The walk of TwiceMoved: a mask is moved; where every condition holds.
-/
import Derived.Test.YtfkepkdfpjaniaaSb7
import Derived.Test.YtfkepkdfpjaniaaMe7
import Derived.Test.YtfkepkdfpjaniaaLex2
import Derived.Deep.RegionHeld3
namespace Go.Proofs.Ytfkepkdfpjaniaa
open Go.RowKit
set_option linter.unusedVariables false
set_option maxRecDepth 100000

theorem ints_cells8 {w : World} {A : Option Addr} {n cap : Nat} {l : List Int} (h : IntsZ w (.slice A n cap) l) : n = l.length ∧ (0 < n → ∃ b off, A = some ⟨b, off, none⟩ ∧ b < w.heap.size ∧ ∀ i, i < n → w.cell? ⟨b, off + i, none⟩ = some (.int .i64 (l.getD i 0))) := by
  obtain ⟨_, _, A', cap', e, _, h⟩ := h
  simp only [Value.slice.injEq] at e
  obtain ⟨rfl, rfl, rfl⟩ := e
  exact ⟨rfl, h⟩
namespace twiceMovedW
set_option maxHeartbeats 4000000 in
theorem good (W : World) (P : Nat) (n t : Int) (hP : P < 18446744073709551616) (hn1 : -9223372036854775808 ≤ n) (hn2 : n ≤ 9223372036854775807) (ht1 : -9223372036854775808 ≤ t) (ht2 : t ≤ 9223372036854775807) (v1 : Value) (m : List (List Nat)) (hm : Mat W v1 m) (s0 : Value) (x : List Nat) (s1 : Value) (y : List Nat) (a b : Nat) (s4 : Value) (l : List Int) (hx : Nums W s0 x) (hy : Nums W s1 y) (ha : a < 18446744073709551616) (hb : b < 18446744073709551616) (hl : IntsZ W s4 l) (hE : M.tchk P n t m = 0) (hC : M.errC P n t l = 0) (hxl : x.length ≤ t.toNat + 1) (hyl : y.length ≤ t.toNat + 1) (hwx : M.within P x = true) (hwy : M.within P y = true) (hap : a < P) (hbp : b < P) :
    Calls Try.prog 11 #[suV P n t, v1, .agg #[s0, s1, .int .u64 a, .int .u64 b, s4]] W fun e w' => e = .returned (.bool true) ∧ Below W.heap.size W w' := by
  have hud : ∀ b : Bool, undef ≠ Value.bool b := fun b h => by cases h
  obtain ⟨hok, hmk⟩ := M.tchk_zero hE
  obtain ⟨N, T, rfl, rfl, hi, hN1, hN2, hNT, hNp⟩ := M.okS_nat hok
  rw [Int.toNat_natCast] at hmk
  obtain ⟨h3, hp5⟩ := M.pos_of hi
  simp only [Int.toNat_natCast] at hxl hyl
  have RC := Lib.hid fun w (b : Below W.heap.size W w) => rtcheck_any P N T v1 m w hP hn1 hn2 ht1 ht2 (hm.below b)
  rw [hE] at RC
  have CO := Lib.hid fun w (b : Below W.heap.size W w) => rcorrupted_any P N T s4 l w hP hn1 hn2 ht1 ht2 (hl.below b)
  rw [hC] at CO
  have WX := Lib.hid fun w (b : Below W.heap.size W w) => within_any P s0 x w (hx.below b) (c := 0) (by rw [hwx]; rfl)
  have WY := Lib.hid fun w (b : Below W.heap.size W w) => within_any P s1 y w (hy.below b) (c := 0) (by rw [hwy]; rfl)
  have hll := (M.errC_zero hC).2.1
  have hrs := (M.errC_zero hC).2.2
  have HF := Lib.hid fun z (hz : M.AwayK P (M.pts l) (M.pts l).length z) => mvF hn1 hn2 hE hC hxl hyl hwx hwy hap hbp hz
  have AW := Lib.hid fun w V (h : Nums w V (M.pts l)) => raway_any P V (M.pts l) w hi (M.pts_within hrs (show (N : Int) < (P : Int) by omega)) (by rw [M.pts_len]; omega) (M.pts_noz hrs) h
  have NU := Lib.hid fun w (b : Below W.heap.size W w) => rnumbers_any s4 l w (by omega) (fun i hi => by have := (M.rises_range hrs hi).1; omega) (hl.below b)
  have HM := Lib.hid hm
  have HX := Lib.hid hx
  have HY := Lib.hid hy
  have HL := Lib.hid hl
  have hLL : l.length ≤ 3 := by omega
  have HR := Lib.hid hLL
  clear hrs hll hLL
  obtain ⟨A, cap, rfl, _⟩ := mat_view6 hm
  have hml := hmk.len
  rw [hml] at RC ⊢
  rw [hml] at HM
  obtain ⟨Ax, cx, rfl⟩ := nums_slice' hx
  obtain ⟨Ay, cy, rfl⟩ := nums_slice' hy
  obtain ⟨Al, cl, rfl⟩ := ints_slice8 hl
  obtain ⟨XL, eXL⟩ : ∃ XL, XL = x.length := ⟨_, rfl⟩
  obtain ⟨YL, eYL⟩ : ∃ YL, YL = y.length := ⟨_, rfl⟩
  obtain ⟨LL, eLL⟩ : ∃ LL, LL = l.length := ⟨_, rfl⟩
  rw [← eXL] at HX
  rw [← eYL] at HY
  rw [← eLL] at HL NU HR
  rw [← eXL] at WX
  rw [← eYL] at WY
  rw [← eLL] at CO
  rw [← eXL, ← eYL, ← eLL]
  have hw1 : IntKind.i64.wrap ((T : Int) + 1) = (T : Int) + 1 := by rw [IntKind.wrap_i64]; omega
  rw [← eXL] at hxl
  have hd1 : decide ((XL : Int) > (T : Int) + 1) = false := by rw [decide_eq_false_iff_not]; omega
  rw [← eYL] at hyl
  have hd2 : decide ((YL : Int) > (T : Int) + 1) = false := by rw [decide_eq_false_iff_not]; omega
  have hd3 : a < P := by omega
  have hd4 : b < P := by omega
  have S0 := SD.start W P N T Ax Ay Al XL cx YL cy a b LL cl
  obtain ⟨x0, x1, x2, x3, x4, x5, x6, x7⟩ := (⟨S0.c0, S0.c1, S0.c2, S0.d0, S0.d1, S0.d2, S0.d3, S0.d4⟩ : _ ∧ _ ∧ _ ∧ _ ∧ _ ∧ _ ∧ _ ∧ _)
  clear hm hx hy hl eXL eYL eLL ha hb hE hok hmk hml hi hC hxl hyl hwx hwy hap hbp
  unfold suV at RC CO ⊢
  go_enter Try.func11, Try.ntmps11
  go_wp2_with fail
  (with_reducible refine (RC.out _ S0.below).mono ?_)
  rintro e w1 ⟨rfl, hb⟩
  have S1 := S0.next hb
  clear x0 x1 x2 x3 x4 x5 x6 x7
  clear hb
  obtain ⟨x0, x1, x2, x3, x4, x5, x6, x7⟩ := (⟨S1.c0, S1.c1, S1.c2, S1.d0, S1.d1, S1.d2, S1.d3, S1.d4⟩ : _ ∧ _ ∧ _ ∧ _ ∧ _ ∧ _ ∧ _ ∧ _)
  go_wp2_with fail
  (with_reducible refine (CO.out _ S1.below).mono ?_)
  rintro e w2 ⟨rfl, hb⟩
  have S2 := S1.next hb
  clear x0 x1 x2 x3 x4 x5 x6 x7
  clear hb
  obtain ⟨x0, x1, x2, x3, x4, x5, x6, x7⟩ := (⟨S2.c0, S2.c1, S2.c2, S2.d0, S2.d1, S2.d2, S2.d3, S2.d4⟩ : _ ∧ _ ∧ _ ∧ _ ∧ _ ∧ _ ∧ _ ∧ _)
  go_wp2_with fail
  (with_reducible refine (WX.out _ S2.below).mono ?_)
  rintro e w' ⟨rfl, rfl⟩
  go_wp2_with fail
  (with_reducible refine (WY.out _ S2.below).mono ?_)
  rintro e w' ⟨rfl, rfl⟩
  go_wp2_with fail
  go_region_held3 (fun w' => w'.cell? ⟨W.heap.size, 0, none⟩ = some (.int .u64 (P : Nat)) ∧ w'.cell? ⟨W.heap.size, 1, none⟩ = some (.int .i64 (N : Nat)) ∧ w'.cell? ⟨W.heap.size, 2, none⟩ = some (.int .i64 (T : Nat)) ∧ w'.cell? ⟨W.heap.size + 1, 0, none⟩ = some (.slice Ax XL cx) ∧ w'.cell? ⟨W.heap.size + 1, 1, none⟩ = some (.slice Ay YL cy) ∧ w'.cell? ⟨W.heap.size + 1, 2, none⟩ = some (.int .u64 (a : Nat)) ∧ w'.cell? ⟨W.heap.size + 1, 3, none⟩ = some (.int .u64 (b : Nat)) ∧ w'.cell? ⟨W.heap.size + 1, 4, none⟩ = some (.slice Al LL cl))
    (first | exact ⟨S4.c0, S4.c1, S4.c2, S4.d0, S4.d1, S4.d2, S4.d3, S4.d4⟩ | exact ⟨S3.c0, S3.c1, S3.c2, S3.d0, S3.d1, S3.d2, S3.d3, S3.d4⟩ | exact ⟨S2.drew.c0, S2.drew.c1, S2.drew.c2, S2.drew.d0, S2.drew.d1, S2.drew.d2, S2.drew.d3, S2.drew.d4⟩ | go_keep)
    (first | (go_at_call 45; (with_reducible refine (NU.out _ (S2.drew).below).mono ?_); rintro e w3 ⟨v3, rfl, hn3, hb3⟩; have S3 := (S2.drew).next hb3) | (go_at_call 44; (with_reducible refine (AW.out _ _ hn3).mono ?_); rintro e w4 ⟨v4, z, rfl, hn4, haw, hb4⟩; have S4 := (S3).next hb4))
  clear x0 x1 x2 x3 x4 x5 x6 x7
  obtain ⟨zx, xx, zy, yy, was, now, d, q, mm, ww, vv, zq, su, F⟩ := HF.out z haw
  have FF := Lib.hid F
  have NZ := Lib.hid hn4
  obtain ⟨A4, k4, rfl⟩ := nums_slice' hn4
  clear hn3 hn4 hb3 hb4 haw F HF AW NU RC CO WX WY
  obtain ⟨x0, x1, x2, x3, x4, x5, x6, x7⟩ := (⟨S4.c0, S4.c1, S4.c2, S4.d0, S4.d1, S4.d2, S4.d3, S4.d4⟩ : _ ∧ _ ∧ _ ∧ _ ∧ _ ∧ _ ∧ _ ∧ _)
  go_wp2_with fail
  go_region_held3 (fun w' => w'.cell? ⟨W.heap.size, 0, none⟩ = some (.int .u64 (P : Nat)) ∧ w'.cell? ⟨W.heap.size, 1, none⟩ = some (.int .i64 (N : Nat)) ∧ w'.cell? ⟨W.heap.size, 2, none⟩ = some (.int .i64 (T : Nat)) ∧ w'.cell? ⟨W.heap.size + 1, 0, none⟩ = some (.slice Ax XL cx) ∧ w'.cell? ⟨W.heap.size + 1, 1, none⟩ = some (.slice Ay YL cy) ∧ w'.cell? ⟨W.heap.size + 1, 2, none⟩ = some (.int .u64 (a : Nat)) ∧ w'.cell? ⟨W.heap.size + 1, 3, none⟩ = some (.int .u64 (b : Nat)) ∧ w'.cell? ⟨W.heap.size + 1, 4, none⟩ = some (.slice Al LL cl))
    (first | exact ⟨S8.c0, S8.c1, S8.c2, S8.d0, S8.d1, S8.d2, S8.d3, S8.d4⟩ | exact ⟨S7.c0, S7.c1, S7.c2, S7.d0, S7.d1, S7.d2, S7.d3, S7.d4⟩ | exact ⟨S6.c0, S6.c1, S6.c2, S6.d0, S6.d1, S6.d2, S6.d3, S6.d4⟩ | exact ⟨S5.c0, S5.c1, S5.c2, S5.d0, S5.d1, S5.d2, S5.d3, S5.d4⟩ | exact ⟨S4.drew.c0, S4.drew.c1, S4.drew.c2, S4.drew.d0, S4.drew.d1, S4.drew.d2, S4.drew.d3, S4.drew.d4⟩ | go_keep)
    (first | (go_at_call 46; (with_reducible refine (FF.out.sc1 _ _ (NZ.out.below (Below.refl _ _).drew)).mono ?_); rintro e w5 ⟨v5, rfl, hn5, hb5⟩; have S5 := (S4.drew).next hb5) | (go_at_call 39; (with_reducible refine (FF.out.ad1 _ _ _ (HX.out.below S5.below) hn5).mono ?_); rintro e w6 ⟨v6, rfl, hn6, hb6⟩; have S6 := (S5).next hb6) | (go_at_call 46; (with_reducible refine (FF.out.sc2 _ _ (((NZ.out.below (Below.refl _ _).drew).below hb5).below hb6)).mono ?_); rintro e w7 ⟨v7, rfl, hn7, hb7⟩; have S7 := (S6).next hb7) | (go_at_call 39; (with_reducible refine (FF.out.ad2 _ _ _ (HY.out.below S7.below) hn7).mono ?_); rintro e w8 ⟨v8, rfl, hn8, hb8⟩; have S8 := (S7).next hb8))
  clear x0 x1 x2 x3 x4 x5 x6 x7
  replace NZ := Lib.hid (((((NZ.out.below (Below.refl _ _).drew).below hb5).below hb6).below hb7).below hb8)
  have NX := Lib.hid ((hn6.below hb7).below hb8)
  have NY := Lib.hid hn8
  obtain ⟨A6, k6, rfl⟩ := nums_slice' hn6
  obtain ⟨A8, k8, rfl⟩ := nums_slice' hn8
  clear hn5 hn6 hn7 hn8 hb5 hb6 hb7 hb8
  obtain ⟨x0, x1, x2, x3, x4, x5, x6, x7⟩ := (⟨S8.c0, S8.c1, S8.c2, S8.d0, S8.d1, S8.d2, S8.d3, S8.d4⟩ : _ ∧ _ ∧ _ ∧ _ ∧ _ ∧ _ ∧ _ ∧ _)
  go_wp2_with fail
  go_region_held3 (fun w' => w'.cell? ⟨W.heap.size, 0, none⟩ = some (.int .u64 (P : Nat)) ∧ w'.cell? ⟨W.heap.size, 1, none⟩ = some (.int .i64 (N : Nat)) ∧ w'.cell? ⟨W.heap.size, 2, none⟩ = some (.int .i64 (T : Nat)) ∧ w'.cell? ⟨W.heap.size + 1, 0, none⟩ = some (.slice Ax XL cx) ∧ w'.cell? ⟨W.heap.size + 1, 1, none⟩ = some (.slice Ay YL cy) ∧ w'.cell? ⟨W.heap.size + 1, 2, none⟩ = some (.int .u64 (a : Nat)) ∧ w'.cell? ⟨W.heap.size + 1, 3, none⟩ = some (.int .u64 (b : Nat)) ∧ w'.cell? ⟨W.heap.size + 1, 4, none⟩ = some (.slice Al LL cl))
    (first | exact ⟨S10.c0, S10.c1, S10.c2, S10.d0, S10.d1, S10.d2, S10.d3, S10.d4⟩ | exact ⟨S9.c0, S9.c1, S9.c2, S9.d0, S9.d1, S9.d2, S9.d3, S9.d4⟩ | exact ⟨S8.drew.c0, S8.drew.c1, S8.drew.c2, S8.drew.d0, S8.drew.d1, S8.drew.d2, S8.drew.d3, S8.drew.d4⟩ | go_keep)
    (first | (go_at_call 40; (with_reducible refine (FF.out.mu1 _ _ _ (HX.out.below (S8.drew).below) (HY.out.below (S8.drew).below)).mono ?_); rintro e w9 ⟨v9, rfl, hn9, hb9⟩; have S9 := (S8.drew).next hb9) | (go_at_call 40; (with_reducible refine (FF.out.mu2 _ _ _ ((NX.out.below (Below.refl _ _).drew).below hb9) ((NY.out.below (Below.refl _ _).drew).below hb9)).mono ?_); rintro e w10 ⟨v10, rfl, hn10, hb10⟩; have S10 := (S9).next hb10))
  clear x0 x1 x2 x3 x4 x5 x6 x7
  replace NZ := Lib.hid (((NZ.out.below (Below.refl _ _).drew).below hb9).below hb10)
  replace NX := Lib.hid (((NX.out.below (Below.refl _ _).drew).below hb9).below hb10)
  replace NY := Lib.hid (((NY.out.below (Below.refl _ _).drew).below hb9).below hb10)
  have NA := Lib.hid (hn9.below hb10)
  have NN := Lib.hid hn10
  obtain ⟨A9, k9, rfl⟩ := nums_slice' hn9
  obtain ⟨A10, k10, rfl⟩ := nums_slice' hn10
  clear hn9 hn10 hb9 hb10
  obtain ⟨x0, x1, x2, x3, x4, x5, x6, x7⟩ := (⟨S10.c0, S10.c1, S10.c2, S10.d0, S10.d1, S10.d2, S10.d3, S10.d4⟩ : _ ∧ _ ∧ _ ∧ _ ∧ _ ∧ _ ∧ _ ∧ _)
  go_wp2_with fail
  go_region_held3 (fun w' => w'.cell? ⟨W.heap.size, 0, none⟩ = some (.int .u64 (P : Nat)) ∧ w'.cell? ⟨W.heap.size, 1, none⟩ = some (.int .i64 (N : Nat)) ∧ w'.cell? ⟨W.heap.size, 2, none⟩ = some (.int .i64 (T : Nat)) ∧ w'.cell? ⟨W.heap.size + 1, 0, none⟩ = some (.slice Ax XL cx) ∧ w'.cell? ⟨W.heap.size + 1, 1, none⟩ = some (.slice Ay YL cy) ∧ w'.cell? ⟨W.heap.size + 1, 2, none⟩ = some (.int .u64 (a : Nat)) ∧ w'.cell? ⟨W.heap.size + 1, 3, none⟩ = some (.int .u64 (b : Nat)) ∧ w'.cell? ⟨W.heap.size + 1, 4, none⟩ = some (.slice Al LL cl))
    (first | exact ⟨S12.c0, S12.c1, S12.c2, S12.d0, S12.d1, S12.d2, S12.d3, S12.d4⟩ | exact ⟨S11.c0, S11.c1, S11.c2, S11.d0, S11.d1, S11.d2, S11.d3, S11.d4⟩ | exact ⟨S10.drew.c0, S10.drew.c1, S10.drew.c2, S10.drew.d0, S10.drew.d1, S10.drew.d2, S10.drew.d3, S10.drew.d4⟩ | go_keep)
    (first | (go_at_call 41; (with_reducible refine (FF.out.su1 _ _ _ (NN.out.below (Below.refl _ _).drew) (NA.out.below (Below.refl _ _).drew)).mono ?_); rintro e w11 ⟨v11, rfl, hn11, hb11⟩; have S11 := (S10.drew).next hb11) | (go_at_call 35; (with_reducible refine (FF.out.cut _ _ _ (HL.out.below S11.below) hn11).mono ?_); rintro e w12 ⟨v12, u12, rfl, hz12, hq12, hb12⟩; have S12 := (S11).next hb12))
  clear x0 x1 x2 x3 x4 x5 x6 x7
  replace NZ := Lib.hid (((NZ.out.below (Below.refl _ _).drew).below hb11).below hb12)
  replace NX := Lib.hid (((NX.out.below (Below.refl _ _).drew).below hb11).below hb12)
  replace NY := Lib.hid (((NY.out.below (Below.refl _ _).drew).below hb11).below hb12)
  replace NA := Lib.hid (((NA.out.below (Below.refl _ _).drew).below hb11).below hb12)
  replace NN := Lib.hid (((NN.out.below (Below.refl _ _).drew).below hb11).below hb12)
  have NG := Lib.hid hz12
  have NQ := Lib.hid hq12
  obtain ⟨A12, k12, rfl⟩ := nums_slice' hz12
  obtain ⟨B12, j12, rfl⟩ := nums_slice' hq12
  have hql := FF.out.ql
  obtain ⟨QL, eQL⟩ : ∃ QL, QL = q.length := ⟨_, rfl⟩
  rw [← eQL] at NQ hql ⊢
  have hd5 : decide ((QL : Int) > (T : Int) + 1) = false := by rw [decide_eq_false_iff_not]; omega
  clear eQL hql hn11 hz12 hq12 hb11 hb12
  obtain ⟨x0, x1, x2, x3, x4, x5, x6, x7⟩ := (⟨S12.c0, S12.c1, S12.c2, S12.d0, S12.d1, S12.d2, S12.d3, S12.d4⟩ : _ ∧ _ ∧ _ ∧ _ ∧ _ ∧ _ ∧ _ ∧ _)
  go_wp2_with fail
  (with_reducible refine (same_any _ _ z _ NG.out NZ.out).mono ?_)
  rintro e w13 ⟨rfl, hb⟩
  have S13 := S12.next hb
  clear x0 x1 x2 x3 x4 x5 x6 x7
  replace NZ := Lib.hid (NZ.out.below hb)
  replace NX := Lib.hid (NX.out.below hb)
  replace NY := Lib.hid (NY.out.below hb)
  replace NA := Lib.hid (NA.out.below hb)
  replace NN := Lib.hid (NN.out.below hb)
  replace NG := Lib.hid (NG.out.below hb)
  replace NQ := Lib.hid (NQ.out.below hb)
  clear hb
  obtain ⟨x0, x1, x2, x3, x4, x5, x6, x7⟩ := (⟨S13.c0, S13.c1, S13.c2, S13.d0, S13.d1, S13.d2, S13.d3, S13.d4⟩ : _ ∧ _ ∧ _ ∧ _ ∧ _ ∧ _ ∧ _ ∧ _)
  go_wp2_with fail
  (with_reducible refine (FF.out.mov _ _ _ _ (HM.out.below S13.below) NZ.out NQ.out).mono ?_)
  rintro e w14 ⟨v14, rfl, hm14, hb⟩
  have S14 := S13.next hb
  clear x0 x1 x2 x3 x4 x5 x6 x7
  replace NZ := Lib.hid (NZ.out.below hb)
  replace NX := Lib.hid (NX.out.below hb)
  replace NY := Lib.hid (NY.out.below hb)
  replace NA := Lib.hid (NA.out.below hb)
  replace NN := Lib.hid (NN.out.below hb)
  replace NG := Lib.hid (NG.out.below hb)
  replace NQ := Lib.hid (NQ.out.below hb)
  have NM := Lib.hid hm14
  obtain ⟨A14, k14, rfl, _⟩ := mat_view6 hm14
  have hmm := FF.out.len
  rw [hmm] at NM ⊢
  clear hmm hm14
  clear hb
  obtain ⟨x0, x1, x2, x3, x4, x5, x6, x7⟩ := (⟨S14.c0, S14.c1, S14.c2, S14.d0, S14.d1, S14.d2, S14.d3, S14.d4⟩ : _ ∧ _ ∧ _ ∧ _ ∧ _ ∧ _ ∧ _ ∧ _)
  go_wp2_with fail
  (with_reducible refine (FF.out.wh1 _ _ (HM.out.below S14.below)).mono ?_)
  rintro e w15 ⟨v15, rfl, hn15, hb⟩
  have S15 := S14.next hb
  clear x0 x1 x2 x3 x4 x5 x6 x7
  replace NZ := Lib.hid (NZ.out.below hb)
  replace NX := Lib.hid (NX.out.below hb)
  replace NY := Lib.hid (NY.out.below hb)
  replace NA := Lib.hid (NA.out.below hb)
  replace NN := Lib.hid (NN.out.below hb)
  replace NG := Lib.hid (NG.out.below hb)
  replace NQ := Lib.hid (NQ.out.below hb)
  replace NM := Lib.hid (NM.out.below hb)
  have NW := Lib.hid hn15
  obtain ⟨A15, k15, rfl⟩ := nums_slice' hn15
  clear hn15
  clear hb
  obtain ⟨x0, x1, x2, x3, x4, x5, x6, x7⟩ := (⟨S15.c0, S15.c1, S15.c2, S15.d0, S15.d1, S15.d2, S15.d3, S15.d4⟩ : _ ∧ _ ∧ _ ∧ _ ∧ _ ∧ _ ∧ _ ∧ _)
  go_wp2_with fail
  (with_reducible refine (FF.out.wh2 _ _ NM.out).mono ?_)
  rintro e w16 ⟨v16, rfl, hn16, hb⟩
  have S16 := S15.next hb
  clear x0 x1 x2 x3 x4 x5 x6 x7
  replace NZ := Lib.hid (NZ.out.below hb)
  replace NX := Lib.hid (NX.out.below hb)
  replace NY := Lib.hid (NY.out.below hb)
  replace NA := Lib.hid (NA.out.below hb)
  replace NN := Lib.hid (NN.out.below hb)
  replace NG := Lib.hid (NG.out.below hb)
  replace NQ := Lib.hid (NQ.out.below hb)
  replace NM := Lib.hid (NM.out.below hb)
  replace NW := Lib.hid (NW.out.below hb)
  have NV := Lib.hid hn16
  obtain ⟨A16, k16, rfl⟩ := nums_slice' hn16
  clear hn16
  clear hb
  obtain ⟨x0, x1, x2, x3, x4, x5, x6, x7⟩ := (⟨S16.c0, S16.c1, S16.c2, S16.d0, S16.d1, S16.d2, S16.d3, S16.d4⟩ : _ ∧ _ ∧ _ ∧ _ ∧ _ ∧ _ ∧ _ ∧ _)
  go_wp2_with fail
  go_region_held3 (fun w' => w'.cell? ⟨W.heap.size, 0, none⟩ = some (.int .u64 (P : Nat)) ∧ w'.cell? ⟨W.heap.size, 1, none⟩ = some (.int .i64 (N : Nat)) ∧ w'.cell? ⟨W.heap.size, 2, none⟩ = some (.int .i64 (T : Nat)) ∧ w'.cell? ⟨W.heap.size + 1, 0, none⟩ = some (.slice Ax XL cx) ∧ w'.cell? ⟨W.heap.size + 1, 1, none⟩ = some (.slice Ay YL cy) ∧ w'.cell? ⟨W.heap.size + 1, 2, none⟩ = some (.int .u64 (a : Nat)) ∧ w'.cell? ⟨W.heap.size + 1, 3, none⟩ = some (.int .u64 (b : Nat)) ∧ w'.cell? ⟨W.heap.size + 1, 4, none⟩ = some (.slice Al LL cl))
    (first | exact ⟨S22.c0, S22.c1, S22.c2, S22.d0, S22.d1, S22.d2, S22.d3, S22.d4⟩ | exact ⟨S21.c0, S21.c1, S21.c2, S21.d0, S21.d1, S21.d2, S21.d3, S21.d4⟩ | exact ⟨S20.c0, S20.c1, S20.c2, S20.d0, S20.d1, S20.d2, S20.d3, S20.d4⟩ | exact ⟨S19.c0, S19.c1, S19.c2, S19.d0, S19.d1, S19.d2, S19.d3, S19.d4⟩ | exact ⟨S18.c0, S18.c1, S18.c2, S18.d0, S18.d1, S18.d2, S18.d3, S18.d4⟩ | exact ⟨S17.c0, S17.c1, S17.c2, S17.d0, S17.d1, S17.d2, S17.d3, S17.d4⟩ | exact ⟨S16.drew.c0, S16.drew.c1, S16.drew.c2, S16.drew.d0, S16.drew.d1, S16.drew.d2, S16.drew.d3, S16.drew.d4⟩ | go_keep)
    (first | (go_at_call 40; (with_reducible refine (FF.out.mu3 _ _ _ (NZ.out.below (Below.refl _ _).drew) (NQ.out.below (Below.refl _ _).drew)).mono ?_); rintro e w17 ⟨v17, rfl, hn17, hb17⟩; have S17 := (S16.drew).next hb17) | (go_at_call 41; (with_reducible refine (FF.out.su2 _ _ _ ((NW.out.below (Below.refl _ _).drew).below hb17) hn17).mono ?_); rintro e w18 ⟨v18, rfl, hn18, hb18⟩; have S18 := (S17).next hb18) | (go_at_call 21; (with_reducible refine (same_any _ _ vv _ (((NV.out.below (Below.refl _ _).drew).below hb17).below hb18) hn18).mono ?_); rintro e w19 ⟨rfl, hb19⟩; have S19 := (S18).next hb19) | (go_at_call 39; (with_reducible refine (FF.out.ad3 _ _ _ ((((NN.out.below (Below.refl _ _).drew).below hb17).below hb18).below hb19) ((((NV.out.below (Below.refl _ _).drew).below hb17).below hb18).below hb19)).mono ?_); rintro e w20 ⟨v20, rfl, hn20, hb20⟩; have S20 := (S19).next hb20) | (go_at_call 39; (with_reducible refine (FF.out.ad4 _ _ _ (((((NA.out.below (Below.refl _ _).drew).below hb17).below hb18).below hb19).below hb20) (((((NW.out.below (Below.refl _ _).drew).below hb17).below hb18).below hb19).below hb20)).mono ?_); rintro e w21 ⟨v21, rfl, hn21, hb21⟩; have S21 := (S20).next hb21) | (go_at_call 21; (with_reducible refine (same_any _ _ su _ (hn20.below hb21) hn21).mono ?_); rintro e w22 ⟨rfl, hb22⟩; have S22 := (S21).next hb22))
  clear x0 x1 x2 x3 x4 x5 x6 x7
  replace NZ := Lib.hid (((((((NZ.out.below (Below.refl _ _).drew).below hb17).below hb18).below hb19).below hb20).below hb21).below hb22)
  replace NX := Lib.hid (((((((NX.out.below (Below.refl _ _).drew).below hb17).below hb18).below hb19).below hb20).below hb21).below hb22)
  replace NY := Lib.hid (((((((NY.out.below (Below.refl _ _).drew).below hb17).below hb18).below hb19).below hb20).below hb21).below hb22)
  replace NA := Lib.hid (((((((NA.out.below (Below.refl _ _).drew).below hb17).below hb18).below hb19).below hb20).below hb21).below hb22)
  replace NN := Lib.hid (((((((NN.out.below (Below.refl _ _).drew).below hb17).below hb18).below hb19).below hb20).below hb21).below hb22)
  replace NG := Lib.hid (((((((NG.out.below (Below.refl _ _).drew).below hb17).below hb18).below hb19).below hb20).below hb21).below hb22)
  replace NQ := Lib.hid (((((((NQ.out.below (Below.refl _ _).drew).below hb17).below hb18).below hb19).below hb20).below hb21).below hb22)
  replace NM := Lib.hid (((((((NM.out.below (Below.refl _ _).drew).below hb17).below hb18).below hb19).below hb20).below hb21).below hb22)
  replace NW := Lib.hid (((((((NW.out.below (Below.refl _ _).drew).below hb17).below hb18).below hb19).below hb20).below hb21).below hb22)
  replace NV := Lib.hid (((((((NV.out.below (Below.refl _ _).drew).below hb17).below hb18).below hb19).below hb20).below hb21).below hb22)
  clear hn17 hn18 hb17 hb18 hb19 hn20 hn21 hb20 hb21 hb22
  obtain ⟨x0, x1, x2, x3, x4, x5, x6, x7⟩ := (⟨S22.c0, S22.c1, S22.c2, S22.d0, S22.d1, S22.d2, S22.d3, S22.d4⟩ : _ ∧ _ ∧ _ ∧ _ ∧ _ ∧ _ ∧ _ ∧ _)
  have HMW := Lib.hid HM.out
  have hL3 := HR.out
  obtain ⟨hml, hrow⟩ := mat_row HM.out
  obtain ⟨bl, ol, rfl, hbl, hcl⟩ := hrow (by omega)
  obtain ⟨hmm, hrow2⟩ := mat_row NM.out
  obtain ⟨bm, om, rfl, hbm, hcm⟩ := hrow2 (by omega)
  have RL := Lib.hid fun k (hk : k < T + 1) => hcl k (by omega)
  have RM := Lib.hid fun k (hk : k < T + 1) => hcm k (by omega)
  clear hcl hcm hrow hrow2 hml hmm HMW NZ NX NY NA NN NG NQ NW NV NM HM HX HY
  have hB0 := Below.refl w22.heap.size w22
  go_wp2_with fail
  clear x0 x1 x2 x3 x4 x5 x6 x7
  go_loopw [217] (fun ti wr => ∃ i : Nat, i ≤ LL ∧ ti = .int .i64 i ∧ Below w22.heap.size w22 wr) (fun ti _ => LL - (intOf ti).toNat)
  case atStart => exact ⟨0, by omega, rfl, hB0⟩
  case round =>
    obtain ⟨i, hi, rfl, hB⟩ := hrel
    obtain ⟨w30, ew⟩ : ∃ x, x = wr := ⟨_, rfl⟩
    rw [← ew] at hB ⊢
    have HB := Lib.hid hB
    have S30 := S22.next hB
    clear hB hB0 ew
    obtain ⟨x0, x1, x2, x3, x4, x5, x6, x7⟩ := (⟨S30.c0, S30.c1, S30.c2, S30.d0, S30.d1, S30.d2, S30.d3, S30.d4⟩ : _ ∧ _ ∧ _ ∧ _ ∧ _ ∧ _ ∧ _ ∧ _)
    by_cases hlt : i < LL
    · obtain ⟨hLl, hq⟩ := ints_cells8 HL.out
      obtain ⟨bq, oq, rfl, hbq, hcq⟩ := hq (by omega)
      have cq := (S30.below.cell (p := ⟨bq, oq + i, none⟩) hbq).trans (hcq i hlt)
      have hil : i < l.length := by omega
      obtain ⟨c, hc, hcl⟩ : ∃ c : Nat, l.getD i 0 = (c : Int) ∧ c < 65537 := by obtain ⟨c, r, h1, h2, -⟩ := FF.out.ev i 0 hil (by omega); exact ⟨c, h1, h2⟩
      rw [hc] at cq
      have hwc : IntKind.u64.wrap (c : Int) = (c : Int) := by rw [IntKind.wrap_u64]; omega
      have EVK := Lib.hid (show ∀ k, k < T + 1 → ∃ r : Nat, (∀ w V, Nums w V (m.getD k []) → Calls Try.prog 32 #[.int .u64 P, V, .int .u64 c] w fun e w' => e = .returned (.int .u64 (r : Nat)) ∧ w = w') ∧ (∀ w V, Nums w V (mm.getD k []) → Calls Try.prog 32 #[.int .u64 P, V, .int .u64 c] w fun e w' => e = .returned (.int .u64 (r : Nat)) ∧ w = w') from fun k hk => by obtain ⟨c', r, h1, -, h3, h4⟩ := FF.out.ev i k hil hk; obtain rfl : c' = c := (by omega); exact ⟨r, h3, h4⟩)
      clear hcq hq hLl hil hc hcl
      have hB1 := Below.refl w30.heap.size w30
      go_wp2_with fail
      clear cq
      clear x0 x1 x2 x3 x4 x5 x6 x7
      go_loopw [223] (fun tj wr => ∃ k : Nat, k ≤ T + 1 ∧ tj = .int .i64 k ∧ Below w30.heap.size w30 wr) (fun tj _ => T + 1 - (intOf tj).toNat)
      case atStart => exact ⟨0, by omega, rfl, hB1⟩
      case round =>
        obtain ⟨k, hk, rfl, hB⟩ := hrel
        obtain ⟨w31, ew⟩ : ∃ x, x = wr := ⟨_, rfl⟩
        rw [← ew] at hB ⊢
        have HBI := Lib.hid hB
        have S31 := S30.next hB
        have HBD := Lib.hid (hB.drew)
        have HBO := Lib.hid (bnext HB.out hB)
        clear hB hB1 ew
        obtain ⟨x0, x1, x2, x3, x4, x5, x6, x7⟩ := (⟨S31.c0, S31.c1, S31.c2, S31.d0, S31.d1, S31.d2, S31.d3, S31.d4⟩ : _ ∧ _ ∧ _ ∧ _ ∧ _ ∧ _ ∧ _ ∧ _)
        by_cases hlk : k < T + 1
        · obtain ⟨Au, cu, ck, hnk, -⟩ := RL.out k hlk
          obtain ⟨Av, cv, cm, hnm, -⟩ := RM.out k hlk
          have y0 := (S31.below.cell (p := ⟨bl, ol + k, none⟩) hbl).trans ck
          have y1 := (HBO.out.cell (p := ⟨bm, om + k, none⟩) hbm).trans cm
          obtain ⟨r, he1, he2⟩ := EVK.out k hlk
          have E1 := Lib.hid (he1 w31.drew _ (hnk.below S31.drew.below))
          have E2 := Lib.hid (he2 w31.drew _ (hnm.below HBO.out.drew))
          obtain ⟨L1, eL1⟩ : ∃ L1, L1 = (m.getD k []).length := ⟨_, rfl⟩
          rw [← eL1] at y0 E1
          obtain ⟨L2, eL2⟩ : ∃ L2, L2 = (mm.getD k []).length := ⟨_, rfl⟩
          rw [← eL2] at y1 E2
          clear ck hnk cm hnm he1 he2 eL1 eL2
          have hrr : ((r : Int) != (r : Int)) = false := by simp
          go_wp2_with fail
          go_region_held3 (fun w' => w'.cell? ⟨W.heap.size, 0, none⟩ = some (.int .u64 (P : Nat)) ∧ w'.cell? ⟨bl, ol + k, none⟩ = some (.slice Au L1 cu) ∧ w'.cell? ⟨bm, om + k, none⟩ = some (.slice Av L2 cv))
            (first | exact ⟨S31.drew.c0, ((Below.refl _ _).drew.cell (p := ⟨bl, ol + k, none⟩) (Nat.lt_of_lt_of_le hbl S31.below.size)).trans y0, ((Below.refl _ _).drew.cell (p := ⟨bm, om + k, none⟩) (Nat.lt_of_lt_of_le hbm HBO.out.size)).trans y1⟩ | go_keep)
            (first | (go_at_call 32; (with_reducible refine (E1.out).mono ?_); rintro e w' ⟨rfl, rfl⟩) | (go_at_call 32; (with_reducible refine (E2.out).mono ?_); rintro e w' ⟨rfl, rfl⟩))
          go_wp2_with fail
          go_roundw
          case rel => exact ⟨k + 1, by omega, by go_num, HBD.out⟩
          case measure => simp [intOf]; omega
        · obtain rfl : k = T + 1 := by omega
          go_wp2_with fail
          go_roundw
          case rel => exact ⟨i + 1, by omega, by go_num, HBO.out⟩
          case measure => simp [intOf]; omega
    · obtain rfl : i = LL := by omega
      go_wp2_with fail
      (with_reducible refine (alive7_any _).mono ?_)
      rintro e w40 ⟨rfl, hb⟩
      have S40 := S30.next hb
      clear x0 x1 x2 x3 x4 x5 x6 x7
      obtain ⟨x0, x1, x2, x3, x4, x5, x6, x7⟩ := (⟨S40.c0, S40.c1, S40.c2, S40.d0, S40.d1, S40.d2, S40.d3, S40.d4⟩ : _ ∧ _ ∧ _ ∧ _ ∧ _ ∧ _ ∧ _ ∧ _)
      go_wp2_with fail
      go_ret
      exact ⟨rfl, S40.below⟩

theorem walk (W : World) (P : Nat) (n t : Int) (hP : P < 18446744073709551616) (hn1 : -9223372036854775808 ≤ n) (hn2 : n ≤ 9223372036854775807) (ht1 : -9223372036854775808 ≤ t) (ht2 : t ≤ 9223372036854775807) (v1 : Value) (m : List (List Nat)) (hm : Mat W v1 m) (s0 : Value) (x : List Nat) (s1 : Value) (y : List Nat) (a b : Nat) (s4 : Value) (l : List Int) (hx : Nums W s0 x) (hy : Nums W s1 y) (ha : a < 18446744073709551616) (hb : b < 18446744073709551616) (hl : IntsZ W s4 l) :
    Calls Try.prog 11 #[suV P n t, v1, .agg #[s0, s1, .int .u64 a, .int .u64 b, s4]] W fun e w' => e = .returned (.bool true) ∧ Below W.heap.size W w' := by
  by_cases hE : M.tchk P n t m = 0
  case neg => exact no W P n t hP hn1 hn2 ht1 ht2 v1 m hm s0 x s1 y a b s4 l hx hy ha hb hl  (hE)
  by_cases hC : M.errC P n t l = 0
  case neg => exact far W P n t hP hn1 hn2 ht1 ht2 v1 m hm s0 x s1 y a b s4 l hx hy ha hb hl hE (hC)
  by_cases hxl : x.length ≤ t.toNat + 1
  case neg => exact xlong W P n t hP hn1 hn2 ht1 ht2 v1 m hm s0 x s1 y a b s4 l hx hy ha hb hl hE hC (by omega)
  by_cases hyl : y.length ≤ t.toNat + 1
  case neg => exact ylong W P n t hP hn1 hn2 ht1 ht2 v1 m hm s0 x s1 y a b s4 l hx hy ha hb hl hE hC hxl (by omega)
  by_cases hwx : M.within P x = true
  case neg => exact xout W P n t hP hn1 hn2 ht1 ht2 v1 m hm s0 x s1 y a b s4 l hx hy ha hb hl hE hC hxl hyl (by simpa using hwx)
  by_cases hwy : M.within P y = true
  case neg => exact yout W P n t hP hn1 hn2 ht1 ht2 v1 m hm s0 x s1 y a b s4 l hx hy ha hb hl hE hC hxl hyl hwx (by simpa using hwy)
  by_cases hap : a < P
  case neg => exact abig W P n t hP hn1 hn2 ht1 ht2 v1 m hm s0 x s1 y a b s4 l hx hy ha hb hl hE hC hxl hyl hwx hwy (by omega)
  by_cases hbp : b < P
  case neg => exact bbig W P n t hP hn1 hn2 ht1 ht2 v1 m hm s0 x s1 y a b s4 l hx hy ha hb hl hE hC hxl hyl hwx hwy hap (by omega)
  exact good W P n t hP hn1 hn2 ht1 ht2 v1 m hm s0 x s1 y a b s4 l hx hy ha hb hl hE hC hxl hyl hwx hwy hap hbp
end twiceMovedW
end Go.Proofs.Ytfkepkdfpjaniaa
