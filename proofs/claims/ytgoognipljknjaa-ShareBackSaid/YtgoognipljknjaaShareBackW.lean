/-
  The law ShareBack: the cases that are out of bounds, and all cases put together.
-/
import Derived.Test.YtgoognipljknjaaBack6
import Derived.RegionTactic
import Derived.ChangeAlike
import Derived.Test.YtgoognipljknjaaShareBackG
namespace Go.Proofs.Ytgoognipljknjaa.shareBackW
open Go.RowKit
set_option linter.unusedVariables false
set_option maxRecDepth 100000

set_option maxHeartbeats 2000000 in
theorem no (w : World) (p : Nat) (n t : Int) (hp : p < 18446744073709551616) (hn1 : -9223372036854775808 ≤ n) (hn2 : n ≤ 9223372036854775807) (ht1 : -9223372036854775808 ≤ t) (ht2 : t ≤ 9223372036854775807) (a b c : Nat) (d d2 : Int) (vt vt2 : Value) (zs zs2 : List Nat) (ha64 : a < 18446744073709551616) (hb64 : b < 18446744073709551616) (hd1 : -9223372036854775808 ≤ d) (hd2 : d ≤ 9223372036854775807) (hc64 : c < 18446744073709551616) (hv : Nums w vt zs) (hv2 : Nums w vt2 zs2) (h : M.errS p n t ≠ 0) :
    Calls Try.prog 11 #[suV p n t, .agg #[.int .u64 a, .int .i64 d, vt, .int .u64 b, .int .i64 d2, vt2], .int .u64 c] w fun e w' => e = .returned (.bool true) ∧ Below w.heap.size w w' := by
  have hset := fun W => rsetup_any p n t W hp hn1 hn2 ht1 ht2
  obtain ⟨e0, ee⟩ : ∃ e0, M.errS p n t = e0 := ⟨_, rfl⟩
  rw [ee] at hset h
  have H2 := Lib.hid hset
  have hs1 : (e0 != 0) = true := by rw [bne_iff_ne]; exact h
  clear ee
  have HV := Lib.hid hv
  have HZ := Lib.hid hv2
  obtain ⟨A, cap, rfl⟩ := nums_slice' hv
  obtain ⟨A2, cap2, rfl⟩ := nums_slice' hv2
  have hB0 := bnext (balloc w (.cells #[.int .u64 p, .int .i64 n, .int .i64 t] 40)) (balloc (w.alloc (.cells #[.int .u64 p, .int .i64 n, .int .i64 t] 40)) (.cells #[.int .u64 a, .int .i64 d, .slice A zs.length cap, .int .u64 b, .int .i64 d2, .slice A2 zs2.length cap2] 79))
  have hK0 := ((kept3 w w.heap.size rfl (.int .u64 p) (.int .i64 n) (.int .i64 t) 40).alloc (.cells #[.int .u64 a, .int .i64 d, .slice A zs.length cap, .int .u64 b, .int .i64 d2, .slice A2 zs2.length cap2] 79)).app (kept6 (w.alloc (.cells #[.int .u64 p, .int .i64 n, .int .i64 t] 40)) (w.heap.size + 1) (by simp) (.int .u64 a) (.int .i64 d) (.slice A zs.length cap) (.int .u64 b) (.int .i64 d2) (.slice A2 zs2.length cap2) 79)
  obtain ⟨w0, hw0⟩ : ∃ w0, (w.alloc (.cells #[.int .u64 p, .int .i64 n, .int .i64 t] 40)).alloc (.cells #[.int .u64 a, .int .i64 d, .slice A zs.length cap, .int .u64 b, .int .i64 d2, .slice A2 zs2.length cap2] 79) = w0 := ⟨_, rfl⟩
  have hs0 : w0.heap.size = w.heap.size + 2 := by rw [← hw0]; simp
  rw [hw0] at hB0 hK0
  have B0 := Lib.hid hB0
  have KS0 := Lib.hid hK0.left
  have q0 : w0.cell? ⟨w.heap.size + 1, 0, none⟩ = some (.int .u64 a) := hK0.of (by simp)
  have q1 : w0.cell? ⟨w.heap.size + 1, 1, none⟩ = some (.int .i64 d) := hK0.of (by simp)
  have q2 : w0.cell? ⟨w.heap.size + 1, 2, none⟩ = some (.slice A zs.length cap) := hK0.of (by simp)
  have q3 : w0.cell? ⟨w.heap.size + 1, 3, none⟩ = some (.int .u64 b) := hK0.of (by simp)
  have q4 : w0.cell? ⟨w.heap.size + 1, 4, none⟩ = some (.int .i64 d2) := hK0.of (by simp)
  have q5 : w0.cell? ⟨w.heap.size + 1, 5, none⟩ = some (.slice A2 zs2.length cap2) := hK0.of (by simp)
  have n1 : w.heap.size + 1 ≠ w0.heap.size := by omega
  have n2 : w.heap.size + 1 ≠ w0.heap.size + 1 := by omega
  have n3 : w0.heap.size ≠ w.heap.size + 1 := by omega
  have n4 : w.heap.size + 1 < w0.heap.size := by omega
  have n5 : w0.heap.size + 1 ≠ w.heap.size + 1 := by omega
  have n6 : w.heap.size + 1 < w0.heap.size + 1 := by omega
  have HS0 := Lib.hid hs0
  have hud : ∀ b : Bool, undef ≠ Value.bool b := fun b h => by cases h
  have hs9 : ((0 : Int) != 0) = false := rfl
  have hs8 : ((0 : Int) == 0) = true := rfl
  unfold suV at H2 ⊢
  clear hB0 hK0 hs0 hset hv hv2
  go_enter Try.func11, Try.ntmps11
  go_wp2_with fail
  clear hw0
  go_region
  · skip
    obtain ⟨ka, eka⟩ : ∃ ka, ka = w0.heap.size := ⟨_, rfl⟩
    have hb1 : Below w0.heap.size w0 ((w0.alloc (.cells #[.int .u64 a, .int .i64 d, .slice A zs.length cap] 45)).alloc (.cells #[.int .u64 b, .int .i64 d2, .slice A2 zs2.length cap2] 45)).drew := (bnext (balloc w0 _) (balloc _ _)).drew
    have hk1 := (((KS0.out.alloc _).alloc _).app (((kept3 w0 ka eka (.int .u64 a) (.int .i64 d) (.slice A zs.length cap) 45).alloc _).app (kept3 (w0.alloc (.cells #[.int .u64 a, .int .i64 d, .slice A zs.length cap] 45)) (ka + 1) (by rw [eka]; simp) (.int .u64 b) (.int .i64 d2) (.slice A2 zs2.length cap2) 45))).drew
    obtain ⟨w1, hw1⟩ : ∃ w1, ((w0.alloc (.cells #[.int .u64 a, .int .i64 d, .slice A zs.length cap] 45)).alloc (.cells #[.int .u64 b, .int .i64 d2, .slice A2 zs2.length cap2] 45)).drew = w1 := ⟨_, rfl⟩
    rw [hw1] at hb1 hk1 ⊢
    rw [← eka]
    have B1 := Lib.hid (bnext B0.out hb1)
    have K1 := Lib.hid hk1
    clear hb1 hk1 hw1 q0 q1 q2 q3 q4 q5 n1 n2 n3 n4 n5 n6 eka
    obtain ⟨d1_0, d1_1, d1_2, d1_3, d1_4, d1_5, d1_6, d1_7, d1_8⟩ := K1.out.c9
    go_wp2_with fail
    refine (H2.out _).mono ?_
    rintro e w2 ⟨rfl, hb2⟩
    have B2 := Lib.hid (bnext B1.out hb2)
    have K2 := Lib.hid (K1.out.below hb2)
    clear hb2  d1_0 d1_1 d1_2 d1_3 d1_4 d1_5 d1_6 d1_7 d1_8
    obtain ⟨d2_0, d2_1, d2_2, d2_3, d2_4, d2_5, d2_6, d2_7, d2_8⟩ := K2.out.c9
    go_wp2_with fail
    refine (alive_any _).mono ?_
    rintro e w3 ⟨rfl, hb3⟩
    have B3 := Lib.hid (bnext B2.out hb3)
    have K3 := Lib.hid (K2.out.below hb3)
    clear hb3  d2_0 d2_1 d2_2 d2_3 d2_4 d2_5 d2_6 d2_7 d2_8
    obtain ⟨d3_0, d3_1, d3_2, d3_3, d3_4, d3_5, d3_6, d3_7, d3_8⟩ := K3.out.c9
    go_wp2_with fail
    go_ret
    exact ⟨rfl, B3.out⟩
  · skip
    obtain ⟨ka, eka⟩ : ∃ ka, ka = w0.heap.size := ⟨_, rfl⟩
    have hb1 : Below w0.heap.size w0 ((w0.alloc (.cells #[.int .u64 b, .int .i64 d2, .slice A2 zs2.length cap2] 45)).alloc (.cells #[.int .u64 a, .int .i64 d, .slice A zs.length cap] 45)).drew := (bnext (balloc w0 _) (balloc _ _)).drew
    have hk1 := (((KS0.out.alloc _).alloc _).app ((kept3 (w0.alloc (.cells #[.int .u64 b, .int .i64 d2, .slice A2 zs2.length cap2] 45)) (ka + 1) (by rw [eka]; simp) (.int .u64 a) (.int .i64 d) (.slice A zs.length cap) 45).app ((kept3 w0 ka eka (.int .u64 b) (.int .i64 d2) (.slice A2 zs2.length cap2) 45).alloc _))).drew
    obtain ⟨w1, hw1⟩ : ∃ w1, ((w0.alloc (.cells #[.int .u64 b, .int .i64 d2, .slice A2 zs2.length cap2] 45)).alloc (.cells #[.int .u64 a, .int .i64 d, .slice A zs.length cap] 45)).drew = w1 := ⟨_, rfl⟩
    rw [hw1] at hb1 hk1 ⊢
    rw [← eka]
    have B1 := Lib.hid (bnext B0.out hb1)
    have K1 := Lib.hid hk1
    clear hb1 hk1 hw1 q0 q1 q2 q3 q4 q5 n1 n2 n3 n4 n5 n6 eka
    obtain ⟨d1_0, d1_1, d1_2, d1_3, d1_4, d1_5, d1_6, d1_7, d1_8⟩ := K1.out.c9
    go_wp2_with fail
    refine (H2.out _).mono ?_
    rintro e w2 ⟨rfl, hb2⟩
    have B2 := Lib.hid (bnext B1.out hb2)
    have K2 := Lib.hid (K1.out.below hb2)
    clear hb2  d1_0 d1_1 d1_2 d1_3 d1_4 d1_5 d1_6 d1_7 d1_8
    obtain ⟨d2_0, d2_1, d2_2, d2_3, d2_4, d2_5, d2_6, d2_7, d2_8⟩ := K2.out.c9
    go_wp2_with fail
    refine (alive_any _).mono ?_
    rintro e w3 ⟨rfl, hb3⟩
    have B3 := Lib.hid (bnext B2.out hb3)
    have K3 := Lib.hid (K2.out.below hb3)
    clear hb3  d2_0 d2_1 d2_2 d2_3 d2_4 d2_5 d2_6 d2_7 d2_8
    obtain ⟨d3_0, d3_1, d3_2, d3_3, d3_4, d3_5, d3_6, d3_7, d3_8⟩ := K3.out.c9
    go_wp2_with fail
    go_ret
    exact ⟨rfl, B3.out⟩

set_option maxHeartbeats 2000000 in
theorem e1 (w : World) (p N : Nat) (t : Int) (hok : M.okS p (N : Int) t = true) (a b c : Nat) (d d2 : Int) (vt vt2 : Value) (zs zs2 : List Nat) (ha64 : a < 18446744073709551616) (hb64 : b < 18446744073709551616) (hd1 : -9223372036854775808 ≤ d) (hd2 : d ≤ 9223372036854775807) (hc64 : c < 18446744073709551616) (hv : Nums w vt zs) (hv2 : Nums w vt2 zs2) (h : p ≤ a) :
    Calls Try.prog 11 #[suV p (N : Int) t, .agg #[.int .u64 a, .int .i64 d, vt, .int .u64 b, .int .i64 d2, vt2], .int .u64 c] w fun e w' => e = .returned (.bool true) ∧ Below w.heap.size w w' := by
  obtain ⟨hi, hn1, hn2, ht1, ht2, hnp⟩ := M.okS_iff.1 hok
  obtain ⟨h3, hp⟩ := M.pos_of hi
  have hset := fun W => rsetup_any p (N : Int) t W (by omega) (by omega) (by omega) (by omega) (by omega)
  rw [← M.errS_ok hok] at hset
  have H2 := Lib.hid hset
  have HV := Lib.hid hv
  have HZ := Lib.hid hv2
  obtain ⟨A, cap, rfl⟩ := nums_slice' hv
  obtain ⟨A2, cap2, rfl⟩ := nums_slice' hv2
  have hB0 := bnext (balloc w (.cells #[.int .u64 p, .int .i64 N, .int .i64 t] 40)) (balloc (w.alloc (.cells #[.int .u64 p, .int .i64 N, .int .i64 t] 40)) (.cells #[.int .u64 a, .int .i64 d, .slice A zs.length cap, .int .u64 b, .int .i64 d2, .slice A2 zs2.length cap2] 79))
  have hK0 := ((kept3 w w.heap.size rfl (.int .u64 p) (.int .i64 N) (.int .i64 t) 40).alloc (.cells #[.int .u64 a, .int .i64 d, .slice A zs.length cap, .int .u64 b, .int .i64 d2, .slice A2 zs2.length cap2] 79)).app (kept6 (w.alloc (.cells #[.int .u64 p, .int .i64 N, .int .i64 t] 40)) (w.heap.size + 1) (by simp) (.int .u64 a) (.int .i64 d) (.slice A zs.length cap) (.int .u64 b) (.int .i64 d2) (.slice A2 zs2.length cap2) 79)
  obtain ⟨w0, hw0⟩ : ∃ w0, (w.alloc (.cells #[.int .u64 p, .int .i64 N, .int .i64 t] 40)).alloc (.cells #[.int .u64 a, .int .i64 d, .slice A zs.length cap, .int .u64 b, .int .i64 d2, .slice A2 zs2.length cap2] 79) = w0 := ⟨_, rfl⟩
  have hs0 : w0.heap.size = w.heap.size + 2 := by rw [← hw0]; simp
  rw [hw0] at hB0 hK0
  have B0 := Lib.hid hB0
  have KS0 := Lib.hid hK0.left
  have q0 : w0.cell? ⟨w.heap.size + 1, 0, none⟩ = some (.int .u64 a) := hK0.of (by simp)
  have q1 : w0.cell? ⟨w.heap.size + 1, 1, none⟩ = some (.int .i64 d) := hK0.of (by simp)
  have q2 : w0.cell? ⟨w.heap.size + 1, 2, none⟩ = some (.slice A zs.length cap) := hK0.of (by simp)
  have q3 : w0.cell? ⟨w.heap.size + 1, 3, none⟩ = some (.int .u64 b) := hK0.of (by simp)
  have q4 : w0.cell? ⟨w.heap.size + 1, 4, none⟩ = some (.int .i64 d2) := hK0.of (by simp)
  have q5 : w0.cell? ⟨w.heap.size + 1, 5, none⟩ = some (.slice A2 zs2.length cap2) := hK0.of (by simp)
  have n1 : w.heap.size + 1 ≠ w0.heap.size := by omega
  have n2 : w.heap.size + 1 ≠ w0.heap.size + 1 := by omega
  have n3 : w0.heap.size ≠ w.heap.size + 1 := by omega
  have n4 : w.heap.size + 1 < w0.heap.size := by omega
  have n5 : w0.heap.size + 1 ≠ w.heap.size + 1 := by omega
  have n6 : w.heap.size + 1 < w0.heap.size + 1 := by omega
  have HS0 := Lib.hid hs0
  have hud : ∀ b : Bool, undef ≠ Value.bool b := fun b h => by cases h
  have hs9 : ((0 : Int) != 0) = false := rfl
  have hs8 : ((0 : Int) == 0) = true := rfl
  unfold suV at H2 ⊢
  clear hB0 hK0 hs0 hset hv hv2 hok hi
  go_enter Try.func11, Try.ntmps11
  go_wp2_with fail
  clear hw0
  go_region
  · skip
    obtain ⟨ka, eka⟩ : ∃ ka, ka = w0.heap.size := ⟨_, rfl⟩
    have hb1 : Below w0.heap.size w0 ((w0.alloc (.cells #[.int .u64 a, .int .i64 d, .slice A zs.length cap] 45)).alloc (.cells #[.int .u64 b, .int .i64 d2, .slice A2 zs2.length cap2] 45)).drew := (bnext (balloc w0 _) (balloc _ _)).drew
    have hk1 := (((KS0.out.alloc _).alloc _).app (((kept3 w0 ka eka (.int .u64 a) (.int .i64 d) (.slice A zs.length cap) 45).alloc _).app (kept3 (w0.alloc (.cells #[.int .u64 a, .int .i64 d, .slice A zs.length cap] 45)) (ka + 1) (by rw [eka]; simp) (.int .u64 b) (.int .i64 d2) (.slice A2 zs2.length cap2) 45))).drew
    obtain ⟨w1, hw1⟩ : ∃ w1, ((w0.alloc (.cells #[.int .u64 a, .int .i64 d, .slice A zs.length cap] 45)).alloc (.cells #[.int .u64 b, .int .i64 d2, .slice A2 zs2.length cap2] 45)).drew = w1 := ⟨_, rfl⟩
    rw [hw1] at hb1 hk1 ⊢
    rw [← eka]
    have B1 := Lib.hid (bnext B0.out hb1)
    have K1 := Lib.hid hk1
    clear hb1 hk1 hw1 q0 q1 q2 q3 q4 q5 n1 n2 n3 n4 n5 n6 eka
    obtain ⟨d1_0, d1_1, d1_2, d1_3, d1_4, d1_5, d1_6, d1_7, d1_8⟩ := K1.out.c9
    go_wp2_with fail
    refine (H2.out _).mono ?_
    rintro e w2 ⟨rfl, hb2⟩
    have B2 := Lib.hid (bnext B1.out hb2)
    have K2 := Lib.hid (K1.out.below hb2)
    clear hb2  d1_0 d1_1 d1_2 d1_3 d1_4 d1_5 d1_6 d1_7 d1_8
    obtain ⟨d2_0, d2_1, d2_2, d2_3, d2_4, d2_5, d2_6, d2_7, d2_8⟩ := K2.out.c9
    go_wp2_with fail
    refine (alive_any _).mono ?_
    rintro e w3 ⟨rfl, hb3⟩
    have B3 := Lib.hid (bnext B2.out hb3)
    have K3 := Lib.hid (K2.out.below hb3)
    clear hb3  d2_0 d2_1 d2_2 d2_3 d2_4 d2_5 d2_6 d2_7 d2_8
    obtain ⟨d3_0, d3_1, d3_2, d3_3, d3_4, d3_5, d3_6, d3_7, d3_8⟩ := K3.out.c9
    go_wp2_with fail
    go_ret
    exact ⟨rfl, B3.out⟩
  · skip
    obtain ⟨ka, eka⟩ : ∃ ka, ka = w0.heap.size := ⟨_, rfl⟩
    have hb1 : Below w0.heap.size w0 ((w0.alloc (.cells #[.int .u64 b, .int .i64 d2, .slice A2 zs2.length cap2] 45)).alloc (.cells #[.int .u64 a, .int .i64 d, .slice A zs.length cap] 45)).drew := (bnext (balloc w0 _) (balloc _ _)).drew
    have hk1 := (((KS0.out.alloc _).alloc _).app ((kept3 (w0.alloc (.cells #[.int .u64 b, .int .i64 d2, .slice A2 zs2.length cap2] 45)) (ka + 1) (by rw [eka]; simp) (.int .u64 a) (.int .i64 d) (.slice A zs.length cap) 45).app ((kept3 w0 ka eka (.int .u64 b) (.int .i64 d2) (.slice A2 zs2.length cap2) 45).alloc _))).drew
    obtain ⟨w1, hw1⟩ : ∃ w1, ((w0.alloc (.cells #[.int .u64 b, .int .i64 d2, .slice A2 zs2.length cap2] 45)).alloc (.cells #[.int .u64 a, .int .i64 d, .slice A zs.length cap] 45)).drew = w1 := ⟨_, rfl⟩
    rw [hw1] at hb1 hk1 ⊢
    rw [← eka]
    have B1 := Lib.hid (bnext B0.out hb1)
    have K1 := Lib.hid hk1
    clear hb1 hk1 hw1 q0 q1 q2 q3 q4 q5 n1 n2 n3 n4 n5 n6 eka
    obtain ⟨d1_0, d1_1, d1_2, d1_3, d1_4, d1_5, d1_6, d1_7, d1_8⟩ := K1.out.c9
    go_wp2_with fail
    refine (H2.out _).mono ?_
    rintro e w2 ⟨rfl, hb2⟩
    have B2 := Lib.hid (bnext B1.out hb2)
    have K2 := Lib.hid (K1.out.below hb2)
    clear hb2  d1_0 d1_1 d1_2 d1_3 d1_4 d1_5 d1_6 d1_7 d1_8
    obtain ⟨d2_0, d2_1, d2_2, d2_3, d2_4, d2_5, d2_6, d2_7, d2_8⟩ := K2.out.c9
    go_wp2_with fail
    refine (alive_any _).mono ?_
    rintro e w3 ⟨rfl, hb3⟩
    have B3 := Lib.hid (bnext B2.out hb3)
    have K3 := Lib.hid (K2.out.below hb3)
    clear hb3  d2_0 d2_1 d2_2 d2_3 d2_4 d2_5 d2_6 d2_7 d2_8
    obtain ⟨d3_0, d3_1, d3_2, d3_3, d3_4, d3_5, d3_6, d3_7, d3_8⟩ := K3.out.c9
    go_wp2_with fail
    go_ret
    exact ⟨rfl, B3.out⟩

set_option maxHeartbeats 2000000 in
theorem e2 (w : World) (p N : Nat) (t : Int) (hok : M.okS p (N : Int) t = true) (a b c : Nat) (d d2 : Int) (vt vt2 : Value) (zs zs2 : List Nat) (ha64 : a < 18446744073709551616) (hb64 : b < 18446744073709551616) (hd1 : -9223372036854775808 ≤ d) (hd2 : d ≤ 9223372036854775807) (hc64 : c < 18446744073709551616) (hv : Nums w vt zs) (hv2 : Nums w vt2 zs2) (ha : a < p) (h : p ≤ b) :
    Calls Try.prog 11 #[suV p (N : Int) t, .agg #[.int .u64 a, .int .i64 d, vt, .int .u64 b, .int .i64 d2, vt2], .int .u64 c] w fun e w' => e = .returned (.bool true) ∧ Below w.heap.size w w' := by
  obtain ⟨hi, hn1, hn2, ht1, ht2, hnp⟩ := M.okS_iff.1 hok
  obtain ⟨h3, hp⟩ := M.pos_of hi
  have hset := fun W => rsetup_any p (N : Int) t W (by omega) (by omega) (by omega) (by omega) (by omega)
  rw [← M.errS_ok hok] at hset
  have H2 := Lib.hid hset
  have HV := Lib.hid hv
  have HZ := Lib.hid hv2
  obtain ⟨A, cap, rfl⟩ := nums_slice' hv
  obtain ⟨A2, cap2, rfl⟩ := nums_slice' hv2
  have hB0 := bnext (balloc w (.cells #[.int .u64 p, .int .i64 N, .int .i64 t] 40)) (balloc (w.alloc (.cells #[.int .u64 p, .int .i64 N, .int .i64 t] 40)) (.cells #[.int .u64 a, .int .i64 d, .slice A zs.length cap, .int .u64 b, .int .i64 d2, .slice A2 zs2.length cap2] 79))
  have hK0 := ((kept3 w w.heap.size rfl (.int .u64 p) (.int .i64 N) (.int .i64 t) 40).alloc (.cells #[.int .u64 a, .int .i64 d, .slice A zs.length cap, .int .u64 b, .int .i64 d2, .slice A2 zs2.length cap2] 79)).app (kept6 (w.alloc (.cells #[.int .u64 p, .int .i64 N, .int .i64 t] 40)) (w.heap.size + 1) (by simp) (.int .u64 a) (.int .i64 d) (.slice A zs.length cap) (.int .u64 b) (.int .i64 d2) (.slice A2 zs2.length cap2) 79)
  obtain ⟨w0, hw0⟩ : ∃ w0, (w.alloc (.cells #[.int .u64 p, .int .i64 N, .int .i64 t] 40)).alloc (.cells #[.int .u64 a, .int .i64 d, .slice A zs.length cap, .int .u64 b, .int .i64 d2, .slice A2 zs2.length cap2] 79) = w0 := ⟨_, rfl⟩
  have hs0 : w0.heap.size = w.heap.size + 2 := by rw [← hw0]; simp
  rw [hw0] at hB0 hK0
  have B0 := Lib.hid hB0
  have KS0 := Lib.hid hK0.left
  have q0 : w0.cell? ⟨w.heap.size + 1, 0, none⟩ = some (.int .u64 a) := hK0.of (by simp)
  have q1 : w0.cell? ⟨w.heap.size + 1, 1, none⟩ = some (.int .i64 d) := hK0.of (by simp)
  have q2 : w0.cell? ⟨w.heap.size + 1, 2, none⟩ = some (.slice A zs.length cap) := hK0.of (by simp)
  have q3 : w0.cell? ⟨w.heap.size + 1, 3, none⟩ = some (.int .u64 b) := hK0.of (by simp)
  have q4 : w0.cell? ⟨w.heap.size + 1, 4, none⟩ = some (.int .i64 d2) := hK0.of (by simp)
  have q5 : w0.cell? ⟨w.heap.size + 1, 5, none⟩ = some (.slice A2 zs2.length cap2) := hK0.of (by simp)
  have n1 : w.heap.size + 1 ≠ w0.heap.size := by omega
  have n2 : w.heap.size + 1 ≠ w0.heap.size + 1 := by omega
  have n3 : w0.heap.size ≠ w.heap.size + 1 := by omega
  have n4 : w.heap.size + 1 < w0.heap.size := by omega
  have n5 : w0.heap.size + 1 ≠ w.heap.size + 1 := by omega
  have n6 : w.heap.size + 1 < w0.heap.size + 1 := by omega
  have HS0 := Lib.hid hs0
  have hud : ∀ b : Bool, undef ≠ Value.bool b := fun b h => by cases h
  have hs9 : ((0 : Int) != 0) = false := rfl
  have hs8 : ((0 : Int) == 0) = true := rfl
  unfold suV at H2 ⊢
  clear hB0 hK0 hs0 hset hv hv2 hok hi
  go_enter Try.func11, Try.ntmps11
  go_wp2_with fail
  clear hw0
  go_region
  · skip
    obtain ⟨ka, eka⟩ : ∃ ka, ka = w0.heap.size := ⟨_, rfl⟩
    have hb1 : Below w0.heap.size w0 ((w0.alloc (.cells #[.int .u64 a, .int .i64 d, .slice A zs.length cap] 45)).alloc (.cells #[.int .u64 b, .int .i64 d2, .slice A2 zs2.length cap2] 45)).drew := (bnext (balloc w0 _) (balloc _ _)).drew
    have hk1 := (((KS0.out.alloc _).alloc _).app (((kept3 w0 ka eka (.int .u64 a) (.int .i64 d) (.slice A zs.length cap) 45).alloc _).app (kept3 (w0.alloc (.cells #[.int .u64 a, .int .i64 d, .slice A zs.length cap] 45)) (ka + 1) (by rw [eka]; simp) (.int .u64 b) (.int .i64 d2) (.slice A2 zs2.length cap2) 45))).drew
    obtain ⟨w1, hw1⟩ : ∃ w1, ((w0.alloc (.cells #[.int .u64 a, .int .i64 d, .slice A zs.length cap] 45)).alloc (.cells #[.int .u64 b, .int .i64 d2, .slice A2 zs2.length cap2] 45)).drew = w1 := ⟨_, rfl⟩
    rw [hw1] at hb1 hk1 ⊢
    rw [← eka]
    have B1 := Lib.hid (bnext B0.out hb1)
    have K1 := Lib.hid hk1
    clear hb1 hk1 hw1 q0 q1 q2 q3 q4 q5 n1 n2 n3 n4 n5 n6 eka
    obtain ⟨d1_0, d1_1, d1_2, d1_3, d1_4, d1_5, d1_6, d1_7, d1_8⟩ := K1.out.c9
    go_wp2_with fail
    refine (H2.out _).mono ?_
    rintro e w2 ⟨rfl, hb2⟩
    have B2 := Lib.hid (bnext B1.out hb2)
    have K2 := Lib.hid (K1.out.below hb2)
    clear hb2  d1_0 d1_1 d1_2 d1_3 d1_4 d1_5 d1_6 d1_7 d1_8
    obtain ⟨d2_0, d2_1, d2_2, d2_3, d2_4, d2_5, d2_6, d2_7, d2_8⟩ := K2.out.c9
    go_wp2_with fail
    refine (alive_any _).mono ?_
    rintro e w3 ⟨rfl, hb3⟩
    have B3 := Lib.hid (bnext B2.out hb3)
    have K3 := Lib.hid (K2.out.below hb3)
    clear hb3  d2_0 d2_1 d2_2 d2_3 d2_4 d2_5 d2_6 d2_7 d2_8
    obtain ⟨d3_0, d3_1, d3_2, d3_3, d3_4, d3_5, d3_6, d3_7, d3_8⟩ := K3.out.c9
    go_wp2_with fail
    go_ret
    exact ⟨rfl, B3.out⟩
  · skip
    obtain ⟨ka, eka⟩ : ∃ ka, ka = w0.heap.size := ⟨_, rfl⟩
    have hb1 : Below w0.heap.size w0 ((w0.alloc (.cells #[.int .u64 b, .int .i64 d2, .slice A2 zs2.length cap2] 45)).alloc (.cells #[.int .u64 a, .int .i64 d, .slice A zs.length cap] 45)).drew := (bnext (balloc w0 _) (balloc _ _)).drew
    have hk1 := (((KS0.out.alloc _).alloc _).app ((kept3 (w0.alloc (.cells #[.int .u64 b, .int .i64 d2, .slice A2 zs2.length cap2] 45)) (ka + 1) (by rw [eka]; simp) (.int .u64 a) (.int .i64 d) (.slice A zs.length cap) 45).app ((kept3 w0 ka eka (.int .u64 b) (.int .i64 d2) (.slice A2 zs2.length cap2) 45).alloc _))).drew
    obtain ⟨w1, hw1⟩ : ∃ w1, ((w0.alloc (.cells #[.int .u64 b, .int .i64 d2, .slice A2 zs2.length cap2] 45)).alloc (.cells #[.int .u64 a, .int .i64 d, .slice A zs.length cap] 45)).drew = w1 := ⟨_, rfl⟩
    rw [hw1] at hb1 hk1 ⊢
    rw [← eka]
    have B1 := Lib.hid (bnext B0.out hb1)
    have K1 := Lib.hid hk1
    clear hb1 hk1 hw1 q0 q1 q2 q3 q4 q5 n1 n2 n3 n4 n5 n6 eka
    obtain ⟨d1_0, d1_1, d1_2, d1_3, d1_4, d1_5, d1_6, d1_7, d1_8⟩ := K1.out.c9
    go_wp2_with fail
    refine (H2.out _).mono ?_
    rintro e w2 ⟨rfl, hb2⟩
    have B2 := Lib.hid (bnext B1.out hb2)
    have K2 := Lib.hid (K1.out.below hb2)
    clear hb2  d1_0 d1_1 d1_2 d1_3 d1_4 d1_5 d1_6 d1_7 d1_8
    obtain ⟨d2_0, d2_1, d2_2, d2_3, d2_4, d2_5, d2_6, d2_7, d2_8⟩ := K2.out.c9
    go_wp2_with fail
    refine (alive_any _).mono ?_
    rintro e w3 ⟨rfl, hb3⟩
    have B3 := Lib.hid (bnext B2.out hb3)
    have K3 := Lib.hid (K2.out.below hb3)
    clear hb3  d2_0 d2_1 d2_2 d2_3 d2_4 d2_5 d2_6 d2_7 d2_8
    obtain ⟨d3_0, d3_1, d3_2, d3_3, d3_4, d3_5, d3_6, d3_7, d3_8⟩ := K3.out.c9
    go_wp2_with fail
    go_ret
    exact ⟨rfl, B3.out⟩

set_option maxHeartbeats 2000000 in
theorem e3 (w : World) (p N : Nat) (t : Int) (hok : M.okS p (N : Int) t = true) (a b c : Nat) (d d2 : Int) (vt vt2 : Value) (zs zs2 : List Nat) (ha64 : a < 18446744073709551616) (hb64 : b < 18446744073709551616) (hd1 : -9223372036854775808 ≤ d) (hd2 : d ≤ 9223372036854775807) (hc64 : c < 18446744073709551616) (hv : Nums w vt zs) (hv2 : Nums w vt2 zs2) (ha : a < p) (hb : b < p) (h : d < 0) :
    Calls Try.prog 11 #[suV p (N : Int) t, .agg #[.int .u64 a, .int .i64 d, vt, .int .u64 b, .int .i64 d2, vt2], .int .u64 c] w fun e w' => e = .returned (.bool true) ∧ Below w.heap.size w w' := by
  obtain ⟨hi, hn1, hn2, ht1, ht2, hnp⟩ := M.okS_iff.1 hok
  obtain ⟨h3, hp⟩ := M.pos_of hi
  have hset := fun W => rsetup_any p (N : Int) t W (by omega) (by omega) (by omega) (by omega) (by omega)
  rw [← M.errS_ok hok] at hset
  have H2 := Lib.hid hset
  have HV := Lib.hid hv
  have HZ := Lib.hid hv2
  obtain ⟨A, cap, rfl⟩ := nums_slice' hv
  obtain ⟨A2, cap2, rfl⟩ := nums_slice' hv2
  have hB0 := bnext (balloc w (.cells #[.int .u64 p, .int .i64 N, .int .i64 t] 40)) (balloc (w.alloc (.cells #[.int .u64 p, .int .i64 N, .int .i64 t] 40)) (.cells #[.int .u64 a, .int .i64 d, .slice A zs.length cap, .int .u64 b, .int .i64 d2, .slice A2 zs2.length cap2] 79))
  have hK0 := ((kept3 w w.heap.size rfl (.int .u64 p) (.int .i64 N) (.int .i64 t) 40).alloc (.cells #[.int .u64 a, .int .i64 d, .slice A zs.length cap, .int .u64 b, .int .i64 d2, .slice A2 zs2.length cap2] 79)).app (kept6 (w.alloc (.cells #[.int .u64 p, .int .i64 N, .int .i64 t] 40)) (w.heap.size + 1) (by simp) (.int .u64 a) (.int .i64 d) (.slice A zs.length cap) (.int .u64 b) (.int .i64 d2) (.slice A2 zs2.length cap2) 79)
  obtain ⟨w0, hw0⟩ : ∃ w0, (w.alloc (.cells #[.int .u64 p, .int .i64 N, .int .i64 t] 40)).alloc (.cells #[.int .u64 a, .int .i64 d, .slice A zs.length cap, .int .u64 b, .int .i64 d2, .slice A2 zs2.length cap2] 79) = w0 := ⟨_, rfl⟩
  have hs0 : w0.heap.size = w.heap.size + 2 := by rw [← hw0]; simp
  rw [hw0] at hB0 hK0
  have B0 := Lib.hid hB0
  have KS0 := Lib.hid hK0.left
  have q0 : w0.cell? ⟨w.heap.size + 1, 0, none⟩ = some (.int .u64 a) := hK0.of (by simp)
  have q1 : w0.cell? ⟨w.heap.size + 1, 1, none⟩ = some (.int .i64 d) := hK0.of (by simp)
  have q2 : w0.cell? ⟨w.heap.size + 1, 2, none⟩ = some (.slice A zs.length cap) := hK0.of (by simp)
  have q3 : w0.cell? ⟨w.heap.size + 1, 3, none⟩ = some (.int .u64 b) := hK0.of (by simp)
  have q4 : w0.cell? ⟨w.heap.size + 1, 4, none⟩ = some (.int .i64 d2) := hK0.of (by simp)
  have q5 : w0.cell? ⟨w.heap.size + 1, 5, none⟩ = some (.slice A2 zs2.length cap2) := hK0.of (by simp)
  have n1 : w.heap.size + 1 ≠ w0.heap.size := by omega
  have n2 : w.heap.size + 1 ≠ w0.heap.size + 1 := by omega
  have n3 : w0.heap.size ≠ w.heap.size + 1 := by omega
  have n4 : w.heap.size + 1 < w0.heap.size := by omega
  have n5 : w0.heap.size + 1 ≠ w.heap.size + 1 := by omega
  have n6 : w.heap.size + 1 < w0.heap.size + 1 := by omega
  have HS0 := Lib.hid hs0
  have hud : ∀ b : Bool, undef ≠ Value.bool b := fun b h => by cases h
  have hs9 : ((0 : Int) != 0) = false := rfl
  have hs8 : ((0 : Int) == 0) = true := rfl
  unfold suV at H2 ⊢
  clear hB0 hK0 hs0 hset hv hv2 hok hi
  go_enter Try.func11, Try.ntmps11
  go_wp2_with fail
  clear hw0
  go_region
  · skip
    obtain ⟨ka, eka⟩ : ∃ ka, ka = w0.heap.size := ⟨_, rfl⟩
    have hb1 : Below w0.heap.size w0 ((w0.alloc (.cells #[.int .u64 a, .int .i64 d, .slice A zs.length cap] 45)).alloc (.cells #[.int .u64 b, .int .i64 d2, .slice A2 zs2.length cap2] 45)).drew := (bnext (balloc w0 _) (balloc _ _)).drew
    have hk1 := (((KS0.out.alloc _).alloc _).app (((kept3 w0 ka eka (.int .u64 a) (.int .i64 d) (.slice A zs.length cap) 45).alloc _).app (kept3 (w0.alloc (.cells #[.int .u64 a, .int .i64 d, .slice A zs.length cap] 45)) (ka + 1) (by rw [eka]; simp) (.int .u64 b) (.int .i64 d2) (.slice A2 zs2.length cap2) 45))).drew
    obtain ⟨w1, hw1⟩ : ∃ w1, ((w0.alloc (.cells #[.int .u64 a, .int .i64 d, .slice A zs.length cap] 45)).alloc (.cells #[.int .u64 b, .int .i64 d2, .slice A2 zs2.length cap2] 45)).drew = w1 := ⟨_, rfl⟩
    rw [hw1] at hb1 hk1 ⊢
    rw [← eka]
    have B1 := Lib.hid (bnext B0.out hb1)
    have K1 := Lib.hid hk1
    clear hb1 hk1 hw1 q0 q1 q2 q3 q4 q5 n1 n2 n3 n4 n5 n6 eka
    obtain ⟨d1_0, d1_1, d1_2, d1_3, d1_4, d1_5, d1_6, d1_7, d1_8⟩ := K1.out.c9
    go_wp2_with fail
    refine (H2.out _).mono ?_
    rintro e w2 ⟨rfl, hb2⟩
    have B2 := Lib.hid (bnext B1.out hb2)
    have K2 := Lib.hid (K1.out.below hb2)
    clear hb2  d1_0 d1_1 d1_2 d1_3 d1_4 d1_5 d1_6 d1_7 d1_8
    obtain ⟨d2_0, d2_1, d2_2, d2_3, d2_4, d2_5, d2_6, d2_7, d2_8⟩ := K2.out.c9
    go_wp2_with fail
    refine (alive_any _).mono ?_
    rintro e w3 ⟨rfl, hb3⟩
    have B3 := Lib.hid (bnext B2.out hb3)
    have K3 := Lib.hid (K2.out.below hb3)
    clear hb3  d2_0 d2_1 d2_2 d2_3 d2_4 d2_5 d2_6 d2_7 d2_8
    obtain ⟨d3_0, d3_1, d3_2, d3_3, d3_4, d3_5, d3_6, d3_7, d3_8⟩ := K3.out.c9
    go_wp2_with fail
    go_ret
    exact ⟨rfl, B3.out⟩
  · skip
    obtain ⟨ka, eka⟩ : ∃ ka, ka = w0.heap.size := ⟨_, rfl⟩
    have hb1 : Below w0.heap.size w0 ((w0.alloc (.cells #[.int .u64 b, .int .i64 d2, .slice A2 zs2.length cap2] 45)).alloc (.cells #[.int .u64 a, .int .i64 d, .slice A zs.length cap] 45)).drew := (bnext (balloc w0 _) (balloc _ _)).drew
    have hk1 := (((KS0.out.alloc _).alloc _).app ((kept3 (w0.alloc (.cells #[.int .u64 b, .int .i64 d2, .slice A2 zs2.length cap2] 45)) (ka + 1) (by rw [eka]; simp) (.int .u64 a) (.int .i64 d) (.slice A zs.length cap) 45).app ((kept3 w0 ka eka (.int .u64 b) (.int .i64 d2) (.slice A2 zs2.length cap2) 45).alloc _))).drew
    obtain ⟨w1, hw1⟩ : ∃ w1, ((w0.alloc (.cells #[.int .u64 b, .int .i64 d2, .slice A2 zs2.length cap2] 45)).alloc (.cells #[.int .u64 a, .int .i64 d, .slice A zs.length cap] 45)).drew = w1 := ⟨_, rfl⟩
    rw [hw1] at hb1 hk1 ⊢
    rw [← eka]
    have B1 := Lib.hid (bnext B0.out hb1)
    have K1 := Lib.hid hk1
    clear hb1 hk1 hw1 q0 q1 q2 q3 q4 q5 n1 n2 n3 n4 n5 n6 eka
    obtain ⟨d1_0, d1_1, d1_2, d1_3, d1_4, d1_5, d1_6, d1_7, d1_8⟩ := K1.out.c9
    go_wp2_with fail
    refine (H2.out _).mono ?_
    rintro e w2 ⟨rfl, hb2⟩
    have B2 := Lib.hid (bnext B1.out hb2)
    have K2 := Lib.hid (K1.out.below hb2)
    clear hb2  d1_0 d1_1 d1_2 d1_3 d1_4 d1_5 d1_6 d1_7 d1_8
    obtain ⟨d2_0, d2_1, d2_2, d2_3, d2_4, d2_5, d2_6, d2_7, d2_8⟩ := K2.out.c9
    go_wp2_with fail
    refine (alive_any _).mono ?_
    rintro e w3 ⟨rfl, hb3⟩
    have B3 := Lib.hid (bnext B2.out hb3)
    have K3 := Lib.hid (K2.out.below hb3)
    clear hb3  d2_0 d2_1 d2_2 d2_3 d2_4 d2_5 d2_6 d2_7 d2_8
    obtain ⟨d3_0, d3_1, d3_2, d3_3, d3_4, d3_5, d3_6, d3_7, d3_8⟩ := K3.out.c9
    go_wp2_with fail
    go_ret
    exact ⟨rfl, B3.out⟩

set_option maxHeartbeats 2000000 in
theorem e4 (w : World) (p N : Nat) (t : Int) (hok : M.okS p (N : Int) t = true) (a b c : Nat) (d d2 : Int) (vt vt2 : Value) (zs zs2 : List Nat) (ha64 : a < 18446744073709551616) (hb64 : b < 18446744073709551616) (hd1 : -9223372036854775808 ≤ d) (hd2 : d ≤ 9223372036854775807) (hc64 : c < 18446744073709551616) (hv : Nums w vt zs) (hv2 : Nums w vt2 zs2) (ha : a < p) (hb : b < p) (h0 : 0 ≤ d) (h : (N : Int) - 1 < d) :
    Calls Try.prog 11 #[suV p (N : Int) t, .agg #[.int .u64 a, .int .i64 d, vt, .int .u64 b, .int .i64 d2, vt2], .int .u64 c] w fun e w' => e = .returned (.bool true) ∧ Below w.heap.size w w' := by
  obtain ⟨hi, hn1, hn2, ht1, ht2, hnp⟩ := M.okS_iff.1 hok
  obtain ⟨h3, hp⟩ := M.pos_of hi
  have hset := fun W => rsetup_any p (N : Int) t W (by omega) (by omega) (by omega) (by omega) (by omega)
  rw [← M.errS_ok hok] at hset
  have H2 := Lib.hid hset
  have HV := Lib.hid hv
  have HZ := Lib.hid hv2
  obtain ⟨A, cap, rfl⟩ := nums_slice' hv
  obtain ⟨A2, cap2, rfl⟩ := nums_slice' hv2
  have hB0 := bnext (balloc w (.cells #[.int .u64 p, .int .i64 N, .int .i64 t] 40)) (balloc (w.alloc (.cells #[.int .u64 p, .int .i64 N, .int .i64 t] 40)) (.cells #[.int .u64 a, .int .i64 d, .slice A zs.length cap, .int .u64 b, .int .i64 d2, .slice A2 zs2.length cap2] 79))
  have hK0 := ((kept3 w w.heap.size rfl (.int .u64 p) (.int .i64 N) (.int .i64 t) 40).alloc (.cells #[.int .u64 a, .int .i64 d, .slice A zs.length cap, .int .u64 b, .int .i64 d2, .slice A2 zs2.length cap2] 79)).app (kept6 (w.alloc (.cells #[.int .u64 p, .int .i64 N, .int .i64 t] 40)) (w.heap.size + 1) (by simp) (.int .u64 a) (.int .i64 d) (.slice A zs.length cap) (.int .u64 b) (.int .i64 d2) (.slice A2 zs2.length cap2) 79)
  obtain ⟨w0, hw0⟩ : ∃ w0, (w.alloc (.cells #[.int .u64 p, .int .i64 N, .int .i64 t] 40)).alloc (.cells #[.int .u64 a, .int .i64 d, .slice A zs.length cap, .int .u64 b, .int .i64 d2, .slice A2 zs2.length cap2] 79) = w0 := ⟨_, rfl⟩
  have hs0 : w0.heap.size = w.heap.size + 2 := by rw [← hw0]; simp
  rw [hw0] at hB0 hK0
  have B0 := Lib.hid hB0
  have KS0 := Lib.hid hK0.left
  have q0 : w0.cell? ⟨w.heap.size + 1, 0, none⟩ = some (.int .u64 a) := hK0.of (by simp)
  have q1 : w0.cell? ⟨w.heap.size + 1, 1, none⟩ = some (.int .i64 d) := hK0.of (by simp)
  have q2 : w0.cell? ⟨w.heap.size + 1, 2, none⟩ = some (.slice A zs.length cap) := hK0.of (by simp)
  have q3 : w0.cell? ⟨w.heap.size + 1, 3, none⟩ = some (.int .u64 b) := hK0.of (by simp)
  have q4 : w0.cell? ⟨w.heap.size + 1, 4, none⟩ = some (.int .i64 d2) := hK0.of (by simp)
  have q5 : w0.cell? ⟨w.heap.size + 1, 5, none⟩ = some (.slice A2 zs2.length cap2) := hK0.of (by simp)
  have n1 : w.heap.size + 1 ≠ w0.heap.size := by omega
  have n2 : w.heap.size + 1 ≠ w0.heap.size + 1 := by omega
  have n3 : w0.heap.size ≠ w.heap.size + 1 := by omega
  have n4 : w.heap.size + 1 < w0.heap.size := by omega
  have n5 : w0.heap.size + 1 ≠ w.heap.size + 1 := by omega
  have n6 : w.heap.size + 1 < w0.heap.size + 1 := by omega
  have HS0 := Lib.hid hs0
  have hud : ∀ b : Bool, undef ≠ Value.bool b := fun b h => by cases h
  have hs9 : ((0 : Int) != 0) = false := rfl
  have hs8 : ((0 : Int) == 0) = true := rfl
  unfold suV at H2 ⊢
  clear hB0 hK0 hs0 hset hv hv2 hok hi
  go_enter Try.func11, Try.ntmps11
  go_wp2_with fail
  clear hw0
  go_region
  · skip
    obtain ⟨ka, eka⟩ : ∃ ka, ka = w0.heap.size := ⟨_, rfl⟩
    have hb1 : Below w0.heap.size w0 ((w0.alloc (.cells #[.int .u64 a, .int .i64 d, .slice A zs.length cap] 45)).alloc (.cells #[.int .u64 b, .int .i64 d2, .slice A2 zs2.length cap2] 45)).drew := (bnext (balloc w0 _) (balloc _ _)).drew
    have hk1 := (((KS0.out.alloc _).alloc _).app (((kept3 w0 ka eka (.int .u64 a) (.int .i64 d) (.slice A zs.length cap) 45).alloc _).app (kept3 (w0.alloc (.cells #[.int .u64 a, .int .i64 d, .slice A zs.length cap] 45)) (ka + 1) (by rw [eka]; simp) (.int .u64 b) (.int .i64 d2) (.slice A2 zs2.length cap2) 45))).drew
    obtain ⟨w1, hw1⟩ : ∃ w1, ((w0.alloc (.cells #[.int .u64 a, .int .i64 d, .slice A zs.length cap] 45)).alloc (.cells #[.int .u64 b, .int .i64 d2, .slice A2 zs2.length cap2] 45)).drew = w1 := ⟨_, rfl⟩
    rw [hw1] at hb1 hk1 ⊢
    rw [← eka]
    have B1 := Lib.hid (bnext B0.out hb1)
    have K1 := Lib.hid hk1
    clear hb1 hk1 hw1 q0 q1 q2 q3 q4 q5 n1 n2 n3 n4 n5 n6 eka
    obtain ⟨d1_0, d1_1, d1_2, d1_3, d1_4, d1_5, d1_6, d1_7, d1_8⟩ := K1.out.c9
    go_wp2_with fail
    refine (H2.out _).mono ?_
    rintro e w2 ⟨rfl, hb2⟩
    have B2 := Lib.hid (bnext B1.out hb2)
    have K2 := Lib.hid (K1.out.below hb2)
    clear hb2  d1_0 d1_1 d1_2 d1_3 d1_4 d1_5 d1_6 d1_7 d1_8
    obtain ⟨d2_0, d2_1, d2_2, d2_3, d2_4, d2_5, d2_6, d2_7, d2_8⟩ := K2.out.c9
    go_wp2_with fail
    refine (alive_any _).mono ?_
    rintro e w3 ⟨rfl, hb3⟩
    have B3 := Lib.hid (bnext B2.out hb3)
    have K3 := Lib.hid (K2.out.below hb3)
    clear hb3  d2_0 d2_1 d2_2 d2_3 d2_4 d2_5 d2_6 d2_7 d2_8
    obtain ⟨d3_0, d3_1, d3_2, d3_3, d3_4, d3_5, d3_6, d3_7, d3_8⟩ := K3.out.c9
    go_wp2_with fail
    go_ret
    exact ⟨rfl, B3.out⟩
  · skip
    obtain ⟨ka, eka⟩ : ∃ ka, ka = w0.heap.size := ⟨_, rfl⟩
    have hb1 : Below w0.heap.size w0 ((w0.alloc (.cells #[.int .u64 b, .int .i64 d2, .slice A2 zs2.length cap2] 45)).alloc (.cells #[.int .u64 a, .int .i64 d, .slice A zs.length cap] 45)).drew := (bnext (balloc w0 _) (balloc _ _)).drew
    have hk1 := (((KS0.out.alloc _).alloc _).app ((kept3 (w0.alloc (.cells #[.int .u64 b, .int .i64 d2, .slice A2 zs2.length cap2] 45)) (ka + 1) (by rw [eka]; simp) (.int .u64 a) (.int .i64 d) (.slice A zs.length cap) 45).app ((kept3 w0 ka eka (.int .u64 b) (.int .i64 d2) (.slice A2 zs2.length cap2) 45).alloc _))).drew
    obtain ⟨w1, hw1⟩ : ∃ w1, ((w0.alloc (.cells #[.int .u64 b, .int .i64 d2, .slice A2 zs2.length cap2] 45)).alloc (.cells #[.int .u64 a, .int .i64 d, .slice A zs.length cap] 45)).drew = w1 := ⟨_, rfl⟩
    rw [hw1] at hb1 hk1 ⊢
    rw [← eka]
    have B1 := Lib.hid (bnext B0.out hb1)
    have K1 := Lib.hid hk1
    clear hb1 hk1 hw1 q0 q1 q2 q3 q4 q5 n1 n2 n3 n4 n5 n6 eka
    obtain ⟨d1_0, d1_1, d1_2, d1_3, d1_4, d1_5, d1_6, d1_7, d1_8⟩ := K1.out.c9
    go_wp2_with fail
    refine (H2.out _).mono ?_
    rintro e w2 ⟨rfl, hb2⟩
    have B2 := Lib.hid (bnext B1.out hb2)
    have K2 := Lib.hid (K1.out.below hb2)
    clear hb2  d1_0 d1_1 d1_2 d1_3 d1_4 d1_5 d1_6 d1_7 d1_8
    obtain ⟨d2_0, d2_1, d2_2, d2_3, d2_4, d2_5, d2_6, d2_7, d2_8⟩ := K2.out.c9
    go_wp2_with fail
    refine (alive_any _).mono ?_
    rintro e w3 ⟨rfl, hb3⟩
    have B3 := Lib.hid (bnext B2.out hb3)
    have K3 := Lib.hid (K2.out.below hb3)
    clear hb3  d2_0 d2_1 d2_2 d2_3 d2_4 d2_5 d2_6 d2_7 d2_8
    obtain ⟨d3_0, d3_1, d3_2, d3_3, d3_4, d3_5, d3_6, d3_7, d3_8⟩ := K3.out.c9
    go_wp2_with fail
    go_ret
    exact ⟨rfl, B3.out⟩

set_option maxHeartbeats 2000000 in
theorem e5 (w : World) (p N : Nat) (t : Int) (hok : M.okS p (N : Int) t = true) (a b c : Nat) (d d2 : Int) (vt vt2 : Value) (zs zs2 : List Nat) (ha64 : a < 18446744073709551616) (hb64 : b < 18446744073709551616) (hd1 : -9223372036854775808 ≤ d) (hd2 : d ≤ 9223372036854775807) (hc64 : c < 18446744073709551616) (hv : Nums w vt zs) (hv2 : Nums w vt2 zs2) (ha : a < p) (hb : b < p) (h0 : 0 ≤ d) (h1 : d ≤ (N : Int) - 1) (h : p ≤ c) :
    Calls Try.prog 11 #[suV p (N : Int) t, .agg #[.int .u64 a, .int .i64 d, vt, .int .u64 b, .int .i64 d2, vt2], .int .u64 c] w fun e w' => e = .returned (.bool true) ∧ Below w.heap.size w w' := by
  obtain ⟨hi, hn1, hn2, ht1, ht2, hnp⟩ := M.okS_iff.1 hok
  obtain ⟨h3, hp⟩ := M.pos_of hi
  have hset := fun W => rsetup_any p (N : Int) t W (by omega) (by omega) (by omega) (by omega) (by omega)
  rw [← M.errS_ok hok] at hset
  have H2 := Lib.hid hset
  have HV := Lib.hid hv
  have HZ := Lib.hid hv2
  obtain ⟨A, cap, rfl⟩ := nums_slice' hv
  obtain ⟨A2, cap2, rfl⟩ := nums_slice' hv2
  have hB0 := bnext (balloc w (.cells #[.int .u64 p, .int .i64 N, .int .i64 t] 40)) (balloc (w.alloc (.cells #[.int .u64 p, .int .i64 N, .int .i64 t] 40)) (.cells #[.int .u64 a, .int .i64 d, .slice A zs.length cap, .int .u64 b, .int .i64 d2, .slice A2 zs2.length cap2] 79))
  have hK0 := ((kept3 w w.heap.size rfl (.int .u64 p) (.int .i64 N) (.int .i64 t) 40).alloc (.cells #[.int .u64 a, .int .i64 d, .slice A zs.length cap, .int .u64 b, .int .i64 d2, .slice A2 zs2.length cap2] 79)).app (kept6 (w.alloc (.cells #[.int .u64 p, .int .i64 N, .int .i64 t] 40)) (w.heap.size + 1) (by simp) (.int .u64 a) (.int .i64 d) (.slice A zs.length cap) (.int .u64 b) (.int .i64 d2) (.slice A2 zs2.length cap2) 79)
  obtain ⟨w0, hw0⟩ : ∃ w0, (w.alloc (.cells #[.int .u64 p, .int .i64 N, .int .i64 t] 40)).alloc (.cells #[.int .u64 a, .int .i64 d, .slice A zs.length cap, .int .u64 b, .int .i64 d2, .slice A2 zs2.length cap2] 79) = w0 := ⟨_, rfl⟩
  have hs0 : w0.heap.size = w.heap.size + 2 := by rw [← hw0]; simp
  rw [hw0] at hB0 hK0
  have B0 := Lib.hid hB0
  have KS0 := Lib.hid hK0.left
  have q0 : w0.cell? ⟨w.heap.size + 1, 0, none⟩ = some (.int .u64 a) := hK0.of (by simp)
  have q1 : w0.cell? ⟨w.heap.size + 1, 1, none⟩ = some (.int .i64 d) := hK0.of (by simp)
  have q2 : w0.cell? ⟨w.heap.size + 1, 2, none⟩ = some (.slice A zs.length cap) := hK0.of (by simp)
  have q3 : w0.cell? ⟨w.heap.size + 1, 3, none⟩ = some (.int .u64 b) := hK0.of (by simp)
  have q4 : w0.cell? ⟨w.heap.size + 1, 4, none⟩ = some (.int .i64 d2) := hK0.of (by simp)
  have q5 : w0.cell? ⟨w.heap.size + 1, 5, none⟩ = some (.slice A2 zs2.length cap2) := hK0.of (by simp)
  have n1 : w.heap.size + 1 ≠ w0.heap.size := by omega
  have n2 : w.heap.size + 1 ≠ w0.heap.size + 1 := by omega
  have n3 : w0.heap.size ≠ w.heap.size + 1 := by omega
  have n4 : w.heap.size + 1 < w0.heap.size := by omega
  have n5 : w0.heap.size + 1 ≠ w.heap.size + 1 := by omega
  have n6 : w.heap.size + 1 < w0.heap.size + 1 := by omega
  have HS0 := Lib.hid hs0
  have hud : ∀ b : Bool, undef ≠ Value.bool b := fun b h => by cases h
  have hs9 : ((0 : Int) != 0) = false := rfl
  have hs8 : ((0 : Int) == 0) = true := rfl
  unfold suV at H2 ⊢
  clear hB0 hK0 hs0 hset hv hv2 hok hi
  go_enter Try.func11, Try.ntmps11
  go_wp2_with fail
  clear hw0
  go_region
  · skip
    obtain ⟨ka, eka⟩ : ∃ ka, ka = w0.heap.size := ⟨_, rfl⟩
    have hb1 : Below w0.heap.size w0 ((w0.alloc (.cells #[.int .u64 a, .int .i64 d, .slice A zs.length cap] 45)).alloc (.cells #[.int .u64 b, .int .i64 d2, .slice A2 zs2.length cap2] 45)).drew := (bnext (balloc w0 _) (balloc _ _)).drew
    have hk1 := (((KS0.out.alloc _).alloc _).app (((kept3 w0 ka eka (.int .u64 a) (.int .i64 d) (.slice A zs.length cap) 45).alloc _).app (kept3 (w0.alloc (.cells #[.int .u64 a, .int .i64 d, .slice A zs.length cap] 45)) (ka + 1) (by rw [eka]; simp) (.int .u64 b) (.int .i64 d2) (.slice A2 zs2.length cap2) 45))).drew
    obtain ⟨w1, hw1⟩ : ∃ w1, ((w0.alloc (.cells #[.int .u64 a, .int .i64 d, .slice A zs.length cap] 45)).alloc (.cells #[.int .u64 b, .int .i64 d2, .slice A2 zs2.length cap2] 45)).drew = w1 := ⟨_, rfl⟩
    rw [hw1] at hb1 hk1 ⊢
    rw [← eka]
    have B1 := Lib.hid (bnext B0.out hb1)
    have K1 := Lib.hid hk1
    clear hb1 hk1 hw1 q0 q1 q2 q3 q4 q5 n1 n2 n3 n4 n5 n6 eka
    obtain ⟨d1_0, d1_1, d1_2, d1_3, d1_4, d1_5, d1_6, d1_7, d1_8⟩ := K1.out.c9
    go_wp2_with fail
    refine (H2.out _).mono ?_
    rintro e w2 ⟨rfl, hb2⟩
    have B2 := Lib.hid (bnext B1.out hb2)
    have K2 := Lib.hid (K1.out.below hb2)
    clear hb2  d1_0 d1_1 d1_2 d1_3 d1_4 d1_5 d1_6 d1_7 d1_8
    obtain ⟨d2_0, d2_1, d2_2, d2_3, d2_4, d2_5, d2_6, d2_7, d2_8⟩ := K2.out.c9
    go_wp2_with fail
    refine (alive_any _).mono ?_
    rintro e w3 ⟨rfl, hb3⟩
    have B3 := Lib.hid (bnext B2.out hb3)
    have K3 := Lib.hid (K2.out.below hb3)
    clear hb3  d2_0 d2_1 d2_2 d2_3 d2_4 d2_5 d2_6 d2_7 d2_8
    obtain ⟨d3_0, d3_1, d3_2, d3_3, d3_4, d3_5, d3_6, d3_7, d3_8⟩ := K3.out.c9
    go_wp2_with fail
    go_ret
    exact ⟨rfl, B3.out⟩
  · skip
    obtain ⟨ka, eka⟩ : ∃ ka, ka = w0.heap.size := ⟨_, rfl⟩
    have hb1 : Below w0.heap.size w0 ((w0.alloc (.cells #[.int .u64 b, .int .i64 d2, .slice A2 zs2.length cap2] 45)).alloc (.cells #[.int .u64 a, .int .i64 d, .slice A zs.length cap] 45)).drew := (bnext (balloc w0 _) (balloc _ _)).drew
    have hk1 := (((KS0.out.alloc _).alloc _).app ((kept3 (w0.alloc (.cells #[.int .u64 b, .int .i64 d2, .slice A2 zs2.length cap2] 45)) (ka + 1) (by rw [eka]; simp) (.int .u64 a) (.int .i64 d) (.slice A zs.length cap) 45).app ((kept3 w0 ka eka (.int .u64 b) (.int .i64 d2) (.slice A2 zs2.length cap2) 45).alloc _))).drew
    obtain ⟨w1, hw1⟩ : ∃ w1, ((w0.alloc (.cells #[.int .u64 b, .int .i64 d2, .slice A2 zs2.length cap2] 45)).alloc (.cells #[.int .u64 a, .int .i64 d, .slice A zs.length cap] 45)).drew = w1 := ⟨_, rfl⟩
    rw [hw1] at hb1 hk1 ⊢
    rw [← eka]
    have B1 := Lib.hid (bnext B0.out hb1)
    have K1 := Lib.hid hk1
    clear hb1 hk1 hw1 q0 q1 q2 q3 q4 q5 n1 n2 n3 n4 n5 n6 eka
    obtain ⟨d1_0, d1_1, d1_2, d1_3, d1_4, d1_5, d1_6, d1_7, d1_8⟩ := K1.out.c9
    go_wp2_with fail
    refine (H2.out _).mono ?_
    rintro e w2 ⟨rfl, hb2⟩
    have B2 := Lib.hid (bnext B1.out hb2)
    have K2 := Lib.hid (K1.out.below hb2)
    clear hb2  d1_0 d1_1 d1_2 d1_3 d1_4 d1_5 d1_6 d1_7 d1_8
    obtain ⟨d2_0, d2_1, d2_2, d2_3, d2_4, d2_5, d2_6, d2_7, d2_8⟩ := K2.out.c9
    go_wp2_with fail
    refine (alive_any _).mono ?_
    rintro e w3 ⟨rfl, hb3⟩
    have B3 := Lib.hid (bnext B2.out hb3)
    have K3 := Lib.hid (K2.out.below hb3)
    clear hb3  d2_0 d2_1 d2_2 d2_3 d2_4 d2_5 d2_6 d2_7 d2_8
    obtain ⟨d3_0, d3_1, d3_2, d3_3, d3_4, d3_5, d3_6, d3_7, d3_8⟩ := K3.out.c9
    go_wp2_with fail
    go_ret
    exact ⟨rfl, B3.out⟩
end Go.Proofs.Ytgoognipljknjaa.shareBackW
namespace Go.Proofs.Ytgoognipljknjaa.shareBackW
open Go.RowKit
set_option linter.unusedVariables false

theorem walk (w : World) (p : Nat) (n t : Int) (hp : p < 18446744073709551616) (hn1 : -9223372036854775808 ≤ n) (hn2 : n ≤ 9223372036854775807) (ht1 : -9223372036854775808 ≤ t) (ht2 : t ≤ 9223372036854775807)
    (a b : Nat) (d d2 : Int) (vt vt2 : Value) (zs zs2 : List Nat) (ha : a < 18446744073709551616) (hb : b < 18446744073709551616) (hd1 : -9223372036854775808 ≤ d) (hd2 : d ≤ 9223372036854775807) (he1 : -9223372036854775808 ≤ d2) (he2 : d2 ≤ 9223372036854775807)
    (hv : Nums w vt zs) (hv2 : Nums w vt2 zs2) (c : Nat) (hc : c < 18446744073709551616) :
    Calls Try.prog 11 #[suV p n t, .agg #[.int .u64 a, .int .i64 d, vt, .int .u64 b, .int .i64 d2, vt2], .int .u64 c] w fun e w' => e = .returned (.bool true) ∧ Below w.heap.size w w' := by
  cases hs : M.okS p n t with
  | false => exact no w p n t hp hn1 hn2 ht1 ht2 a b c d d2 vt vt2 zs zs2 ha hb hd1 hd2 hc hv hv2 (by unfold M.errS; rw [hs]; decide)
  | true =>
    obtain ⟨N, rfl⟩ := Int.eq_ofNat_of_zero_le (show 0 ≤ n by have := (M.okS_iff.1 hs).2.1; omega)
    by_cases h1 : a < p
    · by_cases h2 : b < p
      · by_cases h3 : 0 ≤ d
        · by_cases h4 : d ≤ (N : Int) - 1
          · by_cases h5 : c < p
            · obtain ⟨D, rfl⟩ := Int.eq_ofNat_of_zero_le h3
              exact ok w p N D a b c t d2 vt vt2 zs zs2 hs h1 h2 (by omega) h5 hv hv2
            · exact e5 w p N t hs a b c d d2 vt vt2 zs zs2 ha hb hd1 hd2 hc hv hv2 h1 h2 h3 h4 (by omega)
          · exact e4 w p N t hs a b c d d2 vt vt2 zs zs2 ha hb hd1 hd2 hc hv hv2 h1 h2 h3 (by omega)
        · exact e3 w p N t hs a b c d d2 vt vt2 zs zs2 ha hb hd1 hd2 hc hv hv2 h1 h2 (by omega)
      · exact e2 w p N t hs a b c d d2 vt vt2 zs zs2 ha hb hd1 hd2 hc hv hv2 h1 (by omega)
    · exact e1 w p N t hs a b c d d2 vt vt2 zs zs2 ha hb hd1 hd2 hc hv hv2 (by omega)
end Go.Proofs.Ytgoognipljknjaa.shareBackW
