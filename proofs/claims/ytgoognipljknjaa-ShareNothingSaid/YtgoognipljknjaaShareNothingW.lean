/-
  The walk of the law ShareNothing.
-/
import Derived.Test.YtgoognipljknjaaNothM
import Derived.Test.YtgoognipljknjaaBox2
namespace Go.Proofs.Ytgoognipljknjaa.shareNothingW
open Go.RowKit
set_option linter.unusedVariables false
set_option maxRecDepth 100000

set_option maxHeartbeats 2000000 in
theorem no (w : World) (p : Nat) (n t : Int) (hp : p < 18446744073709551616) (hn1 : -9223372036854775808 ≤ n) (hn2 : n ≤ 9223372036854775807) (ht1 : -9223372036854775808 ≤ t) (ht2 : t ≤ 9223372036854775807) (vl vs : Value) (l : List Int) (ss : List Nat) (hvl : IntsZ w vl l) (hvs : Nums w vs ss) (s1 : Nat) (hs1 : s1 < 18446744073709551616) (s2 : Nat) (hs2 : s2 < 18446744073709551616) (h : M.errS p n t ≠ 0) :
    Calls Try.prog 12 #[suV p n t, .agg #[vl, vs], .agg #[.int .u64 s1, .int .u64 s2]] w fun e w' => e = .returned (.bool true) ∧ Below w.heap.size w w' := by
  have h2 := fun W => rsetup_any p n t W hp hn1 hn2 ht1 ht2
  obtain ⟨c, ec⟩ : ∃ c, M.errS p n t = c := ⟨_, rfl⟩
  rw [ec] at h2 h
  have H2 := Lib.hid h2
  have hs1 : (c != 0) = true := by rw [bne_iff_ne]; exact h
  have HL := Lib.hid hvl
  have HS := Lib.hid hvs
  have hud : ∀ b : Bool, undef ≠ Value.bool b := fun b h => by cases h
  have hll := hvl.2.1
  have hsl := hvs.2.1
  obtain ⟨As, cs, rfl⟩ := nums_slice' hvs
  obtain ⟨_, _, Al, cl, rfl, _⟩ := hvl
  unfold suV at H2 ⊢
  clear h2 hvs h ec
  have hB0 := (bnext (bnext (balloc w (.cells #[.int .u64 p, .int .i64 n, .int .i64 t] 40)) (balloc (w.alloc (.cells #[.int .u64 p, .int .i64 n, .int .i64 t] 40)) (.cells #[.slice Al l.length cl, .slice As ss.length cs] 82))) (balloc ((w.alloc (.cells #[.int .u64 p, .int .i64 n, .int .i64 t] 40)).alloc (.cells #[.slice Al l.length cl, .slice As ss.length cs] 82)) (.cells #[.int .u64 s1, .int .u64 s2] 83)))
  have hK0 := (((((((kept3 w (w.heap.size) (by simp) (.int .u64 p) (.int .i64 n) (.int .i64 t) 40)).alloc _).app (kept2 (w.alloc (.cells #[.int .u64 p, .int .i64 n, .int .i64 t] 40)) (w.heap.size + 1) (by simp) (.slice Al l.length cl) (.slice As ss.length cs) 82))).alloc _).app (kept2 ((w.alloc (.cells #[.int .u64 p, .int .i64 n, .int .i64 t] 40)).alloc (.cells #[.slice Al l.length cl, .slice As ss.length cs] 82)) (w.heap.size + 1 + 1) (by simp) (.int .u64 s1) (.int .u64 s2) 83))
  obtain ⟨w0, hw0⟩ : ∃ w0, (((w.alloc (.cells #[.int .u64 p, .int .i64 n, .int .i64 t] 40)).alloc (.cells #[.slice Al l.length cl, .slice As ss.length cs] 82)).alloc (.cells #[.int .u64 s1, .int .u64 s2] 83)) = w0 := ⟨_, rfl⟩
  rw [hw0] at hB0 hK0
  have B0 := Lib.hid hB0
  have K0 := Lib.hid hK0
  clear hB0 hK0
  obtain ⟨d0_0, d0_1, d0_2, d0_3, d0_4, d0_5, d0_6⟩ := K0.out.c7
  go_enter Try.func12, Try.ntmps12
  go_wp2_with fail
  clear hw0
  have L_0 := Lib.hid (HL.out.below B0.out)
  have S_0 := Lib.hid (HS.out.below B0.out)
  refine (H2.out _).mono ?_
  rintro e w1 ⟨rfl, hb1⟩
  have B1 := Lib.hid (bnext B0.out hb1)
  have K1 := Lib.hid (K0.out.below hb1)
  have L_1 := Lib.hid (L_0.out.below hb1)
  have S_1 := Lib.hid (S_0.out.below hb1)
  clear hb1  d0_0 d0_1 d0_2 d0_3 d0_4 d0_5 d0_6
  obtain ⟨d1_0, d1_1, d1_2, d1_3, d1_4, d1_5, d1_6⟩ := K1.out.c7
  go_wp2_with fail
  refine (alive_any _).mono ?_
  rintro e w2 ⟨rfl, hb2⟩
  have B2 := Lib.hid (bnext B1.out hb2)
  have K2 := Lib.hid (K1.out.below hb2)
  have L_2 := Lib.hid (L_1.out.below hb2)
  have S_2 := Lib.hid (S_1.out.below hb2)
  clear hb2  d1_0 d1_1 d1_2 d1_3 d1_4 d1_5 d1_6
  obtain ⟨d2_0, d2_1, d2_2, d2_3, d2_4, d2_5, d2_6⟩ := K2.out.c7
  go_wp2_with fail
  go_ret
  exact ⟨rfl, B2.out⟩

set_option maxHeartbeats 2000000 in
theorem long (w : World) (p N : Nat) (t : Int) (hok : M.okS p (N : Int) t = true) (vl vs : Value) (l : List Int) (ss : List Nat) (hvl : IntsZ w vl l) (hvs : Nums w vs ss) (s1 : Nat) (hs1 : s1 < 18446744073709551616) (s2 : Nat) (hs2 : s2 < 18446744073709551616) (h : ¬ l.length < N) :
    Calls Try.prog 12 #[suV p N t, .agg #[vl, vs], .agg #[.int .u64 s1, .int .u64 s2]] w fun e w' => e = .returned (.bool true) ∧ Below w.heap.size w w' := by
  obtain ⟨hi, hn1, hn2, ht1, ht2, hnp⟩ := M.okS_iff.1 hok
  obtain ⟨h3, hp⟩ := M.pos_of hi
  have hset := fun W => rsetup_any p (N : Int) t W (by omega) (by omega) (by omega) (by omega) (by omega)
  rw [← M.errS_ok hok] at hset
  have H2 := Lib.hid hset
  have hs0 : ((0 : Int) != 0) = false := rfl
  have HL := Lib.hid hvl
  have HS := Lib.hid hvs
  have hud : ∀ b : Bool, undef ≠ Value.bool b := fun b h => by cases h
  have hll := hvl.2.1
  have hsl := hvs.2.1
  obtain ⟨As, cs, rfl⟩ := nums_slice' hvs
  obtain ⟨_, _, Al, cl, rfl, _⟩ := hvl
  unfold suV at H2 ⊢
  clear hset hvs hi hok
  have hB0 := (bnext (bnext (balloc w (.cells #[.int .u64 p, .int .i64 N, .int .i64 t] 40)) (balloc (w.alloc (.cells #[.int .u64 p, .int .i64 N, .int .i64 t] 40)) (.cells #[.slice Al l.length cl, .slice As ss.length cs] 82))) (balloc ((w.alloc (.cells #[.int .u64 p, .int .i64 N, .int .i64 t] 40)).alloc (.cells #[.slice Al l.length cl, .slice As ss.length cs] 82)) (.cells #[.int .u64 s1, .int .u64 s2] 83)))
  have hK0 := (((((((kept3 w (w.heap.size) (by simp) (.int .u64 p) (.int .i64 N) (.int .i64 t) 40)).alloc _).app (kept2 (w.alloc (.cells #[.int .u64 p, .int .i64 N, .int .i64 t] 40)) (w.heap.size + 1) (by simp) (.slice Al l.length cl) (.slice As ss.length cs) 82))).alloc _).app (kept2 ((w.alloc (.cells #[.int .u64 p, .int .i64 N, .int .i64 t] 40)).alloc (.cells #[.slice Al l.length cl, .slice As ss.length cs] 82)) (w.heap.size + 1 + 1) (by simp) (.int .u64 s1) (.int .u64 s2) 83))
  obtain ⟨w0, hw0⟩ : ∃ w0, (((w.alloc (.cells #[.int .u64 p, .int .i64 N, .int .i64 t] 40)).alloc (.cells #[.slice Al l.length cl, .slice As ss.length cs] 82)).alloc (.cells #[.int .u64 s1, .int .u64 s2] 83)) = w0 := ⟨_, rfl⟩
  rw [hw0] at hB0 hK0
  have B0 := Lib.hid hB0
  have K0 := Lib.hid hK0
  clear hB0 hK0
  obtain ⟨d0_0, d0_1, d0_2, d0_3, d0_4, d0_5, d0_6⟩ := K0.out.c7
  go_enter Try.func12, Try.ntmps12
  go_wp2_with fail
  clear hw0
  have L_0 := Lib.hid (HL.out.below B0.out)
  have S_0 := Lib.hid (HS.out.below B0.out)
  refine (H2.out _).mono ?_
  rintro e w1 ⟨rfl, hb1⟩
  have B1 := Lib.hid (bnext B0.out hb1)
  have K1 := Lib.hid (K0.out.below hb1)
  have L_1 := Lib.hid (L_0.out.below hb1)
  have S_1 := Lib.hid (S_0.out.below hb1)
  clear hb1  d0_0 d0_1 d0_2 d0_3 d0_4 d0_5 d0_6
  obtain ⟨d1_0, d1_1, d1_2, d1_3, d1_4, d1_5, d1_6⟩ := K1.out.c7
  go_wp2_with fail
  refine (alive_any _).mono ?_
  rintro e w2 ⟨rfl, hb2⟩
  have B2 := Lib.hid (bnext B1.out hb2)
  have K2 := Lib.hid (K1.out.below hb2)
  have L_2 := Lib.hid (L_1.out.below hb2)
  have S_2 := Lib.hid (S_1.out.below hb2)
  clear hb2  d1_0 d1_1 d1_2 d1_3 d1_4 d1_5 d1_6
  obtain ⟨d2_0, d2_1, d2_2, d2_3, d2_4, d2_5, d2_6⟩ := K2.out.c7
  go_wp2_with fail
  go_ret
  exact ⟨rfl, B2.out⟩

set_option maxHeartbeats 2000000 in
theorem fall (w : World) (p N : Nat) (t : Int) (hok : M.okS p (N : Int) t = true) (vl vs : Value) (l : List Int) (ss : List Nat) (hvl : IntsZ w vl l) (hvs : Nums w vs ss) (s1 : Nat) (hs1 : s1 < 18446744073709551616) (s2 : Nat) (hs2 : s2 < 18446744073709551616) (h : l.length < N) (hr : M.rising (N : Int) l = false) :
    Calls Try.prog 12 #[suV p N t, .agg #[vl, vs], .agg #[.int .u64 s1, .int .u64 s2]] w fun e w' => e = .returned (.bool true) ∧ Below w.heap.size w w' := by
  obtain ⟨hi, hn1, hn2, ht1, ht2, hnp⟩ := M.okS_iff.1 hok
  obtain ⟨h3, hp⟩ := M.pos_of hi
  have hset := fun W => rsetup_any p (N : Int) t W (by omega) (by omega) (by omega) (by omega) (by omega)
  rw [← M.errS_ok hok] at hset
  have H2 := Lib.hid hset
  have hs0 : ((0 : Int) != 0) = false := rfl
  have h3' := fun W (hL : IntsZ W vl l) => rrising_any (N : Int) vl l W (by omega) (by omega) hL
  rw [hr] at h3'
  have H3 := Lib.hid h3'
  have HL := Lib.hid hvl
  have HS := Lib.hid hvs
  have hud : ∀ b : Bool, undef ≠ Value.bool b := fun b h => by cases h
  have hll := hvl.2.1
  have hsl := hvs.2.1
  obtain ⟨As, cs, rfl⟩ := nums_slice' hvs
  obtain ⟨_, _, Al, cl, rfl, _⟩ := hvl
  unfold suV at H2 ⊢
  clear hset h3' hvs hi hok hr
  have hB0 := (bnext (bnext (balloc w (.cells #[.int .u64 p, .int .i64 N, .int .i64 t] 40)) (balloc (w.alloc (.cells #[.int .u64 p, .int .i64 N, .int .i64 t] 40)) (.cells #[.slice Al l.length cl, .slice As ss.length cs] 82))) (balloc ((w.alloc (.cells #[.int .u64 p, .int .i64 N, .int .i64 t] 40)).alloc (.cells #[.slice Al l.length cl, .slice As ss.length cs] 82)) (.cells #[.int .u64 s1, .int .u64 s2] 83)))
  have hK0 := (((((((kept3 w (w.heap.size) (by simp) (.int .u64 p) (.int .i64 N) (.int .i64 t) 40)).alloc _).app (kept2 (w.alloc (.cells #[.int .u64 p, .int .i64 N, .int .i64 t] 40)) (w.heap.size + 1) (by simp) (.slice Al l.length cl) (.slice As ss.length cs) 82))).alloc _).app (kept2 ((w.alloc (.cells #[.int .u64 p, .int .i64 N, .int .i64 t] 40)).alloc (.cells #[.slice Al l.length cl, .slice As ss.length cs] 82)) (w.heap.size + 1 + 1) (by simp) (.int .u64 s1) (.int .u64 s2) 83))
  obtain ⟨w0, hw0⟩ : ∃ w0, (((w.alloc (.cells #[.int .u64 p, .int .i64 N, .int .i64 t] 40)).alloc (.cells #[.slice Al l.length cl, .slice As ss.length cs] 82)).alloc (.cells #[.int .u64 s1, .int .u64 s2] 83)) = w0 := ⟨_, rfl⟩
  rw [hw0] at hB0 hK0
  have B0 := Lib.hid hB0
  have K0 := Lib.hid hK0
  clear hB0 hK0
  obtain ⟨d0_0, d0_1, d0_2, d0_3, d0_4, d0_5, d0_6⟩ := K0.out.c7
  go_enter Try.func12, Try.ntmps12
  go_wp2_with fail
  clear hw0
  have L_0 := Lib.hid (HL.out.below B0.out)
  have S_0 := Lib.hid (HS.out.below B0.out)
  refine (H2.out _).mono ?_
  rintro e w1 ⟨rfl, hb1⟩
  have B1 := Lib.hid (bnext B0.out hb1)
  have K1 := Lib.hid (K0.out.below hb1)
  have L_1 := Lib.hid (L_0.out.below hb1)
  have S_1 := Lib.hid (S_0.out.below hb1)
  clear hb1  d0_0 d0_1 d0_2 d0_3 d0_4 d0_5 d0_6
  obtain ⟨d1_0, d1_1, d1_2, d1_3, d1_4, d1_5, d1_6⟩ := K1.out.c7
  go_wp2_with fail
  refine (H3.out _ L_1.out).mono ?_
  rintro e w' ⟨rfl, rfl⟩
  go_wp2_with fail
  refine (alive_any _).mono ?_
  rintro e w2 ⟨rfl, hb2⟩
  have B2 := Lib.hid (bnext B1.out hb2)
  have K2 := Lib.hid (K1.out.below hb2)
  have L_2 := Lib.hid (L_1.out.below hb2)
  have S_2 := Lib.hid (S_1.out.below hb2)
  clear hb2  d1_0 d1_1 d1_2 d1_3 d1_4 d1_5 d1_6
  obtain ⟨d2_0, d2_1, d2_2, d2_3, d2_4, d2_5, d2_6⟩ := K2.out.c7
  go_wp2_with fail
  go_ret
  exact ⟨rfl, B2.out⟩

set_option maxHeartbeats 2000000 in
theorem unlike (w : World) (p N : Nat) (t : Int) (hok : M.okS p (N : Int) t = true) (vl vs : Value) (l : List Int) (ss : List Nat) (hvl : IntsZ w vl l) (hvs : Nums w vs ss) (s1 : Nat) (hs1 : s1 < 18446744073709551616) (s2 : Nat) (hs2 : s2 < 18446744073709551616) (h : l.length < N) (hr : M.RisesTo (N : Int) l l.length) (hne : ss.length ≠ l.length) :
    Calls Try.prog 12 #[suV p N t, .agg #[vl, vs], .agg #[.int .u64 s1, .int .u64 s2]] w fun e w' => e = .returned (.bool true) ∧ Below w.heap.size w w' := by
  obtain ⟨hi, hn1, hn2, ht1, ht2, hnp⟩ := M.okS_iff.1 hok
  obtain ⟨h3, hp⟩ := M.pos_of hi
  have hset := fun W => rsetup_any p (N : Int) t W (by omega) (by omega) (by omega) (by omega) (by omega)
  rw [← M.errS_ok hok] at hset
  have H2 := Lib.hid hset
  have hs0 : ((0 : Int) != 0) = false := rfl
  have h3' := fun W (hL : IntsZ W vl l) => rrising_any (N : Int) vl l W (by omega) (by omega) hL
  rw [M.rising_iff.2 hr] at h3'
  have H3 := Lib.hid h3'
  have HL := Lib.hid hvl
  have HS := Lib.hid hvs
  have hud : ∀ b : Bool, undef ≠ Value.bool b := fun b h => by cases h
  have hll := hvl.2.1
  have hsl := hvs.2.1
  obtain ⟨As, cs, rfl⟩ := nums_slice' hvs
  obtain ⟨_, _, Al, cl, rfl, _⟩ := hvl
  have hd1 : ¬ ((N : Int) - 1 < (l.length : Nat)) := by omega
  have hne2 : ((ss.length : Int) != (l.length : Nat)) = true := by rw [bne_iff_ne]; omega
  unfold suV at H2 ⊢
  clear hset h3' hvs hi hok hr hne
  have hB0 := (bnext (bnext (balloc w (.cells #[.int .u64 p, .int .i64 N, .int .i64 t] 40)) (balloc (w.alloc (.cells #[.int .u64 p, .int .i64 N, .int .i64 t] 40)) (.cells #[.slice Al l.length cl, .slice As ss.length cs] 82))) (balloc ((w.alloc (.cells #[.int .u64 p, .int .i64 N, .int .i64 t] 40)).alloc (.cells #[.slice Al l.length cl, .slice As ss.length cs] 82)) (.cells #[.int .u64 s1, .int .u64 s2] 83)))
  have hK0 := (((((((kept3 w (w.heap.size) (by simp) (.int .u64 p) (.int .i64 N) (.int .i64 t) 40)).alloc _).app (kept2 (w.alloc (.cells #[.int .u64 p, .int .i64 N, .int .i64 t] 40)) (w.heap.size + 1) (by simp) (.slice Al l.length cl) (.slice As ss.length cs) 82))).alloc _).app (kept2 ((w.alloc (.cells #[.int .u64 p, .int .i64 N, .int .i64 t] 40)).alloc (.cells #[.slice Al l.length cl, .slice As ss.length cs] 82)) (w.heap.size + 1 + 1) (by simp) (.int .u64 s1) (.int .u64 s2) 83))
  obtain ⟨w0, hw0⟩ : ∃ w0, (((w.alloc (.cells #[.int .u64 p, .int .i64 N, .int .i64 t] 40)).alloc (.cells #[.slice Al l.length cl, .slice As ss.length cs] 82)).alloc (.cells #[.int .u64 s1, .int .u64 s2] 83)) = w0 := ⟨_, rfl⟩
  rw [hw0] at hB0 hK0
  have B0 := Lib.hid hB0
  have K0 := Lib.hid hK0
  clear hB0 hK0
  obtain ⟨d0_0, d0_1, d0_2, d0_3, d0_4, d0_5, d0_6⟩ := K0.out.c7
  go_enter Try.func12, Try.ntmps12
  go_wp2_with fail
  clear hw0
  have L_0 := Lib.hid (HL.out.below B0.out)
  have S_0 := Lib.hid (HS.out.below B0.out)
  refine (H2.out _).mono ?_
  rintro e w1 ⟨rfl, hb1⟩
  have B1 := Lib.hid (bnext B0.out hb1)
  have K1 := Lib.hid (K0.out.below hb1)
  have L_1 := Lib.hid (L_0.out.below hb1)
  have S_1 := Lib.hid (S_0.out.below hb1)
  clear hb1  d0_0 d0_1 d0_2 d0_3 d0_4 d0_5 d0_6
  obtain ⟨d1_0, d1_1, d1_2, d1_3, d1_4, d1_5, d1_6⟩ := K1.out.c7
  go_wp2_with fail
  refine (H3.out _ L_1.out).mono ?_
  rintro e w' ⟨rfl, rfl⟩
  go_wp2_with fail
  refine (alive_any _).mono ?_
  rintro e w2 ⟨rfl, hb2⟩
  have B2 := Lib.hid (bnext B1.out hb2)
  have K2 := Lib.hid (K1.out.below hb2)
  have L_2 := Lib.hid (L_1.out.below hb2)
  have S_2 := Lib.hid (S_1.out.below hb2)
  clear hb2  d1_0 d1_1 d1_2 d1_3 d1_4 d1_5 d1_6
  obtain ⟨d2_0, d2_1, d2_2, d2_3, d2_4, d2_5, d2_6⟩ := K2.out.c7
  go_wp2_with fail
  go_ret
  exact ⟨rfl, B2.out⟩

set_option maxHeartbeats 2000000 in
theorem out (w : World) (p N : Nat) (t : Int) (hok : M.okS p (N : Int) t = true) (vl vs : Value) (l : List Int) (ss : List Nat) (hvl : IntsZ w vl l) (hvs : Nums w vs ss) (s1 : Nat) (hs1 : s1 < 18446744073709551616) (s2 : Nat) (hs2 : s2 < 18446744073709551616) (h : l.length < N) (hr : M.RisesTo (N : Int) l l.length) (hne : ss.length = l.length) (hw : M.within p ss = false) :
    Calls Try.prog 12 #[suV p N t, .agg #[vl, vs], .agg #[.int .u64 s1, .int .u64 s2]] w fun e w' => e = .returned (.bool true) ∧ Below w.heap.size w w' := by
  obtain ⟨hi, hn1, hn2, ht1, ht2, hnp⟩ := M.okS_iff.1 hok
  obtain ⟨h3, hp⟩ := M.pos_of hi
  have hset := fun W => rsetup_any p (N : Int) t W (by omega) (by omega) (by omega) (by omega) (by omega)
  rw [← M.errS_ok hok] at hset
  have H2 := Lib.hid hset
  have hs0 : ((0 : Int) != 0) = false := rfl
  have h3' := fun W (hL : IntsZ W vl l) => rrising_any (N : Int) vl l W (by omega) (by omega) hL
  rw [M.rising_iff.2 hr] at h3'
  have H3 := Lib.hid h3'
  have H4 := Lib.hid fun W (hW : Nums W vs ss) => within_any p vs ss W hW (c := 2) (by rw [hw]; rfl)
  have HL := Lib.hid hvl
  have HS := Lib.hid hvs
  have hud : ∀ b : Bool, undef ≠ Value.bool b := fun b h => by cases h
  have hll := hvl.2.1
  have hsl := hvs.2.1
  obtain ⟨As, cs, rfl⟩ := nums_slice' hvs
  obtain ⟨_, _, Al, cl, rfl, _⟩ := hvl
  have hd1 : ¬ ((N : Int) - 1 < (l.length : Nat)) := by omega
  have hne2 : ((l.length : Int) != (l.length : Nat)) = false := by simp
  rw [hne] at HS H4 ⊢
  unfold suV at H2 ⊢
  clear hset h3' hvs hi hok hr
  have hB0 := (bnext (bnext (balloc w (.cells #[.int .u64 p, .int .i64 N, .int .i64 t] 40)) (balloc (w.alloc (.cells #[.int .u64 p, .int .i64 N, .int .i64 t] 40)) (.cells #[.slice Al l.length cl, .slice As l.length cs] 82))) (balloc ((w.alloc (.cells #[.int .u64 p, .int .i64 N, .int .i64 t] 40)).alloc (.cells #[.slice Al l.length cl, .slice As l.length cs] 82)) (.cells #[.int .u64 s1, .int .u64 s2] 83)))
  have hK0 := (((((((kept3 w (w.heap.size) (by simp) (.int .u64 p) (.int .i64 N) (.int .i64 t) 40)).alloc _).app (kept2 (w.alloc (.cells #[.int .u64 p, .int .i64 N, .int .i64 t] 40)) (w.heap.size + 1) (by simp) (.slice Al l.length cl) (.slice As l.length cs) 82))).alloc _).app (kept2 ((w.alloc (.cells #[.int .u64 p, .int .i64 N, .int .i64 t] 40)).alloc (.cells #[.slice Al l.length cl, .slice As l.length cs] 82)) (w.heap.size + 1 + 1) (by simp) (.int .u64 s1) (.int .u64 s2) 83))
  obtain ⟨w0, hw0⟩ : ∃ w0, (((w.alloc (.cells #[.int .u64 p, .int .i64 N, .int .i64 t] 40)).alloc (.cells #[.slice Al l.length cl, .slice As l.length cs] 82)).alloc (.cells #[.int .u64 s1, .int .u64 s2] 83)) = w0 := ⟨_, rfl⟩
  rw [hw0] at hB0 hK0
  have B0 := Lib.hid hB0
  have K0 := Lib.hid hK0
  clear hB0 hK0
  obtain ⟨d0_0, d0_1, d0_2, d0_3, d0_4, d0_5, d0_6⟩ := K0.out.c7
  go_enter Try.func12, Try.ntmps12
  go_wp2_with fail
  clear hw0
  have L_0 := Lib.hid (HL.out.below B0.out)
  have S_0 := Lib.hid (HS.out.below B0.out)
  refine (H2.out _).mono ?_
  rintro e w1 ⟨rfl, hb1⟩
  have B1 := Lib.hid (bnext B0.out hb1)
  have K1 := Lib.hid (K0.out.below hb1)
  have L_1 := Lib.hid (L_0.out.below hb1)
  have S_1 := Lib.hid (S_0.out.below hb1)
  clear hb1  d0_0 d0_1 d0_2 d0_3 d0_4 d0_5 d0_6
  obtain ⟨d1_0, d1_1, d1_2, d1_3, d1_4, d1_5, d1_6⟩ := K1.out.c7
  go_wp2_with fail
  refine (H3.out _ L_1.out).mono ?_
  rintro e w' ⟨rfl, rfl⟩
  go_wp2_with fail
  refine (H4.out _ S_1.out).mono ?_
  rintro e w' ⟨rfl, rfl⟩
  go_wp2_with fail
  refine (alive_any _).mono ?_
  rintro e w2 ⟨rfl, hb2⟩
  have B2 := Lib.hid (bnext B1.out hb2)
  have K2 := Lib.hid (K1.out.below hb2)
  have L_2 := Lib.hid (L_1.out.below hb2)
  have S_2 := Lib.hid (S_1.out.below hb2)
  clear hb2  d1_0 d1_1 d1_2 d1_3 d1_4 d1_5 d1_6
  obtain ⟨d2_0, d2_1, d2_2, d2_3, d2_4, d2_5, d2_6⟩ := K2.out.c7
  go_wp2_with fail
  go_ret
  exact ⟨rfl, B2.out⟩

set_option maxHeartbeats 8000000 in
theorem ok (w : World) (p N : Nat) (t : Int) (hok : M.okS p (N : Int) t = true) (vl vs : Value) (l : List Int) (ss : List Nat) (hvl : IntsZ w vl l) (hvs : Nums w vs ss) (s1 : Nat) (hs1 : s1 < 18446744073709551616) (s2 : Nat) (hs2 : s2 < 18446744073709551616) (h : l.length < N) (hr : M.RisesTo (N : Int) l l.length) (hne : ss.length = l.length) (hw : M.within p ss = true) :
    Calls Try.prog 12 #[suV p N t, .agg #[vl, vs], .agg #[.int .u64 s1, .int .u64 s2]] w fun e w' => e = .returned (.bool true) ∧ Below w.heap.size w w' := by
  obtain ⟨hi, hn1, hn2, ht1, ht2, hnp⟩ := M.okS_iff.1 hok
  obtain ⟨h3, hp⟩ := M.pos_of hi
  have hset := fun W => rsetup_any p (N : Int) t W (by omega) (by omega) (by omega) (by omega) (by omega)
  rw [← M.errS_ok hok] at hset
  have H2 := Lib.hid hset
  have hs0 : ((0 : Int) != 0) = false := rfl
  have h3' := fun W (hL : IntsZ W vl l) => rrising_any (N : Int) vl l W (by omega) (by omega) hL
  rw [M.rising_iff.2 hr] at h3'
  have H3 := Lib.hid h3'
  have H4 := Lib.hid fun W (hW : Nums W vs ss) => within_any p vs ss W hW (c := 0) (by rw [hw]; rfl)
  have HTH := Lib.hid fun W v s (hs : s < p) (hW : Pts W v (0 :: M.pts l) (s :: ss)) => rthrough_own p v (0 :: M.pts l) (s :: ss) W hi (by rw [List.length_cons, M.pts_len]; omega) (M.cons_within (by omega) (M.pts_within hr (by omega))) (M.cons_within hs hw) (M.zpts_nodup hr) hW
  have HMK := Lib.hid fun W v s z (hs : s < p) (hW : Nums W v z) => make_ok p s l.length (N : Int) t v z W hok hs (by omega) hW
  have HSH := Lib.hid fun W v f (hf : M.within p f = true) (hfl : f.length ≤ 201) (hW : Nums W v f) => shares_ok p N t v f W hok hW (M.chk_of hi hfl hf)
  have HTA := Lib.hid fun f s (hs : s < p) (hT : M.Thru p (0 :: M.pts l) (s :: ss) f) => M.tape_all hi (by omega) hr hs hne hT
  have HRG := Lib.hid (fun i (hi : i < l.length) => M.rises_range hr hi)
  have HPG := Lib.hid (fun i => M.pts_get l i)
  have HPT := Lib.hid fun W base v s (hs : s < p) (h : W.ownsRow base 86 2 v (l.length + 1) (ptRow4 (0 :: M.pts l) (s :: ss) (l.length + 1))) => pts_of_row4 (w := W) (base := base) (v := v) (xs := 0 :: M.pts l) (ys := s :: ss) (by rw [List.length_cons, List.length_cons, M.pts_len, hne]) (fun x hx => by have := within_lt (M.cons_within (p := p) (show 0 < p by omega) (M.pts_within hr (by omega))) x hx; omega) (fun y hy => by have := within_lt (M.cons_within hs hw) y hy; omega) (by rw [List.length_cons, M.pts_len]; omega) (by rw [List.length_cons, M.pts_len]; exact h)
  obtain ⟨i0, hi0, hz0, hz1, hz2⟩ := info_parts infoPt
  have HWL := Lib.hid fun f (hf : M.within p f = true) => within_lt hf
  have HIX := Lib.hid (show ∀ k : Nat, k < 2 → ∃ s : Nat, s < 18446744073709551616 ∧ ∀ w, (Instr.index 83 (.agg #[.int .u64 s1, .int .u64 s2]) (.int .i64 (k : Nat))).run Try.prog w = .ok (.int .u64 s) w from fun k hk => by
    match k, hk with
    | 0, _ => exact ⟨s1, hs1, fun _ => by kernel_rfl⟩
    | 1, _ => exact ⟨s2, hs2, fun _ => by kernel_rfl⟩)
  have HL := Lib.hid hvl
  have HS := Lib.hid hvs
  have hud : ∀ b : Bool, undef ≠ Value.bool b := fun b h => by cases h
  have hll := hvl.2.1
  have hsl := hvs.2.1
  obtain ⟨As, cs, rfl⟩ := nums_slice' hvs
  obtain ⟨_, _, Al, cl, rfl, _⟩ := hvl
  have hd1 : ¬ ((N : Int) - 1 < (l.length : Nat)) := by omega
  have hne2 : ((l.length : Int) != (l.length : Nat)) = false := by simp
  rw [hne] at HS H4 ⊢
  have HNE := Lib.hid hne
  unfold suV at H2 ⊢
  clear hset h3' hvs hok hi hr hne
  have hB0 := (bnext (bnext (balloc w (.cells #[.int .u64 p, .int .i64 N, .int .i64 t] 40)) (balloc (w.alloc (.cells #[.int .u64 p, .int .i64 N, .int .i64 t] 40)) (.cells #[.slice Al l.length cl, .slice As l.length cs] 82))) (balloc ((w.alloc (.cells #[.int .u64 p, .int .i64 N, .int .i64 t] 40)).alloc (.cells #[.slice Al l.length cl, .slice As l.length cs] 82)) (.cells #[.int .u64 s1, .int .u64 s2] 83)))
  have hK0 := (((((((kept3 w (w.heap.size) (by simp) (.int .u64 p) (.int .i64 N) (.int .i64 t) 40)).alloc _).app (kept2 (w.alloc (.cells #[.int .u64 p, .int .i64 N, .int .i64 t] 40)) (w.heap.size + 1) (by simp) (.slice Al l.length cl) (.slice As l.length cs) 82))).alloc _).app (kept2 ((w.alloc (.cells #[.int .u64 p, .int .i64 N, .int .i64 t] 40)).alloc (.cells #[.slice Al l.length cl, .slice As l.length cs] 82)) (w.heap.size + 1 + 1) (by simp) (.int .u64 s1) (.int .u64 s2) 83))
  obtain ⟨w0, hw0⟩ : ∃ w0, (((w.alloc (.cells #[.int .u64 p, .int .i64 N, .int .i64 t] 40)).alloc (.cells #[.slice Al l.length cl, .slice As l.length cs] 82)).alloc (.cells #[.int .u64 s1, .int .u64 s2] 83)) = w0 := ⟨_, rfl⟩
  rw [hw0] at hB0 hK0
  have B0 := Lib.hid hB0
  have K0 := Lib.hid hK0
  clear hB0 hK0
  obtain ⟨d0_0, d0_1, d0_2, d0_3, d0_4, d0_5, d0_6⟩ := K0.out.c7
  go_enter Try.func12, Try.ntmps12
  go_wp2_with fail
  clear hw0
  have L_0 := Lib.hid (HL.out.below B0.out)
  have S_0 := Lib.hid (HS.out.below B0.out)
  refine (H2.out _).mono ?_
  rintro e w1 ⟨rfl, hb1⟩
  have B1 := Lib.hid (bnext B0.out hb1)
  have K1 := Lib.hid (K0.out.below hb1)
  have L_1 := Lib.hid (L_0.out.below hb1)
  have S_1 := Lib.hid (S_0.out.below hb1)
  clear hb1  d0_0 d0_1 d0_2 d0_3 d0_4 d0_5 d0_6
  obtain ⟨d1_0, d1_1, d1_2, d1_3, d1_4, d1_5, d1_6⟩ := K1.out.c7
  go_wp2_with fail
  refine (H3.out _ L_1.out).mono ?_
  rintro e w' ⟨rfl, rfl⟩
  go_wp2_with fail
  refine (H4.out _ S_1.out).mono ?_
  rintro e w' ⟨rfl, rfl⟩
  go_wp2_with fail
  clear d1_0 d1_1 d1_2 d1_3 d1_4 d1_5 d1_6
  go_loopw [59] (fun ti wr => ∃ k : Nat, k ≤ 2 ∧ ti = .int .i64 k ∧ Below w1.heap.size w1 wr) (fun ti _ => 2 - (intOf ti).toNat)
  case atStart => exact ⟨0, by omega, rfl, Below.refl _ _⟩
  case round =>
    obtain ⟨k, hk, rfl, hB⟩ := hrel
    obtain ⟨w2, rfl⟩ : ∃ w2, w2 = wr := ⟨_, rfl⟩
    have HB2 := Lib.hid hB
    have K2 := Lib.hid (K1.out.below hB)
    have L_2 := Lib.hid (L_1.out.below hB)
    have S_2 := Lib.hid (S_1.out.below hB)
    have B2 := Lib.hid (bnext B1.out hB)
    clear hB
    obtain ⟨d2_0, d2_1, d2_2, d2_3, d2_4, d2_5, d2_6⟩ := K2.out.c7
    by_cases hlt : k < 2
    · obtain ⟨s, hs64, ix⟩ := HIX.out k hlt
      have hkn : (k : Int) < 2 := by omega
      by_cases hsp : s < p
      · skip
        have hps : ¬ (p ≤ s) := by omega
        have HB3 := Lib.hid (balloc w2 (.cells #[.int .u64 0, .int .u64 s] 86))
        have hown0 : (w2.alloc (.cells #[.int .u64 0, .int .u64 s] 86)).ownsRow w2.heap.size 86 2 (.slice (some ⟨w2.heap.size, 0, none⟩) 1 1) 1 (ptRow4 (0 :: M.pts l) (s :: ss) 1) := World.ownsRow_lit w2 #[.int .u64 0, .int .u64 s] 1 (Nat.le_refl _) (by decide) rfl
        obtain ⟨w3, hw3⟩ : ∃ w3, w2.alloc (.cells #[.int .u64 0, .int .u64 s] 86) = w3 := ⟨_, rfl⟩
        rw [hw3] at HB3 hown0
        have HO3 := Lib.hid hown0
        have K3 := Lib.hid (K2.out.below HB3.out)
        clear hown0
        obtain ⟨d3_0, d3_1, d3_2, d3_3, d3_4, d3_5, d3_6⟩ := K3.out.c7
        go_wp2_with fail
        clear hw3 d3_0 d3_1 d3_2 d3_3 d3_4 d3_5 d3_6 d2_0 d2_1 d2_2 d2_3 d2_4 d2_5 d2_6
        go_loopw [10, 73] (fun tv tj wi => ∃ j : Nat, j ≤ l.length ∧ tj = .int .i64 j ∧ wi.ownsRow w2.heap.size 86 2 tv (j + 1) (ptRow4 (0 :: M.pts l) (s :: ss) (j + 1)) ∧ Below w2.heap.size w2 wi) (fun _ tj _ => l.length - (intOf tj).toNat)
        case atStart => exact ⟨0, by omega, rfl, HO3.out, HB3.out⟩
        case round =>
          obtain ⟨j, hj, rfl, hown, hB⟩ := hrel
          have HO := Lib.hid hown
          have HBi := Lib.hid hB
          clear hown hB
          by_cases hjl : j < l.length
          · skip
            obtain ⟨b, off, rfl, hb, hc0⟩ := intsZ_cell L_2.out hjl
            have hc := (HBi.out.cell (p := ⟨b, off + j, none⟩) hb).trans hc0
            obtain ⟨g1, g2⟩ := HRG.out j hjl
            obtain ⟨x, hx⟩ : ∃ x : Nat, l.getD j 0 = (x : Int) := ⟨(l.getD j 0).toNat, by omega⟩
            obtain ⟨b5, off5, rfl, hb5, hc5⟩ := nums_cell S_2.out (i := j) (by rw [HNE.out]; exact hjl)
            have e5 := (HBi.out.cell (p := ⟨b5, off5 + j, none⟩) hb5).trans hc5
            have hpr : ptRow4 (0 :: M.pts l) (s :: ss) (j + 1 + 1) = ptRow4 (0 :: M.pts l) (s :: ss) (j + 1) ++ [.int .u64 ((M.pts l).getD j 0 : Nat), .int .u64 (ss.getD j 0 : Nat)] := rfl
            rw [HPG.out, hx, show (x : Int).toNat = x from rfl] at hpr
            rw [hx] at hc
            obtain ⟨y, ey⟩ : ∃ y, y = ss.getD j 0 := ⟨_, rfl⟩
            rw [← ey] at e5 hpr
            have HPR := Lib.hid hpr
            have KI := Lib.hid (K2.out.below HBi.out)
            obtain ⟨di_0, di_1, di_2, di_3, di_4, di_5, di_6⟩ := KI.out.c7
            have k1 : ∀ (i : Nat) (u : Value), [Value.int .u64 (x : Nat), Value.int .u64 (y : Nat)][i]? = some u → (wr.alloc (.cells #[.int .u64 (x : Nat), .int .u64 (y : Nat)] 86)).cell? ((⟨wr.heap.size, 0, none⟩ : Addr).add i) = some u := by
              intro i u hu
              rw [Addr.add_lit]
              match i, hu with
              | 0, hu => simpa using hu
              | 1, hu => simpa using hu
            have KK1 := Lib.hid k1
            have hjn : (j : Int) < (l.length : Nat) := by omega
            have hx64 : x < 18446744073709551616 := by omega
            clear ey hc0 hc5 hpr k1 hx g1 g2
            go_wp2_with (at_builtin; refine wpList_append_own _ rfl _ _ 55 rfl w2.heap.size 86 i0 (.agg #[.int .u64 0, .int .u64 0]) 2 16 Try.underlying55 hi0 hz0 hz1 hz2 rfl (by decide) _ _ _ rfl (HO.out.alloc _) ⟨wr.heap.size, 0, none⟩ 1 1 [.int .u64 (x : Nat), .int .u64 (y : Nat)] rfl rfl KK1.out ?d2 ?d3 ?d4 ?d5 ?_)
            case d2 => intro u hu; simp at hu; rcases hu with rfl | rfl <;> rfl
            case d3 => unfold maxLen; omega
            case d4 => omega
            case d5 => have := HBi.out.size; simp; omega
            intro v' w4 hown' hgrow _
            have hlt' := fun r hr => (HO.out.lt r hr).1
            have HB4 := Lib.hid ((HBi.out.alloc HBi.out.size _).grown hgrow (by have := HBi.out.size; simp; omega) (fun r hr => hlt' r hr))
            rw [← HPR.out] at hown'
            have HOW := Lib.hid hown'
            clear hown' hgrow hlt'
            go_wp2_with fail
            go_roundw
            case rel => exact ⟨j + 1, by omega, by go_num, HOW.out, HB4.out⟩
            case measure => simp [intOf]; omega

          · obtain rfl : j = l.length := by omega
            obtain ⟨w4, rfl⟩ : ∃ w4, w4 = wr := ⟨_, rfl⟩
            have hP := HPT.out _ _ _ s hsp HO.out
            obtain ⟨g3, c3, rfl, hc3⟩ := own_form HO.out (by omega)
            have P4 := Lib.hid hP
            have K4 := Lib.hid (K2.out.below HBi.out)
            clear hP
            obtain ⟨d4_0, d4_1, d4_2, d4_3, d4_4, d4_5, d4_6⟩ := K4.out.c7
            go_wp2_with fail
            refine (HTH.out _ _ s hsp P4.out).mono ?_
            rintro e w5 ⟨v5, f, rfl, hown5, hTh, hb5⟩
            obtain ⟨hfw, hft, hfl, hmk, hev⟩ := HTA.out f s hsp hTh
            have hf64 : ∀ z ∈ f, z < 18446744073709551616 := fun z hz => by have := HWL.out f hfw z hz; omega
            obtain ⟨v6, w6, hr6, hown6, hg6⟩ := run_append_zeros w5 w4.heap.size f.length (l.length + 1) v5 (vals f) 24 hown5 (by omega) (by omega) hb5.size
            have hb56 : Below w4.heap.size w5 w6 := (Below.refl _ _).grown hg6 hb5.size (fun r hr => (hown5.lt r hr).1)
            obtain ⟨g6, c6, rfl, hc6⟩ := own_form hown6 (by omega)
            obtain ⟨A6, eA6, hN6⟩ := tape_nums hf64 (by omega) (by omega) hown6
            have HB6 := Lib.hid (bnext HBi.out (hb5.trans hb56))
            have K6 := Lib.hid (K2.out.below HB6.out)
            have N6 := Lib.hid hN6
            rw [show ((l.length + 1 : Nat) : Int) = (l.length : Int) + 1 from by omega] at hr6
            have hc60 : ¬ (c6 = 0) := by omega
            have hcL : l.length + 1 ≤ c6 := by omega
            have hcLi : (l.length : Int) + 1 ≤ c6 := by omega
            have h1L : (1 : Int) ≤ (l.length : Int) + 1 := by omega
            have HFW := Lib.hid hfw
            have HFL := Lib.hid hfl
            have HMKf := Lib.hid hmk
            have HEV := Lib.hid hev
            clear d4_0 d4_1 d4_2 d4_3 d4_4 d4_5 d4_6 hTh hown5 hown6 hg6 hb56 hb5 hN6 hfw hft hfl hmk hev hf64
            go_wp2_with (at_builtin; refine Lib.wpList_append_run _ rfl _ _ _ _ rfl _ _ rfl rfl _ _ hr6 ?_)
            obtain ⟨d6_0, d6_1, d6_2, d6_3, d6_4, d6_5, d6_6⟩ := K6.out.c7
            clear hr6 hc6
            have hK := K6.out
            go_region_held3 (fun W' => W'.cell? ⟨w.heap.size, 0, none⟩ = some (.int .u64 p) ∧ W'.cell? ⟨w.heap.size, 1, none⟩ = some (.int .i64 N) ∧ W'.cell? ⟨w.heap.size, 2, none⟩ = some (.int .i64 t))
              (first | exact hK.c3 | go_keep | exact q7.c3)
              (first
                | (go_at_call 31; refine (HMK.out _ _ s (M.tape f l.length) hsp (N6.out.below (Below.refl _ _).drew)).mono ?_; rintro e w7 ⟨v7, u7, rfl, hF, hU, hb7⟩; have hb70 : Below w6.heap.size w6 w7 := (Below.refl w6.heap.size w6).drew.trans hb7; have q7 := hK.below hb70))
            all_goals
              rw [HMKf.out] at hF
              rw [List.drop_eq_nil_of_le (by rw [M.tape_len]; exact Nat.le_refl _)] at hU
              obtain ⟨Au, cu, rfl⟩ := nums_slice' hU
              have HB7 := Lib.hid (bnext HB6.out hb70)
              have K7 := Lib.hid q7
              have F7 := Lib.hid hF
              clear hK hb7 hb70 q7 hF hU eA6 d6_0 d6_1 d6_2 d6_3 d6_4 d6_5 d6_6
              obtain ⟨d7_0, d7_1, d7_2, d7_3, d7_4, d7_5, d7_6⟩ := K7.out.c7
              have hl0 : ((([] : List Nat).length : Nat) : Int) = 0 := rfl
              go_wp2_with fail
              refine (HSH.out _ _ f HFW.out (by have := HFL.out; omega) F7.out).mono ?_
              rintro e w8 ⟨v8, rfl, hX, hb8⟩
              have HB8 := Lib.hid (bnext HB7.out hb8)
              have X8 := Lib.hid hX
              have K8 := Lib.hid (K7.out.below hb8)
              clear hX hb8 d7_0 d7_1 d7_2 d7_3 d7_4 d7_5 d7_6
              obtain ⟨d8_0, d8_1, d8_2, d8_3, d8_4, d8_5, d8_6⟩ := K8.out.c7
              obtain ⟨Ax, cx, ex⟩ := nums_slice' X8.out
              rw [M.shsb_len] at ex
              subst ex
              have hNN : ((N : Int) != N) = false := by simp
              go_wp2_with fail
              clear d8_0 d8_1 d8_2 d8_3 d8_4 d8_5 d8_6
              go_loopw [133] (fun tj wi => ∃ j : Nat, j ≤ l.length ∧ tj = .int .i64 j ∧ Below w8.heap.size w8 wi) (fun tj _ => l.length - (intOf tj).toNat)
              case atStart => exact ⟨0, by omega, rfl, Below.refl _ _⟩
              case round =>
                obtain ⟨j, hj, rfl, hB⟩ := hrel
                have HBj := Lib.hid hB
                clear hB
                by_cases hjl : j < l.length
                · skip
                  have KJ := Lib.hid (K8.out.below HBj.out)
                  have HB9 := Lib.hid (bnext HB8.out HBj.out)
                  obtain ⟨b, off, rfl, hb, hc0⟩ := intsZ_cell L_2.out hjl
                  have hc := (HB9.out.cell (p := ⟨b, off + j, none⟩) hb).trans hc0
                  obtain ⟨g1, g2⟩ := HRG.out j hjl
                  have hev := HEV.out j hjl
                  obtain ⟨q, hq⟩ : ∃ q : Nat, l.getD j 0 = (q : Int) + 1 := ⟨(l.getD j 0 - 1).toNat, by omega⟩
                  have hqN : q < N := by omega
                  rw [hq] at hc hev
                  rw [show ((q : Int) + 1).toNat = q + 1 by omega, ← M.shs_at (p := p) (N := N) f hqN] at hev
                  obtain ⟨b5, off5, rfl, hb5, hc5⟩ := nums_cell X8.out (i := q) (by rw [M.shsb_len]; exact hqN)
                  have e5 := (HBj.out.cell (p := ⟨b5, off5 + q, none⟩) hb5).trans hc5
                  obtain ⟨b6, off6, rfl, hb6, hc6⟩ := nums_cell S_2.out (i := j) (by rw [HNE.out]; exact hjl)
                  have e6 := (HB9.out.cell (p := ⟨b6, off6 + j, none⟩) hb6).trans hc6
                  rw [hev] at e5
                  obtain ⟨z, ez⟩ : ∃ z, z = ss.getD j 0 := ⟨_, rfl⟩
                  rw [← ez] at e5 e6
                  have hjn : (j : Int) < (l.length : Nat) := by omega
                  have hqn : (q : Int) < (N : Nat) := by omega
                  have hzb : ((z : Int) != z) = false := by simp
                  have hw0 : IntKind.i64.wrap (q : Int) = q := IntWalk.i64_in _ (by omega)
                  have hw1 : IntKind.i64.wrap ((q : Int) + 1 - 1) = q := by rw [Int.add_sub_cancel]; exact hw0
                  have hq0 : (0 : Int) ≤ (q : Nat) := by omega
                  obtain ⟨dj_0, dj_1, dj_2, dj_3, dj_4, dj_5, dj_6⟩ := KJ.out.c7
                  clear ez hc0 hc5 hc6 hev hq g1 g2
                  go_wp2_with fail
                  go_quiet (fail)
                  go_wp2_with fail
                  go_roundw
                  case rel => exact ⟨j + 1, by omega, by go_num, below_drewN HBj.out _⟩
                  case measure => simp [intOf]; omega
                · obtain rfl : j = l.length := by omega
                  have HB9 := Lib.hid (bnext HB2.out (bnext HB8.out HBj.out))
                  go_wp2_with fail
                  go_roundw
                  case rel => exact ⟨k + 1, by omega, by go_num, HB9.out⟩
                  case measure => simp [intOf]; omega

      · have hsp2 : p ≤ s := by omega
        go_wp2_with fail
        refine (alive_any _).mono ?_
        rintro e w3 ⟨rfl, hb⟩
        have B3 := Lib.hid (bnext B2.out hb)
        clear hb
        go_wp2_with fail
        go_ret
        exact ⟨rfl, B3.out⟩
    · obtain rfl : k = 2 := by omega
      go_wp2_with fail
      refine (alive_any _).mono ?_
      rintro e w3 ⟨rfl, hb⟩
      have B3 := Lib.hid (bnext B2.out hb)
      clear hb
      go_wp2_with fail
      go_ret
      exact ⟨rfl, B3.out⟩

theorem walk (w : World) (p : Nat) (n t : Int) (hp : p < 18446744073709551616) (hn1 : -9223372036854775808 ≤ n) (hn2 : n ≤ 9223372036854775807) (ht1 : -9223372036854775808 ≤ t) (ht2 : t ≤ 9223372036854775807) (vl vs : Value) (l : List Int) (ss : List Nat) (hvl : IntsZ w vl l) (hvs : Nums w vs ss) (s1 : Nat) (hs1 : s1 < 18446744073709551616) (s2 : Nat) (hs2 : s2 < 18446744073709551616) :
    Calls Try.prog 12 #[suV p n t, .agg #[vl, vs], .agg #[.int .u64 s1, .int .u64 s2]] w fun e w' => e = .returned (.bool true) ∧ Below w.heap.size w w' := by
  cases hs : M.okS p n t with
  | false => exact no w p n t hp hn1 hn2 ht1 ht2 vl vs l ss hvl hvs s1 hs1 s2 hs2 (by unfold M.errS; rw [hs]; decide)
  | true =>
    obtain ⟨N, rfl⟩ := Int.eq_ofNat_of_zero_le (show 0 ≤ n by have := (M.okS_iff.1 hs).2.1; omega)
    by_cases h : l.length < N
    · cases hr : M.rising (N : Int) l with
      | false => exact fall w p N t hs vl vs l ss hvl hvs s1 hs1 s2 hs2 h hr
      | true =>
        have hr2 := M.rising_iff.1 hr
        by_cases hne : ss.length = l.length
        · cases hw : M.within p ss with
          | false => exact out w p N t hs vl vs l ss hvl hvs s1 hs1 s2 hs2 h hr2 hne hw
          | true => exact ok w p N t hs vl vs l ss hvl hvs s1 hs1 s2 hs2 h hr2 hne hw
        · exact unlike w p N t hs vl vs l ss hvl hvs s1 hs1 s2 hs2 h hr2 hne
    · exact long w p N t hs vl vs l ss hvl hvs s1 hs1 s2 hs2 h
end Go.Proofs.Ytgoognipljknjaa.shareNothingW
