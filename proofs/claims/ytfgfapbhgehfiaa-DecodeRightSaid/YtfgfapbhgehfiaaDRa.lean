/-
  The walk of the law DecodeRight: what its arguments may not be.
-/
import Derived.Test.YtfgfapbhgehfiaaDRh
namespace Go.Proofs.Ytfgfapbhgehfiaa.decodeRightW
open Go.RowKit
set_option linter.unusedVariables false
set_option maxRecDepth 100000

set_option maxHeartbeats 4000000 in
theorem bad0 (w : World) (p : Nat) (hp : p < 18446744073709551616) (d : Int) (hd1 : -9223372036854775808 ≤ d) (hd2 : d ≤ 9223372036854775807) (vf vx va vv : Value) (f xs : List Nat) (zs : List Int) (ys : List Nat) (hf : Nums w vf f) (hx : Nums w vx xs) (ha : IntsZ w va zs) (hy : Nums w vv ys) (h0 : M.isP p = false) :
    Calls Try.prog 10 #[.int .u64 p, .int .i64 d, .agg #[vf, vx, va, vv]] w fun e w' => e = .returned (.bool true) ∧ Below w.heap.size w w' := by
  have hud : ∀ b : Bool, undef ≠ Value.bool b := fun b h => by cases h
  have hxl := hx.2.1
  have hfl := hf.2.1
  have hyl := hy.2.1
  have hal := ha.2.1
  obtain ⟨Af, cf, rfl⟩ := nums_slice' hf
  obtain ⟨Ax, cx, rfl⟩ := nums_slice' hx
  obtain ⟨Ay, cy, rfl⟩ := nums_slice' hy
  obtain ⟨Aa, ca, rfl, _⟩ := ha.2.2
  have c0 := fun W => refIs_any p W hp
  rw [h0] at c0
  have C0 := Lib.hid c0
  clear c0
  have HF := Lib.hid hf
  have HX := Lib.hid hx
  have HA := Lib.hid ha
  have HY := Lib.hid hy
  clear hf hx ha hy
  have hB0 := (balloc w (.cells #[.slice Af f.length cf, .slice Ax xs.length cx, .slice Aa zs.length ca, .slice Ay ys.length cy] 57))
  have hK0 := (kept4 w (w.heap.size) (by simp) (.slice Af f.length cf) (.slice Ax xs.length cx) (.slice Aa zs.length ca) (.slice Ay ys.length cy) 57)
  obtain ⟨w0, hw0⟩ : ∃ w0, (w.alloc (.cells #[.slice Af f.length cf, .slice Ax xs.length cx, .slice Aa zs.length ca, .slice Ay ys.length cy] 57)) = w0 := ⟨_, rfl⟩
  rw [hw0] at hB0 hK0
  have B0 := Lib.hid hB0
  have K0 := Lib.hid hK0
  clear hB0 hK0
  obtain ⟨d0_0, d0_1, d0_2, d0_3⟩ := K0.out.c4
  go_enter Try.func10, Try.ntmps10
  go_wp2_with fail
  clear hw0
  have F_0 := Lib.hid (HF.out.below B0.out)
  have X_0 := Lib.hid (HX.out.below B0.out)
  have A_0 := Lib.hid (HA.out.below B0.out)
  have Y_0 := Lib.hid (HY.out.below B0.out)
  have hK := K0.out
  have hB := B0.out
  try dsimp only [List.append]
  refine wp_region_lex (S := fun W' => W'.cell? ⟨w.heap.size, 0, none⟩ = some (.slice Af f.length cf) ∧ W'.cell? ⟨w.heap.size, 1, none⟩ = some (.slice Ax xs.length cx) ∧ W'.cell? ⟨w.heap.size, 2, none⟩ = some (.slice Aa zs.length ca) ∧ W'.cell? ⟨w.heap.size, 3, none⟩ = some (.slice Ay ys.length cy)) (by kernel_rfl) (by kernel_rfl) (fun _ _ _ _ _ h => h) ?_ ?_
  · (first | exact hK.c4 | go_keep)
  repeat (first
    | (refine LexH.pass (by rfl) ?_; (try simp only [Act.put, List.setIfInBounds_toArray, List.set_cons_zero, List.set_cons_succ]))
    | (refine LexH.yield (v := ?_) (by rfl) ?_ ?_; rotate_left 1; (· intro w hSw; (try dsimp only at hSw); go_simp; try with_reducible rfl); (try simp only [Act.put, List.setIfInBounds_toArray, List.set_cons_zero, List.set_cons_succ]))
    | (refine LexH.alone (by rfl) (by kernel_rfl) (fun K hKK => ?_); go_simp; (first | (go_at_call 29; (with_reducible refine (C0.out _).mono ?_); rintro e w' ⟨rfl, rfl⟩)); go_wp2_with fail; refine hKK.out _ _ ?_ (fun hHeld => ?_); (· (first | exact hK.c4 | go_keep)); clear hKK K hHeld; (try simp only [Act.put, List.setIfInBounds_toArray, List.set_cons_zero, List.set_cons_succ])))
  refine LexH.nil ?_
  clear hK hB
  have hbD : Below w0.heap.size w0 w0.drew := (Below.refl _ _).drew
  obtain ⟨w1, ew1⟩ : ∃ x, w0.drew = x := ⟨_, rfl⟩
  rw [ew1] at hbD ⊢
  clear ew1
  have B1 := Lib.hid (bnext B0.out hbD)
  have K1 := Lib.hid (K0.out.below hbD)
  have F_1 := Lib.hid (F_0.out.below hbD)
  have X_1 := Lib.hid (X_0.out.below hbD)
  have A_1 := Lib.hid (A_0.out.below hbD)
  have Y_1 := Lib.hid (Y_0.out.below hbD)
  clear hbD  d0_0 d0_1 d0_2 d0_3
  obtain ⟨d1_0, d1_1, d1_2, d1_3⟩ := K1.out.c4
  go_wp2_with fail
  refine (alive_any _).mono ?_
  rintro e w2 ⟨rfl, hb2⟩
  have B2 := Lib.hid (bnext B1.out hb2)
  have K2 := Lib.hid (K1.out.below hb2)
  have F_2 := Lib.hid (F_1.out.below hb2)
  have X_2 := Lib.hid (X_1.out.below hb2)
  have A_2 := Lib.hid (A_1.out.below hb2)
  have Y_2 := Lib.hid (Y_1.out.below hb2)
  clear hb2  d1_0 d1_1 d1_2 d1_3
  obtain ⟨d2_0, d2_1, d2_2, d2_3⟩ := K2.out.c4
  go_wp2_with fail
  go_ret
  exact ⟨rfl, B2.out⟩

set_option maxHeartbeats 4000000 in
theorem bad1 (w : World) (p : Nat) (hp : p < 18446744073709551616) (d : Int) (hd1 : -9223372036854775808 ≤ d) (hd2 : d ≤ 9223372036854775807) (vf vx va vv : Value) (f xs : List Nat) (zs : List Int) (ys : List Nat) (hf : Nums w vf f) (hx : Nums w vx xs) (ha : IntsZ w va zs) (hy : Nums w vv ys) (h0 : M.isP p = true) (h1 : d < 0) :
    Calls Try.prog 10 #[.int .u64 p, .int .i64 d, .agg #[vf, vx, va, vv]] w fun e w' => e = .returned (.bool true) ∧ Below w.heap.size w w' := by
  have hud : ∀ b : Bool, undef ≠ Value.bool b := fun b h => by cases h
  have hxl := hx.2.1
  have hfl := hf.2.1
  have hyl := hy.2.1
  have hal := ha.2.1
  obtain ⟨Af, cf, rfl⟩ := nums_slice' hf
  obtain ⟨Ax, cx, rfl⟩ := nums_slice' hx
  obtain ⟨Ay, cy, rfl⟩ := nums_slice' hy
  obtain ⟨Aa, ca, rfl, _⟩ := ha.2.2
  have c0 := fun W => refIs_any p W hp
  rw [h0] at c0
  have C0 := Lib.hid c0
  clear c0
  have e1 : decide (d < 0) = true := by rw [decide_eq_true_eq]; omega
  have HF := Lib.hid hf
  have HX := Lib.hid hx
  have HA := Lib.hid ha
  have HY := Lib.hid hy
  clear hf hx ha hy
  have hB0 := (balloc w (.cells #[.slice Af f.length cf, .slice Ax xs.length cx, .slice Aa zs.length ca, .slice Ay ys.length cy] 57))
  have hK0 := (kept4 w (w.heap.size) (by simp) (.slice Af f.length cf) (.slice Ax xs.length cx) (.slice Aa zs.length ca) (.slice Ay ys.length cy) 57)
  obtain ⟨w0, hw0⟩ : ∃ w0, (w.alloc (.cells #[.slice Af f.length cf, .slice Ax xs.length cx, .slice Aa zs.length ca, .slice Ay ys.length cy] 57)) = w0 := ⟨_, rfl⟩
  rw [hw0] at hB0 hK0
  have B0 := Lib.hid hB0
  have K0 := Lib.hid hK0
  clear hB0 hK0
  obtain ⟨d0_0, d0_1, d0_2, d0_3⟩ := K0.out.c4
  go_enter Try.func10, Try.ntmps10
  go_wp2_with fail
  clear hw0
  have F_0 := Lib.hid (HF.out.below B0.out)
  have X_0 := Lib.hid (HX.out.below B0.out)
  have A_0 := Lib.hid (HA.out.below B0.out)
  have Y_0 := Lib.hid (HY.out.below B0.out)
  have hK := K0.out
  have hB := B0.out
  try dsimp only [List.append]
  refine wp_region_lex (S := fun W' => W'.cell? ⟨w.heap.size, 0, none⟩ = some (.slice Af f.length cf) ∧ W'.cell? ⟨w.heap.size, 1, none⟩ = some (.slice Ax xs.length cx) ∧ W'.cell? ⟨w.heap.size, 2, none⟩ = some (.slice Aa zs.length ca) ∧ W'.cell? ⟨w.heap.size, 3, none⟩ = some (.slice Ay ys.length cy)) (by kernel_rfl) (by kernel_rfl) (fun _ _ _ _ _ h => h) ?_ ?_
  · (first | exact hK.c4 | go_keep)
  repeat (first
    | (refine LexH.pass (by rfl) ?_; (try simp only [Act.put, List.setIfInBounds_toArray, List.set_cons_zero, List.set_cons_succ]))
    | (refine LexH.yield (v := ?_) (by rfl) ?_ ?_; rotate_left 1; (· intro w hSw; (try dsimp only at hSw); go_simp; try with_reducible rfl); (try simp only [Act.put, List.setIfInBounds_toArray, List.set_cons_zero, List.set_cons_succ]))
    | (refine LexH.alone (by rfl) (by kernel_rfl) (fun K hKK => ?_); go_simp; (first | (go_at_call 29; (with_reducible refine (C0.out _).mono ?_); rintro e w' ⟨rfl, rfl⟩)); go_wp2_with fail; refine hKK.out _ _ ?_ (fun hHeld => ?_); (· (first | exact hK.c4 | go_keep)); clear hKK K hHeld; (try simp only [Act.put, List.setIfInBounds_toArray, List.set_cons_zero, List.set_cons_succ])))
  refine LexH.nil ?_
  clear hK hB
  have hbD : Below w0.heap.size w0 w0.drew := (Below.refl _ _).drew
  obtain ⟨w1, ew1⟩ : ∃ x, w0.drew = x := ⟨_, rfl⟩
  rw [ew1] at hbD ⊢
  clear ew1
  have B1 := Lib.hid (bnext B0.out hbD)
  have K1 := Lib.hid (K0.out.below hbD)
  have F_1 := Lib.hid (F_0.out.below hbD)
  have X_1 := Lib.hid (X_0.out.below hbD)
  have A_1 := Lib.hid (A_0.out.below hbD)
  have Y_1 := Lib.hid (Y_0.out.below hbD)
  clear hbD  d0_0 d0_1 d0_2 d0_3
  obtain ⟨d1_0, d1_1, d1_2, d1_3⟩ := K1.out.c4
  go_wp2_with fail
  refine (alive_any _).mono ?_
  rintro e w2 ⟨rfl, hb2⟩
  have B2 := Lib.hid (bnext B1.out hb2)
  have K2 := Lib.hid (K1.out.below hb2)
  have F_2 := Lib.hid (F_1.out.below hb2)
  have X_2 := Lib.hid (X_1.out.below hb2)
  have A_2 := Lib.hid (A_1.out.below hb2)
  have Y_2 := Lib.hid (Y_1.out.below hb2)
  clear hb2  d1_0 d1_1 d1_2 d1_3
  obtain ⟨d2_0, d2_1, d2_2, d2_3⟩ := K2.out.c4
  go_wp2_with fail
  go_ret
  exact ⟨rfl, B2.out⟩

set_option maxHeartbeats 4000000 in
theorem bad2 (w : World) (p : Nat) (hp : p < 18446744073709551616) (d : Int) (hd1 : -9223372036854775808 ≤ d) (hd2 : d ≤ 9223372036854775807) (vf vx va vv : Value) (f xs : List Nat) (zs : List Int) (ys : List Nat) (hf : Nums w vf f) (hx : Nums w vx xs) (ha : IntsZ w va zs) (hy : Nums w vv ys) (h0 : M.isP p = true) (h1 : 0 ≤ d) (h2 : 63 < d) :
    Calls Try.prog 10 #[.int .u64 p, .int .i64 d, .agg #[vf, vx, va, vv]] w fun e w' => e = .returned (.bool true) ∧ Below w.heap.size w w' := by
  have hud : ∀ b : Bool, undef ≠ Value.bool b := fun b h => by cases h
  have hxl := hx.2.1
  have hfl := hf.2.1
  have hyl := hy.2.1
  have hal := ha.2.1
  obtain ⟨Af, cf, rfl⟩ := nums_slice' hf
  obtain ⟨Ax, cx, rfl⟩ := nums_slice' hx
  obtain ⟨Ay, cy, rfl⟩ := nums_slice' hy
  obtain ⟨Aa, ca, rfl, _⟩ := ha.2.2
  have c0 := fun W => refIs_any p W hp
  rw [h0] at c0
  have C0 := Lib.hid c0
  clear c0
  have e1 : decide (d < 0) = false := by rw [decide_eq_false_iff_not]; omega
  have e2 : decide (63 < d) = true := by rw [decide_eq_true_eq]; omega
  have HF := Lib.hid hf
  have HX := Lib.hid hx
  have HA := Lib.hid ha
  have HY := Lib.hid hy
  clear hf hx ha hy
  have hB0 := (balloc w (.cells #[.slice Af f.length cf, .slice Ax xs.length cx, .slice Aa zs.length ca, .slice Ay ys.length cy] 57))
  have hK0 := (kept4 w (w.heap.size) (by simp) (.slice Af f.length cf) (.slice Ax xs.length cx) (.slice Aa zs.length ca) (.slice Ay ys.length cy) 57)
  obtain ⟨w0, hw0⟩ : ∃ w0, (w.alloc (.cells #[.slice Af f.length cf, .slice Ax xs.length cx, .slice Aa zs.length ca, .slice Ay ys.length cy] 57)) = w0 := ⟨_, rfl⟩
  rw [hw0] at hB0 hK0
  have B0 := Lib.hid hB0
  have K0 := Lib.hid hK0
  clear hB0 hK0
  obtain ⟨d0_0, d0_1, d0_2, d0_3⟩ := K0.out.c4
  go_enter Try.func10, Try.ntmps10
  go_wp2_with fail
  clear hw0
  have F_0 := Lib.hid (HF.out.below B0.out)
  have X_0 := Lib.hid (HX.out.below B0.out)
  have A_0 := Lib.hid (HA.out.below B0.out)
  have Y_0 := Lib.hid (HY.out.below B0.out)
  have hK := K0.out
  have hB := B0.out
  try dsimp only [List.append]
  refine wp_region_lex (S := fun W' => W'.cell? ⟨w.heap.size, 0, none⟩ = some (.slice Af f.length cf) ∧ W'.cell? ⟨w.heap.size, 1, none⟩ = some (.slice Ax xs.length cx) ∧ W'.cell? ⟨w.heap.size, 2, none⟩ = some (.slice Aa zs.length ca) ∧ W'.cell? ⟨w.heap.size, 3, none⟩ = some (.slice Ay ys.length cy)) (by kernel_rfl) (by kernel_rfl) (fun _ _ _ _ _ h => h) ?_ ?_
  · (first | exact hK.c4 | go_keep)
  repeat (first
    | (refine LexH.pass (by rfl) ?_; (try simp only [Act.put, List.setIfInBounds_toArray, List.set_cons_zero, List.set_cons_succ]))
    | (refine LexH.yield (v := ?_) (by rfl) ?_ ?_; rotate_left 1; (· intro w hSw; (try dsimp only at hSw); go_simp; try with_reducible rfl); (try simp only [Act.put, List.setIfInBounds_toArray, List.set_cons_zero, List.set_cons_succ]))
    | (refine LexH.alone (by rfl) (by kernel_rfl) (fun K hKK => ?_); go_simp; (first | (go_at_call 29; (with_reducible refine (C0.out _).mono ?_); rintro e w' ⟨rfl, rfl⟩)); go_wp2_with fail; refine hKK.out _ _ ?_ (fun hHeld => ?_); (· (first | exact hK.c4 | go_keep)); clear hKK K hHeld; (try simp only [Act.put, List.setIfInBounds_toArray, List.set_cons_zero, List.set_cons_succ])))
  refine LexH.nil ?_
  clear hK hB
  have hbD : Below w0.heap.size w0 w0.drew := (Below.refl _ _).drew
  obtain ⟨w1, ew1⟩ : ∃ x, w0.drew = x := ⟨_, rfl⟩
  rw [ew1] at hbD ⊢
  clear ew1
  have B1 := Lib.hid (bnext B0.out hbD)
  have K1 := Lib.hid (K0.out.below hbD)
  have F_1 := Lib.hid (F_0.out.below hbD)
  have X_1 := Lib.hid (X_0.out.below hbD)
  have A_1 := Lib.hid (A_0.out.below hbD)
  have Y_1 := Lib.hid (Y_0.out.below hbD)
  clear hbD  d0_0 d0_1 d0_2 d0_3
  obtain ⟨d1_0, d1_1, d1_2, d1_3⟩ := K1.out.c4
  go_wp2_with fail
  refine (alive_any _).mono ?_
  rintro e w2 ⟨rfl, hb2⟩
  have B2 := Lib.hid (bnext B1.out hb2)
  have K2 := Lib.hid (K1.out.below hb2)
  have F_2 := Lib.hid (F_1.out.below hb2)
  have X_2 := Lib.hid (X_1.out.below hb2)
  have A_2 := Lib.hid (A_1.out.below hb2)
  have Y_2 := Lib.hid (Y_1.out.below hb2)
  clear hb2  d1_0 d1_1 d1_2 d1_3
  obtain ⟨d2_0, d2_1, d2_2, d2_3⟩ := K2.out.c4
  go_wp2_with fail
  go_ret
  exact ⟨rfl, B2.out⟩

set_option maxHeartbeats 4000000 in
theorem bad3 (w : World) (p : Nat) (hp : p < 18446744073709551616) (d : Int) (hd1 : -9223372036854775808 ≤ d) (hd2 : d ≤ 9223372036854775807) (vf vx va vv : Value) (f xs : List Nat) (zs : List Int) (ys : List Nat) (hf : Nums w vf f) (hx : Nums w vx xs) (ha : IntsZ w va zs) (hy : Nums w vv ys) (h0 : M.isP p = true) (h1 : 0 ≤ d) (h2 : d ≤ 63) (h3 : 64 < xs.length) :
    Calls Try.prog 10 #[.int .u64 p, .int .i64 d, .agg #[vf, vx, va, vv]] w fun e w' => e = .returned (.bool true) ∧ Below w.heap.size w w' := by
  have hud : ∀ b : Bool, undef ≠ Value.bool b := fun b h => by cases h
  have hxl := hx.2.1
  have hfl := hf.2.1
  have hyl := hy.2.1
  have hal := ha.2.1
  obtain ⟨Af, cf, rfl⟩ := nums_slice' hf
  obtain ⟨Ax, cx, rfl⟩ := nums_slice' hx
  obtain ⟨Ay, cy, rfl⟩ := nums_slice' hy
  obtain ⟨Aa, ca, rfl, _⟩ := ha.2.2
  have c0 := fun W => refIs_any p W hp
  rw [h0] at c0
  have C0 := Lib.hid c0
  clear c0
  have e1 : decide (d < 0) = false := by rw [decide_eq_false_iff_not]; omega
  have e2 : decide (63 < d) = false := by rw [decide_eq_false_iff_not]; omega
  have e3 : decide ((64 : Int) < (xs.length : Int)) = true := by rw [decide_eq_true_eq]; omega
  have e3n : decide (64 < xs.length) = true := by rw [decide_eq_true_eq]; omega
  have HF := Lib.hid hf
  have HX := Lib.hid hx
  have HA := Lib.hid ha
  have HY := Lib.hid hy
  clear hf hx ha hy
  have hB0 := (balloc w (.cells #[.slice Af f.length cf, .slice Ax xs.length cx, .slice Aa zs.length ca, .slice Ay ys.length cy] 57))
  have hK0 := (kept4 w (w.heap.size) (by simp) (.slice Af f.length cf) (.slice Ax xs.length cx) (.slice Aa zs.length ca) (.slice Ay ys.length cy) 57)
  obtain ⟨w0, hw0⟩ : ∃ w0, (w.alloc (.cells #[.slice Af f.length cf, .slice Ax xs.length cx, .slice Aa zs.length ca, .slice Ay ys.length cy] 57)) = w0 := ⟨_, rfl⟩
  rw [hw0] at hB0 hK0
  have B0 := Lib.hid hB0
  have K0 := Lib.hid hK0
  clear hB0 hK0
  obtain ⟨d0_0, d0_1, d0_2, d0_3⟩ := K0.out.c4
  go_enter Try.func10, Try.ntmps10
  go_wp2_with fail
  clear hw0
  have F_0 := Lib.hid (HF.out.below B0.out)
  have X_0 := Lib.hid (HX.out.below B0.out)
  have A_0 := Lib.hid (HA.out.below B0.out)
  have Y_0 := Lib.hid (HY.out.below B0.out)
  have hK := K0.out
  have hB := B0.out
  try dsimp only [List.append]
  refine wp_region_lex (S := fun W' => W'.cell? ⟨w.heap.size, 0, none⟩ = some (.slice Af f.length cf) ∧ W'.cell? ⟨w.heap.size, 1, none⟩ = some (.slice Ax xs.length cx) ∧ W'.cell? ⟨w.heap.size, 2, none⟩ = some (.slice Aa zs.length ca) ∧ W'.cell? ⟨w.heap.size, 3, none⟩ = some (.slice Ay ys.length cy)) (by kernel_rfl) (by kernel_rfl) (fun _ _ _ _ _ h => h) ?_ ?_
  · (first | exact hK.c4 | go_keep)
  repeat (first
    | (refine LexH.pass (by rfl) ?_; (try simp only [Act.put, List.setIfInBounds_toArray, List.set_cons_zero, List.set_cons_succ]))
    | (refine LexH.yield (v := ?_) (by rfl) ?_ ?_; rotate_left 1; (· intro w hSw; (try dsimp only at hSw); go_simp; try with_reducible rfl); (try simp only [Act.put, List.setIfInBounds_toArray, List.set_cons_zero, List.set_cons_succ]))
    | (refine LexH.alone (by rfl) (by kernel_rfl) (fun K hKK => ?_); go_simp; (first | (go_at_call 29; (with_reducible refine (C0.out _).mono ?_); rintro e w' ⟨rfl, rfl⟩)); go_wp2_with fail; refine hKK.out _ _ ?_ (fun hHeld => ?_); (· (first | exact hK.c4 | go_keep)); clear hKK K hHeld; (try simp only [Act.put, List.setIfInBounds_toArray, List.set_cons_zero, List.set_cons_succ])))
  refine LexH.nil ?_
  clear hK hB
  have hbD : Below w0.heap.size w0 w0.drew := (Below.refl _ _).drew
  obtain ⟨w1, ew1⟩ : ∃ x, w0.drew = x := ⟨_, rfl⟩
  rw [ew1] at hbD ⊢
  clear ew1
  have B1 := Lib.hid (bnext B0.out hbD)
  have K1 := Lib.hid (K0.out.below hbD)
  have F_1 := Lib.hid (F_0.out.below hbD)
  have X_1 := Lib.hid (X_0.out.below hbD)
  have A_1 := Lib.hid (A_0.out.below hbD)
  have Y_1 := Lib.hid (Y_0.out.below hbD)
  clear hbD  d0_0 d0_1 d0_2 d0_3
  obtain ⟨d1_0, d1_1, d1_2, d1_3⟩ := K1.out.c4
  go_wp2_with fail
  refine (alive_any _).mono ?_
  rintro e w2 ⟨rfl, hb2⟩
  have B2 := Lib.hid (bnext B1.out hb2)
  have K2 := Lib.hid (K1.out.below hb2)
  have F_2 := Lib.hid (F_1.out.below hb2)
  have X_2 := Lib.hid (X_1.out.below hb2)
  have A_2 := Lib.hid (A_1.out.below hb2)
  have Y_2 := Lib.hid (Y_1.out.below hb2)
  clear hb2  d1_0 d1_1 d1_2 d1_3
  obtain ⟨d2_0, d2_1, d2_2, d2_3⟩ := K2.out.c4
  go_wp2_with fail
  go_ret
  exact ⟨rfl, B2.out⟩

end Go.Proofs.Ytfgfapbhgehfiaa.decodeRightW
