/-
  The walk of the law DecodeRight: what its arguments may not be.
-/
import Derived.Test.YtfgfapbhgehfiaaDRh
namespace Go.Proofs.Ytfgfapbhgehfiaa.decodeRightW
open Go.RowKit
set_option linter.unusedVariables false
set_option maxRecDepth 100000

set_option maxHeartbeats 4000000 in
theorem bad8 (w : World) (p : Nat) (hp : p < 18446744073709551616) (d : Int) (hd1 : -9223372036854775808 ≤ d) (hd2 : d ≤ 9223372036854775807) (vf vx va vv : Value) (f xs : List Nat) (zs : List Int) (ys : List Nat) (hf : Nums w vf f) (hx : Nums w vx xs) (ha : IntsZ w va zs) (hy : Nums w vv ys) (h0 : M.isP p = true) (h1 : 0 ≤ d) (h2 : d ≤ 63) (h3 : xs.length ≤ 64) (h4 : M.within p xs = true) (h5 : xs.Nodup) (h6 : M.within p f = true) (h7 : ((M.trim f).length : Int) ≤ d + 1) (h8 : M.within p ys = false) :
    Calls Try.prog 10 #[.int .u64 p, .int .i64 d, .agg #[vf, vx, va, vv]] w fun e w' => e = .returned (.bool true) ∧ Below w.heap.size w w' := by
  have hud : ∀ b : Bool, undef ≠ Value.bool b := fun b h => by cases h
  have hxl := hx.2.1
  have hfl := hf.2.1
  have hyl := hy.2.1
  have hal := ha.2.1
  obtain ⟨Af, cf, rfl⟩ := nums_slice' hf
  obtain ⟨Ax, cx, rfl⟩ := nums_slice' hx
  obtain ⟨Ay, cy, rfl⟩ := nums_slice' hy
  obtain ⟨Aa, ca, rfl, _⟩ := ha.2.2
  have c0 := fun W => refIs_any p W hp
  rw [h0] at c0
  have C0 := Lib.hid c0
  clear c0
  have e1 : decide (d < 0) = false := by rw [decide_eq_false_iff_not]; omega
  have e2 : decide (63 < d) = false := by rw [decide_eq_false_iff_not]; omega
  have e3 : decide ((64 : Int) < (xs.length : Int)) = false := by rw [decide_eq_false_iff_not]; omega
  have e3n : decide (64 < xs.length) = false := by rw [decide_eq_false_iff_not]; omega
  have C4 := Lib.hid fun (W : World) (hW : Nums W (.slice Ax xs.length cx) xs) => within_any p _ xs W hW (c := 0) (by rw [h4]; rfl)
  have c5 := fun (W : World) (hW : Nums W (.slice Ax xs.length cx) xs) => twice_any _ xs W hW
  rw [← M.twice_no h5] at c5
  have C5 := Lib.hid c5
  clear c5
  have C6 := Lib.hid fun (W : World) (hW : Nums W (.slice Af f.length cf) f) => within_any p _ f W hW (c := 0) (by rw [h6]; rfl)
  obtain ⟨T7, eT7⟩ : ∃ T, T = M.trim f := ⟨_, rfl⟩
  rw [← eT7] at h7
  have e7w : IntKind.i64.wrap (d + 1) = d + 1 := by rw [IntKind.wrap_i64]; omega
  have e7 : decide (d + 1 < (T7.length : Int)) = false := by rw [decide_eq_false_iff_not]; omega
  have C7 := Lib.hid fun (W : World) (hW : Nums W (.slice Af f.length cf) f) => rtrim_any _ f W hW
  rw [← eT7] at C7
  clear eT7
  have C8 := Lib.hid fun (W : World) (hW : Nums W (.slice Ay ys.length cy) ys) => within_any p _ ys W hW (c := 2) (by rw [h8]; rfl)
  have HF := Lib.hid hf
  have HX := Lib.hid hx
  have HA := Lib.hid ha
  have HY := Lib.hid hy
  clear hf hx ha hy
  have hB0 := (balloc w (.cells #[.slice Af f.length cf, .slice Ax xs.length cx, .slice Aa zs.length ca, .slice Ay ys.length cy] 57))
  have hK0 := (kept4 w (w.heap.size) (by simp) (.slice Af f.length cf) (.slice Ax xs.length cx) (.slice Aa zs.length ca) (.slice Ay ys.length cy) 57)
  obtain ⟨w0, hw0⟩ : ∃ w0, (w.alloc (.cells #[.slice Af f.length cf, .slice Ax xs.length cx, .slice Aa zs.length ca, .slice Ay ys.length cy] 57)) = w0 := ⟨_, rfl⟩
  rw [hw0] at hB0 hK0
  have B0 := Lib.hid hB0
  have K0 := Lib.hid hK0
  clear hB0 hK0
  obtain ⟨d0_0, d0_1, d0_2, d0_3⟩ := K0.out.c4
  go_enter Try.func10, Try.ntmps10
  go_wp2_with fail
  clear hw0
  have F_0 := Lib.hid (HF.out.below B0.out)
  have X_0 := Lib.hid (HX.out.below B0.out)
  have A_0 := Lib.hid (HA.out.below B0.out)
  have Y_0 := Lib.hid (HY.out.below B0.out)
  have hK := K0.out
  have hB := B0.out
  try dsimp only [List.append]
  refine wp_region_lex (S := fun W' => W'.cell? ⟨w.heap.size, 0, none⟩ = some (.slice Af f.length cf) ∧ W'.cell? ⟨w.heap.size, 1, none⟩ = some (.slice Ax xs.length cx) ∧ W'.cell? ⟨w.heap.size, 2, none⟩ = some (.slice Aa zs.length ca) ∧ W'.cell? ⟨w.heap.size, 3, none⟩ = some (.slice Ay ys.length cy)) (by kernel_rfl) (by kernel_rfl) (fun _ _ _ _ _ h => h) ?_ ?_
  · (first | exact q2.c4 | exact q1.c4 | exact hK.c4 | go_keep)
  repeat (first
    | (refine LexH.pass (by rfl) ?_; (try simp only [Act.put, List.setIfInBounds_toArray, List.set_cons_zero, List.set_cons_succ]))
    | (refine LexH.yield (v := ?_) (by rfl) ?_ ?_; rotate_left 1; (· intro w hSw; (try dsimp only at hSw); go_simp; try with_reducible rfl); (try simp only [Act.put, List.setIfInBounds_toArray, List.set_cons_zero, List.set_cons_succ]))
    | (refine LexH.late (v2 := ?_) (v3 := ?_) (by kernel_rfl) (by rfl) ?_ (by rfl) ?_ (by rfl) ?_; rotate_left 2; (· intro w hSw; (try dsimp only at hSw); (try simp only [Act.put, List.setIfInBounds_toArray, List.set_cons_zero, List.set_cons_succ]); go_simp; try with_reducible rfl); (· intro w hSw; (try dsimp only at hSw); (try simp only [Act.put, List.setIfInBounds_toArray, List.set_cons_zero, List.set_cons_succ]); go_simp; try with_reducible rfl); intro K hKK; (try simp only [Act.put, List.setIfInBounds_toArray, List.set_cons_zero, List.set_cons_succ]); go_simp; (go_at_call 32; (with_reducible refine (C7.out _ (F1)).mono ?_); rintro e w2 ⟨v7, rfl, hT, hb2⟩; have q2 := Kept.below q1 hb2; have r2 := bnext r1 hb2; have F2 := (F1).below hb2; have X2 := (X1).below hb2; have A2 := (A1).below hb2; have Y2 := (Y1).below hb2; obtain ⟨At, ct, rfl⟩ := nums_slice' hT); go_wp2_with fail; refine hKK.out _ _ ?_ (fun hHeld => ?_); (· (first | exact q2.c4 | exact q1.c4 | exact hK.c4 | go_keep)); clear hKK K hHeld; refine LexO.yield (v := ?_) (by rfl) ?_ ?_; rotate_left 1; (· intro w hSw; (try dsimp only at hSw); (try simp only [Act.put, List.setIfInBounds_toArray, List.set_cons_zero, List.set_cons_succ]); go_simp; try with_reducible rfl); (try simp only [Act.put, List.setIfInBounds_toArray, List.set_cons_zero, List.set_cons_succ]))
    | (refine LexH.alone (by rfl) (by kernel_rfl) (fun K hKK => ?_); go_simp; (first | (go_at_call 30; (with_reducible refine (C8.out _ (Y2)).mono ?_); rintro e w' ⟨rfl, rfl⟩) | (go_at_call 30; (with_reducible refine (C6.out _ (F1)).mono ?_); rintro e w' ⟨rfl, rfl⟩) | (go_at_call 31; (with_reducible refine (C5.out _ ((X_0.out).below (Below.refl _ _).drew)).mono ?_); rintro e w1 ⟨rfl, hb1⟩; have q1 := Kept.below hK (below_of_drew hb1); have r1 := bnext hB (below_of_drew hb1); have F1 := (F_0.out).below (below_of_drew hb1); have X1 := (X_0.out).below (below_of_drew hb1); have A1 := (A_0.out).below (below_of_drew hb1); have Y1 := (Y_0.out).below (below_of_drew hb1)) | (go_at_call 30; (with_reducible refine (C4.out _ ((X_0.out).below (Below.refl _ _).drew)).mono ?_); rintro e w' ⟨rfl, rfl⟩) | (go_at_call 29; (with_reducible refine (C0.out _).mono ?_); rintro e w' ⟨rfl, rfl⟩)); go_wp2_with fail; refine hKK.out _ _ ?_ (fun hHeld => ?_); (· (first | exact q2.c4 | exact q1.c4 | exact hK.c4 | go_keep)); clear hKK K hHeld; (try simp only [Act.put, List.setIfInBounds_toArray, List.set_cons_zero, List.set_cons_succ])))
  refine LexH.nil ?_
  have B2 := Lib.hid r2
  have K2 := Lib.hid q2
  have F_2 := Lib.hid (F2)
  have X_2 := Lib.hid (X2)
  have A_2 := Lib.hid (A2)
  have Y_2 := Lib.hid (Y2)
  have T_2 := Lib.hid (hT)
  clear hK hB d0_0 d0_1 d0_2 d0_3 hb1 q1 r1 hb2 q2 r2
  obtain ⟨d2_0, d2_1, d2_2, d2_3⟩ := K2.out.c4
  go_wp2_with fail
  refine (alive_any _).mono ?_
  rintro e w3 ⟨rfl, hb3⟩
  have B3 := Lib.hid (bnext B2.out hb3)
  have K3 := Lib.hid (K2.out.below hb3)
  have F_3 := Lib.hid (F_2.out.below hb3)
  have X_3 := Lib.hid (X_2.out.below hb3)
  have A_3 := Lib.hid (A_2.out.below hb3)
  have Y_3 := Lib.hid (Y_2.out.below hb3)
  have T_3 := Lib.hid (T_2.out.below hb3)
  clear hb3  d2_0 d2_1 d2_2 d2_3
  obtain ⟨d3_0, d3_1, d3_2, d3_3⟩ := K3.out.c4
  go_wp2_with fail
  go_ret
  exact ⟨rfl, B3.out⟩

set_option maxHeartbeats 4000000 in
theorem bad9 (w : World) (p : Nat) (hp : p < 18446744073709551616) (d : Int) (hd1 : -9223372036854775808 ≤ d) (hd2 : d ≤ 9223372036854775807) (vf vx va vv : Value) (f xs : List Nat) (zs : List Int) (ys : List Nat) (hf : Nums w vf f) (hx : Nums w vx xs) (ha : IntsZ w va zs) (hy : Nums w vv ys) (h0 : M.isP p = true) (h1 : 0 ≤ d) (h2 : d ≤ 63) (h3 : xs.length ≤ 64) (h4 : M.within p xs = true) (h5 : xs.Nodup) (h6 : M.within p f = true) (h7 : ((M.trim f).length : Int) ≤ d + 1) (h8 : M.within p ys = true) (h9 : zs.length ≠ ys.length) :
    Calls Try.prog 10 #[.int .u64 p, .int .i64 d, .agg #[vf, vx, va, vv]] w fun e w' => e = .returned (.bool true) ∧ Below w.heap.size w w' := by
  have hud : ∀ b : Bool, undef ≠ Value.bool b := fun b h => by cases h
  have hxl := hx.2.1
  have hfl := hf.2.1
  have hyl := hy.2.1
  have hal := ha.2.1
  obtain ⟨Af, cf, rfl⟩ := nums_slice' hf
  obtain ⟨Ax, cx, rfl⟩ := nums_slice' hx
  obtain ⟨Ay, cy, rfl⟩ := nums_slice' hy
  obtain ⟨Aa, ca, rfl, _⟩ := ha.2.2
  have c0 := fun W => refIs_any p W hp
  rw [h0] at c0
  have C0 := Lib.hid c0
  clear c0
  have e1 : decide (d < 0) = false := by rw [decide_eq_false_iff_not]; omega
  have e2 : decide (63 < d) = false := by rw [decide_eq_false_iff_not]; omega
  have e3 : decide ((64 : Int) < (xs.length : Int)) = false := by rw [decide_eq_false_iff_not]; omega
  have e3n : decide (64 < xs.length) = false := by rw [decide_eq_false_iff_not]; omega
  have C4 := Lib.hid fun (W : World) (hW : Nums W (.slice Ax xs.length cx) xs) => within_any p _ xs W hW (c := 0) (by rw [h4]; rfl)
  have c5 := fun (W : World) (hW : Nums W (.slice Ax xs.length cx) xs) => twice_any _ xs W hW
  rw [← M.twice_no h5] at c5
  have C5 := Lib.hid c5
  clear c5
  have C6 := Lib.hid fun (W : World) (hW : Nums W (.slice Af f.length cf) f) => within_any p _ f W hW (c := 0) (by rw [h6]; rfl)
  obtain ⟨T7, eT7⟩ : ∃ T, T = M.trim f := ⟨_, rfl⟩
  rw [← eT7] at h7
  have e7w : IntKind.i64.wrap (d + 1) = d + 1 := by rw [IntKind.wrap_i64]; omega
  have e7 : decide (d + 1 < (T7.length : Int)) = false := by rw [decide_eq_false_iff_not]; omega
  have C7 := Lib.hid fun (W : World) (hW : Nums W (.slice Af f.length cf) f) => rtrim_any _ f W hW
  rw [← eT7] at C7
  clear eT7
  have C8 := Lib.hid fun (W : World) (hW : Nums W (.slice Ay ys.length cy) ys) => within_any p _ ys W hW (c := 0) (by rw [h8]; rfl)
  have e9 : ((zs.length : Int) != (ys.length : Int)) = true := by rw [bne_iff_ne]; intro e; exact h9 (Int.ofNat.inj e)
  have e9b : ¬ (zs.length : Int) = (ys.length : Int) := fun e => h9 (Int.ofNat.inj e)
  have HF := Lib.hid hf
  have HX := Lib.hid hx
  have HA := Lib.hid ha
  have HY := Lib.hid hy
  clear hf hx ha hy
  have hB0 := (balloc w (.cells #[.slice Af f.length cf, .slice Ax xs.length cx, .slice Aa zs.length ca, .slice Ay ys.length cy] 57))
  have hK0 := (kept4 w (w.heap.size) (by simp) (.slice Af f.length cf) (.slice Ax xs.length cx) (.slice Aa zs.length ca) (.slice Ay ys.length cy) 57)
  obtain ⟨w0, hw0⟩ : ∃ w0, (w.alloc (.cells #[.slice Af f.length cf, .slice Ax xs.length cx, .slice Aa zs.length ca, .slice Ay ys.length cy] 57)) = w0 := ⟨_, rfl⟩
  rw [hw0] at hB0 hK0
  have B0 := Lib.hid hB0
  have K0 := Lib.hid hK0
  clear hB0 hK0
  obtain ⟨d0_0, d0_1, d0_2, d0_3⟩ := K0.out.c4
  go_enter Try.func10, Try.ntmps10
  go_wp2_with fail
  clear hw0
  have F_0 := Lib.hid (HF.out.below B0.out)
  have X_0 := Lib.hid (HX.out.below B0.out)
  have A_0 := Lib.hid (HA.out.below B0.out)
  have Y_0 := Lib.hid (HY.out.below B0.out)
  have hK := K0.out
  have hB := B0.out
  try dsimp only [List.append]
  refine wp_region_lex (S := fun W' => W'.cell? ⟨w.heap.size, 0, none⟩ = some (.slice Af f.length cf) ∧ W'.cell? ⟨w.heap.size, 1, none⟩ = some (.slice Ax xs.length cx) ∧ W'.cell? ⟨w.heap.size, 2, none⟩ = some (.slice Aa zs.length ca) ∧ W'.cell? ⟨w.heap.size, 3, none⟩ = some (.slice Ay ys.length cy)) (by kernel_rfl) (by kernel_rfl) (fun _ _ _ _ _ h => h) ?_ ?_
  · (first | exact q2.c4 | exact q1.c4 | exact hK.c4 | go_keep)
  repeat (first
    | (refine LexH.pass (by rfl) ?_; (try simp only [Act.put, List.setIfInBounds_toArray, List.set_cons_zero, List.set_cons_succ]))
    | (refine LexH.yield (v := ?_) (by rfl) ?_ ?_; rotate_left 1; (· intro w hSw; (try dsimp only at hSw); go_simp; try with_reducible rfl); (try simp only [Act.put, List.setIfInBounds_toArray, List.set_cons_zero, List.set_cons_succ]))
    | (refine LexH.late (v2 := ?_) (v3 := ?_) (by kernel_rfl) (by rfl) ?_ (by rfl) ?_ (by rfl) ?_; rotate_left 2; (· intro w hSw; (try dsimp only at hSw); (try simp only [Act.put, List.setIfInBounds_toArray, List.set_cons_zero, List.set_cons_succ]); go_simp; try with_reducible rfl); (· intro w hSw; (try dsimp only at hSw); (try simp only [Act.put, List.setIfInBounds_toArray, List.set_cons_zero, List.set_cons_succ]); go_simp; try with_reducible rfl); intro K hKK; (try simp only [Act.put, List.setIfInBounds_toArray, List.set_cons_zero, List.set_cons_succ]); go_simp; (go_at_call 32; (with_reducible refine (C7.out _ (F1)).mono ?_); rintro e w2 ⟨v7, rfl, hT, hb2⟩; have q2 := Kept.below q1 hb2; have r2 := bnext r1 hb2; have F2 := (F1).below hb2; have X2 := (X1).below hb2; have A2 := (A1).below hb2; have Y2 := (Y1).below hb2; obtain ⟨At, ct, rfl⟩ := nums_slice' hT); go_wp2_with fail; refine hKK.out _ _ ?_ (fun hHeld => ?_); (· (first | exact q2.c4 | exact q1.c4 | exact hK.c4 | go_keep)); clear hKK K hHeld; refine LexO.yield (v := ?_) (by rfl) ?_ ?_; rotate_left 1; (· intro w hSw; (try dsimp only at hSw); (try simp only [Act.put, List.setIfInBounds_toArray, List.set_cons_zero, List.set_cons_succ]); go_simp; try with_reducible rfl); (try simp only [Act.put, List.setIfInBounds_toArray, List.set_cons_zero, List.set_cons_succ]))
    | (refine LexH.alone (by rfl) (by kernel_rfl) (fun K hKK => ?_); go_simp; (first | (go_at_call 30; (with_reducible refine (C8.out _ (Y2)).mono ?_); rintro e w' ⟨rfl, rfl⟩) | (go_at_call 30; (with_reducible refine (C6.out _ (F1)).mono ?_); rintro e w' ⟨rfl, rfl⟩) | (go_at_call 31; (with_reducible refine (C5.out _ ((X_0.out).below (Below.refl _ _).drew)).mono ?_); rintro e w1 ⟨rfl, hb1⟩; have q1 := Kept.below hK (below_of_drew hb1); have r1 := bnext hB (below_of_drew hb1); have F1 := (F_0.out).below (below_of_drew hb1); have X1 := (X_0.out).below (below_of_drew hb1); have A1 := (A_0.out).below (below_of_drew hb1); have Y1 := (Y_0.out).below (below_of_drew hb1)) | (go_at_call 30; (with_reducible refine (C4.out _ ((X_0.out).below (Below.refl _ _).drew)).mono ?_); rintro e w' ⟨rfl, rfl⟩) | (go_at_call 29; (with_reducible refine (C0.out _).mono ?_); rintro e w' ⟨rfl, rfl⟩)); go_wp2_with fail; refine hKK.out _ _ ?_ (fun hHeld => ?_); (· (first | exact q2.c4 | exact q1.c4 | exact hK.c4 | go_keep)); clear hKK K hHeld; (try simp only [Act.put, List.setIfInBounds_toArray, List.set_cons_zero, List.set_cons_succ])))
  refine LexH.nil ?_
  have B2 := Lib.hid r2
  have K2 := Lib.hid q2
  have F_2 := Lib.hid (F2)
  have X_2 := Lib.hid (X2)
  have A_2 := Lib.hid (A2)
  have Y_2 := Lib.hid (Y2)
  have T_2 := Lib.hid (hT)
  clear hK hB d0_0 d0_1 d0_2 d0_3 hb1 q1 r1 hb2 q2 r2
  obtain ⟨d2_0, d2_1, d2_2, d2_3⟩ := K2.out.c4
  go_wp2_with fail
  refine (alive_any _).mono ?_
  rintro e w3 ⟨rfl, hb3⟩
  have B3 := Lib.hid (bnext B2.out hb3)
  have K3 := Lib.hid (K2.out.below hb3)
  have F_3 := Lib.hid (F_2.out.below hb3)
  have X_3 := Lib.hid (X_2.out.below hb3)
  have A_3 := Lib.hid (A_2.out.below hb3)
  have Y_3 := Lib.hid (Y_2.out.below hb3)
  have T_3 := Lib.hid (T_2.out.below hb3)
  clear hb3  d2_0 d2_1 d2_2 d2_3
  obtain ⟨d3_0, d3_1, d3_2, d3_3⟩ := K3.out.c4
  go_wp2_with fail
  go_ret
  exact ⟨rfl, B3.out⟩

set_option maxHeartbeats 4000000 in
theorem bad10 (w : World) (p : Nat) (hp : p < 18446744073709551616) (d : Int) (hd1 : -9223372036854775808 ≤ d) (hd2 : d ≤ 9223372036854775807) (vf vx va vv : Value) (f xs : List Nat) (zs : List Int) (ys : List Nat) (hf : Nums w vf f) (hx : Nums w vx xs) (ha : IntsZ w va zs) (hy : Nums w vv ys) (h0 : M.isP p = true) (h1 : 0 ≤ d) (h2 : d ≤ 63) (h3 : xs.length ≤ 64) (h4 : M.within p xs = true) (h5 : xs.Nodup) (h6 : M.within p f = true) (h7 : ((M.trim f).length : Int) ≤ d + 1) (h8 : M.within p ys = true) (h9 : zs.length = ys.length) (h10 : M.most xs.length d < (zs.length : Int)) :
    Calls Try.prog 10 #[.int .u64 p, .int .i64 d, .agg #[vf, vx, va, vv]] w fun e w' => e = .returned (.bool true) ∧ Below w.heap.size w w' := by
  have hud : ∀ b : Bool, undef ≠ Value.bool b := fun b h => by cases h
  have hxl := hx.2.1
  have hfl := hf.2.1
  have hyl := hy.2.1
  have hal := ha.2.1
  obtain ⟨Af, cf, rfl⟩ := nums_slice' hf
  obtain ⟨Ax, cx, rfl⟩ := nums_slice' hx
  obtain ⟨Ay, cy, rfl⟩ := nums_slice' hy
  obtain ⟨Aa, ca, rfl, _⟩ := ha.2.2
  have c0 := fun W => refIs_any p W hp
  rw [h0] at c0
  have C0 := Lib.hid c0
  clear c0
  have e1 : decide (d < 0) = false := by rw [decide_eq_false_iff_not]; omega
  have e2 : decide (63 < d) = false := by rw [decide_eq_false_iff_not]; omega
  have e3 : decide ((64 : Int) < (xs.length : Int)) = false := by rw [decide_eq_false_iff_not]; omega
  have e3n : decide (64 < xs.length) = false := by rw [decide_eq_false_iff_not]; omega
  have C4 := Lib.hid fun (W : World) (hW : Nums W (.slice Ax xs.length cx) xs) => within_any p _ xs W hW (c := 0) (by rw [h4]; rfl)
  have c5 := fun (W : World) (hW : Nums W (.slice Ax xs.length cx) xs) => twice_any _ xs W hW
  rw [← M.twice_no h5] at c5
  have C5 := Lib.hid c5
  clear c5
  have C6 := Lib.hid fun (W : World) (hW : Nums W (.slice Af f.length cf) f) => within_any p _ f W hW (c := 0) (by rw [h6]; rfl)
  obtain ⟨T7, eT7⟩ : ∃ T, T = M.trim f := ⟨_, rfl⟩
  rw [← eT7] at h7
  have e7w : IntKind.i64.wrap (d + 1) = d + 1 := by rw [IntKind.wrap_i64]; omega
  have e7 : decide (d + 1 < (T7.length : Int)) = false := by rw [decide_eq_false_iff_not]; omega
  have C7 := Lib.hid fun (W : World) (hW : Nums W (.slice Af f.length cf) f) => rtrim_any _ f W hW
  rw [← eT7] at C7
  clear eT7
  have C8 := Lib.hid fun (W : World) (hW : Nums W (.slice Ay ys.length cy) ys) => within_any p _ ys W hW (c := 0) (by rw [h8]; rfl)
  have e9 : ((zs.length : Int) != (ys.length : Int)) = false := by rw [h9]; simp
  clear h9
  have c10 := fun W => rmost_any xs.length d W (by omega) (by omega) (by omega) (by omega)
  obtain ⟨m, em⟩ : ∃ m, m = M.most xs.length d := ⟨_, rfl⟩
  rw [← em] at c10 h10
  have C10 := Lib.hid c10
  clear c10 em
  have e10 : decide (m < (zs.length : Int)) = true := by rw [decide_eq_true_eq]; omega
  have HF := Lib.hid hf
  have HX := Lib.hid hx
  have HA := Lib.hid ha
  have HY := Lib.hid hy
  clear hf hx ha hy
  have hB0 := (balloc w (.cells #[.slice Af f.length cf, .slice Ax xs.length cx, .slice Aa zs.length ca, .slice Ay ys.length cy] 57))
  have hK0 := (kept4 w (w.heap.size) (by simp) (.slice Af f.length cf) (.slice Ax xs.length cx) (.slice Aa zs.length ca) (.slice Ay ys.length cy) 57)
  obtain ⟨w0, hw0⟩ : ∃ w0, (w.alloc (.cells #[.slice Af f.length cf, .slice Ax xs.length cx, .slice Aa zs.length ca, .slice Ay ys.length cy] 57)) = w0 := ⟨_, rfl⟩
  rw [hw0] at hB0 hK0
  have B0 := Lib.hid hB0
  have K0 := Lib.hid hK0
  clear hB0 hK0
  obtain ⟨d0_0, d0_1, d0_2, d0_3⟩ := K0.out.c4
  go_enter Try.func10, Try.ntmps10
  go_wp2_with fail
  clear hw0
  have F_0 := Lib.hid (HF.out.below B0.out)
  have X_0 := Lib.hid (HX.out.below B0.out)
  have A_0 := Lib.hid (HA.out.below B0.out)
  have Y_0 := Lib.hid (HY.out.below B0.out)
  have hK := K0.out
  have hB := B0.out
  try dsimp only [List.append]
  refine wp_region_lex (S := fun W' => W'.cell? ⟨w.heap.size, 0, none⟩ = some (.slice Af f.length cf) ∧ W'.cell? ⟨w.heap.size, 1, none⟩ = some (.slice Ax xs.length cx) ∧ W'.cell? ⟨w.heap.size, 2, none⟩ = some (.slice Aa zs.length ca) ∧ W'.cell? ⟨w.heap.size, 3, none⟩ = some (.slice Ay ys.length cy)) (by kernel_rfl) (by kernel_rfl) (fun _ _ _ _ _ h => h) ?_ ?_
  · (first | exact q2.c4 | exact q1.c4 | exact hK.c4 | go_keep)
  repeat (first
    | (refine LexH.pass (by rfl) ?_; (try simp only [Act.put, List.setIfInBounds_toArray, List.set_cons_zero, List.set_cons_succ]))
    | (refine LexH.yield (v := ?_) (by rfl) ?_ ?_; rotate_left 1; (· intro w hSw; (try dsimp only at hSw); go_simp; try with_reducible rfl); (try simp only [Act.put, List.setIfInBounds_toArray, List.set_cons_zero, List.set_cons_succ]))
    | (refine LexH.late (v2 := ?_) (v3 := ?_) (by kernel_rfl) (by rfl) ?_ (by rfl) ?_ (by rfl) ?_; rotate_left 2; (· intro w hSw; (try dsimp only at hSw); (try simp only [Act.put, List.setIfInBounds_toArray, List.set_cons_zero, List.set_cons_succ]); go_simp; try with_reducible rfl); (· intro w hSw; (try dsimp only at hSw); (try simp only [Act.put, List.setIfInBounds_toArray, List.set_cons_zero, List.set_cons_succ]); go_simp; try with_reducible rfl); intro K hKK; (try simp only [Act.put, List.setIfInBounds_toArray, List.set_cons_zero, List.set_cons_succ]); go_simp; (go_at_call 32; (with_reducible refine (C7.out _ (F1)).mono ?_); rintro e w2 ⟨v7, rfl, hT, hb2⟩; have q2 := Kept.below q1 hb2; have r2 := bnext r1 hb2; have F2 := (F1).below hb2; have X2 := (X1).below hb2; have A2 := (A1).below hb2; have Y2 := (Y1).below hb2; obtain ⟨At, ct, rfl⟩ := nums_slice' hT); go_wp2_with fail; refine hKK.out _ _ ?_ (fun hHeld => ?_); (· (first | exact q2.c4 | exact q1.c4 | exact hK.c4 | go_keep)); clear hKK K hHeld; refine LexO.yield (v := ?_) (by rfl) ?_ ?_; rotate_left 1; (· intro w hSw; (try dsimp only at hSw); (try simp only [Act.put, List.setIfInBounds_toArray, List.set_cons_zero, List.set_cons_succ]); go_simp; try with_reducible rfl); (try simp only [Act.put, List.setIfInBounds_toArray, List.set_cons_zero, List.set_cons_succ]))
    | (refine LexH.alone (by rfl) (by kernel_rfl) (fun K hKK => ?_); go_simp; (first | (go_at_call 16; (with_reducible refine (C10.out _).mono ?_); rintro e w' ⟨rfl, rfl⟩) | (go_at_call 30; (with_reducible refine (C8.out _ (Y2)).mono ?_); rintro e w' ⟨rfl, rfl⟩) | (go_at_call 30; (with_reducible refine (C6.out _ (F1)).mono ?_); rintro e w' ⟨rfl, rfl⟩) | (go_at_call 31; (with_reducible refine (C5.out _ ((X_0.out).below (Below.refl _ _).drew)).mono ?_); rintro e w1 ⟨rfl, hb1⟩; have q1 := Kept.below hK (below_of_drew hb1); have r1 := bnext hB (below_of_drew hb1); have F1 := (F_0.out).below (below_of_drew hb1); have X1 := (X_0.out).below (below_of_drew hb1); have A1 := (A_0.out).below (below_of_drew hb1); have Y1 := (Y_0.out).below (below_of_drew hb1)) | (go_at_call 30; (with_reducible refine (C4.out _ ((X_0.out).below (Below.refl _ _).drew)).mono ?_); rintro e w' ⟨rfl, rfl⟩) | (go_at_call 29; (with_reducible refine (C0.out _).mono ?_); rintro e w' ⟨rfl, rfl⟩)); go_wp2_with fail; refine hKK.out _ _ ?_ (fun hHeld => ?_); (· (first | exact q2.c4 | exact q1.c4 | exact hK.c4 | go_keep)); clear hKK K hHeld; (try simp only [Act.put, List.setIfInBounds_toArray, List.set_cons_zero, List.set_cons_succ])))
  refine LexH.nil ?_
  have B2 := Lib.hid r2
  have K2 := Lib.hid q2
  have F_2 := Lib.hid (F2)
  have X_2 := Lib.hid (X2)
  have A_2 := Lib.hid (A2)
  have Y_2 := Lib.hid (Y2)
  have T_2 := Lib.hid (hT)
  clear hK hB d0_0 d0_1 d0_2 d0_3 hb1 q1 r1 hb2 q2 r2
  obtain ⟨d2_0, d2_1, d2_2, d2_3⟩ := K2.out.c4
  go_wp2_with fail
  refine (alive_any _).mono ?_
  rintro e w3 ⟨rfl, hb3⟩
  have B3 := Lib.hid (bnext B2.out hb3)
  have K3 := Lib.hid (K2.out.below hb3)
  have F_3 := Lib.hid (F_2.out.below hb3)
  have X_3 := Lib.hid (X_2.out.below hb3)
  have A_3 := Lib.hid (A_2.out.below hb3)
  have Y_3 := Lib.hid (Y_2.out.below hb3)
  have T_3 := Lib.hid (T_2.out.below hb3)
  clear hb3  d2_0 d2_1 d2_2 d2_3
  obtain ⟨d3_0, d3_1, d3_2, d3_3⟩ := K3.out.c4
  go_wp2_with fail
  go_ret
  exact ⟨rfl, B3.out⟩

end Go.Proofs.Ytfgfapbhgehfiaa.decodeRightW
