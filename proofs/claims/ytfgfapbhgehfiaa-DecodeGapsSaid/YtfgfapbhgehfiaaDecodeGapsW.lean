/-
  The walk of the law DecodeGaps.
-/
import Derived.Test.YtfgfapbhgehfiaaG3
namespace Go.Proofs.Ytfgfapbhgehfiaa.decodeGapsW
open Go.RowKit
set_option linter.unusedVariables false
set_option maxRecDepth 100000

set_option maxHeartbeats 1000000 in
theorem bad1 (w : World) (p : Nat) (hp : p < 18446744073709551616) (d : Int) (hd1 : -9223372036854775808 ≤ d) (hd2 : d ≤ 9223372036854775807) (v vb : Value) (xs ys : List Nat) (bs : List Bool) (hv : Pts w v xs ys) (hb : Bools w vb bs) (h : M.dchk p d xs ys ≠ 0) :
    Calls Try.prog 7 #[.int .u64 p, .int .i64 d, .agg #[v, vb]] w fun e w' => e = .returned (.bool true) ∧ Below w.heap.size w w' := by
  have hud : ∀ b : Bool, undef ≠ Value.bool b := fun b h => by cases h
  have h1 := fun W (hW : Pts W v xs ys) (hC : Bools W vb bs) => gaps_chk p d v vb xs ys bs W hp hW hC h
  have h2 := fun W (hW : Pts W v xs ys) => rcheck_any p d v xs ys W hp hW
  obtain ⟨c, ec⟩ : ∃ c, c = M.dchk p d xs ys := ⟨_, rfl⟩
  rw [← ec] at h1 h2 h
  have H1 := Lib.hid h1
  have H2 := Lib.hid h2
  have HV := Lib.hid hv
  have HB := Lib.hid hb
  have hcc : (c == c) = true := by simp
  have hc0 : (c == 0) = false := by rw [beq_eq_false_iff_ne]; exact h
  have hc1 : (c != 0) = true := by rw [bne_iff_ne]; exact h
  obtain ⟨A, cap, rfl, _⟩ := hv.2.2.2.2
  obtain ⟨Ab, cb, rfl, _⟩ := hb.2
  clear h1 h2 ec hv hb
  have hB0 := (balloc w (.cells #[.slice A xs.length cap, .slice Ab bs.length cb] 44))
  have hK0 := (kept2 w (w.heap.size) (by simp) (.slice A xs.length cap) (.slice Ab bs.length cb) 44)
  obtain ⟨w0, hw0⟩ : ∃ w0, (w.alloc (.cells #[.slice A xs.length cap, .slice Ab bs.length cb] 44)) = w0 := ⟨_, rfl⟩
  rw [hw0] at hB0 hK0
  have B0 := Lib.hid hB0
  have K0 := Lib.hid hK0
  clear hB0 hK0
  obtain ⟨d0_0, d0_1⟩ := K0.out.c2
  go_enter Try.func7, Try.ntmps7
  go_wp2_with fail
  clear hw0
  have V_0 := Lib.hid (HV.out.below B0.out)
  have C_0 := Lib.hid (HB.out.below B0.out)
  refine (H1.out _ V_0.out C_0.out).mono ?_
  rintro e w1 ⟨rfl, hb1⟩
  have B1 := Lib.hid (bnext B0.out hb1)
  have K1 := Lib.hid (K0.out.below hb1)
  have V_1 := Lib.hid (V_0.out.below hb1)
  have C_1 := Lib.hid (C_0.out.below hb1)
  clear hb1  d0_0 d0_1
  obtain ⟨d1_0, d1_1⟩ := K1.out.c2
  have hBx := bnext B1.out (balloc w1 (.cells #[.slice none 0 0, .slice none 0 0, .int .i64 c] 36))
  have hKx := ((K1.out).alloc _).app (kept3 w1 w1.heap.size rfl (.slice none 0 0) (.slice none 0 0) (.int .i64 c) 36)
  obtain ⟨tb2, etb2⟩ : ∃ b, b = w1.heap.size := ⟨_, rfl⟩
  have hsub2 := balloc w1 (.cells #[.slice none 0 0, .slice none 0 0, .int .i64 c] 36)
  have hV_2 := V_1.out.below hsub2
  have hC_2 := C_1.out.below hsub2
  obtain ⟨w2, ew2⟩ : ∃ x, w1.alloc (.cells #[.slice none 0 0, .slice none 0 0, .int .i64 c] 36) = x := ⟨_, rfl⟩
  rw [ew2] at hBx hKx hV_2 hC_2
  rw [← etb2] at hKx
  have B2 := Lib.hid hBx
  have K2 := Lib.hid hKx
  have HEW2 := Lib.hid ew2
  have HET2 := Lib.hid etb2
  have V_2 := Lib.hid hV_2
  have C_2 := Lib.hid hC_2
  clear hBx hKx hsub2 ew2 etb2 hV_2 hC_2
  have hlt2 : w.heap.size < w1.heap.size := (K1.out (⟨w.heap.size, 0, none⟩, (.slice A xs.length cap)) (by simp)).1
  have hnf2 : w.heap.size ≠ w1.heap.size := Nat.ne_of_lt hlt2
  have hng2 : w1.heap.size ≠ w.heap.size := (Nat.ne_of_lt hlt2).symm
  go_wp2_with fail
  rw [HEW2.out]
  try simp only [← HET2.out]
  obtain ⟨d2_0, d2_1, d2_2, d2_3, d2_4⟩ := K2.out.c5
  refine (H2.out _ V_2.out).mono ?_
  rintro e w3 ⟨rfl, hb3⟩
  have B3 := Lib.hid (bnext B2.out hb3)
  have K3 := Lib.hid (K2.out.below hb3)
  have V_3 := Lib.hid (V_2.out.below hb3)
  have C_3 := Lib.hid (C_2.out.below hb3)
  clear hb3  d2_0 d2_1 d2_2 d2_3 d2_4
  obtain ⟨d3_0, d3_1, d3_2, d3_3, d3_4⟩ := K3.out.c5
  go_wp2_with fail
  refine (tbad_any c _).mono ?_
  rintro e w4 ⟨rfl, hb4⟩
  have B4 := Lib.hid (bnext B3.out hb4)
  have K4 := Lib.hid (K3.out.below hb4)
  have V_4 := Lib.hid (V_3.out.below hb4)
  have C_4 := Lib.hid (C_3.out.below hb4)
  clear hb4  d3_0 d3_1 d3_2 d3_3 d3_4
  obtain ⟨d4_0, d4_1, d4_2, d4_3, d4_4⟩ := K4.out.c5
  go_wp2_with fail
  refine (alive_any _).mono ?_
  rintro e w5 ⟨rfl, hb5⟩
  have B5 := Lib.hid (bnext B4.out hb5)
  have K5 := Lib.hid (K4.out.below hb5)
  have V_5 := Lib.hid (V_4.out.below hb5)
  have C_5 := Lib.hid (C_4.out.below hb5)
  clear hb5  d4_0 d4_1 d4_2 d4_3 d4_4
  obtain ⟨d5_0, d5_1, d5_2, d5_3, d5_4⟩ := K5.out.c5
  go_wp2_with fail
  go_ret
  exact ⟨rfl, B5.out⟩

set_option maxHeartbeats 1000000 in
theorem bad2 (w : World) (p : Nat) (hp : p < 18446744073709551616) (d : Int) (hd1 : -9223372036854775808 ≤ d) (hd2 : d ≤ 9223372036854775807) (v vb : Value) (xs ys : List Nat) (bs : List Bool) (hv : Pts w v xs ys) (hb : Bools w vb bs) (h : M.dchk p d xs ys = 0) (hne : bs.length ≠ xs.length) :
    Calls Try.prog 7 #[.int .u64 p, .int .i64 d, .agg #[v, vb]] w fun e w' => e = .returned (.bool true) ∧ Below w.heap.size w w' := by
  have hud : ∀ b : Bool, undef ≠ Value.bool b := fun b h => by cases h
  have h1 := fun W (hW : Pts W v xs ys) (hC : Bools W vb bs) => gaps_len p d v vb xs ys bs W hp hW hC h hne
  have h2 := fun W (hW : Pts W v xs ys) => rcheck_any p d v xs ys W hp hW
  rw [h] at h2
  have hne2 : ¬ (bs.length : Int) = (xs.length : Int) := fun e => hne (Int.ofNat.inj e)
  have hne3 : ((bs.length : Int) != (xs.length : Int)) = true := by rw [bne_iff_ne]; exact hne2
  have H1 := Lib.hid h1
  have H2 := Lib.hid h2
  have HV := Lib.hid hv
  have HB := Lib.hid hb
  obtain ⟨A, cap, rfl, _⟩ := hv.2.2.2.2
  obtain ⟨Ab, cb, rfl, _⟩ := hb.2
  clear h1 h2 hv hb h
  have hB0 := (balloc w (.cells #[.slice A xs.length cap, .slice Ab bs.length cb] 44))
  have hK0 := (kept2 w (w.heap.size) (by simp) (.slice A xs.length cap) (.slice Ab bs.length cb) 44)
  obtain ⟨w0, hw0⟩ : ∃ w0, (w.alloc (.cells #[.slice A xs.length cap, .slice Ab bs.length cb] 44)) = w0 := ⟨_, rfl⟩
  rw [hw0] at hB0 hK0
  have B0 := Lib.hid hB0
  have K0 := Lib.hid hK0
  clear hB0 hK0
  obtain ⟨d0_0, d0_1⟩ := K0.out.c2
  go_enter Try.func7, Try.ntmps7
  go_wp2_with fail
  clear hw0
  have V_0 := Lib.hid (HV.out.below B0.out)
  have C_0 := Lib.hid (HB.out.below B0.out)
  refine (H1.out _ V_0.out C_0.out).mono ?_
  rintro e w1 ⟨rfl, hb1⟩
  have B1 := Lib.hid (bnext B0.out hb1)
  have K1 := Lib.hid (K0.out.below hb1)
  have V_1 := Lib.hid (V_0.out.below hb1)
  have C_1 := Lib.hid (C_0.out.below hb1)
  clear hb1  d0_0 d0_1
  obtain ⟨d1_0, d1_1⟩ := K1.out.c2
  have hBx := bnext B1.out (balloc w1 (.cells #[.slice none 0 0, .slice none 0 0, .int .i64 2] 36))
  have hKx := ((K1.out).alloc _).app (kept3 w1 w1.heap.size rfl (.slice none 0 0) (.slice none 0 0) (.int .i64 2) 36)
  obtain ⟨tb2, etb2⟩ : ∃ b, b = w1.heap.size := ⟨_, rfl⟩
  have hsub2 := balloc w1 (.cells #[.slice none 0 0, .slice none 0 0, .int .i64 2] 36)
  have hV_2 := V_1.out.below hsub2
  have hC_2 := C_1.out.below hsub2
  obtain ⟨w2, ew2⟩ : ∃ x, w1.alloc (.cells #[.slice none 0 0, .slice none 0 0, .int .i64 2] 36) = x := ⟨_, rfl⟩
  rw [ew2] at hBx hKx hV_2 hC_2
  rw [← etb2] at hKx
  have B2 := Lib.hid hBx
  have K2 := Lib.hid hKx
  have HEW2 := Lib.hid ew2
  have HET2 := Lib.hid etb2
  have V_2 := Lib.hid hV_2
  have C_2 := Lib.hid hC_2
  clear hBx hKx hsub2 ew2 etb2 hV_2 hC_2
  have hlt2 : w.heap.size < w1.heap.size := (K1.out (⟨w.heap.size, 0, none⟩, (.slice A xs.length cap)) (by simp)).1
  have hnf2 : w.heap.size ≠ w1.heap.size := Nat.ne_of_lt hlt2
  have hng2 : w1.heap.size ≠ w.heap.size := (Nat.ne_of_lt hlt2).symm
  go_wp2_with fail
  rw [HEW2.out]
  try simp only [← HET2.out]
  obtain ⟨d2_0, d2_1, d2_2, d2_3, d2_4⟩ := K2.out.c5
  refine (H2.out _ V_2.out).mono ?_
  rintro e w3 ⟨rfl, hb3⟩
  have B3 := Lib.hid (bnext B2.out hb3)
  have K3 := Lib.hid (K2.out.below hb3)
  have V_3 := Lib.hid (V_2.out.below hb3)
  have C_3 := Lib.hid (C_2.out.below hb3)
  clear hb3  d2_0 d2_1 d2_2 d2_3 d2_4
  obtain ⟨d3_0, d3_1, d3_2, d3_3, d3_4⟩ := K3.out.c5
  go_wp2_with fail
  refine (tbad_any 2 _).mono ?_
  rintro e w4 ⟨rfl, hb4⟩
  have B4 := Lib.hid (bnext B3.out hb4)
  have K4 := Lib.hid (K3.out.below hb4)
  have V_4 := Lib.hid (V_3.out.below hb4)
  have C_4 := Lib.hid (C_3.out.below hb4)
  clear hb4  d3_0 d3_1 d3_2 d3_3 d3_4
  obtain ⟨d4_0, d4_1, d4_2, d4_3, d4_4⟩ := K4.out.c5
  go_wp2_with fail
  refine (alive_any _).mono ?_
  rintro e w5 ⟨rfl, hb5⟩
  have B5 := Lib.hid (bnext B4.out hb5)
  have K5 := Lib.hid (K4.out.below hb5)
  have V_5 := Lib.hid (V_4.out.below hb5)
  have C_5 := Lib.hid (C_4.out.below hb5)
  clear hb5  d4_0 d4_1 d4_2 d4_3 d4_4
  obtain ⟨d5_0, d5_1, d5_2, d5_3, d5_4⟩ := K5.out.c5
  go_wp2_with fail
  go_ret
  exact ⟨rfl, B5.out⟩

set_option maxHeartbeats 4000000 in
theorem ok (w : World) (p d : Nat) (v vb : Value) (xs ys l : List Nat) (bs : List Bool) (hv : Pts w v xs ys) (hb : Bools w vb bs) (hok : M.DOk p d xs ys) (hbl : bs.length = xs.length) (el : l = M.thereK bs xs.length) :
    Calls Try.prog 7 #[.int .u64 p, .int .i64 d, .agg #[v, vb]] w fun e w' => e = .returned (.bool true) ∧ Below w.heap.size w w' := by
  have hud : ∀ b : Bool, undef ≠ Value.bool b := fun b h => by cases h
  have hp := M.pos_of hok.isp
  have HP := Lib.hid hp
  have h1 := fun W (hW : Pts W v xs ys) (hC : Bools W vb bs) => gaps_ok p d v vb xs ys bs W hok hbl hW hC
  have h2 := fun W (hW : Pts W v xs ys) => rcheck_any p d v xs ys W (by omega) hW
  rw [hok.chk] at h2
  have h3 := fun W (hW : Pts W v xs ys) (hC : Bools W vb bs) => rthere2 v vb xs ys l bs W hok.len hbl el hW hC
  have hll : l.length ≤ 64 := by rw [el]; exact Nat.le_trans (M.thereK_len _ _) hok.len
  have HPK := Lib.hid (hok.pick (l := l) hv.1 (by rw [el]; exact M.thereK_nodup _ _) (fun i hi => by rw [el] at hi; exact M.thereK_lt hi) (by rw [el]; exact M.thereK_len _ _))
  have hd63 := hok.d63
  rw [← el] at h1
  have H1 := Lib.hid h1
  have H2 := Lib.hid h2
  have H3 := Lib.hid h3
  have HV := Lib.hid hv
  have HB := Lib.hid hb
  obtain ⟨A, cap, rfl, _⟩ := hv.2.2.2.2
  obtain ⟨Ab, cb, rfl, _⟩ := hb.2
  unfold GapsEnd at H1
  rw [hbl] at H1 H3 HB ⊢
  clear h1 h2 h3 hv hb hok el hp hbl
  have hB0 := (balloc w (.cells #[.slice A xs.length cap, .slice Ab xs.length cb] 44))
  have hK0 := (kept2 w (w.heap.size) (by simp) (.slice A xs.length cap) (.slice Ab xs.length cb) 44)
  obtain ⟨w0, hw0⟩ : ∃ w0, (w.alloc (.cells #[.slice A xs.length cap, .slice Ab xs.length cb] 44)) = w0 := ⟨_, rfl⟩
  rw [hw0] at hB0 hK0
  have B0 := Lib.hid hB0
  have K0 := Lib.hid hK0
  clear hB0 hK0
  obtain ⟨d0_0, d0_1⟩ := K0.out.c2
  go_enter Try.func7, Try.ntmps7
  go_wp2_with fail
  clear hw0
  have V_0 := Lib.hid (HV.out.below B0.out)
  have C_0 := Lib.hid (HB.out.below B0.out)
  refine (H1.out _ V_0.out C_0.out).mono ?_
  rintro e w1 ⟨hb1, ⟨hfew, rfl⟩ | ⟨hn, ⟨f, v1, u, hg, rfl, hf, hi⟩ | ⟨hno, rfl⟩⟩⟩
  · skip
    have hm : M.most l.length d = -1 := by unfold M.most; rw [if_pos (by omega)]
    have H4 := Lib.hid fun (W : World) => rmost_any l.length d W (by omega) (by omega) (by omega) (by omega)
    rw [hm] at H4
    clear hm
    have B1 := Lib.hid (bnext B0.out hb1)
    have K1 := Lib.hid (K0.out.below hb1)
    have V_1 := Lib.hid (V_0.out.below hb1)
    have C_1 := Lib.hid (C_0.out.below hb1)
    clear hb1  d0_0 d0_1
    obtain ⟨d1_0, d1_1⟩ := K1.out.c2
    have hBx := bnext B1.out (balloc w1 (.cells #[.slice none 0 0, .slice none 0 0, .int .i64 11] 36))
    have hKx := ((K1.out).alloc _).app (kept3 w1 w1.heap.size rfl (.slice none 0 0) (.slice none 0 0) (.int .i64 11) 36)
    obtain ⟨tb2, etb2⟩ : ∃ b, b = w1.heap.size := ⟨_, rfl⟩
    have hsub2 := balloc w1 (.cells #[.slice none 0 0, .slice none 0 0, .int .i64 11] 36)
    have hV_2 := V_1.out.below hsub2
    have hC_2 := C_1.out.below hsub2
    obtain ⟨w2, ew2⟩ : ∃ x, w1.alloc (.cells #[.slice none 0 0, .slice none 0 0, .int .i64 11] 36) = x := ⟨_, rfl⟩
    rw [ew2] at hBx hKx hV_2 hC_2
    rw [← etb2] at hKx
    have B2 := Lib.hid hBx
    have K2 := Lib.hid hKx
    have HEW2 := Lib.hid ew2
    have HET2 := Lib.hid etb2
    have V_2 := Lib.hid hV_2
    have C_2 := Lib.hid hC_2
    clear hBx hKx hsub2 ew2 etb2 hV_2 hC_2
    have hlt2 : w.heap.size < w1.heap.size := (K1.out (⟨w.heap.size, 0, none⟩, (.slice A xs.length cap)) (by simp)).1
    have hnf2 : w.heap.size ≠ w1.heap.size := Nat.ne_of_lt hlt2
    have hng2 : w1.heap.size ≠ w.heap.size := (Nat.ne_of_lt hlt2).symm
    go_wp2_with fail
    rw [HEW2.out]
    try simp only [← HET2.out]
    obtain ⟨d2_0, d2_1, d2_2, d2_3, d2_4⟩ := K2.out.c5
    refine (H2.out _ V_2.out).mono ?_
    rintro e w3 ⟨rfl, hb3⟩
    have B3 := Lib.hid (bnext B2.out hb3)
    have K3 := Lib.hid (K2.out.below hb3)
    have V_3 := Lib.hid (V_2.out.below hb3)
    have C_3 := Lib.hid (C_2.out.below hb3)
    clear hb3  d2_0 d2_1 d2_2 d2_3 d2_4
    obtain ⟨d3_0, d3_1, d3_2, d3_3, d3_4⟩ := K3.out.c5
    go_wp2_with fail
    refine (H3.out _ V_3.out C_3.out).mono ?_
    rintro e w4 ⟨A1, c1, A2, c2, rfl, hL, hP, hb4⟩
    have B4 := Lib.hid (bnext B3.out hb4)
    have K4 := Lib.hid (K3.out.below hb4)
    have V_4 := Lib.hid (V_3.out.below hb4)
    have C_4 := Lib.hid (C_3.out.below hb4)
    have L_4 := Lib.hid hL
    have P_4 := Lib.hid hP
    clear hb4 hL hP d3_0 d3_1 d3_2 d3_3 d3_4
    obtain ⟨d4_0, d4_1, d4_2, d4_3, d4_4⟩ := K4.out.c5
    go_wp2_with fail
    refine (H4.out _).mono ?_
    rintro e w' ⟨rfl, rfl⟩
    go_wp2_with fail
    refine (tbad_any 11 _).mono ?_
    rintro e w5 ⟨rfl, hb5⟩
    have B5 := Lib.hid (bnext B4.out hb5)
    have K5 := Lib.hid (K4.out.below hb5)
    have V_5 := Lib.hid (V_4.out.below hb5)
    have C_5 := Lib.hid (C_4.out.below hb5)
    have L_5 := Lib.hid (L_4.out.below hb5)
    have P_5 := Lib.hid (P_4.out.below hb5)
    clear hb5  d4_0 d4_1 d4_2 d4_3 d4_4
    obtain ⟨d5_0, d5_1, d5_2, d5_3, d5_4⟩ := K5.out.c5
    go_wp2_with fail
    refine (alive_any _).mono ?_
    rintro e w6 ⟨rfl, hb6⟩
    have B6 := Lib.hid (bnext B5.out hb6)
    have K6 := Lib.hid (K5.out.below hb6)
    have V_6 := Lib.hid (V_5.out.below hb6)
    have C_6 := Lib.hid (C_5.out.below hb6)
    have L_6 := Lib.hid (L_5.out.below hb6)
    have P_6 := Lib.hid (P_5.out.below hb6)
    clear hb6  d5_0 d5_1 d5_2 d5_3 d5_4
    obtain ⟨d6_0, d6_1, d6_2, d6_3, d6_4⟩ := K6.out.c5
    go_wp2_with fail
    go_ret
    exact ⟨rfl, B6.out⟩
  · skip
    have H4 := Lib.hid fun (W : World) => rmost_any l.length d W (by omega) (by omega) (by omega) (by omega)
    rw [M.most_nat hn] at H4
    obtain ⟨q, eq⟩ : ∃ q, q = (l.length - d - 1) / 2 := ⟨_, rfl⟩
    have hn2 : d + 1 + 2 * q ≤ l.length := by omega
    have hq0 : ¬ ((q : Int) < 0) := by omega
    rw [← eq] at H4 hg
    have H5 := Lib.hid fun (W : World) (u : Value) (hW : Pts W u (M.pick xs l) (M.pick ys l)) => rdecode_any p d q u (M.pick xs l) (M.pick ys l) W HPK.out (by rw [M.pick_len]; exact hn2) hW
    unfold RDecEnd at H5
    clear eq
    have HG := Lib.hid hg
    have HU := Lib.hid fun g (h : M.Good p d q (M.pick xs l) (M.pick ys l) g) => M.Good.unique HPK.out.isp HPK.out.nod HPK.out.wx (by rw [M.pick_len]; exact hn2) hg h
    clear hg
    have hF := hf
    have hI := hi
    clear hf hi
    have B1 := Lib.hid (bnext B0.out hb1)
    have K1 := Lib.hid (K0.out.below hb1)
    have V_1 := Lib.hid (V_0.out.below hb1)
    have C_1 := Lib.hid (C_0.out.below hb1)
    have F_1 := Lib.hid hF
    have I_1 := Lib.hid hI
    clear hb1 hF hI d0_0 d0_1
    obtain ⟨d1_0, d1_1⟩ := K1.out.c2
    obtain ⟨Af, cf, rfl⟩ := nums_slice' F_1.out
    obtain ⟨Au, cu, rfl⟩ := ints_slice I_1.out
    have hBx := bnext B1.out (balloc w1 (.cells #[.slice Af f.length cf, .slice Au (M.pick l (M.offI p f (M.pick xs l) (M.pick ys l))).length cu, .int .i64 0] 36))
    have hKx := ((K1.out).alloc _).app (kept3 w1 w1.heap.size rfl (.slice Af f.length cf) (.slice Au (M.pick l (M.offI p f (M.pick xs l) (M.pick ys l))).length cu) (.int .i64 0) 36)
    obtain ⟨tb2, etb2⟩ : ∃ b, b = w1.heap.size := ⟨_, rfl⟩
    have hsub2 := balloc w1 (.cells #[.slice Af f.length cf, .slice Au (M.pick l (M.offI p f (M.pick xs l) (M.pick ys l))).length cu, .int .i64 0] 36)
    have hV_2 := V_1.out.below hsub2
    have hC_2 := C_1.out.below hsub2
    have hF_2 := F_1.out.below hsub2
    have hI_2 := I_1.out.below hsub2
    obtain ⟨w2, ew2⟩ : ∃ x, w1.alloc (.cells #[.slice Af f.length cf, .slice Au (M.pick l (M.offI p f (M.pick xs l) (M.pick ys l))).length cu, .int .i64 0] 36) = x := ⟨_, rfl⟩
    rw [ew2] at hBx hKx hV_2 hC_2 hF_2 hI_2
    rw [← etb2] at hKx
    have B2 := Lib.hid hBx
    have K2 := Lib.hid hKx
    have HEW2 := Lib.hid ew2
    have HET2 := Lib.hid etb2
    have V_2 := Lib.hid hV_2
    have C_2 := Lib.hid hC_2
    have F_2 := Lib.hid hF_2
    have I_2 := Lib.hid hI_2
    clear hBx hKx hsub2 ew2 etb2 hV_2 hC_2 hF_2 hI_2
    have hlt2 : w.heap.size < w1.heap.size := (K1.out (⟨w.heap.size, 0, none⟩, (.slice A xs.length cap)) (by simp)).1
    have hnf2 : w.heap.size ≠ w1.heap.size := Nat.ne_of_lt hlt2
    have hng2 : w1.heap.size ≠ w.heap.size := (Nat.ne_of_lt hlt2).symm
    go_wp2_with fail
    rw [HEW2.out]
    try simp only [← HET2.out]
    obtain ⟨d2_0, d2_1, d2_2, d2_3, d2_4⟩ := K2.out.c5
    refine (H2.out _ V_2.out).mono ?_
    rintro e w3 ⟨rfl, hb3⟩
    have B3 := Lib.hid (bnext B2.out hb3)
    have K3 := Lib.hid (K2.out.below hb3)
    have V_3 := Lib.hid (V_2.out.below hb3)
    have C_3 := Lib.hid (C_2.out.below hb3)
    have F_3 := Lib.hid (F_2.out.below hb3)
    have I_3 := Lib.hid (I_2.out.below hb3)
    clear hb3  d2_0 d2_1 d2_2 d2_3 d2_4
    obtain ⟨d3_0, d3_1, d3_2, d3_3, d3_4⟩ := K3.out.c5
    go_wp2_with fail
    refine (H3.out _ V_3.out C_3.out).mono ?_
    rintro e w4 ⟨A1, c1, A2, c2, rfl, hL, hP, hb4⟩
    have B4 := Lib.hid (bnext B3.out hb4)
    have K4 := Lib.hid (K3.out.below hb4)
    have V_4 := Lib.hid (V_3.out.below hb4)
    have C_4 := Lib.hid (C_3.out.below hb4)
    have F_4 := Lib.hid (F_3.out.below hb4)
    have I_4 := Lib.hid (I_3.out.below hb4)
    have L_4 := Lib.hid hL
    have P_4 := Lib.hid hP
    clear hb4 hL hP d3_0 d3_1 d3_2 d3_3 d3_4
    obtain ⟨d4_0, d4_1, d4_2, d4_3, d4_4⟩ := K4.out.c5
    go_wp2_with fail
    refine (H4.out _).mono ?_
    rintro e w' ⟨rfl, rfl⟩
    go_wp2_with fail
    refine (H5.out _ _ L_4.out).mono ?_
    rintro e w5 ⟨hb5, ⟨g, v9, hg, rfl, hG⟩ | ⟨hno, _⟩⟩
    case inr => exact absurd HG.out (hno f)
    obtain rfl := HU.out g hg
    clear hg
    have B5 := Lib.hid (bnext B4.out hb5)
    have K5 := Lib.hid (K4.out.below hb5)
    have V_5 := Lib.hid (V_4.out.below hb5)
    have C_5 := Lib.hid (C_4.out.below hb5)
    have F_5 := Lib.hid (F_4.out.below hb5)
    have I_5 := Lib.hid (I_4.out.below hb5)
    have L_5 := Lib.hid (L_4.out.below hb5)
    have P_5 := Lib.hid (P_4.out.below hb5)
    have G_5 := Lib.hid hG
    clear hb5 hG d4_0 d4_1 d4_2 d4_3 d4_4
    obtain ⟨d5_0, d5_1, d5_2, d5_3, d5_4⟩ := K5.out.c5
    obtain ⟨Ag, cg, rfl⟩ := nums_slice' G_5.out
    have HOFF := Lib.hid (roff_any p _ _ f (M.pick xs l) (M.pick ys l) w5 HP.out.1 HP.out.2 HG.out.lt HPK.out.len HPK.out.wx G_5.out L_5.out)
    go_wp2_with fail
    refine HOFF.out.mono ?_
    rintro e w6 ⟨u9, rfl, ho9, hb6⟩
    have hO := ints_of_owns ho9
    clear ho9
    have B6 := Lib.hid (bnext B5.out hb6)
    have K6 := Lib.hid (K5.out.below hb6)
    have V_6 := Lib.hid (V_5.out.below hb6)
    have C_6 := Lib.hid (C_5.out.below hb6)
    have F_6 := Lib.hid (F_5.out.below hb6)
    have I_6 := Lib.hid (I_5.out.below hb6)
    have L_6 := Lib.hid (L_5.out.below hb6)
    have P_6 := Lib.hid (P_5.out.below hb6)
    have G_6 := Lib.hid (G_5.out.below hb6)
    have O_6 := Lib.hid hO
    clear hb6 hO d5_0 d5_1 d5_2 d5_3 d5_4
    obtain ⟨d6_0, d6_1, d6_2, d6_3, d6_4⟩ := K6.out.c5
    obtain ⟨o, eo⟩ : ∃ o, o = M.offI p f (M.pick xs l) (M.pick ys l) := ⟨_, rfl⟩
    have hol : ∀ i ∈ o, i < l.length := fun i hi => by rw [eo] at hi; have := (M.offI_mem.1 hi).1; rwa [M.pick_len] at this
    have hol2 : o.length ≤ 64 := by rw [eo]; exact Nat.le_trans (M.offK_len p f (M.pick xs l) (M.pick ys l) (M.pick xs l).length) HPK.out.len
    rw [← eo] at O_6 I_6
    have HOL := Lib.hid hol
    obtain ⟨Ao, co, rfl⟩ := ints_slice O_6.out
    clear hol d6_0 d6_1 d6_2 d6_3 d6_4
    simp only [← eo]
    clear eo
    go_wp2
    go_loopw [17, 98] (fun to t wx => ∃ k : Nat, k ≤ o.length ∧ t = .int .i64 k ∧ wx.ownsRow w6.heap.size 3 1 to k (ints (M.pick l (o.take k))) ∧ Below w6.heap.size w6 wx) (fun _ t _ => o.length - (intOf t).toNat)
    case atStart => exact ⟨0, by omega, rfl, World.ownsRow_nil _ _ _ _, Below.refl _ _⟩
    case round =>
      obtain ⟨k, hk, rfl, hx, hB⟩ := hrel
      have HX := Lib.hid hx
      have HBX := Lib.hid hB
      clear hx hB
      by_cases hlt : k < o.length
      · have hix := HOL.out _ (M.getD_mem hlt)
        obtain ⟨bo, rfl, hbo, hco⟩ := ints_cells O_6.out (by omega)
        obtain ⟨bp, rfl, hbp, hcp⟩ := ints_cells P_6.out (by omega)
        have hc1 := (HBX.out.cell (p := ⟨bo, k, none⟩) hbo).trans (hco k hlt)
        have htk : o.take (k + 1) = o.take k ++ [o.getD k 0] := by rw [M.getD_lt hlt, List.take_succ_eq_append_getElem hlt]
        obtain ⟨ix, eix⟩ : ∃ ix, ix = o.getD k 0 := ⟨_, rfl⟩
        rw [← eix] at hc1 hix htk
        have hc2 := (HBX.out.cell (p := ⟨bp, ix, none⟩) hbp).trans (hcp ix hix)
        have hpk : M.pick l (o.take (k + 1)) = M.pick l (o.take k) ++ [l.getD ix 0] := by rw [htk, M.pick_snoc]
        obtain ⟨z, ez⟩ : ∃ z, z = l.getD ix 0 := ⟨_, rfl⟩
        rw [← ez] at hc2 hpk
        have HPK2 := Lib.hid hpk
        have hsz := HBX.out.size
        have HXA := Lib.hid (HX.out.alloc (.cells #[.int .i64 (z : Nat)] 3))
        have HXN := Lib.hid (heap_alloc_new wr (.cells #[.int .i64 (z : Nat)] 3))
        have hs5 : w6.heap.size ≤ (wr.alloc (.cells #[.int .i64 (z : Nat)] 3)).heap.size := by simp; omega
        have hk1000 : k ≤ 1000 := by omega
        clear eix ez hco hcp htk hpk
        go_wp2_with (at_builtin; refine wpList_append_intAt (X := wr.heap.size) rfl _ _ rfl rfl (by rfl) HXN.out HXA.out hk1000 hs5 ?_; intro v' wy hown hgr hbl)
        go_roundw
        case rel => exact ⟨k + 1, by omega, by go_num, by rw [HPK2.out, ints_snoc]; exact hown, (HBX.out.alloc hsz _).trans hbl⟩
        case measure => simp [intOf]; omega
      · obtain rfl : k = o.length := by omega
        have hio := ints_of_owns HX.out
        rw [List.take_length] at hio
        have IO := Lib.hid hio
        have FX := Lib.hid (F_6.out.below HBX.out)
        have GX := Lib.hid (G_6.out.below HBX.out)
        have IX := Lib.hid (I_6.out.below HBX.out)
        have BX := Lib.hid (bnext B6.out HBX.out)
        have hpl : (M.pick l o).length ≤ 1000 := by rw [M.pick_len]; omega
        obtain ⟨Aq, cq, rfl⟩ := ints_slice hio
        clear hio
        go_wp2_with fail
        refine (same_any _ _ _ _ FX.out GX.out).mono ?_
        rintro e wz ⟨rfl, hb⟩
        have BZ := Lib.hid (bnext BX.out hb)
        have IO2 := Lib.hid (IO.out.below hb)
        have IX2 := Lib.hid (IX.out.below hb)
        clear hb
        --PEEK
        go_wp2_with fail
        refine (ints5_any _ _ _ _ hpl IX2.out IO2.out).mono ?_
        rintro e wt ⟨rfl, hb⟩
        have BT := Lib.hid (bnext BZ.out hb)
        clear hb
        go_wp2_with fail
        go_ret
        exact ⟨rfl, BT.out⟩
  · skip
    have H4 := Lib.hid fun (W : World) => rmost_any l.length d W (by omega) (by omega) (by omega) (by omega)
    rw [M.most_nat hn] at H4
    obtain ⟨q, eq⟩ : ∃ q, q = (l.length - d - 1) / 2 := ⟨_, rfl⟩
    have hn2 : d + 1 + 2 * q ≤ l.length := by omega
    have hq0 : ¬ ((q : Int) < 0) := by omega
    rw [← eq] at H4 hno
    have H5 := Lib.hid fun (W : World) (u : Value) (hW : Pts W u (M.pick xs l) (M.pick ys l)) => rdecode_any p d q u (M.pick xs l) (M.pick ys l) W HPK.out (by rw [M.pick_len]; exact hn2) hW
    unfold RDecEnd at H5
    clear eq
    have HN := Lib.hid hno
    clear hno
    have B1 := Lib.hid (bnext B0.out hb1)
    have K1 := Lib.hid (K0.out.below hb1)
    have V_1 := Lib.hid (V_0.out.below hb1)
    have C_1 := Lib.hid (C_0.out.below hb1)
    clear hb1  d0_0 d0_1
    obtain ⟨d1_0, d1_1⟩ := K1.out.c2
    have hBx := bnext B1.out (balloc w1 (.cells #[.slice none 0 0, .slice none 0 0, .int .i64 12] 36))
    have hKx := ((K1.out).alloc _).app (kept3 w1 w1.heap.size rfl (.slice none 0 0) (.slice none 0 0) (.int .i64 12) 36)
    obtain ⟨tb2, etb2⟩ : ∃ b, b = w1.heap.size := ⟨_, rfl⟩
    have hsub2 := balloc w1 (.cells #[.slice none 0 0, .slice none 0 0, .int .i64 12] 36)
    have hV_2 := V_1.out.below hsub2
    have hC_2 := C_1.out.below hsub2
    obtain ⟨w2, ew2⟩ : ∃ x, w1.alloc (.cells #[.slice none 0 0, .slice none 0 0, .int .i64 12] 36) = x := ⟨_, rfl⟩
    rw [ew2] at hBx hKx hV_2 hC_2
    rw [← etb2] at hKx
    have B2 := Lib.hid hBx
    have K2 := Lib.hid hKx
    have HEW2 := Lib.hid ew2
    have HET2 := Lib.hid etb2
    have V_2 := Lib.hid hV_2
    have C_2 := Lib.hid hC_2
    clear hBx hKx hsub2 ew2 etb2 hV_2 hC_2
    have hlt2 : w.heap.size < w1.heap.size := (K1.out (⟨w.heap.size, 0, none⟩, (.slice A xs.length cap)) (by simp)).1
    have hnf2 : w.heap.size ≠ w1.heap.size := Nat.ne_of_lt hlt2
    have hng2 : w1.heap.size ≠ w.heap.size := (Nat.ne_of_lt hlt2).symm
    go_wp2_with fail
    rw [HEW2.out]
    try simp only [← HET2.out]
    obtain ⟨d2_0, d2_1, d2_2, d2_3, d2_4⟩ := K2.out.c5
    refine (H2.out _ V_2.out).mono ?_
    rintro e w3 ⟨rfl, hb3⟩
    have B3 := Lib.hid (bnext B2.out hb3)
    have K3 := Lib.hid (K2.out.below hb3)
    have V_3 := Lib.hid (V_2.out.below hb3)
    have C_3 := Lib.hid (C_2.out.below hb3)
    clear hb3  d2_0 d2_1 d2_2 d2_3 d2_4
    obtain ⟨d3_0, d3_1, d3_2, d3_3, d3_4⟩ := K3.out.c5
    go_wp2_with fail
    refine (H3.out _ V_3.out C_3.out).mono ?_
    rintro e w4 ⟨A1, c1, A2, c2, rfl, hL, hP, hb4⟩
    have B4 := Lib.hid (bnext B3.out hb4)
    have K4 := Lib.hid (K3.out.below hb4)
    have V_4 := Lib.hid (V_3.out.below hb4)
    have C_4 := Lib.hid (C_3.out.below hb4)
    have L_4 := Lib.hid hL
    have P_4 := Lib.hid hP
    clear hb4 hL hP d3_0 d3_1 d3_2 d3_3 d3_4
    obtain ⟨d4_0, d4_1, d4_2, d4_3, d4_4⟩ := K4.out.c5
    go_wp2_with fail
    refine (H4.out _).mono ?_
    rintro e w' ⟨rfl, rfl⟩
    go_wp2_with fail
    refine (H5.out _ _ L_4.out).mono ?_
    rintro e w5 ⟨hb5, ⟨f, v9, hg, _⟩ | ⟨_, rfl⟩⟩
    case inl => exact absurd hg (HN.out f)
    have B5 := Lib.hid (bnext B4.out hb5)
    have K5 := Lib.hid (K4.out.below hb5)
    have V_5 := Lib.hid (V_4.out.below hb5)
    have C_5 := Lib.hid (C_4.out.below hb5)
    have L_5 := Lib.hid (L_4.out.below hb5)
    have P_5 := Lib.hid (P_4.out.below hb5)
    clear hb5  d4_0 d4_1 d4_2 d4_3 d4_4
    obtain ⟨d5_0, d5_1, d5_2, d5_3, d5_4⟩ := K5.out.c5
    go_wp2_with fail
    refine (tbad_any 12 _).mono ?_
    rintro e w6 ⟨rfl, hb6⟩
    have B6 := Lib.hid (bnext B5.out hb6)
    have K6 := Lib.hid (K5.out.below hb6)
    have V_6 := Lib.hid (V_5.out.below hb6)
    have C_6 := Lib.hid (C_5.out.below hb6)
    have L_6 := Lib.hid (L_5.out.below hb6)
    have P_6 := Lib.hid (P_5.out.below hb6)
    clear hb6  d5_0 d5_1 d5_2 d5_3 d5_4
    obtain ⟨d6_0, d6_1, d6_2, d6_3, d6_4⟩ := K6.out.c5
    go_wp2_with fail
    refine (alive_any _).mono ?_
    rintro e w7 ⟨rfl, hb7⟩
    have B7 := Lib.hid (bnext B6.out hb7)
    have K7 := Lib.hid (K6.out.below hb7)
    have V_7 := Lib.hid (V_6.out.below hb7)
    have C_7 := Lib.hid (C_6.out.below hb7)
    have L_7 := Lib.hid (L_6.out.below hb7)
    have P_7 := Lib.hid (P_6.out.below hb7)
    clear hb7  d6_0 d6_1 d6_2 d6_3 d6_4
    obtain ⟨d7_0, d7_1, d7_2, d7_3, d7_4⟩ := K7.out.c5
    go_wp2_with fail
    go_ret
    exact ⟨rfl, B7.out⟩

theorem walk (w : World) (p : Nat) (hp : p < 18446744073709551616) (d : Int) (hd1 : -9223372036854775808 ≤ d) (hd2 : d ≤ 9223372036854775807) (v vb : Value) (xs ys : List Nat) (bs : List Bool) (hv : Pts w v xs ys) (hb : Bools w vb bs) :
    Calls Try.prog 7 #[.int .u64 p, .int .i64 d, .agg #[v, vb]] w fun e w' => e = .returned (.bool true) ∧ Below w.heap.size w w' := by
  by_cases h : M.dchk p d xs ys = 0
  · by_cases hl : bs.length = xs.length
    · obtain ⟨D, rfl, hok⟩ := M.dchk_zero h
      exact ok w p D v vb xs ys _ bs hv hb hok hl rfl
    · exact bad2 w p hp d hd1 hd2 v vb xs ys bs hv hb h hl
  · exact bad1 w p hp d hd1 hd2 v vb xs ys bs hv hb h
end Go.Proofs.Ytfgfapbhgehfiaa.decodeGapsW
