/-
  The walk of the law DecodeDecodes.
-/
import Derived.Test.YtfgfapbhgehfiaaT5b
namespace Go.Proofs.Ytfgfapbhgehfiaa.decodeDecodesW
open Go.RowKit
set_option linter.unusedVariables false
set_option maxRecDepth 100000

set_option maxHeartbeats 1000000 in
theorem bad1 (w : World) (p : Nat) (hp : p < 18446744073709551616) (d : Int) (hd1 : -9223372036854775808 ≤ d) (hd2 : d ≤ 9223372036854775807) (r : Int) (hr1 : -9223372036854775808 ≤ r) (hr2 : r ≤ 9223372036854775807) (v : Value) (xs ys : List Nat) (hv : Pts w v xs ys) (h : M.dchk p d xs ys ≠ 0) :
    Calls Try.prog 5 #[.int .u64 p, .agg #[.int .i64 d, .int .i64 r], v] w fun e w' => e = .returned (.bool true) ∧ Below w.heap.size w w' := by
  have hud : ∀ b : Bool, undef ≠ Value.bool b := fun b h => by cases h
  have hE : M.decE p d r xs ys = M.dchk p d xs ys := by unfold M.decE; rw [if_pos h]
  have h1 := fun W (hW : Pts W v xs ys) => decode_fail p d r v xs ys W hp hd1 hd2 hr1 hr2 hW (by rw [hE]; exact h)
  have h2 := fun W (hW : Pts W v xs ys) => rcheck_any p d v xs ys W hp hW
  rw [hE] at h1
  obtain ⟨c, ec⟩ : ∃ c, c = M.dchk p d xs ys := ⟨_, rfl⟩
  rw [← ec] at h1 h2 h
  have H1 := Lib.hid h1
  have H2 := Lib.hid h2
  have HV := Lib.hid hv
  have hcc : (c == c) = true := by simp
  obtain ⟨A, cap, rfl, _⟩ := hv.2.2.2.2
  clear h1 h2 ec hE hv
  have B0 := Lib.hid (show Below w.heap.size w (w.alloc (.cells #[.int .i64 d, .int .i64 r] 30)).drew from (balloc w _).drew)
  have V_0 := Lib.hid (show Pts (w.alloc (.cells #[.int .i64 d, .int .i64 r] 30)).drew _ xs ys from HV.out.below (balloc w _).drew)
  go_enter Try.func5, Try.ntmps5
  go_wp2_with fail
  go_region
  go_wp2_with fail
  refine (H1.out _ V_0.out).mono ?_
  rintro e w1 ⟨rfl, hb1⟩
  have B1 := Lib.hid (bnext B0.out hb1)
  have V_1 := Lib.hid (V_0.out.below hb1)
  clear hb1  
  have hBx := bnext B1.out (balloc w1 (.cells #[.slice none 0 0, .slice none 0 0, .int .i64 c] 36))
  have hKx := kept3 w1 w1.heap.size rfl (.slice none 0 0) (.slice none 0 0) (.int .i64 c) 36
  obtain ⟨tb2, etb2⟩ : ∃ b, b = w1.heap.size := ⟨_, rfl⟩
  have hsub2 := balloc w1 (.cells #[.slice none 0 0, .slice none 0 0, .int .i64 c] 36)
  have hV_2 := V_1.out.below hsub2
  obtain ⟨w2, ew2⟩ : ∃ x, w1.alloc (.cells #[.slice none 0 0, .slice none 0 0, .int .i64 c] 36) = x := ⟨_, rfl⟩
  rw [ew2] at hBx hKx hV_2
  rw [← etb2] at hKx
  have B2 := Lib.hid hBx
  have K2 := Lib.hid hKx
  have HEW2 := Lib.hid ew2
  have HET2 := Lib.hid etb2
  have V_2 := Lib.hid hV_2
  clear hBx hKx hsub2 ew2 etb2 hV_2
  go_wp2_with fail
  rw [HEW2.out]
  try simp only [← HET2.out]
  obtain ⟨d2_0, d2_1, d2_2⟩ := K2.out.c3
  refine (H2.out _ V_2.out).mono ?_
  rintro e w3 ⟨rfl, hb3⟩
  have B3 := Lib.hid (bnext B2.out hb3)
  have K3 := Lib.hid (K2.out.below hb3)
  have V_3 := Lib.hid (V_2.out.below hb3)
  clear hb3  d2_0 d2_1 d2_2
  obtain ⟨d3_0, d3_1, d3_2⟩ := K3.out.c3
  go_wp2_with fail
  refine (tbad_any c _).mono ?_
  rintro e w4 ⟨rfl, hb4⟩
  have B4 := Lib.hid (bnext B3.out hb4)
  have K4 := Lib.hid (K3.out.below hb4)
  have V_4 := Lib.hid (V_3.out.below hb4)
  clear hb4  d3_0 d3_1 d3_2
  obtain ⟨d4_0, d4_1, d4_2⟩ := K4.out.c3
  go_wp2_with fail
  refine (alive_any _).mono ?_
  rintro e w5 ⟨rfl, hb5⟩
  have B5 := Lib.hid (bnext B4.out hb5)
  have K5 := Lib.hid (K4.out.below hb5)
  have V_5 := Lib.hid (V_4.out.below hb5)
  clear hb5  d4_0 d4_1 d4_2
  obtain ⟨d5_0, d5_1, d5_2⟩ := K5.out.c3
  go_wp2_with fail
  go_ret
  exact ⟨rfl, B5.out⟩

set_option maxHeartbeats 1000000 in
theorem bad2 (w : World) (p : Nat) (hp : p < 18446744073709551616) (d : Int) (hd1 : -9223372036854775808 ≤ d) (hd2 : d ≤ 9223372036854775807) (r : Int) (hr1 : -9223372036854775808 ≤ r) (hr2 : r ≤ 9223372036854775807) (v : Value) (xs ys : List Nat) (hv : Pts w v xs ys) (h : M.dchk p d xs ys = 0) (hr : r < 0) :
    Calls Try.prog 5 #[.int .u64 p, .agg #[.int .i64 d, .int .i64 r], v] w fun e w' => e = .returned (.bool true) ∧ Below w.heap.size w w' := by
  have hud : ∀ b : Bool, undef ≠ Value.bool b := fun b h => by cases h
  have hE : M.decE p d r xs ys = 2 := by unfold M.decE; rw [if_neg (by simp [h]), if_pos hr]
  have h1 := fun W (hW : Pts W v xs ys) => decode_fail p d r v xs ys W hp hd1 hd2 hr1 hr2 hW (by rw [hE]; decide)
  have h2 := fun W (hW : Pts W v xs ys) => rcheck_any p d v xs ys W hp hW
  rw [hE] at h1
  rw [h] at h2
  have H1 := Lib.hid h1
  have H2 := Lib.hid h2
  have HV := Lib.hid hv
  obtain ⟨A, cap, rfl, _⟩ := hv.2.2.2.2
  clear h1 h2 hE hv h
  have B0 := Lib.hid (show Below w.heap.size w (w.alloc (.cells #[.int .i64 d, .int .i64 r] 30)).drew from (balloc w _).drew)
  have V_0 := Lib.hid (show Pts (w.alloc (.cells #[.int .i64 d, .int .i64 r] 30)).drew _ xs ys from HV.out.below (balloc w _).drew)
  go_enter Try.func5, Try.ntmps5
  go_wp2_with fail
  go_region
  go_wp2_with fail
  refine (H1.out _ V_0.out).mono ?_
  rintro e w1 ⟨rfl, hb1⟩
  have B1 := Lib.hid (bnext B0.out hb1)
  have V_1 := Lib.hid (V_0.out.below hb1)
  clear hb1  
  have hBx := bnext B1.out (balloc w1 (.cells #[.slice none 0 0, .slice none 0 0, .int .i64 2] 36))
  have hKx := kept3 w1 w1.heap.size rfl (.slice none 0 0) (.slice none 0 0) (.int .i64 2) 36
  obtain ⟨tb2, etb2⟩ : ∃ b, b = w1.heap.size := ⟨_, rfl⟩
  have hsub2 := balloc w1 (.cells #[.slice none 0 0, .slice none 0 0, .int .i64 2] 36)
  have hV_2 := V_1.out.below hsub2
  obtain ⟨w2, ew2⟩ : ∃ x, w1.alloc (.cells #[.slice none 0 0, .slice none 0 0, .int .i64 2] 36) = x := ⟨_, rfl⟩
  rw [ew2] at hBx hKx hV_2
  rw [← etb2] at hKx
  have B2 := Lib.hid hBx
  have K2 := Lib.hid hKx
  have HEW2 := Lib.hid ew2
  have HET2 := Lib.hid etb2
  have V_2 := Lib.hid hV_2
  clear hBx hKx hsub2 ew2 etb2 hV_2
  go_wp2_with fail
  rw [HEW2.out]
  try simp only [← HET2.out]
  obtain ⟨d2_0, d2_1, d2_2⟩ := K2.out.c3
  refine (H2.out _ V_2.out).mono ?_
  rintro e w3 ⟨rfl, hb3⟩
  have B3 := Lib.hid (bnext B2.out hb3)
  have K3 := Lib.hid (K2.out.below hb3)
  have V_3 := Lib.hid (V_2.out.below hb3)
  clear hb3  d2_0 d2_1 d2_2
  obtain ⟨d3_0, d3_1, d3_2⟩ := K3.out.c3
  go_wp2_with fail
  refine (tbad_any 2 _).mono ?_
  rintro e w4 ⟨rfl, hb4⟩
  have B4 := Lib.hid (bnext B3.out hb4)
  have K4 := Lib.hid (K3.out.below hb4)
  have V_4 := Lib.hid (V_3.out.below hb4)
  clear hb4  d3_0 d3_1 d3_2
  obtain ⟨d4_0, d4_1, d4_2⟩ := K4.out.c3
  go_wp2_with fail
  refine (alive_any _).mono ?_
  rintro e w5 ⟨rfl, hb5⟩
  have B5 := Lib.hid (bnext B4.out hb5)
  have K5 := Lib.hid (K4.out.below hb5)
  have V_5 := Lib.hid (V_4.out.below hb5)
  clear hb5  d4_0 d4_1 d4_2
  obtain ⟨d5_0, d5_1, d5_2⟩ := K5.out.c3
  go_wp2_with fail
  go_ret
  exact ⟨rfl, B5.out⟩

set_option maxHeartbeats 1000000 in
theorem bad3 (w : World) (p : Nat) (hp : p < 18446744073709551616) (d : Int) (hd1 : -9223372036854775808 ≤ d) (hd2 : d ≤ 9223372036854775807) (r : Int) (hr1 : -9223372036854775808 ≤ r) (hr2 : r ≤ 9223372036854775807) (v : Value) (xs ys : List Nat) (hv : Pts w v xs ys) (h : M.dchk p d xs ys = 0) (hr : ¬ r < 0) (hm : M.most xs.length d < r) :
    Calls Try.prog 5 #[.int .u64 p, .agg #[.int .i64 d, .int .i64 r], v] w fun e w' => e = .returned (.bool true) ∧ Below w.heap.size w w' := by
  have hud : ∀ b : Bool, undef ≠ Value.bool b := fun b h => by cases h
  have hE : M.decE p d r xs ys = 11 := by unfold M.decE; rw [if_neg (by simp [h]), if_neg hr, if_pos hm]
  obtain ⟨D, rfl, hok⟩ := M.dchk_zero h
  have h1 := fun W (hW : Pts W v xs ys) => decode_fail p D r v xs ys W hp hd1 hd2 hr1 hr2 hW (by rw [hE]; decide)
  have h2 := fun W (hW : Pts W v xs ys) => rcheck_any p D v xs ys W hp hW
  have hlt : (xs.length : Int) < D + 1 + 2 * r := by
    unfold M.most at hm
    split at hm
    · omega
    · omega
  have h3 := fun W (hW : Pts W v xs ys) => few_yes D r v xs ys W hok.d63 hok.len (by omega) hr2 hlt hW
  rw [hE] at h1
  rw [h] at h2
  have H1 := Lib.hid h1
  have H2 := Lib.hid h2
  have H3 := Lib.hid h3
  have HV := Lib.hid hv
  obtain ⟨A, cap, rfl, _⟩ := hv.2.2.2.2
  clear h1 h2 h3 hE hv h hm hlt hok
  have B0 := Lib.hid (show Below w.heap.size w (w.alloc (.cells #[.int .i64 D, .int .i64 r] 30)).drew from (balloc w _).drew)
  have V_0 := Lib.hid (show Pts (w.alloc (.cells #[.int .i64 D, .int .i64 r] 30)).drew _ xs ys from HV.out.below (balloc w _).drew)
  go_enter Try.func5, Try.ntmps5
  go_wp2_with fail
  go_region
  go_wp2_with fail
  refine (H1.out _ V_0.out).mono ?_
  rintro e w1 ⟨rfl, hb1⟩
  have B1 := Lib.hid (bnext B0.out hb1)
  have V_1 := Lib.hid (V_0.out.below hb1)
  clear hb1  
  have hBx := bnext B1.out (balloc w1 (.cells #[.slice none 0 0, .slice none 0 0, .int .i64 11] 36))
  have hKx := kept3 w1 w1.heap.size rfl (.slice none 0 0) (.slice none 0 0) (.int .i64 11) 36
  obtain ⟨tb2, etb2⟩ : ∃ b, b = w1.heap.size := ⟨_, rfl⟩
  have hsub2 := balloc w1 (.cells #[.slice none 0 0, .slice none 0 0, .int .i64 11] 36)
  have hV_2 := V_1.out.below hsub2
  obtain ⟨w2, ew2⟩ : ∃ x, w1.alloc (.cells #[.slice none 0 0, .slice none 0 0, .int .i64 11] 36) = x := ⟨_, rfl⟩
  rw [ew2] at hBx hKx hV_2
  rw [← etb2] at hKx
  have B2 := Lib.hid hBx
  have K2 := Lib.hid hKx
  have HEW2 := Lib.hid ew2
  have HET2 := Lib.hid etb2
  have V_2 := Lib.hid hV_2
  clear hBx hKx hsub2 ew2 etb2 hV_2
  go_wp2_with fail
  rw [HEW2.out]
  try simp only [← HET2.out]
  obtain ⟨d2_0, d2_1, d2_2⟩ := K2.out.c3
  refine (H2.out _ V_2.out).mono ?_
  rintro e w3 ⟨rfl, hb3⟩
  have B3 := Lib.hid (bnext B2.out hb3)
  have K3 := Lib.hid (K2.out.below hb3)
  have V_3 := Lib.hid (V_2.out.below hb3)
  clear hb3  d2_0 d2_1 d2_2
  obtain ⟨d3_0, d3_1, d3_2⟩ := K3.out.c3
  go_wp2_with fail
  refine (H3.out _ V_3.out).mono ?_
  rintro e w' ⟨rfl, rfl⟩
  go_wp2_with fail
  refine (tbad_any 11 _).mono ?_
  rintro e w4 ⟨rfl, hb4⟩
  have B4 := Lib.hid (bnext B3.out hb4)
  have K4 := Lib.hid (K3.out.below hb4)
  have V_4 := Lib.hid (V_3.out.below hb4)
  clear hb4  d3_0 d3_1 d3_2
  obtain ⟨d4_0, d4_1, d4_2⟩ := K4.out.c3
  go_wp2_with fail
  refine (alive_any _).mono ?_
  rintro e w5 ⟨rfl, hb5⟩
  have B5 := Lib.hid (bnext B4.out hb5)
  have K5 := Lib.hid (K4.out.below hb5)
  have V_5 := Lib.hid (V_4.out.below hb5)
  clear hb5  d4_0 d4_1 d4_2
  obtain ⟨d5_0, d5_1, d5_2⟩ := K5.out.c3
  go_wp2_with fail
  go_ret
  exact ⟨rfl, B5.out⟩

set_option maxHeartbeats 1000000 in
theorem ok (w : World) (p d q : Nat) (v : Value) (xs ys : List Nat) (hv : Pts w v xs ys) (hok : M.DOk p d xs ys) (hn : d + 1 + 2 * q ≤ xs.length) :
    Calls Try.prog 5 #[.int .u64 p, .agg #[.int .i64 d, .int .i64 q], v] w fun e w' => e = .returned (.bool true) ∧ Below w.heap.size w w' := by
  have hud : ∀ b : Bool, undef ≠ Value.bool b := fun b h => by cases h
  have hp := M.pos_of hok.isp
  have hl := hok.len
  have h1 := fun W (hW : Pts W v xs ys) => decode_ok p d q v xs ys W hok hn hW
  have h2 := fun W (hW : Pts W v xs ys) => rcheck_any p d v xs ys W (by omega) hW
  rw [hok.chk] at h2
  have h3 := fun W (hW : Pts W v xs ys) => few_no d q v xs ys W hok.d63 hok.len hn hW
  have hq0 : ¬ ((q : Int) < 0) := by omega
  have H1 := Lib.hid h1
  have H2 := Lib.hid h2
  have H3 := Lib.hid h3
  have H5 := Lib.hid fun (W : World) (vf vu : Value) (f : List Nat) (a : M.Good p d q xs ys f) (b : Nums W vf f) (c : Ints W vu (M.offI p f xs ys)) (e : Pts W v xs ys) => tis_ok p d q v vf vu xs ys f W hok hn a b c e
  have H6 := Lib.hid fun (W : World) (a : ∀ f, ¬ M.Good p d q xs ys f) (e : Pts W v xs ys) => tis_bad p d q v xs ys W hok hn a e
  have HV := Lib.hid hv
  obtain ⟨A, cap, rfl, _⟩ := hv.2.2.2.2
  clear h1 h2 h3 hv hok hn hp
  unfold DecEnd at H1
  have B0 := Lib.hid (show Below w.heap.size w (w.alloc (.cells #[.int .i64 (d : Nat), .int .i64 (q : Nat)] 30)).drew from (balloc w _).drew)
  have V_0 := Lib.hid (show Pts (w.alloc (.cells #[.int .i64 (d : Nat), .int .i64 (q : Nat)] 30)).drew _ xs ys from HV.out.below (balloc w _).drew)
  go_enter Try.func5, Try.ntmps5
  go_wp2_with fail
  go_region
  go_wp2_with fail
  refine (H1.out _ V_0.out).mono ?_
  rintro e w1 ⟨hb1, ⟨f, v1, u, hg, rfl, hf, ho⟩ | ⟨hno, rfl⟩⟩
  · skip
    have HG := Lib.hid hg
    have hI := ints_of_owns ho
    have hF := hf
    clear hg ho hf
    have B1 := Lib.hid (bnext B0.out hb1)
    have V_1 := Lib.hid (V_0.out.below hb1)
    have F_1 := Lib.hid hF
    have I_1 := Lib.hid hI
    clear hb1 hF hI 
    obtain ⟨Af, cf, rfl⟩ := nums_slice' F_1.out
    obtain ⟨Au, cu, rfl⟩ := ints_slice I_1.out
    have hBx := bnext B1.out (balloc w1 (.cells #[.slice Af f.length cf, .slice Au (M.offI p f xs ys).length cu, .int .i64 0] 36))
    have hKx := kept3 w1 w1.heap.size rfl (.slice Af f.length cf) (.slice Au (M.offI p f xs ys).length cu) (.int .i64 0) 36
    obtain ⟨tb2, etb2⟩ : ∃ b, b = w1.heap.size := ⟨_, rfl⟩
    have hsub2 := balloc w1 (.cells #[.slice Af f.length cf, .slice Au (M.offI p f xs ys).length cu, .int .i64 0] 36)
    have hV_2 := V_1.out.below hsub2
    have hF_2 := F_1.out.below hsub2
    have hI_2 := I_1.out.below hsub2
    obtain ⟨w2, ew2⟩ : ∃ x, w1.alloc (.cells #[.slice Af f.length cf, .slice Au (M.offI p f xs ys).length cu, .int .i64 0] 36) = x := ⟨_, rfl⟩
    rw [ew2] at hBx hKx hV_2 hF_2 hI_2
    rw [← etb2] at hKx
    have B2 := Lib.hid hBx
    have K2 := Lib.hid hKx
    have HEW2 := Lib.hid ew2
    have HET2 := Lib.hid etb2
    have V_2 := Lib.hid hV_2
    have F_2 := Lib.hid hF_2
    have I_2 := Lib.hid hI_2
    clear hBx hKx hsub2 ew2 etb2 hV_2 hF_2 hI_2
    go_wp2_with fail
    rw [HEW2.out]
    try simp only [← HET2.out]
    obtain ⟨d2_0, d2_1, d2_2⟩ := K2.out.c3
    refine (H2.out _ V_2.out).mono ?_
    rintro e w3 ⟨rfl, hb3⟩
    have B3 := Lib.hid (bnext B2.out hb3)
    have K3 := Lib.hid (K2.out.below hb3)
    have V_3 := Lib.hid (V_2.out.below hb3)
    have F_3 := Lib.hid (F_2.out.below hb3)
    have I_3 := Lib.hid (I_2.out.below hb3)
    clear hb3  d2_0 d2_1 d2_2
    obtain ⟨d3_0, d3_1, d3_2⟩ := K3.out.c3
    go_wp2_with fail
    refine (H3.out _ V_3.out).mono ?_
    rintro e w' ⟨rfl, rfl⟩
    go_wp2_with fail
    refine (H5.out _ _ _ _ HG.out F_3.out I_3.out V_3.out).mono ?_
    rintro e w4 ⟨rfl, hb4⟩
    have B4 := Lib.hid (bnext B3.out hb4)
    have K4 := Lib.hid (K3.out.below hb4)
    have V_4 := Lib.hid (V_3.out.below hb4)
    have F_4 := Lib.hid (F_3.out.below hb4)
    have I_4 := Lib.hid (I_3.out.below hb4)
    clear hb4  d3_0 d3_1 d3_2
    obtain ⟨d4_0, d4_1, d4_2⟩ := K4.out.c3
    go_wp2_with fail
    refine (alive_any _).mono ?_
    rintro e w5 ⟨rfl, hb5⟩
    have B5 := Lib.hid (bnext B4.out hb5)
    have K5 := Lib.hid (K4.out.below hb5)
    have V_5 := Lib.hid (V_4.out.below hb5)
    have F_5 := Lib.hid (F_4.out.below hb5)
    have I_5 := Lib.hid (I_4.out.below hb5)
    clear hb5  d4_0 d4_1 d4_2
    obtain ⟨d5_0, d5_1, d5_2⟩ := K5.out.c3
    go_wp2_with fail
    go_ret
    exact ⟨rfl, B5.out⟩
  · skip
    have HN := Lib.hid hno
    clear hno
    have B1 := Lib.hid (bnext B0.out hb1)
    have V_1 := Lib.hid (V_0.out.below hb1)
    clear hb1  
    have hBx := bnext B1.out (balloc w1 (.cells #[.slice none 0 0, .slice none 0 0, .int .i64 12] 36))
    have hKx := kept3 w1 w1.heap.size rfl (.slice none 0 0) (.slice none 0 0) (.int .i64 12) 36
    obtain ⟨tb2, etb2⟩ : ∃ b, b = w1.heap.size := ⟨_, rfl⟩
    have hsub2 := balloc w1 (.cells #[.slice none 0 0, .slice none 0 0, .int .i64 12] 36)
    have hV_2 := V_1.out.below hsub2
    obtain ⟨w2, ew2⟩ : ∃ x, w1.alloc (.cells #[.slice none 0 0, .slice none 0 0, .int .i64 12] 36) = x := ⟨_, rfl⟩
    rw [ew2] at hBx hKx hV_2
    rw [← etb2] at hKx
    have B2 := Lib.hid hBx
    have K2 := Lib.hid hKx
    have HEW2 := Lib.hid ew2
    have HET2 := Lib.hid etb2
    have V_2 := Lib.hid hV_2
    clear hBx hKx hsub2 ew2 etb2 hV_2
    go_wp2_with fail
    rw [HEW2.out]
    try simp only [← HET2.out]
    obtain ⟨d2_0, d2_1, d2_2⟩ := K2.out.c3
    refine (H2.out _ V_2.out).mono ?_
    rintro e w3 ⟨rfl, hb3⟩
    have B3 := Lib.hid (bnext B2.out hb3)
    have K3 := Lib.hid (K2.out.below hb3)
    have V_3 := Lib.hid (V_2.out.below hb3)
    clear hb3  d2_0 d2_1 d2_2
    obtain ⟨d3_0, d3_1, d3_2⟩ := K3.out.c3
    go_wp2_with fail
    refine (H3.out _ V_3.out).mono ?_
    rintro e w' ⟨rfl, rfl⟩
    go_wp2_with fail
    refine (H6.out _ HN.out V_3.out).mono ?_
    rintro e w4 ⟨rfl, hb4⟩
    have B4 := Lib.hid (bnext B3.out hb4)
    have K4 := Lib.hid (K3.out.below hb4)
    have V_4 := Lib.hid (V_3.out.below hb4)
    clear hb4  d3_0 d3_1 d3_2
    obtain ⟨d4_0, d4_1, d4_2⟩ := K4.out.c3
    go_wp2_with fail
    refine (alive_any _).mono ?_
    rintro e w5 ⟨rfl, hb5⟩
    have B5 := Lib.hid (bnext B4.out hb5)
    have K5 := Lib.hid (K4.out.below hb5)
    have V_5 := Lib.hid (V_4.out.below hb5)
    clear hb5  d4_0 d4_1 d4_2
    obtain ⟨d5_0, d5_1, d5_2⟩ := K5.out.c3
    go_wp2_with fail
    go_ret
    exact ⟨rfl, B5.out⟩

theorem walk (w : World) (p : Nat) (hp : p < 18446744073709551616) (d : Int) (hd1 : -9223372036854775808 ≤ d) (hd2 : d ≤ 9223372036854775807) (r : Int) (hr1 : -9223372036854775808 ≤ r) (hr2 : r ≤ 9223372036854775807) (v : Value) (xs ys : List Nat) (hv : Pts w v xs ys) :
    Calls Try.prog 5 #[.int .u64 p, .agg #[.int .i64 d, .int .i64 r], v] w fun e w' => e = .returned (.bool true) ∧ Below w.heap.size w w' := by
  by_cases h : M.decE p d r xs ys = 0
  · obtain ⟨D, q, rfl, rfl, hok, hn⟩ := M.decE_ok h
    exact ok w p D q v xs ys hv hok hn
  · by_cases hc : M.dchk p d xs ys = 0
    · by_cases hr : r < 0
      · exact bad2 w p hp d hd1 hd2 r hr1 hr2 v xs ys hv hc hr
      · have hm : M.most xs.length d < r := by
          apply Classical.byContradiction
          intro hm
          unfold M.decE at h
          rw [if_neg (by simp [hc]), if_neg hr, if_neg hm] at h
          exact h rfl
        exact bad3 w p hp d hd1 hd2 r hr1 hr2 v xs ys hv hc hr hm
    · exact bad1 w p hp d hd1 hd2 r hr1 hr2 v xs ys hv hc
end Go.Proofs.Ytfgfapbhgehfiaa.decodeDecodesW
