/-
  The walk of the law DecodeBest.
-/
import Derived.Test.YtfgfapbhgehfiaaT5b
namespace Go.Proofs.Ytfgfapbhgehfiaa.decodeBestW
open Go.RowKit
set_option linter.unusedVariables false
set_option maxRecDepth 100000

set_option maxHeartbeats 1000000 in
theorem bad1 (w : World) (p : Nat) (hp : p < 18446744073709551616) (d : Int) (hd1 : -9223372036854775808 ≤ d) (hd2 : d ≤ 9223372036854775807) (v : Value) (xs ys : List Nat) (hv : Pts w v xs ys) (h : M.dchk p d xs ys ≠ 0) :
    Calls Try.prog 6 #[.int .u64 p, .int .i64 d, v] w fun e w' => e = .returned (.bool true) ∧ Below w.heap.size w w' := by
  have hud : ∀ b : Bool, undef ≠ Value.bool b := fun b h => by cases h
  have hE : M.bestE p d xs ys = M.dchk p d xs ys := by unfold M.bestE; rw [if_pos h]
  have h1 := fun W (hW : Pts W v xs ys) => best_fail p d v xs ys W hp hd1 hd2 hW (by rw [hE]; exact h)
  have h2 := fun W (hW : Pts W v xs ys) => rcheck_any p d v xs ys W hp hW
  rw [hE] at h1
  obtain ⟨c, ec⟩ : ∃ c, c = M.dchk p d xs ys := ⟨_, rfl⟩
  rw [← ec] at h1 h2 h
  have H1 := Lib.hid h1
  have H2 := Lib.hid h2
  have HV := Lib.hid hv
  have hcc : (c == c) = true := by simp
  obtain ⟨A, cap, rfl, _⟩ := hv.2.2.2.2
  clear h1 h2 ec hE hv
  have B0 := Lib.hid (Below.refl w.heap.size w)
  go_enter Try.func6, Try.ntmps6
  have V_0 := Lib.hid HV.out
  go_wp2_with fail
  refine (H1.out _ V_0.out).mono ?_
  rintro e w1 ⟨rfl, hb1⟩
  have B1 := Lib.hid (bnext B0.out hb1)
  have V_1 := Lib.hid (V_0.out.below hb1)
  clear hb1  
  have hBx := bnext B1.out (balloc w1 (.cells #[.slice none 0 0, .slice none 0 0, .int .i64 c] 36))
  have hKx := kept3 w1 w1.heap.size rfl (.slice none 0 0) (.slice none 0 0) (.int .i64 c) 36
  obtain ⟨tb2, etb2⟩ : ∃ b, b = w1.heap.size := ⟨_, rfl⟩
  have hsub2 := balloc w1 (.cells #[.slice none 0 0, .slice none 0 0, .int .i64 c] 36)
  have hV_2 := V_1.out.below hsub2
  obtain ⟨w2, ew2⟩ : ∃ x, w1.alloc (.cells #[.slice none 0 0, .slice none 0 0, .int .i64 c] 36) = x := ⟨_, rfl⟩
  rw [ew2] at hBx hKx hV_2
  rw [← etb2] at hKx
  have B2 := Lib.hid hBx
  have K2 := Lib.hid hKx
  have HEW2 := Lib.hid ew2
  have HET2 := Lib.hid etb2
  have V_2 := Lib.hid hV_2
  clear hBx hKx hsub2 ew2 etb2 hV_2
  go_wp2_with fail
  rw [HEW2.out]
  try simp only [← HET2.out]
  obtain ⟨d2_0, d2_1, d2_2⟩ := K2.out.c3
  refine (H2.out _ V_2.out).mono ?_
  rintro e w3 ⟨rfl, hb3⟩
  have B3 := Lib.hid (bnext B2.out hb3)
  have K3 := Lib.hid (K2.out.below hb3)
  have V_3 := Lib.hid (V_2.out.below hb3)
  clear hb3  d2_0 d2_1 d2_2
  obtain ⟨d3_0, d3_1, d3_2⟩ := K3.out.c3
  go_wp2_with fail
  refine (tbad_any c _).mono ?_
  rintro e w4 ⟨rfl, hb4⟩
  have B4 := Lib.hid (bnext B3.out hb4)
  have K4 := Lib.hid (K3.out.below hb4)
  have V_4 := Lib.hid (V_3.out.below hb4)
  clear hb4  d3_0 d3_1 d3_2
  obtain ⟨d4_0, d4_1, d4_2⟩ := K4.out.c3
  go_wp2_with fail
  refine (alive_any _).mono ?_
  rintro e w5 ⟨rfl, hb5⟩
  have B5 := Lib.hid (bnext B4.out hb5)
  have K5 := Lib.hid (K4.out.below hb5)
  have V_5 := Lib.hid (V_4.out.below hb5)
  clear hb5  d4_0 d4_1 d4_2
  obtain ⟨d5_0, d5_1, d5_2⟩ := K5.out.c3
  go_wp2_with fail
  go_ret
  exact ⟨rfl, B5.out⟩

set_option maxHeartbeats 1000000 in
theorem bad2 (w : World) (p : Nat) (hp : p < 18446744073709551616) (d : Int) (hd1 : -9223372036854775808 ≤ d) (hd2 : d ≤ 9223372036854775807) (v : Value) (xs ys : List Nat) (hv : Pts w v xs ys) (h : M.dchk p d xs ys = 0) (hm : M.most xs.length d < 0) :
    Calls Try.prog 6 #[.int .u64 p, .int .i64 d, v] w fun e w' => e = .returned (.bool true) ∧ Below w.heap.size w w' := by
  have hud : ∀ b : Bool, undef ≠ Value.bool b := fun b h => by cases h
  have hE : M.bestE p d xs ys = 11 := by unfold M.bestE; rw [if_neg (by simp [h]), if_pos hm]
  have hl := hv.2.1
  have h1 := fun W (hW : Pts W v xs ys) => best_fail p d v xs ys W hp hd1 hd2 hW (by rw [hE]; decide)
  have h2 := fun W (hW : Pts W v xs ys) => rcheck_any p d v xs ys W hp hW
  have h3 := fun W => rmost_any xs.length d W (by omega) (by omega) hd1 hd2
  rw [hE] at h1
  rw [h] at h2
  obtain ⟨m, em⟩ : ∃ m, m = M.most xs.length d := ⟨_, rfl⟩
  rw [← em] at h3 hm
  have H1 := Lib.hid h1
  have H2 := Lib.hid h2
  have H3 := Lib.hid h3
  have HV := Lib.hid hv
  obtain ⟨A, cap, rfl, _⟩ := hv.2.2.2.2
  clear h1 h2 h3 em hE hv h
  have B0 := Lib.hid (Below.refl w.heap.size w)
  go_enter Try.func6, Try.ntmps6
  have V_0 := Lib.hid HV.out
  go_wp2_with fail
  refine (H1.out _ V_0.out).mono ?_
  rintro e w1 ⟨rfl, hb1⟩
  have B1 := Lib.hid (bnext B0.out hb1)
  have V_1 := Lib.hid (V_0.out.below hb1)
  clear hb1  
  have hBx := bnext B1.out (balloc w1 (.cells #[.slice none 0 0, .slice none 0 0, .int .i64 11] 36))
  have hKx := kept3 w1 w1.heap.size rfl (.slice none 0 0) (.slice none 0 0) (.int .i64 11) 36
  obtain ⟨tb2, etb2⟩ : ∃ b, b = w1.heap.size := ⟨_, rfl⟩
  have hsub2 := balloc w1 (.cells #[.slice none 0 0, .slice none 0 0, .int .i64 11] 36)
  have hV_2 := V_1.out.below hsub2
  obtain ⟨w2, ew2⟩ : ∃ x, w1.alloc (.cells #[.slice none 0 0, .slice none 0 0, .int .i64 11] 36) = x := ⟨_, rfl⟩
  rw [ew2] at hBx hKx hV_2
  rw [← etb2] at hKx
  have B2 := Lib.hid hBx
  have K2 := Lib.hid hKx
  have HEW2 := Lib.hid ew2
  have HET2 := Lib.hid etb2
  have V_2 := Lib.hid hV_2
  clear hBx hKx hsub2 ew2 etb2 hV_2
  go_wp2_with fail
  rw [HEW2.out]
  try simp only [← HET2.out]
  obtain ⟨d2_0, d2_1, d2_2⟩ := K2.out.c3
  refine (H2.out _ V_2.out).mono ?_
  rintro e w3 ⟨rfl, hb3⟩
  have B3 := Lib.hid (bnext B2.out hb3)
  have K3 := Lib.hid (K2.out.below hb3)
  have V_3 := Lib.hid (V_2.out.below hb3)
  clear hb3  d2_0 d2_1 d2_2
  obtain ⟨d3_0, d3_1, d3_2⟩ := K3.out.c3
  go_wp2_with fail
  refine (H3.out _).mono ?_
  rintro e w' ⟨rfl, rfl⟩
  go_wp2_with fail
  refine (tbad_any 11 _).mono ?_
  rintro e w4 ⟨rfl, hb4⟩
  have B4 := Lib.hid (bnext B3.out hb4)
  have K4 := Lib.hid (K3.out.below hb4)
  have V_4 := Lib.hid (V_3.out.below hb4)
  clear hb4  d3_0 d3_1 d3_2
  obtain ⟨d4_0, d4_1, d4_2⟩ := K4.out.c3
  go_wp2_with fail
  refine (alive_any _).mono ?_
  rintro e w5 ⟨rfl, hb5⟩
  have B5 := Lib.hid (bnext B4.out hb5)
  have K5 := Lib.hid (K4.out.below hb5)
  have V_5 := Lib.hid (V_4.out.below hb5)
  clear hb5  d4_0 d4_1 d4_2
  obtain ⟨d5_0, d5_1, d5_2⟩ := K5.out.c3
  go_wp2_with fail
  go_ret
  exact ⟨rfl, B5.out⟩

set_option maxHeartbeats 1000000 in
theorem ok (w : World) (p d : Nat) (v : Value) (xs ys : List Nat) (hv : Pts w v xs ys) (hok : M.DOk p d xs ys) (hn : d + 1 ≤ xs.length) :
    Calls Try.prog 6 #[.int .u64 p, .int .i64 d, v] w fun e w' => e = .returned (.bool true) ∧ Below w.heap.size w w' := by
  have hud : ∀ b : Bool, undef ≠ Value.bool b := fun b h => by cases h
  have hp := M.pos_of hok.isp
  have hl := hok.len
  have h1 := fun W (hW : Pts W v xs ys) => best_ok p d v xs ys W hok hn hW
  have h2 := fun W (hW : Pts W v xs ys) => rcheck_any p d v xs ys W (by omega) hW
  rw [hok.chk] at h2
  have h3 := fun W => rmost_any xs.length d W (by omega) (by omega) (by omega) (by omega)
  rw [M.most_nat hn] at h3
  obtain ⟨q, eq⟩ : ∃ q, q = (xs.length - d - 1) / 2 := ⟨_, rfl⟩
  have hn2 : d + 1 + 2 * q ≤ xs.length := by omega
  rw [← eq] at h1 h3
  have hq0 : ¬ ((q : Int) < 0) := by omega
  have H1 := Lib.hid h1
  have H2 := Lib.hid h2
  have H3 := Lib.hid h3
  have H5 := Lib.hid fun (W : World) (vf vu : Value) (f : List Nat) (a : M.Good p d q xs ys f) (b : Nums W vf f) (c : Ints W vu (M.offI p f xs ys)) (e : Pts W v xs ys) => tis_ok p d q v vf vu xs ys f W hok hn2 a b c e
  have H6 := Lib.hid fun (W : World) (a : ∀ f, ¬ M.Good p d q xs ys f) (e : Pts W v xs ys) => tis_bad p d q v xs ys W hok hn2 a e
  have HV := Lib.hid hv
  obtain ⟨A, cap, rfl, _⟩ := hv.2.2.2.2
  clear h1 h2 h3 eq hv hok hn hn2 hp
  unfold DecEnd at H1
  have B0 := Lib.hid (Below.refl w.heap.size w)
  go_enter Try.func6, Try.ntmps6
  have V_0 := Lib.hid HV.out
  go_wp2_with fail
  refine (H1.out _ V_0.out).mono ?_
  rintro e w1 ⟨hb1, ⟨f, v1, u, hg, rfl, hf, ho⟩ | ⟨hno, rfl⟩⟩
  · skip
    have HG := Lib.hid hg
    have hI := ints_of_owns ho
    have hF := hf
    clear hg ho hf
    have B1 := Lib.hid (bnext B0.out hb1)
    have V_1 := Lib.hid (V_0.out.below hb1)
    have F_1 := Lib.hid hF
    have I_1 := Lib.hid hI
    clear hb1 hF hI 
    obtain ⟨Af, cf, rfl⟩ := nums_slice' F_1.out
    obtain ⟨Au, cu, rfl⟩ := ints_slice I_1.out
    have hBx := bnext B1.out (balloc w1 (.cells #[.slice Af f.length cf, .slice Au (M.offI p f xs ys).length cu, .int .i64 0] 36))
    have hKx := kept3 w1 w1.heap.size rfl (.slice Af f.length cf) (.slice Au (M.offI p f xs ys).length cu) (.int .i64 0) 36
    obtain ⟨tb2, etb2⟩ : ∃ b, b = w1.heap.size := ⟨_, rfl⟩
    have hsub2 := balloc w1 (.cells #[.slice Af f.length cf, .slice Au (M.offI p f xs ys).length cu, .int .i64 0] 36)
    have hV_2 := V_1.out.below hsub2
    have hF_2 := F_1.out.below hsub2
    have hI_2 := I_1.out.below hsub2
    obtain ⟨w2, ew2⟩ : ∃ x, w1.alloc (.cells #[.slice Af f.length cf, .slice Au (M.offI p f xs ys).length cu, .int .i64 0] 36) = x := ⟨_, rfl⟩
    rw [ew2] at hBx hKx hV_2 hF_2 hI_2
    rw [← etb2] at hKx
    have B2 := Lib.hid hBx
    have K2 := Lib.hid hKx
    have HEW2 := Lib.hid ew2
    have HET2 := Lib.hid etb2
    have V_2 := Lib.hid hV_2
    have F_2 := Lib.hid hF_2
    have I_2 := Lib.hid hI_2
    clear hBx hKx hsub2 ew2 etb2 hV_2 hF_2 hI_2
    go_wp2_with fail
    rw [HEW2.out]
    try simp only [← HET2.out]
    obtain ⟨d2_0, d2_1, d2_2⟩ := K2.out.c3
    refine (H2.out _ V_2.out).mono ?_
    rintro e w3 ⟨rfl, hb3⟩
    have B3 := Lib.hid (bnext B2.out hb3)
    have K3 := Lib.hid (K2.out.below hb3)
    have V_3 := Lib.hid (V_2.out.below hb3)
    have F_3 := Lib.hid (F_2.out.below hb3)
    have I_3 := Lib.hid (I_2.out.below hb3)
    clear hb3  d2_0 d2_1 d2_2
    obtain ⟨d3_0, d3_1, d3_2⟩ := K3.out.c3
    go_wp2_with fail
    refine (H3.out _).mono ?_
    rintro e w' ⟨rfl, rfl⟩
    go_wp2_with fail
    have hK := K3.out
    have hB := B3.out
    go_region_held3 (fun W' => W'.cell? ⟨tb2, 0, none⟩ = some (.slice Af f.length cf) ∧ W'.cell? ⟨tb2, 1, none⟩ = some (.slice Au (M.offI p f xs ys).length cu) ∧ W'.cell? ⟨tb2, 2, none⟩ = some (.int .i64 0))
      (first | exact hK.c3 | go_keep | exact q4.c3)
      (first
        | (go_at_call 19; refine (H5.out _ _ _ _ HG.out ((F_3.out).below (Below.refl _ _).drew) ((I_3.out).below (Below.refl _ _).drew) ((V_3.out).below (Below.refl _ _).drew)).mono ?_; rintro e w4 ⟨rfl, hb4⟩; have q4 := Kept.below hK (below_of_drew hb4); have r4 := bnext hB (below_of_drew hb4); have V4 := (V_3.out).below (below_of_drew hb4); have F4 := (F_3.out).below (below_of_drew hb4); have I4 := (I_3.out).below (below_of_drew hb4))
        | (go_at_call 16; refine (H3.out _).mono ?_; rintro e w' ⟨rfl, rfl⟩))
    all_goals
      have B4 := Lib.hid r4
      have K4 := Lib.hid q4
      have V_4 := Lib.hid (V4)
      have F_4 := Lib.hid (F4)
      have I_4 := Lib.hid (I4)
      clear hK hB d3_0 d3_1 d3_2 hb4 q4 r4
      obtain ⟨d4_0, d4_1, d4_2⟩ := K4.out.c3
      go_wp2_with fail
      go_ret
      exact ⟨rfl, B4.out⟩
  · skip
    have HN := Lib.hid hno
    clear hno
    have B1 := Lib.hid (bnext B0.out hb1)
    have V_1 := Lib.hid (V_0.out.below hb1)
    clear hb1  
    have hBx := bnext B1.out (balloc w1 (.cells #[.slice none 0 0, .slice none 0 0, .int .i64 12] 36))
    have hKx := kept3 w1 w1.heap.size rfl (.slice none 0 0) (.slice none 0 0) (.int .i64 12) 36
    obtain ⟨tb2, etb2⟩ : ∃ b, b = w1.heap.size := ⟨_, rfl⟩
    have hsub2 := balloc w1 (.cells #[.slice none 0 0, .slice none 0 0, .int .i64 12] 36)
    have hV_2 := V_1.out.below hsub2
    obtain ⟨w2, ew2⟩ : ∃ x, w1.alloc (.cells #[.slice none 0 0, .slice none 0 0, .int .i64 12] 36) = x := ⟨_, rfl⟩
    rw [ew2] at hBx hKx hV_2
    rw [← etb2] at hKx
    have B2 := Lib.hid hBx
    have K2 := Lib.hid hKx
    have HEW2 := Lib.hid ew2
    have HET2 := Lib.hid etb2
    have V_2 := Lib.hid hV_2
    clear hBx hKx hsub2 ew2 etb2 hV_2
    go_wp2_with fail
    rw [HEW2.out]
    try simp only [← HET2.out]
    obtain ⟨d2_0, d2_1, d2_2⟩ := K2.out.c3
    refine (H2.out _ V_2.out).mono ?_
    rintro e w3 ⟨rfl, hb3⟩
    have B3 := Lib.hid (bnext B2.out hb3)
    have K3 := Lib.hid (K2.out.below hb3)
    have V_3 := Lib.hid (V_2.out.below hb3)
    clear hb3  d2_0 d2_1 d2_2
    obtain ⟨d3_0, d3_1, d3_2⟩ := K3.out.c3
    go_wp2_with fail
    refine (H3.out _).mono ?_
    rintro e w' ⟨rfl, rfl⟩
    go_wp2_with fail
    have hK := K3.out
    have hB := B3.out
    go_region_held3 (fun W' => W'.cell? ⟨tb2, 0, none⟩ = some (.slice none 0 0) ∧ W'.cell? ⟨tb2, 1, none⟩ = some (.slice none 0 0) ∧ W'.cell? ⟨tb2, 2, none⟩ = some (.int .i64 12))
      (first | exact hK.c3 | go_keep | exact q4.c3)
      (first
        | (go_at_call 19; refine (H6.out _ HN.out ((V_3.out).below (Below.refl _ _).drew)).mono ?_; rintro e w4 ⟨rfl, hb4⟩; have q4 := Kept.below hK (below_of_drew hb4); have r4 := bnext hB (below_of_drew hb4); have V4 := (V_3.out).below (below_of_drew hb4))
        | (go_at_call 16; refine (H3.out _).mono ?_; rintro e w' ⟨rfl, rfl⟩))
    all_goals
      have B4 := Lib.hid r4
      have K4 := Lib.hid q4
      have V_4 := Lib.hid (V4)
      clear hK hB d3_0 d3_1 d3_2 hb4 q4 r4
      obtain ⟨d4_0, d4_1, d4_2⟩ := K4.out.c3
      go_wp2_with fail
      go_ret
      exact ⟨rfl, B4.out⟩

theorem walk (w : World) (p : Nat) (hp : p < 18446744073709551616) (d : Int) (hd1 : -9223372036854775808 ≤ d) (hd2 : d ≤ 9223372036854775807) (v : Value) (xs ys : List Nat) (hv : Pts w v xs ys) :
    Calls Try.prog 6 #[.int .u64 p, .int .i64 d, v] w fun e w' => e = .returned (.bool true) ∧ Below w.heap.size w w' := by
  by_cases h : M.bestE p d xs ys = 0
  · obtain ⟨D, rfl, hok, hn⟩ := M.bestE_ok h
    exact ok w p D v xs ys hv hok hn
  · by_cases hc : M.dchk p d xs ys = 0
    · have hm : M.most xs.length d < 0 := by
        apply Classical.byContradiction
        intro hm
        unfold M.bestE at h
        rw [if_neg (by simp [hc]), if_neg hm] at h
        exact h rfl
      exact bad2 w p hp d hd1 hd2 v xs ys hv hc hm
    · exact bad1 w p hp d hd1 hd2 v xs ys hv hc
end Go.Proofs.Ytfgfapbhgehfiaa.decodeBestW
