/-
  The walk of the law ShareMoves.
-/
import Derived.Test.YtgjkinmfgejjaaaS10
namespace Go.Proofs.Ytgjkinmfgejjaaa.shareMovesW
open Go.RowKit
set_option linter.unusedVariables false
set_option maxRecDepth 100000

set_option maxHeartbeats 2000000 in
theorem no (w : World) (p : Nat) (n t : Int) (hp : p < 18446744073709551616) (hn1 : -9223372036854775808 ≤ n) (hn2 : n ≤ 9223372036854775807) (ht1 : -9223372036854775808 ≤ t) (ht2 : t ≤ 9223372036854775807) (vf vl : Value) (f : List Nat) (l : List Int) (s : Nat) (hvf : Nums w vf f) (hvl : IntsZ w vl l) (hs64 : s < 18446744073709551616) (h : M.errC p n t l ≠ 0) :
    Calls Try.prog 9 #[suV p n t, .agg #[vf, vl, .int .u64 s]] w fun e w' => e = .returned (.bool true) ∧ Below w.heap.size w w' := by
  have H1 := Lib.hid fun W (hW : Nums W vf f) (hL : IntsZ W vl l) => move_no p s n t vf vl f l W hp hn1 hn2 ht1 ht2 hW hL h
  have h2 := fun W (hL : IntsZ W vl l) => rcorrupted_any p n t vl l W hp hn1 hn2 ht1 ht2 hL
  rw [show M.errC p n t l = 2 by unfold M.errC at h ⊢; split; (rename_i hh; rw [if_pos hh] at h; exact absurd rfl h); rfl] at h2
  have H2 := Lib.hid h2
  obtain ⟨c, ec⟩ : ∃ c : Int, c = 2 := ⟨_, rfl⟩
  have hc : c ≠ 0 := by omega
  rw [← ec] at H1 H2
  have hs0 : (c == 0) = false := by rw [ec]; rfl
  have hs1 : (c != 0) = true := by rw [ec]; rfl
  have HV := Lib.hid hvf
  have HL := Lib.hid hvl
  have hud : ∀ b : Bool, undef ≠ Value.bool b := fun b h => by cases h
  obtain ⟨Af, capf, rfl⟩ := nums_slice' hvf
  obtain ⟨_, _, Al, capl, rfl, _⟩ := hvl
  unfold suV at H1 H2 ⊢
  clear h2 hvf h ec
  have hB0 := (bnext (balloc w (.cells #[.int .u64 p, .int .i64 n, .int .i64 t] 24)) (balloc (w.alloc (.cells #[.int .u64 p, .int .i64 n, .int .i64 t] 24)) (.cells #[.slice Af f.length capf, .slice Al l.length capl, .int .u64 s] 67)))
  have hK0 := ((((kept3 w (w.heap.size) (by simp) (.int .u64 p) (.int .i64 n) (.int .i64 t) 24)).alloc _).app (kept3 (w.alloc (.cells #[.int .u64 p, .int .i64 n, .int .i64 t] 24)) (w.heap.size + 1) (by simp) (.slice Af f.length capf) (.slice Al l.length capl) (.int .u64 s) 67))
  obtain ⟨w0, hw0⟩ : ∃ w0, ((w.alloc (.cells #[.int .u64 p, .int .i64 n, .int .i64 t] 24)).alloc (.cells #[.slice Af f.length capf, .slice Al l.length capl, .int .u64 s] 67)) = w0 := ⟨_, rfl⟩
  rw [hw0] at hB0 hK0
  have B0 := Lib.hid hB0
  have K0 := Lib.hid hK0
  clear hB0 hK0
  obtain ⟨d0_0, d0_1, d0_2, d0_3, d0_4, d0_5⟩ := K0.out.c6
  go_enter Try.func9, Try.ntmps9
  go_wp2_with fail
  clear hw0
  have V_0 := Lib.hid (HV.out.below B0.out)
  have L_0 := Lib.hid (HL.out.below B0.out)
  refine (H1.out _ V_0.out L_0.out).mono ?_
  rintro e w1 ⟨rfl, hb1⟩
  have B1 := Lib.hid (bnext B0.out hb1)
  have K1 := Lib.hid (K0.out.below hb1)
  have V_1 := Lib.hid (V_0.out.below hb1)
  have L_1 := Lib.hid (L_0.out.below hb1)
  clear hb1  d0_0 d0_1 d0_2 d0_3 d0_4 d0_5
  obtain ⟨d1_0, d1_1, d1_2, d1_3, d1_4, d1_5⟩ := K1.out.c6
  go_wp2_with fail
  refine (H2.out _ L_1.out).mono ?_
  rintro e w2 ⟨rfl, hb2⟩
  have B2 := Lib.hid (bnext B1.out hb2)
  have K2 := Lib.hid (K1.out.below hb2)
  have V_2 := Lib.hid (V_1.out.below hb2)
  have L_2 := Lib.hid (L_1.out.below hb2)
  clear hb2  d1_0 d1_1 d1_2 d1_3 d1_4 d1_5
  obtain ⟨d2_0, d2_1, d2_2, d2_3, d2_4, d2_5⟩ := K2.out.c6
  go_wp2_with fail
  refine (is_bad c _ _ hc).mono ?_
  rintro e w' ⟨rfl, rfl⟩
  go_wp2_with fail
  refine (alive_any _).mono ?_
  rintro e w3 ⟨rfl, hb3⟩
  have B3 := Lib.hid (bnext B2.out hb3)
  have K3 := Lib.hid (K2.out.below hb3)
  have V_3 := Lib.hid (V_2.out.below hb3)
  have L_3 := Lib.hid (L_2.out.below hb3)
  clear hb3  d2_0 d2_1 d2_2 d2_3 d2_4 d2_5
  obtain ⟨d3_0, d3_1, d3_2, d3_3, d3_4, d3_5⟩ := K3.out.c6
  go_wp2_with fail
  go_ret
  exact ⟨rfl, B3.out⟩

set_option maxHeartbeats 2000000 in
theorem bad (w : World) (p : Nat) (n t : Int) (hp : p < 18446744073709551616) (hn1 : -9223372036854775808 ≤ n) (hn2 : n ≤ 9223372036854775807) (ht1 : -9223372036854775808 ≤ t) (ht2 : t ≤ 9223372036854775807) (vf vl : Value) (f : List Nat) (l : List Int) (s : Nat) (hvf : Nums w vf f) (hvl : IntsZ w vl l) (hs64 : s < 18446744073709551616) (h : M.errC p n t l = 0) (hk : M.chk p f 201 ≠ 0) :
    Calls Try.prog 9 #[suV p n t, .agg #[vf, vl, .int .u64 s]] w fun e w' => e = .returned (.bool true) ∧ Below w.heap.size w w' := by
  have H1 := Lib.hid fun W (hW : Nums W vf f) (hL : IntsZ W vl l) => move_bad p s n t vf vl f l W hs64 hW hL h hk
  have h2 := fun W (hL : IntsZ W vl l) => rcorrupted_any p n t vl l W hp hn1 hn2 ht1 ht2 hL
  rw [h] at h2
  have H2 := Lib.hid h2
  have h3' := fun W (hW : Nums W vf f) => rwithin_any p vf f W hW
  have hi : M.isP p = true := (M.okS_iff.1 (M.errC_zero h).1).1
  rw [M.errW_chk hi] at h3'
  have H3 := Lib.hid h3'
  obtain ⟨c, ec⟩ : ∃ c, M.chk p f 201 = c := ⟨_, rfl⟩
  rw [ec] at H1 H3 hk
  have hc := hk
  have hs0 : ((0 : Int) == 0) = true := rfl
  have hs2 : (c == 0) = false := by simpa using hc
  have hs1 : (c != 0) = true := by rw [bne_iff_ne]; exact hc
  have HV := Lib.hid hvf
  have HL := Lib.hid hvl
  have hud : ∀ b : Bool, undef ≠ Value.bool b := fun b h => by cases h
  obtain ⟨Af, capf, rfl⟩ := nums_slice' hvf
  obtain ⟨_, _, Al, capl, rfl, _⟩ := hvl
  unfold suV at H1 H2 ⊢
  clear h2 h3' hvf h hk ec hi
  have hB0 := (bnext (balloc w (.cells #[.int .u64 p, .int .i64 n, .int .i64 t] 24)) (balloc (w.alloc (.cells #[.int .u64 p, .int .i64 n, .int .i64 t] 24)) (.cells #[.slice Af f.length capf, .slice Al l.length capl, .int .u64 s] 67)))
  have hK0 := ((((kept3 w (w.heap.size) (by simp) (.int .u64 p) (.int .i64 n) (.int .i64 t) 24)).alloc _).app (kept3 (w.alloc (.cells #[.int .u64 p, .int .i64 n, .int .i64 t] 24)) (w.heap.size + 1) (by simp) (.slice Af f.length capf) (.slice Al l.length capl) (.int .u64 s) 67))
  obtain ⟨w0, hw0⟩ : ∃ w0, ((w.alloc (.cells #[.int .u64 p, .int .i64 n, .int .i64 t] 24)).alloc (.cells #[.slice Af f.length capf, .slice Al l.length capl, .int .u64 s] 67)) = w0 := ⟨_, rfl⟩
  rw [hw0] at hB0 hK0
  have B0 := Lib.hid hB0
  have K0 := Lib.hid hK0
  clear hB0 hK0
  obtain ⟨d0_0, d0_1, d0_2, d0_3, d0_4, d0_5⟩ := K0.out.c6
  go_enter Try.func9, Try.ntmps9
  go_wp2_with fail
  clear hw0
  have V_0 := Lib.hid (HV.out.below B0.out)
  have L_0 := Lib.hid (HL.out.below B0.out)
  refine (H1.out _ V_0.out L_0.out).mono ?_
  rintro e w1 ⟨rfl, hb1⟩
  have B1 := Lib.hid (bnext B0.out hb1)
  have K1 := Lib.hid (K0.out.below hb1)
  have V_1 := Lib.hid (V_0.out.below hb1)
  have L_1 := Lib.hid (L_0.out.below hb1)
  clear hb1  d0_0 d0_1 d0_2 d0_3 d0_4 d0_5
  obtain ⟨d1_0, d1_1, d1_2, d1_3, d1_4, d1_5⟩ := K1.out.c6
  go_wp2_with fail
  refine (H2.out _ L_1.out).mono ?_
  rintro e w2 ⟨rfl, hb2⟩
  have B2 := Lib.hid (bnext B1.out hb2)
  have K2 := Lib.hid (K1.out.below hb2)
  have V_2 := Lib.hid (V_1.out.below hb2)
  have L_2 := Lib.hid (L_1.out.below hb2)
  clear hb2  d1_0 d1_1 d1_2 d1_3 d1_4 d1_5
  obtain ⟨d2_0, d2_1, d2_2, d2_3, d2_4, d2_5⟩ := K2.out.c6
  go_wp2_with fail
  refine (H3.out _ V_2.out).mono ?_
  rintro e w' ⟨rfl, rfl⟩
  go_wp2_with fail
  refine (is_bad c _ _ hc).mono ?_
  rintro e w' ⟨rfl, rfl⟩
  go_wp2_with fail
  refine (alive_any _).mono ?_
  rintro e w3 ⟨rfl, hb3⟩
  have B3 := Lib.hid (bnext B2.out hb3)
  have K3 := Lib.hid (K2.out.below hb3)
  have V_3 := Lib.hid (V_2.out.below hb3)
  have L_3 := Lib.hid (L_2.out.below hb3)
  clear hb3  d2_0 d2_1 d2_2 d2_3 d2_4 d2_5
  obtain ⟨d3_0, d3_1, d3_2, d3_3, d3_4, d3_5⟩ := K3.out.c6
  go_wp2_with fail
  go_ret
  exact ⟨rfl, B3.out⟩

set_option maxHeartbeats 2000000 in
theorem arg (w : World) (p : Nat) (n t : Int) (hp : p < 18446744073709551616) (hn1 : -9223372036854775808 ≤ n) (hn2 : n ≤ 9223372036854775807) (ht1 : -9223372036854775808 ≤ t) (ht2 : t ≤ 9223372036854775807) (vf vl : Value) (f : List Nat) (l : List Int) (s : Nat) (hvf : Nums w vf f) (hvl : IntsZ w vl l) (hs64 : s < 18446744073709551616) (h : M.errC p n t l = 0) (hk : M.chk p f 201 = 0) (hs : p ≤ s) :
    Calls Try.prog 9 #[suV p n t, .agg #[vf, vl, .int .u64 s]] w fun e w' => e = .returned (.bool true) ∧ Below w.heap.size w w' := by
  have h1 := fun W (hW : Nums W vf f) (hL : IntsZ W vl l) => move_arg p s n t vf vl f l W hs64 hW hL h hk hs
  have h2 := fun W (hL : IntsZ W vl l) => rcorrupted_any p n t vl l W hp hn1 hn2 ht1 ht2 hL
  rw [h] at h2
  have H2 := Lib.hid h2
  have h3' := fun W (hW : Nums W vf f) => rwithin_any p vf f W hW
  have hi : M.isP p = true := (M.okS_iff.1 (M.errC_zero h).1).1
  rw [M.errW_chk hi, hk] at h3'
  have H3 := Lib.hid h3'
  have H1 := Lib.hid h1
  have hs0 : ((0 : Int) == 0) = true := rfl
  have hs1 : ((2 : Int) != 0) = true := rfl
  have HV := Lib.hid hvf
  have HL := Lib.hid hvl
  have hud : ∀ b : Bool, undef ≠ Value.bool b := fun b h => by cases h
  obtain ⟨Af, capf, rfl⟩ := nums_slice' hvf
  obtain ⟨_, _, Al, capl, rfl, _⟩ := hvl
  unfold suV at H1 H2 ⊢
  clear h2 h3' h1 hvf h hk hi
  have hB0 := (bnext (balloc w (.cells #[.int .u64 p, .int .i64 n, .int .i64 t] 24)) (balloc (w.alloc (.cells #[.int .u64 p, .int .i64 n, .int .i64 t] 24)) (.cells #[.slice Af f.length capf, .slice Al l.length capl, .int .u64 s] 67)))
  have hK0 := ((((kept3 w (w.heap.size) (by simp) (.int .u64 p) (.int .i64 n) (.int .i64 t) 24)).alloc _).app (kept3 (w.alloc (.cells #[.int .u64 p, .int .i64 n, .int .i64 t] 24)) (w.heap.size + 1) (by simp) (.slice Af f.length capf) (.slice Al l.length capl) (.int .u64 s) 67))
  obtain ⟨w0, hw0⟩ : ∃ w0, ((w.alloc (.cells #[.int .u64 p, .int .i64 n, .int .i64 t] 24)).alloc (.cells #[.slice Af f.length capf, .slice Al l.length capl, .int .u64 s] 67)) = w0 := ⟨_, rfl⟩
  rw [hw0] at hB0 hK0
  have B0 := Lib.hid hB0
  have K0 := Lib.hid hK0
  clear hB0 hK0
  obtain ⟨d0_0, d0_1, d0_2, d0_3, d0_4, d0_5⟩ := K0.out.c6
  go_enter Try.func9, Try.ntmps9
  go_wp2_with fail
  clear hw0
  have V_0 := Lib.hid (HV.out.below B0.out)
  have L_0 := Lib.hid (HL.out.below B0.out)
  refine (H1.out _ V_0.out L_0.out).mono ?_
  rintro e w1 ⟨rfl, hb1⟩
  have B1 := Lib.hid (bnext B0.out hb1)
  have K1 := Lib.hid (K0.out.below hb1)
  have V_1 := Lib.hid (V_0.out.below hb1)
  have L_1 := Lib.hid (L_0.out.below hb1)
  clear hb1  d0_0 d0_1 d0_2 d0_3 d0_4 d0_5
  obtain ⟨d1_0, d1_1, d1_2, d1_3, d1_4, d1_5⟩ := K1.out.c6
  go_wp2_with fail
  refine (H2.out _ L_1.out).mono ?_
  rintro e w2 ⟨rfl, hb2⟩
  have B2 := Lib.hid (bnext B1.out hb2)
  have K2 := Lib.hid (K1.out.below hb2)
  have V_2 := Lib.hid (V_1.out.below hb2)
  have L_2 := Lib.hid (L_1.out.below hb2)
  clear hb2  d1_0 d1_1 d1_2 d1_3 d1_4 d1_5
  obtain ⟨d2_0, d2_1, d2_2, d2_3, d2_4, d2_5⟩ := K2.out.c6
  go_wp2_with fail
  refine (H3.out _ V_2.out).mono ?_
  rintro e w' ⟨rfl, rfl⟩
  go_wp2_with fail
  refine (is_bad 2 _ _ (by omega)).mono ?_
  rintro e w' ⟨rfl, rfl⟩
  go_wp2_with fail
  refine (alive_any _).mono ?_
  rintro e w3 ⟨rfl, hb3⟩
  have B3 := Lib.hid (bnext B2.out hb3)
  have K3 := Lib.hid (K2.out.below hb3)
  have V_3 := Lib.hid (V_2.out.below hb3)
  have L_3 := Lib.hid (L_2.out.below hb3)
  clear hb3  d2_0 d2_1 d2_2 d2_3 d2_4 d2_5
  obtain ⟨d3_0, d3_1, d3_2, d3_3, d3_4, d3_5⟩ := K3.out.c6
  go_wp2_with fail
  go_ret
  exact ⟨rfl, B3.out⟩

set_option maxHeartbeats 2000000 in
theorem ok (w : World) (p : Nat) (n t : Int) (hp : p < 18446744073709551616) (hn1 : -9223372036854775808 ≤ n) (hn2 : n ≤ 9223372036854775807) (ht1 : -9223372036854775808 ≤ t) (ht2 : t ≤ 9223372036854775807) (vf vl : Value) (f : List Nat) (l : List Int) (s : Nat) (hvf : Nums w vf f) (hvl : IntsZ w vl l) (hs64 : s < 18446744073709551616) (h : M.errC p n t l = 0) (hk : M.chk p f 201 = 0) (hs : s < p) :
    Calls Try.prog 9 #[suV p n t, .agg #[vf, vl, .int .u64 s]] w fun e w' => e = .returned (.bool true) ∧ Below w.heap.size w w' := by
  have H1 := Lib.hid fun W (hW : Nums W vf f) (hL : IntsZ W vl l) => move_ok p s n t vf vl f l W hW hL h hk hs
  have h2 := fun W (hL : IntsZ W vl l) => rcorrupted_any p n t vl l W hp hn1 hn2 ht1 ht2 hL
  rw [h] at h2
  have H2 := Lib.hid h2
  have h3' := fun W (hW : Nums W vf f) => rwithin_any p vf f W hW
  obtain ⟨N, eN, hi, _, _, _, _, hNp, _, _, hr⟩ := M.errC_nat h
  rw [M.errW_chk hi, hk] at h3'
  have H3 := Lib.hid h3'
  have H4 := Lib.hid fun W (hW : Nums W vf f) (hL : IntsZ W vl l) => rmove_any p s n t vf vl f l W hW hL h hk hs
  have HU := Lib.hid fun g g' (a : M.Moved p f l s g) (b : M.Moved p f l s g') => M.Moved.unique hi hr (by omega) a b
  have hs0 : ((0 : Int) == 0) = true := rfl
  have hs1 : ((0 : Int) != 0) = false := rfl
  have HV := Lib.hid hvf
  have HL := Lib.hid hvl
  have hud : ∀ b : Bool, undef ≠ Value.bool b := fun b h => by cases h
  obtain ⟨Af, capf, rfl⟩ := nums_slice' hvf
  obtain ⟨_, _, Al, capl, rfl, _⟩ := hvl
  unfold suV at H1 H2 H4 ⊢
  clear h2 h3' hvf h hk hi hr eN
  have hB0 := (bnext (balloc w (.cells #[.int .u64 p, .int .i64 n, .int .i64 t] 24)) (balloc (w.alloc (.cells #[.int .u64 p, .int .i64 n, .int .i64 t] 24)) (.cells #[.slice Af f.length capf, .slice Al l.length capl, .int .u64 s] 67)))
  have hK0 := ((((kept3 w (w.heap.size) (by simp) (.int .u64 p) (.int .i64 n) (.int .i64 t) 24)).alloc _).app (kept3 (w.alloc (.cells #[.int .u64 p, .int .i64 n, .int .i64 t] 24)) (w.heap.size + 1) (by simp) (.slice Af f.length capf) (.slice Al l.length capl) (.int .u64 s) 67))
  obtain ⟨w0, hw0⟩ : ∃ w0, ((w.alloc (.cells #[.int .u64 p, .int .i64 n, .int .i64 t] 24)).alloc (.cells #[.slice Af f.length capf, .slice Al l.length capl, .int .u64 s] 67)) = w0 := ⟨_, rfl⟩
  rw [hw0] at hB0 hK0
  have B0 := Lib.hid hB0
  have K0 := Lib.hid hK0
  clear hB0 hK0
  obtain ⟨d0_0, d0_1, d0_2, d0_3, d0_4, d0_5⟩ := K0.out.c6
  go_enter Try.func9, Try.ntmps9
  go_wp2_with fail
  clear hw0
  have V_0 := Lib.hid (HV.out.below B0.out)
  have L_0 := Lib.hid (HL.out.below B0.out)
  refine (H1.out _ V_0.out L_0.out).mono ?_
  rintro e w1 ⟨g, hg, v1, rfl, hF, hb1⟩
  have B1 := Lib.hid (bnext B0.out hb1)
  have K1 := Lib.hid (K0.out.below hb1)
  have V_1 := Lib.hid (V_0.out.below hb1)
  have L_1 := Lib.hid (L_0.out.below hb1)
  have F_1 := Lib.hid hF
  clear hb1 hF d0_0 d0_1 d0_2 d0_3 d0_4 d0_5
  obtain ⟨d1_0, d1_1, d1_2, d1_3, d1_4, d1_5⟩ := K1.out.c6
  have HG := Lib.hid hg
  clear hg
  go_wp2_with fail
  refine (H2.out _ L_1.out).mono ?_
  rintro e w2 ⟨rfl, hb2⟩
  have B2 := Lib.hid (bnext B1.out hb2)
  have K2 := Lib.hid (K1.out.below hb2)
  have V_2 := Lib.hid (V_1.out.below hb2)
  have L_2 := Lib.hid (L_1.out.below hb2)
  have F_2 := Lib.hid (F_1.out.below hb2)
  clear hb2  d1_0 d1_1 d1_2 d1_3 d1_4 d1_5
  obtain ⟨d2_0, d2_1, d2_2, d2_3, d2_4, d2_5⟩ := K2.out.c6
  go_wp2_with fail
  refine (H3.out _ V_2.out).mono ?_
  rintro e w' ⟨rfl, rfl⟩
  go_wp2_with fail
  refine (H4.out _ V_2.out L_2.out).mono ?_
  rintro e w3 ⟨g', hg', v4, rfl, hG, hb3⟩
  have B3 := Lib.hid (bnext B2.out hb3)
  have K3 := Lib.hid (K2.out.below hb3)
  have V_3 := Lib.hid (V_2.out.below hb3)
  have L_3 := Lib.hid (L_2.out.below hb3)
  have F_3 := Lib.hid (F_2.out.below hb3)
  have G_3 := Lib.hid hG
  clear hb3 hG d2_0 d2_1 d2_2 d2_3 d2_4 d2_5
  obtain ⟨d3_0, d3_1, d3_2, d3_3, d3_4, d3_5⟩ := K3.out.c6
  obtain rfl := HU.out _ _ HG.out hg'
  clear hg'
  go_wp2_with fail
  refine (is_good _ _ _ _ F_3.out G_3.out).mono ?_
  rintro e w4 ⟨rfl, hb4⟩
  have B4 := Lib.hid (bnext B3.out hb4)
  have K4 := Lib.hid (K3.out.below hb4)
  have V_4 := Lib.hid (V_3.out.below hb4)
  have L_4 := Lib.hid (L_3.out.below hb4)
  have F_4 := Lib.hid (F_3.out.below hb4)
  have G_4 := Lib.hid (G_3.out.below hb4)
  clear hb4  d3_0 d3_1 d3_2 d3_3 d3_4 d3_5
  obtain ⟨d4_0, d4_1, d4_2, d4_3, d4_4, d4_5⟩ := K4.out.c6
  go_wp2_with fail
  go_ret
  exact ⟨rfl, B4.out⟩

theorem walk (w : World) (p : Nat) (n t : Int) (hp : p < 18446744073709551616) (hn1 : -9223372036854775808 ≤ n) (hn2 : n ≤ 9223372036854775807) (ht1 : -9223372036854775808 ≤ t) (ht2 : t ≤ 9223372036854775807) (vf vl : Value) (f : List Nat) (l : List Int) (s : Nat) (hvf : Nums w vf f) (hvl : IntsZ w vl l) (hs64 : s < 18446744073709551616) :
    Calls Try.prog 9 #[suV p n t, .agg #[vf, vl, .int .u64 s]] w fun e w' => e = .returned (.bool true) ∧ Below w.heap.size w w' := by
  by_cases h : M.errC p n t l = 0
  · by_cases hk : M.chk p f 201 = 0
    · by_cases hs : s < p
      · exact ok w p n t hp hn1 hn2 ht1 ht2 vf vl f l s hvf hvl hs64 h hk hs
      · exact arg w p n t hp hn1 hn2 ht1 ht2 vf vl f l s hvf hvl hs64 h hk (by omega)
    · exact bad w p n t hp hn1 hn2 ht1 ht2 vf vl f l s hvf hvl hs64 h hk
  · exact no w p n t hp hn1 hn2 ht1 ht2 vf vl f l s hvf hvl hs64 h
end Go.Proofs.Ytgjkinmfgejjaaa.shareMovesW
