/-
  The walk of the law ShareThere.
-/
import Derived.Test.YtgjkinmfgejjaaaS10
import Derived.Test.YtgjkinmfgejjaaaS9
import Derived.Lib.MinMax
import Derived.Test.YtgjkinmfgejjaaaThereM
namespace Go.Proofs.Ytgjkinmfgejjaaa.shareThereW
open Go.RowKit
set_option linter.unusedVariables false
set_option maxRecDepth 100000

set_option maxHeartbeats 2000000 in
theorem no (w : World) (p : Nat) (n t : Int) (hp : p < 18446744073709551616) (hn1 : -9223372036854775808 ≤ n) (hn2 : n ≤ 9223372036854775807) (ht1 : -9223372036854775808 ≤ t) (ht2 : t ≤ 9223372036854775807) (vf vl : Value) (f : List Nat) (l : List Int) (s : Nat) (hvf : Nums w vf f) (hvl : IntsZ w vl l) (hs64 : s < 18446744073709551616) (h : M.errC p n t l ≠ 0) :
    Calls Try.prog 13 #[suV p n t, .agg #[vf, vl, .int .u64 s]] w fun e w' => e = .returned (.bool true) ∧ Below w.heap.size w w' := by
  have h2 := fun W (hL : IntsZ W vl l) => rcorrupted_any p n t vl l W hp hn1 hn2 ht1 ht2 hL
  obtain ⟨c, ec⟩ : ∃ c, M.errC p n t l = c := ⟨_, rfl⟩
  rw [ec] at h2 h
  have H2 := Lib.hid h2
  have hs1 : (c != 0) = true := by rw [bne_iff_ne]; exact h
  have HV := Lib.hid hvf
  have HL := Lib.hid hvl
  have hud : ∀ b : Bool, undef ≠ Value.bool b := fun b h => by cases h
  obtain ⟨Af, capf, rfl⟩ := nums_slice' hvf
  obtain ⟨_, _, Al, capl, rfl, _⟩ := hvl
  unfold suV at H2 ⊢
  clear h2 hvf h ec
  have hB0 := (bnext (balloc w (.cells #[.int .u64 p, .int .i64 n, .int .i64 t] 24)) (balloc (w.alloc (.cells #[.int .u64 p, .int .i64 n, .int .i64 t] 24)) (.cells #[.slice Af f.length capf, .slice Al l.length capl, .int .u64 s] 67)))
  have hK0 := ((((kept3 w (w.heap.size) (by simp) (.int .u64 p) (.int .i64 n) (.int .i64 t) 24)).alloc _).app (kept3 (w.alloc (.cells #[.int .u64 p, .int .i64 n, .int .i64 t] 24)) (w.heap.size + 1) (by simp) (.slice Af f.length capf) (.slice Al l.length capl) (.int .u64 s) 67))
  obtain ⟨w0, hw0⟩ : ∃ w0, ((w.alloc (.cells #[.int .u64 p, .int .i64 n, .int .i64 t] 24)).alloc (.cells #[.slice Af f.length capf, .slice Al l.length capl, .int .u64 s] 67)) = w0 := ⟨_, rfl⟩
  rw [hw0] at hB0 hK0
  have B0 := Lib.hid hB0
  have K0 := Lib.hid hK0
  clear hB0 hK0
  obtain ⟨d0_0, d0_1, d0_2, d0_3, d0_4, d0_5⟩ := K0.out.c6
  go_enter Try.func13, Try.ntmps13
  go_wp2_with fail
  clear hw0
  have V_0 := Lib.hid (HV.out.below B0.out)
  have L_0 := Lib.hid (HL.out.below B0.out)
  refine (H2.out _ L_0.out).mono ?_
  rintro e w1 ⟨rfl, hb1⟩
  have B1 := Lib.hid (bnext B0.out hb1)
  have K1 := Lib.hid (K0.out.below hb1)
  have V_1 := Lib.hid (V_0.out.below hb1)
  have L_1 := Lib.hid (L_0.out.below hb1)
  clear hb1  d0_0 d0_1 d0_2 d0_3 d0_4 d0_5
  obtain ⟨d1_0, d1_1, d1_2, d1_3, d1_4, d1_5⟩ := K1.out.c6
  go_wp2_with fail
  refine (alive_any _).mono ?_
  rintro e w2 ⟨rfl, hb2⟩
  have B2 := Lib.hid (bnext B1.out hb2)
  have K2 := Lib.hid (K1.out.below hb2)
  have V_2 := Lib.hid (V_1.out.below hb2)
  have L_2 := Lib.hid (L_1.out.below hb2)
  clear hb2  d1_0 d1_1 d1_2 d1_3 d1_4 d1_5
  obtain ⟨d2_0, d2_1, d2_2, d2_3, d2_4, d2_5⟩ := K2.out.c6
  go_wp2_with fail
  go_ret
  exact ⟨rfl, B2.out⟩

set_option maxHeartbeats 2000000 in
theorem bad (w : World) (p : Nat) (n t : Int) (hp : p < 18446744073709551616) (hn1 : -9223372036854775808 ≤ n) (hn2 : n ≤ 9223372036854775807) (ht1 : -9223372036854775808 ≤ t) (ht2 : t ≤ 9223372036854775807) (vf vl : Value) (f : List Nat) (l : List Int) (s : Nat) (hvf : Nums w vf f) (hvl : IntsZ w vl l) (hs64 : s < 18446744073709551616) (h : M.errC p n t l = 0) (hk : M.chk p f 201 ≠ 0) :
    Calls Try.prog 13 #[suV p n t, .agg #[vf, vl, .int .u64 s]] w fun e w' => e = .returned (.bool true) ∧ Below w.heap.size w w' := by
  have h2 := fun W (hL : IntsZ W vl l) => rcorrupted_any p n t vl l W hp hn1 hn2 ht1 ht2 hL
  rw [h] at h2
  have H2 := Lib.hid h2
  have hi : M.isP p = true := (M.okS_iff.1 (M.errC_zero h).1).1
  have h3' := fun W (hW : Nums W vf f) => rwithin_any p vf f W hW
  rw [M.errW_chk hi] at h3'
  have H3 := Lib.hid h3'
  obtain ⟨c, ec⟩ : ∃ c, M.chk p f 201 = c := ⟨_, rfl⟩
  rw [ec] at H3 hk
  have hs1 : (c != 0) = true := by rw [bne_iff_ne]; exact hk
  have hs0 : ((0 : Int) != 0) = false := rfl
  have HV := Lib.hid hvf
  have HL := Lib.hid hvl
  have hud : ∀ b : Bool, undef ≠ Value.bool b := fun b h => by cases h
  obtain ⟨Af, capf, rfl⟩ := nums_slice' hvf
  obtain ⟨_, _, Al, capl, rfl, _⟩ := hvl
  unfold suV at H2 ⊢
  clear h2 h3' hvf h hk ec hi
  have hB0 := (bnext (balloc w (.cells #[.int .u64 p, .int .i64 n, .int .i64 t] 24)) (balloc (w.alloc (.cells #[.int .u64 p, .int .i64 n, .int .i64 t] 24)) (.cells #[.slice Af f.length capf, .slice Al l.length capl, .int .u64 s] 67)))
  have hK0 := ((((kept3 w (w.heap.size) (by simp) (.int .u64 p) (.int .i64 n) (.int .i64 t) 24)).alloc _).app (kept3 (w.alloc (.cells #[.int .u64 p, .int .i64 n, .int .i64 t] 24)) (w.heap.size + 1) (by simp) (.slice Af f.length capf) (.slice Al l.length capl) (.int .u64 s) 67))
  obtain ⟨w0, hw0⟩ : ∃ w0, ((w.alloc (.cells #[.int .u64 p, .int .i64 n, .int .i64 t] 24)).alloc (.cells #[.slice Af f.length capf, .slice Al l.length capl, .int .u64 s] 67)) = w0 := ⟨_, rfl⟩
  rw [hw0] at hB0 hK0
  have B0 := Lib.hid hB0
  have K0 := Lib.hid hK0
  clear hB0 hK0
  obtain ⟨d0_0, d0_1, d0_2, d0_3, d0_4, d0_5⟩ := K0.out.c6
  go_enter Try.func13, Try.ntmps13
  go_wp2_with fail
  clear hw0
  have V_0 := Lib.hid (HV.out.below B0.out)
  have L_0 := Lib.hid (HL.out.below B0.out)
  refine (H2.out _ L_0.out).mono ?_
  rintro e w1 ⟨rfl, hb1⟩
  have B1 := Lib.hid (bnext B0.out hb1)
  have K1 := Lib.hid (K0.out.below hb1)
  have V_1 := Lib.hid (V_0.out.below hb1)
  have L_1 := Lib.hid (L_0.out.below hb1)
  clear hb1  d0_0 d0_1 d0_2 d0_3 d0_4 d0_5
  obtain ⟨d1_0, d1_1, d1_2, d1_3, d1_4, d1_5⟩ := K1.out.c6
  go_wp2_with fail
  refine (H3.out _ V_1.out).mono ?_
  rintro e w' ⟨rfl, rfl⟩
  go_wp2_with fail
  refine (alive_any _).mono ?_
  rintro e w2 ⟨rfl, hb2⟩
  have B2 := Lib.hid (bnext B1.out hb2)
  have K2 := Lib.hid (K1.out.below hb2)
  have V_2 := Lib.hid (V_1.out.below hb2)
  have L_2 := Lib.hid (L_1.out.below hb2)
  clear hb2  d1_0 d1_1 d1_2 d1_3 d1_4 d1_5
  obtain ⟨d2_0, d2_1, d2_2, d2_3, d2_4, d2_5⟩ := K2.out.c6
  go_wp2_with fail
  go_ret
  exact ⟨rfl, B2.out⟩

set_option maxHeartbeats 2000000 in
theorem arg (w : World) (p : Nat) (n t : Int) (hp : p < 18446744073709551616) (hn1 : -9223372036854775808 ≤ n) (hn2 : n ≤ 9223372036854775807) (ht1 : -9223372036854775808 ≤ t) (ht2 : t ≤ 9223372036854775807) (vf vl : Value) (f : List Nat) (l : List Int) (s : Nat) (hvf : Nums w vf f) (hvl : IntsZ w vl l) (hs64 : s < 18446744073709551616) (h : M.errC p n t l = 0) (hk : M.chk p f 201 = 0) (hs : p ≤ s) :
    Calls Try.prog 13 #[suV p n t, .agg #[vf, vl, .int .u64 s]] w fun e w' => e = .returned (.bool true) ∧ Below w.heap.size w w' := by
  have h2 := fun W (hL : IntsZ W vl l) => rcorrupted_any p n t vl l W hp hn1 hn2 ht1 ht2 hL
  rw [h] at h2
  have H2 := Lib.hid h2
  have hi : M.isP p = true := (M.okS_iff.1 (M.errC_zero h).1).1
  have h3' := fun W (hW : Nums W vf f) => rwithin_any p vf f W hW
  rw [M.errW_chk hi, hk] at h3'
  have H3 := Lib.hid h3'
  have hs0 : ((0 : Int) != 0) = false := rfl
  have HV := Lib.hid hvf
  have HL := Lib.hid hvl
  have hud : ∀ b : Bool, undef ≠ Value.bool b := fun b h => by cases h
  obtain ⟨Af, capf, rfl⟩ := nums_slice' hvf
  obtain ⟨_, _, Al, capl, rfl, _⟩ := hvl
  unfold suV at H2 ⊢
  clear h2 h3' hvf h hk hi
  have hB0 := (bnext (balloc w (.cells #[.int .u64 p, .int .i64 n, .int .i64 t] 24)) (balloc (w.alloc (.cells #[.int .u64 p, .int .i64 n, .int .i64 t] 24)) (.cells #[.slice Af f.length capf, .slice Al l.length capl, .int .u64 s] 67)))
  have hK0 := ((((kept3 w (w.heap.size) (by simp) (.int .u64 p) (.int .i64 n) (.int .i64 t) 24)).alloc _).app (kept3 (w.alloc (.cells #[.int .u64 p, .int .i64 n, .int .i64 t] 24)) (w.heap.size + 1) (by simp) (.slice Af f.length capf) (.slice Al l.length capl) (.int .u64 s) 67))
  obtain ⟨w0, hw0⟩ : ∃ w0, ((w.alloc (.cells #[.int .u64 p, .int .i64 n, .int .i64 t] 24)).alloc (.cells #[.slice Af f.length capf, .slice Al l.length capl, .int .u64 s] 67)) = w0 := ⟨_, rfl⟩
  rw [hw0] at hB0 hK0
  have B0 := Lib.hid hB0
  have K0 := Lib.hid hK0
  clear hB0 hK0
  obtain ⟨d0_0, d0_1, d0_2, d0_3, d0_4, d0_5⟩ := K0.out.c6
  go_enter Try.func13, Try.ntmps13
  go_wp2_with fail
  clear hw0
  have V_0 := Lib.hid (HV.out.below B0.out)
  have L_0 := Lib.hid (HL.out.below B0.out)
  refine (H2.out _ L_0.out).mono ?_
  rintro e w1 ⟨rfl, hb1⟩
  have B1 := Lib.hid (bnext B0.out hb1)
  have K1 := Lib.hid (K0.out.below hb1)
  have V_1 := Lib.hid (V_0.out.below hb1)
  have L_1 := Lib.hid (L_0.out.below hb1)
  clear hb1  d0_0 d0_1 d0_2 d0_3 d0_4 d0_5
  obtain ⟨d1_0, d1_1, d1_2, d1_3, d1_4, d1_5⟩ := K1.out.c6
  go_wp2_with fail
  refine (H3.out _ V_1.out).mono ?_
  rintro e w' ⟨rfl, rfl⟩
  go_wp2_with fail
  refine (alive_any _).mono ?_
  rintro e w2 ⟨rfl, hb2⟩
  have B2 := Lib.hid (bnext B1.out hb2)
  have K2 := Lib.hid (K1.out.below hb2)
  have V_2 := Lib.hid (V_1.out.below hb2)
  have L_2 := Lib.hid (L_1.out.below hb2)
  clear hb2  d1_0 d1_1 d1_2 d1_3 d1_4 d1_5
  obtain ⟨d2_0, d2_1, d2_2, d2_3, d2_4, d2_5⟩ := K2.out.c6
  go_wp2_with fail
  go_ret
  exact ⟨rfl, B2.out⟩


set_option maxHeartbeats 4000000 in
theorem ok (w : World) (p N : Nat) (t : Int) (vf vl : Value) (f : List Nat) (l : List Int) (s : Nat) (hvf : Nums w vf f) (hvl : IntsZ w vl l) (h : M.errC p (N : Int) t l = 0) (hk : M.chk p f 201 = 0) (hs : s < p) :
    Calls Try.prog 13 #[suV p (N : Int) t, .agg #[vf, vl, .int .u64 s]] w fun e w' => e = .returned (.bool true) ∧ Below w.heap.size w w' := by
  have hok := (M.errC_zero h).1
  have hll := (M.errC_zero h).2.1
  have hr := (M.errC_zero h).2.2
  obtain ⟨hi, hn1, hn2, ht1, ht2, hnp⟩ := M.okS_iff.1 hok
  obtain ⟨h3, hp⟩ := M.pos_of hi
  obtain ⟨_, hfl, hwf⟩ := M.chk_ok hk
  have h2 := fun W (hL : IntsZ W vl l) => rcorrupted_any p (N : Int) t vl l W (by omega) (by omega) (by omega) (by omega) (by omega) hL
  rw [h] at h2
  have H2 := Lib.hid h2
  have h3' := fun W (hW : Nums W vf f) => rwithin_any p vf f W hW
  rw [M.errW_chk hi, hk] at h3'
  have H3 := Lib.hid h3'
  have H1 := Lib.hid fun W (hW : Nums W vf f) (hL : IntsZ W vl l) => move_ok p s (N : Int) t vf vl f l W hW hL h hk hs
  have hev := M.pev_lt (p := p) f 0 (by omega)
  have HE := Lib.hid fun W (hW : Nums W vf f) => reval_any p 0 vf f W (by omega) hp (by omega) hwf hW
  have hgl : ∀ g, M.Moved p f l s g → g.length ≤ max (M.trim f).length (l.length + 1) := fun g hg => hg.len (by omega)
  have htl := M.trim_len_le f
  have hgk : ∀ g, M.Moved p f l s g → M.chk p g 201 = 0 := fun g hg => M.chk_of hi (by have := hgl g hg; omega) (hg.within (by omega))
  have H4 := Lib.hid fun W v g (hg : M.Moved p f l s g) (hW : Nums W v g) (hL : IntsZ W vl l) => move_ok p (M.pev p f 0) (N : Int) t v vl g l W hW hL h (hgk g hg) hev
  have HBK := Lib.hid fun g b (hg : M.Moved p f l s g) (hb : M.Moved p g l (M.pev p f 0) b) => M.Moved.back hi hr hnp hs hwf hg hb
  have HSF := Lib.hid fun W (hW : Nums W vf f) => shares_ok p N t vf f W hok hW hk
  have HSG := Lib.hid fun W v g (hg : M.Moved p f l s g) (hW : Nums W v g) => shares_ok p N t v g W hok hW (hgk g hg)
  have HTR := Lib.hid fun W (hW : Nums W vf f) => rtrim_any vf f W hW
  have HEG := Lib.hid fun W v g (hg : M.Moved p f l s g) (hW : Nums W v g) => reval_any p 0 v g W (by omega) hp (by omega) (hg.within (by omega)) hW
  have HG0 := Lib.hid fun g (hg : M.Moved p f l s g) => hg.at0 (by omega) hs
  have HGA := Lib.hid fun g (hg : M.Moved p f l s g) i (hi : i < l.length) => hg.at (p := p) (by omega) hi
  have HGL := Lib.hid hgl
  have HRG := Lib.hid fun i (hi : i < l.length) => M.rises_range hr hi
  obtain ⟨y, ey⟩ : ∃ y, y = M.pev p f 0 := ⟨_, rfl⟩
  rw [← ey] at HE H4 HBK hev
  have hs0 : ((0 : Int) != 0) = false := rfl
  have HV := Lib.hid hvf
  have HL := Lib.hid hvl
  have hud : ∀ b : Bool, undef ≠ Value.bool b := fun b h => by cases h
  obtain ⟨Af, capf, rfl⟩ := nums_slice' hvf
  obtain ⟨_, _, Al, capl, rfl, _⟩ := hvl
  unfold suV at H1 H2 H4 HSF HSG ⊢
  clear h2 h3' hvf h hk hi hr ey hok hwf hgl hgk
  have hB0 := (bnext (balloc w (.cells #[.int .u64 p, .int .i64 N, .int .i64 t] 24)) (balloc (w.alloc (.cells #[.int .u64 p, .int .i64 N, .int .i64 t] 24)) (.cells #[.slice Af f.length capf, .slice Al l.length capl, .int .u64 s] 67)))
  have hK0 := ((((kept3 w (w.heap.size) (by simp) (.int .u64 p) (.int .i64 N) (.int .i64 t) 24)).alloc _).app (kept3 (w.alloc (.cells #[.int .u64 p, .int .i64 N, .int .i64 t] 24)) (w.heap.size + 1) (by simp) (.slice Af f.length capf) (.slice Al l.length capl) (.int .u64 s) 67))
  obtain ⟨w0, hw0⟩ : ∃ w0, ((w.alloc (.cells #[.int .u64 p, .int .i64 N, .int .i64 t] 24)).alloc (.cells #[.slice Af f.length capf, .slice Al l.length capl, .int .u64 s] 67)) = w0 := ⟨_, rfl⟩
  rw [hw0] at hB0 hK0
  have B0 := Lib.hid hB0
  have K0 := Lib.hid hK0
  clear hB0 hK0
  obtain ⟨d0_0, d0_1, d0_2, d0_3, d0_4, d0_5⟩ := K0.out.c6
  go_enter Try.func13, Try.ntmps13
  go_wp2_with fail
  clear hw0
  have V_0 := Lib.hid (HV.out.below B0.out)
  have L_0 := Lib.hid (HL.out.below B0.out)
  refine (H2.out _ L_0.out).mono ?_
  rintro e w1 ⟨rfl, hb1⟩
  have B1 := Lib.hid (bnext B0.out hb1)
  have K1 := Lib.hid (K0.out.below hb1)
  have V_1 := Lib.hid (V_0.out.below hb1)
  have L_1 := Lib.hid (L_0.out.below hb1)
  clear hb1  d0_0 d0_1 d0_2 d0_3 d0_4 d0_5
  obtain ⟨d1_0, d1_1, d1_2, d1_3, d1_4, d1_5⟩ := K1.out.c6
  go_wp2_with fail
  refine (H3.out _ V_1.out).mono ?_
  rintro e w' ⟨rfl, rfl⟩
  go_wp2_with fail
  refine (H1.out _ V_1.out L_1.out).mono ?_
  rintro e w2 ⟨g, hg, v1, rfl, hF, hb2⟩
  have B2 := Lib.hid (bnext B1.out hb2)
  have K2 := Lib.hid (K1.out.below hb2)
  have V_2 := Lib.hid (V_1.out.below hb2)
  have L_2 := Lib.hid (L_1.out.below hb2)
  have F_2 := Lib.hid hF
  clear hb2 hF d1_0 d1_1 d1_2 d1_3 d1_4 d1_5
  obtain ⟨d2_0, d2_1, d2_2, d2_3, d2_4, d2_5⟩ := K2.out.c6
  have HG := Lib.hid hg
  clear hg
  go_wp2_with fail
  have hK := K2.out
  have hB := B2.out
  go_region_held3 (fun W' => W'.cell? ⟨w.heap.size, 0, none⟩ = some (.int .u64 p) ∧ W'.cell? ⟨w.heap.size, 1, none⟩ = some (.int .i64 N) ∧ W'.cell? ⟨w.heap.size, 2, none⟩ = some (.int .i64 t) ∧ W'.cell? ⟨w.heap.size + 1, 0, none⟩ = some (.slice Af f.length capf) ∧ W'.cell? ⟨w.heap.size + 1, 1, none⟩ = some (.slice Al l.length capl) ∧ W'.cell? ⟨w.heap.size + 1, 2, none⟩ = some (.int .u64 s))
    (first | exact hK.c6 | go_keep | exact q3.c6)
    (first
      | (go_at_call 39; refine (H4.out _ _ _ HG.out ((F_2.out).below (Below.refl _ _).drew) ((L_2.out).below (Below.refl _ _).drew)).mono ?_; rintro e w3 ⟨b, hbk, v3, rfl, hK4, hb3⟩; have q3 := Kept.below hK (below_of_drew hb3); have r3 := bnext hB (below_of_drew hb3); have V3 := (V_2.out).below (below_of_drew hb3); have L3 := (L_2.out).below (below_of_drew hb3); have F3 := (F_2.out).below (below_of_drew hb3))
      | (go_at_call 31; refine (HE.out _ ((V_2.out).below (Below.refl _ _).drew)).mono ?_; rintro e w' ⟨rfl, rfl⟩))
  all_goals
    have B3 := Lib.hid r3
    have K3 := Lib.hid q3
    have V_3 := Lib.hid (V3)
    have L_3 := Lib.hid (L3)
    have F_3 := Lib.hid (F3)
    have K4_3 := Lib.hid (hK4)
    clear hK hB d2_0 d2_1 d2_2 d2_3 d2_4 d2_5 hb3 q3 r3
    obtain ⟨d3_0, d3_1, d3_2, d3_3, d3_4, d3_5⟩ := K3.out.c6
    obtain rfl := HBK.out _ _ HG.out hbk
    clear hbk
    go_wp2_with fail
    refine (HSF.out _ V_3.out).mono ?_
    rintro e w4 ⟨v5, rfl, hW5, hb4⟩
    have B4 := Lib.hid (bnext B3.out hb4)
    have K4 := Lib.hid (K3.out.below hb4)
    have V_4 := Lib.hid (V_3.out.below hb4)
    have L_4 := Lib.hid (L_3.out.below hb4)
    have F_4 := Lib.hid (F_3.out.below hb4)
    have K4_4 := Lib.hid (K4_3.out.below hb4)
    have W5_4 := Lib.hid hW5
    clear hb4 hW5 d3_0 d3_1 d3_2 d3_3 d3_4 d3_5
    obtain ⟨d4_0, d4_1, d4_2, d4_3, d4_4, d4_5⟩ := K4.out.c6
    go_wp2_with fail
    refine (HSG.out _ _ _ HG.out F_4.out).mono ?_
    rintro e w5 ⟨v6, rfl, hX6, hb5⟩
    have B5 := Lib.hid (bnext B4.out hb5)
    have K5 := Lib.hid (K4.out.below hb5)
    have V_5 := Lib.hid (V_4.out.below hb5)
    have L_5 := Lib.hid (L_4.out.below hb5)
    have F_5 := Lib.hid (F_4.out.below hb5)
    have K4_5 := Lib.hid (K4_4.out.below hb5)
    have W5_5 := Lib.hid (W5_4.out.below hb5)
    have X6_5 := Lib.hid hX6
    clear hb5 hX6 d4_0 d4_1 d4_2 d4_3 d4_4 d4_5
    obtain ⟨d5_0, d5_1, d5_2, d5_3, d5_4, d5_5⟩ := K5.out.c6
    obtain ⟨A5, cap5, e5⟩ := nums_slice' W5_5.out
    rw [M.shs_len] at e5
    obtain ⟨A6, cap6, e6⟩ := nums_slice' X6_5.out
    rw [M.shs_len] at e6
    obtain ⟨Ag, capg, eg⟩ := nums_slice' F_5.out
    subst e5 e6 eg
    have hm1 : (g.length : Int) ≤ max ((M.trim f).length : Int) (t + 1) := by have := HGL.out g HG.out; omega
    have hm2 : ¬ max ((M.trim f).length : Int) (t + 1) < (g.length : Int) := by omega
    have hm3 : decide (max ((M.trim f).length : Int) (t + 1) < (g.length : Int)) = false := by simp; omega
    have hwr : IntKind.i64.wrap (t + 1) = t + 1 := IntWalk.i64_in _ (by omega)
    have hg0 := HG0.out g HG.out
    have hsb : ((s : Int) != s) = false := by simp
    have hNb : ((N : Int) != N) = false := by simp
    go_wp2_with fail
    have hK := K5.out
    have hB := B5.out
    go_region_held3 (fun W' => W'.cell? ⟨w.heap.size, 0, none⟩ = some (.int .u64 p) ∧ W'.cell? ⟨w.heap.size, 1, none⟩ = some (.int .i64 N) ∧ W'.cell? ⟨w.heap.size, 2, none⟩ = some (.int .i64 t) ∧ W'.cell? ⟨w.heap.size + 1, 0, none⟩ = some (.slice Af f.length capf) ∧ W'.cell? ⟨w.heap.size + 1, 1, none⟩ = some (.slice Al l.length capl) ∧ W'.cell? ⟨w.heap.size + 1, 2, none⟩ = some (.int .u64 s))
      (first | exact hK.c6 | go_keep | exact q6.c6 | exact q7.c6 | exact q8.c6)
      (first
        | (go_at_call 46; refine (HTR.out _ (V7)).mono ?_; rintro e w8 ⟨v8, rfl, hT9, hb8⟩; have q8 := Kept.below q7 hb8; have r8 := bnext r7 hb8; have V8 := (V7).below hb8; have L8 := (L7).below hb8; have F8 := (F7).below hb8; have K48 := (K47).below hb8; have W58 := (W57).below hb8; have X68 := (X67).below hb8; have T78 := (T77).below hb8; obtain ⟨A9, cap9, rfl⟩ := nums_slice' hT9)
        | (go_at_call 31; refine (HEG.out _ _ _ HG.out (F7)).mono ?_; rintro e w' ⟨rfl, rfl⟩)
        | (go_at_call 23; refine (same_any _ _ _ _ (K46) (hT7)).mono ?_; rintro e w7 ⟨rfl, hb7⟩; have q7 := Kept.below q6 hb7; have r7 := bnext r6 hb7; have V7 := (V6).below hb7; have L7 := (L6).below hb7; have F7 := (F6).below hb7; have K47 := (K46).below hb7; have W57 := (W56).below hb7; have X67 := (X66).below hb7; have T77 := (hT7).below hb7)
        | (go_at_call 46; refine (HTR.out _ ((V_5.out).below (Below.refl _ _).drew)).mono ?_; rintro e w6 ⟨v6, rfl, hT7, hb6⟩; have q6 := Kept.below hK (below_of_drew hb6); have r6 := bnext hB (below_of_drew hb6); have V6 := (V_5.out).below (below_of_drew hb6); have L6 := (L_5.out).below (below_of_drew hb6); have F6 := (F_5.out).below (below_of_drew hb6); have K46 := (K4_5.out).below (below_of_drew hb6); have W56 := (W5_5.out).below (below_of_drew hb6); have X66 := (X6_5.out).below (below_of_drew hb6)))
    all_goals
      have B8 := Lib.hid r8
      have K8 := Lib.hid q8
      have V_8 := Lib.hid (V8)
      have L_8 := Lib.hid (L8)
      have F_8 := Lib.hid (F8)
      have K4_8 := Lib.hid (K48)
      have W5_8 := Lib.hid (W58)
      have X6_8 := Lib.hid (X68)
      have T7_8 := Lib.hid (T78)
      have T9_8 := Lib.hid (hT9)
      clear hK hB d5_0 d5_1 d5_2 d5_3 d5_4 d5_5 hb6 q6 r6 hb7 q7 r7 hb8 q8 r8
      obtain ⟨d8_0, d8_1, d8_2, d8_3, d8_4, d8_5⟩ := K8.out.c6
      have WB := Lib.hid (show Below w8.heap.size w8 w8 from Below.refl _ _)
      go_wp2_with fail
      go_loopw [130] (fun ti wr => ∃ k : Nat, k ≤ l.length ∧ ti = .int .i64 k ∧ Below w8.heap.size w8 wr) (fun ti _ => l.length - (intOf ti).toNat)
      case atStart => exact ⟨0, by omega, rfl, WB.out⟩
      case round =>
        obtain ⟨k, hk, rfl, hB⟩ := hrel
        have HBr := Lib.hid hB
        clear hB
        by_cases hlt : k < l.length
        · obtain ⟨b, off, rfl, hb, hc0⟩ := intsZ_cell L_8.out hlt
          have hc := (HBr.out.cell (p := ⟨b, off + k, none⟩) hb).trans hc0
          obtain ⟨g1, g2⟩ := HRG.out k hlt
          have hga := HGA.out g HG.out k hlt
          obtain ⟨j, hj⟩ : ∃ j : Nat, l.getD k 0 = (j : Int) + 1 := ⟨(l.getD k 0 - 1).toNat, by omega⟩
          have hjN : j < N := by omega
          rw [hj] at hc hga g2
          rw [show ((j : Int) + 1).toNat = j + 1 by omega] at hga
          obtain ⟨b5, off5, rfl, hb5, hc5⟩ := nums_cell W5_8.out (i := j) (by rw [M.shs_len]; exact hjN)
          obtain ⟨b6, off6, rfl, hb6, hc6⟩ := nums_cell X6_8.out (i := j) (by rw [M.shs_len]; exact hjN)
          rw [M.shs, M.tabM_get, if_pos hjN] at hc5 hc6
          rw [hga] at hc6
          have e5 := (HBr.out.cell (p := ⟨b5, off5 + j, none⟩) hb5).trans hc5
          have e6 := (HBr.out.cell (p := ⟨b6, off6 + j, none⟩) hb6).trans hc6
          obtain ⟨z, ez⟩ : ∃ z, z = M.pev p f (j + 1) := ⟨_, rfl⟩
          rw [← ez] at e5 e6
          have hkl : (k : Int) < (l.length : Nat) := by omega
          have hjn : (j : Int) < (N : Nat) := by omega
          have hzb : ((z : Int) != z) = false := by simp
          clear ez hc5 hc6 hga hc0 g1 hj
          have hw0 : IntKind.i64.wrap (j : Int) = j := IntWalk.i64_in _ (by omega)
          have hw1 : IntKind.i64.wrap ((j : Int) + 1 - 1) = j := by rw [Int.add_sub_cancel]; exact hw0
          go_wp2_with fail
          go_quiet (fail)
          go_wp2_with fail
          go_roundw
          case rel => exact ⟨k + 1, by omega, by go_num, below_drewN HBr.out _⟩
          case measure => simp [intOf]; omega
        · obtain rfl : k = l.length := by omega
          have B9 := Lib.hid (bnext B8.out HBr.out)
          go_wp2_with fail
          refine (alive_any _).mono ?_
          rintro e w10 ⟨rfl, hb⟩
          have B10 := Lib.hid (bnext B9.out hb)
          clear hb
          go_wp2_with fail
          go_ret
          exact ⟨rfl, B10.out⟩

theorem walk (w : World) (p : Nat) (n t : Int) (hp : p < 18446744073709551616) (hn1 : -9223372036854775808 ≤ n) (hn2 : n ≤ 9223372036854775807) (ht1 : -9223372036854775808 ≤ t) (ht2 : t ≤ 9223372036854775807) (vf vl : Value) (f : List Nat) (l : List Int) (s : Nat) (hvf : Nums w vf f) (hvl : IntsZ w vl l) (hs64 : s < 18446744073709551616) :
    Calls Try.prog 13 #[suV p n t, .agg #[vf, vl, .int .u64 s]] w fun e w' => e = .returned (.bool true) ∧ Below w.heap.size w w' := by
  by_cases h : M.errC p n t l = 0
  · by_cases hk : M.chk p f 201 = 0
    · by_cases hs : s < p
      · obtain ⟨N, T, rfl, rfl, _⟩ := M.okS_nat (M.errC_zero h).1
        exact ok w p N T vf vl f l s hvf hvl h hk hs
      · exact arg w p n t hp hn1 hn2 ht1 ht2 vf vl f l s hvf hvl hs64 h hk (by omega)
    · exact bad w p n t hp hn1 hn2 ht1 ht2 vf vl f l s hvf hvl hs64 h hk
  · exact no w p n t hp hn1 hn2 ht1 ht2 vf vl f l s hvf hvl hs64 h
end Go.Proofs.Ytgjkinmfgejjaaa.shareThereW
