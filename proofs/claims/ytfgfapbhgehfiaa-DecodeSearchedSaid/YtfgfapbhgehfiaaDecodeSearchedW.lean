/-
  The walk of the law DecodeSearched.
-/
import Derived.Test.YtfgfapbhgehfiaaKp
import Derived.Test.YtfgfapbhgehfiaaSeb
namespace Go.Proofs.Ytfgfapbhgehfiaa.decodeSearchedW
open Go.RowKit
set_option linter.unusedVariables false
set_option maxRecDepth 100000

set_option maxHeartbeats 2000000 in
theorem bad1 (w : World) (p : Nat) (hp : p < 18446744073709551616) (d : Int) (hd1 : -9223372036854775808 ≤ d) (hd2 : d ≤ 9223372036854775807) (r : Int) (hr1 : -9223372036854775808 ≤ r) (hr2 : r ≤ 9223372036854775807) (v : Value) (xs ys : List Nat) (hv : Pts w v xs ys) (h : M.dchk p d xs ys ≠ 0) :
    Calls Try.prog 8 #[.int .u64 p, .agg #[.int .i64 d, .int .i64 r], v] w fun e w' => e = .returned (.bool true) ∧ Below w.heap.size w w' := by
  have hud : ∀ b : Bool, undef ≠ Value.bool b := fun b h => by cases h
  have h2 := fun W (hW : Pts W v xs ys) => rcheck_any p d v xs ys W hp hW
  obtain ⟨c, ec⟩ : ∃ c, c = M.dchk p d xs ys := ⟨_, rfl⟩
  rw [← ec] at h2 h
  have hc1 : (c != 0) = true := by rw [bne_iff_ne]; exact h
  have hc0 : (c == 0) = false := by rw [beq_eq_false_iff_ne]; exact h
  have H2 := Lib.hid h2
  have HV := Lib.hid hv
  obtain ⟨A, cap, rfl, _⟩ := hv.2.2.2.2
  clear h2 ec hv
  have B0 := Lib.hid (show Below w.heap.size w (w.alloc (.cells #[.int .i64 d, .int .i64 r] 30)).drew from (balloc w _).drew)
  have V_0 := Lib.hid (show Pts (w.alloc (.cells #[.int .i64 d, .int .i64 r] 30)).drew _ xs ys from HV.out.below (balloc w _).drew)
  go_enter Try.func8, Try.ntmps8
  go_wp2_with fail
  go_region
  go_wp2_with fail
  refine (H2.out _ V_0.out).mono ?_
  rintro e w1 ⟨rfl, hb1⟩
  have B1 := Lib.hid (bnext B0.out hb1)
  have V_1 := Lib.hid (V_0.out.below hb1)
  clear hb1  
  go_wp2_with fail
  refine (alive_any _).mono ?_
  rintro e w2 ⟨rfl, hb2⟩
  have B2 := Lib.hid (bnext B1.out hb2)
  have V_2 := Lib.hid (V_1.out.below hb2)
  clear hb2  
  go_wp2_with fail
  go_ret
  exact ⟨rfl, B2.out⟩

set_option maxHeartbeats 2000000 in
theorem bad2 (w : World) (p : Nat) (hp : p < 18446744073709551616) (d : Int) (hd1 : -9223372036854775808 ≤ d) (hd2 : d ≤ 9223372036854775807) (r : Int) (hr1 : -9223372036854775808 ≤ r) (hr2 : r ≤ 9223372036854775807) (v : Value) (xs ys : List Nat) (hv : Pts w v xs ys) (h : M.dchk p d xs ys = 0) (hl : 9 < xs.length) :
    Calls Try.prog 8 #[.int .u64 p, .agg #[.int .i64 d, .int .i64 r], v] w fun e w' => e = .returned (.bool true) ∧ Below w.heap.size w w' := by
  have hud : ∀ b : Bool, undef ≠ Value.bool b := fun b h => by cases h
  have h2 := fun W (hW : Pts W v xs ys) => rcheck_any p d v xs ys W hp hW
  rw [h] at h2
  have H2 := Lib.hid h2
  have HV := Lib.hid hv
  obtain ⟨A, cap, rfl, _⟩ := hv.2.2.2.2
  clear h2 hv h
  have hl2 : (9 : Int) < (xs.length : Int) := by omega
  have B0 := Lib.hid (show Below w.heap.size w (w.alloc (.cells #[.int .i64 d, .int .i64 r] 30)).drew from (balloc w _).drew)
  have V_0 := Lib.hid (show Pts (w.alloc (.cells #[.int .i64 d, .int .i64 r] 30)).drew _ xs ys from HV.out.below (balloc w _).drew)
  go_enter Try.func8, Try.ntmps8
  go_wp2_with fail
  go_region
  go_wp2_with fail
  refine (H2.out _ V_0.out).mono ?_
  rintro e w1 ⟨rfl, hb1⟩
  have B1 := Lib.hid (bnext B0.out hb1)
  have V_1 := Lib.hid (V_0.out.below hb1)
  clear hb1  
  go_wp2_with fail
  refine (alive_any _).mono ?_
  rintro e w2 ⟨rfl, hb2⟩
  have B2 := Lib.hid (bnext B1.out hb2)
  have V_2 := Lib.hid (V_1.out.below hb2)
  clear hb2  
  go_wp2_with fail
  go_ret
  exact ⟨rfl, B2.out⟩

set_option maxHeartbeats 2000000 in
theorem bad3 (w : World) (p : Nat) (hp : p < 18446744073709551616) (d : Int) (hd1 : -9223372036854775808 ≤ d) (hd2 : d ≤ 9223372036854775807) (r : Int) (hr1 : -9223372036854775808 ≤ r) (hr2 : r ≤ 9223372036854775807) (v : Value) (xs ys : List Nat) (hv : Pts w v xs ys) (h : M.dchk p d xs ys = 0) (hl : ¬ 9 < xs.length) (hr : r < 0) :
    Calls Try.prog 8 #[.int .u64 p, .agg #[.int .i64 d, .int .i64 r], v] w fun e w' => e = .returned (.bool true) ∧ Below w.heap.size w w' := by
  have hud : ∀ b : Bool, undef ≠ Value.bool b := fun b h => by cases h
  have h2 := fun W (hW : Pts W v xs ys) => rcheck_any p d v xs ys W hp hW
  rw [h] at h2
  have H2 := Lib.hid h2
  have HV := Lib.hid hv
  obtain ⟨A, cap, rfl, _⟩ := hv.2.2.2.2
  clear h2 hv h
  have hl2 : ¬ (9 : Int) < (xs.length : Int) := by omega
  have B0 := Lib.hid (show Below w.heap.size w (w.alloc (.cells #[.int .i64 d, .int .i64 r] 30)).drew from (balloc w _).drew)
  have V_0 := Lib.hid (show Pts (w.alloc (.cells #[.int .i64 d, .int .i64 r] 30)).drew _ xs ys from HV.out.below (balloc w _).drew)
  go_enter Try.func8, Try.ntmps8
  go_wp2_with fail
  go_region
  go_wp2_with fail
  refine (H2.out _ V_0.out).mono ?_
  rintro e w1 ⟨rfl, hb1⟩
  have B1 := Lib.hid (bnext B0.out hb1)
  have V_1 := Lib.hid (V_0.out.below hb1)
  clear hb1  
  go_wp2_with fail
  refine (alive_any _).mono ?_
  rintro e w2 ⟨rfl, hb2⟩
  have B2 := Lib.hid (bnext B1.out hb2)
  have V_2 := Lib.hid (V_1.out.below hb2)
  clear hb2  
  go_wp2_with fail
  go_ret
  exact ⟨rfl, B2.out⟩

set_option maxHeartbeats 2000000 in
theorem bad4 (w : World) (p : Nat) (hp : p < 18446744073709551616) (d : Int) (hd1 : -9223372036854775808 ≤ d) (hd2 : d ≤ 9223372036854775807) (r : Int) (hr1 : -9223372036854775808 ≤ r) (hr2 : r ≤ 9223372036854775807) (v : Value) (xs ys : List Nat) (hv : Pts w v xs ys) (h : M.dchk p d xs ys = 0) (hl : ¬ 9 < xs.length) (hr : ¬ r < 0) (hm : M.most xs.length d < r) :
    Calls Try.prog 8 #[.int .u64 p, .agg #[.int .i64 d, .int .i64 r], v] w fun e w' => e = .returned (.bool true) ∧ Below w.heap.size w w' := by
  have hud : ∀ b : Bool, undef ≠ Value.bool b := fun b h => by cases h
  obtain ⟨D, rfl, hok⟩ := M.dchk_zero h
  have h2 := fun W (hW : Pts W v xs ys) => rcheck_any p D v xs ys W hp hW
  rw [h] at h2
  have hlt : (xs.length : Int) < D + 1 + 2 * r := by
    unfold M.most at hm
    split at hm
    · omega
    · omega
  have h3 := fun W (hW : Pts W v xs ys) => few_yes D r v xs ys W hok.d63 hok.len (by omega) hr2 hlt hW
  have H2 := Lib.hid h2
  have H3 := Lib.hid h3
  have HV := Lib.hid hv
  obtain ⟨A, cap, rfl, _⟩ := hv.2.2.2.2
  clear h2 h3 hv h hm hlt hok
  have hl2 : ¬ (9 : Int) < (xs.length : Int) := by omega
  have B0 := Lib.hid (show Below w.heap.size w (w.alloc (.cells #[.int .i64 D, .int .i64 r] 30)).drew from (balloc w _).drew)
  have V_0 := Lib.hid (show Pts (w.alloc (.cells #[.int .i64 D, .int .i64 r] 30)).drew _ xs ys from HV.out.below (balloc w _).drew)
  go_enter Try.func8, Try.ntmps8
  go_wp2_with fail
  go_region
  go_wp2_with fail
  refine (H2.out _ V_0.out).mono ?_
  rintro e w1 ⟨rfl, hb1⟩
  have B1 := Lib.hid (bnext B0.out hb1)
  have V_1 := Lib.hid (V_0.out.below hb1)
  clear hb1  
  go_wp2_with fail
  refine (H3.out _ V_1.out).mono ?_
  rintro e w' ⟨rfl, rfl⟩
  go_wp2_with fail
  refine (alive_any _).mono ?_
  rintro e w2 ⟨rfl, hb2⟩
  have B2 := Lib.hid (bnext B1.out hb2)
  have V_2 := Lib.hid (V_1.out.below hb2)
  clear hb2  
  go_wp2_with fail
  go_ret
  exact ⟨rfl, B2.out⟩

set_option maxHeartbeats 2000000 in
theorem ok (w : World) (p d q : Nat) (v : Value) (xs ys : List Nat) (hv : Pts w v xs ys) (hok : M.DOk p d xs ys) (hn : d + 1 + 2 * q ≤ xs.length) (hl : ¬ 9 < xs.length) :
    Calls Try.prog 8 #[.int .u64 p, .agg #[.int .i64 (d : Nat), .int .i64 (q : Nat)], v] w fun e w' => e = .returned (.bool true) ∧ Below w.heap.size w w' := by
  have hud : ∀ b : Bool, undef ≠ Value.bool b := fun b h => by cases h
  obtain ⟨h3', hp'⟩ := M.pos_of hok.isp
  have hl64 := hok.len
  have HWX := Lib.hid hok.wx
  have h1 := fun W (hW : Pts W v xs ys) => decode_ok p d q v xs ys W hok hn hW
  have h2 := fun W (hW : Pts W v xs ys) => rcheck_any p d v xs ys W (by omega) hW
  rw [hok.chk] at h2
  have h3 := fun W (hW : Pts W v xs ys) => few_no d q v xs ys W hok.d63 hok.len hn hW
  have h4 := fun W (hW : Pts W v xs ys) => rsearch p d q v xs ys W hok hn hW
  have hq0 : ¬ ((q : Int) < 0) := by omega
  have hl2 : ¬ (9 : Int) < (xs.length : Int) := by omega
  have H1 := Lib.hid h1
  have H2 := Lib.hid h2
  have H3 := Lib.hid h3
  have H4 := Lib.hid h4
  have HU := Lib.hid fun (f g : List Nat) (a : M.Good p d q xs ys f) (b : M.Good p d q xs ys g) => M.Good.unique hok.isp hok.nod hok.wx hn a b
  have HV := Lib.hid hv
  obtain ⟨A, cap, rfl, _⟩ := hv.2.2.2.2
  clear h1 h2 h3 h4 hv hok
  unfold DecEnd at H1
  have B0 := Lib.hid (show Below w.heap.size w (w.alloc (.cells #[.int .i64 (d : Nat), .int .i64 (q : Nat)] 30)).drew from (balloc w _).drew)
  have V_0 := Lib.hid (show Pts (w.alloc (.cells #[.int .i64 (d : Nat), .int .i64 (q : Nat)] 30)).drew _ xs ys from HV.out.below (balloc w _).drew)
  go_enter Try.func8, Try.ntmps8
  go_wp2_with fail
  go_region
  go_wp2_with fail
  refine (H2.out _ V_0.out).mono ?_
  rintro e w1 ⟨rfl, hb1⟩
  have B1 := Lib.hid (bnext B0.out hb1)
  have V_1 := Lib.hid (V_0.out.below hb1)
  clear hb1  
  go_wp2_with fail
  refine (H3.out _ V_1.out).mono ?_
  rintro e w' ⟨rfl, rfl⟩
  go_wp2_with fail
  refine (H1.out _ V_1.out).mono ?_
  rintro e w2 ⟨hb2, ⟨f, v1, u, hg, rfl, hf, ho⟩ | ⟨hno, rfl⟩⟩
  · skip
    have HG := Lib.hid hg
    have hI := ints_of_owns ho
    have hF := hf
    clear hg ho hf
    have B2 := Lib.hid (bnext B1.out hb2)
    have V_2 := Lib.hid (V_1.out.below hb2)
    have F_2 := Lib.hid hF
    have I_2 := Lib.hid hI
    clear hb2 hF hI 
    obtain ⟨Af, cf, rfl⟩ := nums_slice' F_2.out
    obtain ⟨Au, cu, rfl⟩ := ints_slice I_2.out
    go_wp2_with fail
    refine (H4.out _ V_2.out).mono ?_
    rintro e w3 ⟨b, v4, rfl, hy, hno4, hb3⟩
    cases b with
    | false => exact absurd HG.out (hno4 rfl f)
    | true =>
    obtain ⟨f4, hW, hg4⟩ := hy rfl
    obtain rfl := HU.out f f4 HG.out hg4
    clear hy hno4 hg4

    have B3 := Lib.hid (bnext B2.out hb3)
    have V_3 := Lib.hid (V_2.out.below hb3)
    have F_3 := Lib.hid (F_2.out.below hb3)
    have I_3 := Lib.hid (I_2.out.below hb3)
    have W_3 := Lib.hid hW
    clear hb3 hW 
    obtain ⟨Aw, cw, rfl⟩ := nums_slice' W_3.out
    go_wp2_with fail
    refine (same_any _ _ f _ F_3.out W_3.out).mono ?_
    rintro e w4 ⟨rfl, hb4⟩
    have B4 := Lib.hid (bnext B3.out hb4)
    have V_4 := Lib.hid (V_3.out.below hb4)
    have F_4 := Lib.hid (F_3.out.below hb4)
    have I_4 := Lib.hid (I_3.out.below hb4)
    have W_4 := Lib.hid (W_3.out.below hb4)
    clear hb4  
    go_wp2_with fail
    refine (roff_any p _ _ f xs ys _ h3' hp' HG.out.lt hl64 HWX.out W_4.out V_4.out).mono ?_
    rintro e w5 ⟨u9, rfl, ho9, hb5⟩
    have hO := ints_of_owns ho9
    clear ho9
    have B5 := Lib.hid (bnext B4.out hb5)
    have V_5 := Lib.hid (V_4.out.below hb5)
    have F_5 := Lib.hid (F_4.out.below hb5)
    have I_5 := Lib.hid (I_4.out.below hb5)
    have W_5 := Lib.hid (W_4.out.below hb5)
    have O_5 := Lib.hid hO
    clear hb5 hO 
    obtain ⟨Ao, co, rfl⟩ := ints_slice O_5.out
    have hol := HG.out.few
    go_wp2_with fail
    refine (ints5_any _ _ _ _ (by omega) I_5.out O_5.out).mono ?_
    rintro e w6 ⟨rfl, hb6⟩
    have B6 := Lib.hid (bnext B5.out hb6)
    have V_6 := Lib.hid (V_5.out.below hb6)
    have F_6 := Lib.hid (F_5.out.below hb6)
    have I_6 := Lib.hid (I_5.out.below hb6)
    have W_6 := Lib.hid (W_5.out.below hb6)
    have O_6 := Lib.hid (O_5.out.below hb6)
    clear hb6  
    go_wp2_with fail
    go_ret
    exact ⟨rfl, B6.out⟩
  · skip
    have HN := Lib.hid hno
    clear hno
    have B2 := Lib.hid (bnext B1.out hb2)
    have V_2 := Lib.hid (V_1.out.below hb2)
    clear hb2  
    go_wp2_with fail
    refine (H4.out _ V_2.out).mono ?_
    rintro e w3 ⟨b, v4, rfl, hy, hno4, hb3⟩
    cases b with
    | true =>
      obtain ⟨f4, _, hg4⟩ := hy rfl
      exact absurd hg4 (HN.out f4)
    | false =>
    clear hy hno4
    have B3 := Lib.hid (bnext B2.out hb3)
    have V_3 := Lib.hid (V_2.out.below hb3)
    clear hb3  
    go_wp2_with fail
    refine (tbad_any 12 _).mono ?_
    rintro e w4 ⟨rfl, hb4⟩
    have B4 := Lib.hid (bnext B3.out hb4)
    have V_4 := Lib.hid (V_3.out.below hb4)
    clear hb4  
    go_wp2_with fail
    refine (alive_any _).mono ?_
    rintro e w5 ⟨rfl, hb5⟩
    have B5 := Lib.hid (bnext B4.out hb5)
    have V_5 := Lib.hid (V_4.out.below hb5)
    clear hb5  
    go_wp2_with fail
    go_ret
    exact ⟨rfl, B5.out⟩

theorem walk (w : World) (p : Nat) (hp : p < 18446744073709551616) (d : Int) (hd1 : -9223372036854775808 ≤ d) (hd2 : d ≤ 9223372036854775807) (r : Int) (hr1 : -9223372036854775808 ≤ r) (hr2 : r ≤ 9223372036854775807) (v : Value) (xs ys : List Nat) (hv : Pts w v xs ys) :
    Calls Try.prog 8 #[.int .u64 p, .agg #[.int .i64 d, .int .i64 r], v] w fun e w' => e = .returned (.bool true) ∧ Below w.heap.size w w' := by
  by_cases hc : M.dchk p d xs ys = 0
  case neg => exact bad1 w p hp d hd1 hd2 r hr1 hr2 v xs ys hv hc
  by_cases hl : 9 < xs.length
  · exact bad2 w p hp d hd1 hd2 r hr1 hr2 v xs ys hv hc hl
  by_cases hr : r < 0
  · exact bad3 w p hp d hd1 hd2 r hr1 hr2 v xs ys hv hc hl hr
  by_cases hm : M.most xs.length d < r
  · exact bad4 w p hp d hd1 hd2 r hr1 hr2 v xs ys hv hc hl hr hm
  have h : M.decE p d r xs ys = 0 := by
    unfold M.decE
    rw [if_neg (by simp [hc]), if_neg hr, if_neg hm]
  obtain ⟨D, q, rfl, rfl, hok, hn⟩ := M.decE_ok h
  exact ok w p D q v xs ys hv hok hn hl
end Go.Proofs.Ytfgfapbhgehfiaa.decodeSearchedW
