/-
  The walk of the law DecodeOne.
-/
import Derived.Test.YtfgfapbhgehfiaaD8
namespace Go.Proofs.Ytfgfapbhgehfiaa.decodeOneW
open Go.RowKit
set_option linter.unusedVariables false
set_option maxRecDepth 100000

set_option maxHeartbeats 1000000 in
theorem gt (w : World) (p : Nat) (hp : p < 18446744073709551616) (d a b : Int) (hd1 : -9223372036854775808 ≤ d) (hd2 : d ≤ 9223372036854775807) (ha1 : -9223372036854775808 ≤ a) (ha2 : a ≤ 9223372036854775807) (hb1 : -9223372036854775808 ≤ b) (hb2 : b ≤ 9223372036854775807) (v : Value) (xs ys : List Nat) (hv : Pts w v xs ys) (hab : b < a) :
    Calls Try.prog 9 #[.int .u64 p, .agg #[.int .i64 d, .int .i64 a, .int .i64 b], v] w fun e w' => e = .returned (.bool true) ∧ Below w.heap.size w w' := by
  have hud : ∀ b : Bool, undef ≠ Value.bool b := fun b h => by cases h
  have B0 := Lib.hid (show Below w.heap.size w (w.alloc (.cells #[.int .i64 d, .int .i64 a, .int .i64 b] 54)).drew from (balloc w _).drew)
  obtain ⟨A, cap, rfl, _⟩ := hv.2.2.2.2
  clear hv
  go_enter Try.func9, Try.ntmps9
  go_wp2_with fail
  go_region
  go_wp2_with fail
  refine (alive_any _).mono ?_
  rintro e w1 ⟨rfl, hb⟩
  have B1 := Lib.hid (bnext B0.out hb)
  clear hb
  go_wp2_with fail
  go_ret
  exact ⟨rfl, B1.out⟩

set_option maxHeartbeats 4000000 in
theorem le (w : World) (p : Nat) (hp : p < 18446744073709551616) (d a b : Int) (hd1 : -9223372036854775808 ≤ d) (hd2 : d ≤ 9223372036854775807) (ha1 : -9223372036854775808 ≤ a) (ha2 : a ≤ 9223372036854775807) (hb1 : -9223372036854775808 ≤ b) (hb2 : b ≤ 9223372036854775807) (v : Value) (xs ys : List Nat) (hv : Pts w v xs ys) (hab : ¬ b < a) :
    Calls Try.prog 9 #[.int .u64 p, .agg #[.int .i64 d, .int .i64 a, .int .i64 b], v] w fun e w' => e = .returned (.bool true) ∧ Below w.heap.size w w' := by
  have hud : ∀ b : Bool, undef ≠ Value.bool b := fun b h => by cases h
  have H1 := Lib.hid fun (W : World) (hW : Pts W v xs ys) => decode_any p d a v xs ys W hp hd1 hd2 ha1 ha2 hW
  have H2 := Lib.hid fun (W : World) (hW : Pts W v xs ys) => decode_any p d b v xs ys W hp hd1 hd2 hb1 hb2 hW
  have B0 := Lib.hid (show Below w.heap.size w (w.alloc (.cells #[.int .i64 d, .int .i64 a, .int .i64 b] 54)).drew from (balloc w _).drew)
  have V0 := Lib.hid (show Pts (w.alloc (.cells #[.int .i64 d, .int .i64 a, .int .i64 b] 54)).drew v xs ys from hv.below (balloc w _).drew)
  obtain ⟨A, cap, rfl, _⟩ := hv.2.2.2.2
  clear hv
  go_enter Try.func9, Try.ntmps9
  go_wp2_with fail
  go_region
  go_wp2_with fail
  refine (H1.out _ V0.out).mono ?_
  rintro e w1 ⟨hb, h⟩
  have B1 := Lib.hid (bnext B0.out hb)
  have V1 := Lib.hid (V0.out.below hb)
  clear hb
  rcases h with ⟨D, q, f, v1, u1, rfl, rfl, hok, hn, hg, rfl, hf, hi⟩ | ⟨c, hc, hc2, rfl⟩ | ⟨D, q, rfl, rfl, hok, hn, hno, rfl⟩
  · have HG := Lib.hid (show M.DOk p D xs ys ∧ M.Good p D q xs ys f from ⟨hok, hg⟩)
    have F1 := Lib.hid hf
    have I1 := Lib.hid hi
    obtain ⟨Af, cf, rfl⟩ := nums_slice' hf
    obtain ⟨Au, cu, rfl⟩ := ints_slice hi
    clear hok hn hg hf hi
    go_wp2_with fail
    refine (H2.out _ V1.out).mono ?_
    rintro e w2 ⟨hb, h2⟩
    have B2 := Lib.hid (bnext B1.out hb)
    have F2 := Lib.hid (F1.out.below hb)
    have I2 := Lib.hid (I1.out.below hb)
    clear hb
    rcases h2 with ⟨E, r, g, v2, u2, he1, rfl, hok2, hn2, hg2, rfl, hf2, hi2⟩ | ⟨c2, hc2, hd2', rfl⟩ | ⟨E, r, he1, rfl, hok2, hn2, hno2, rfl⟩
    · obtain rfl : D = E := by omega
      have hfg : f = g := M.Good.unique HG.out.1.isp HG.out.1.nod HG.out.1.wx hn2 (HG.out.2.mono (by omega)) hg2
      subst hfg
      have F3 := Lib.hid hf2
      have I3 := Lib.hid hi2
      obtain ⟨Ag, cg, rfl⟩ := nums_slice' hf2
      obtain ⟨Aw, cw, rfl⟩ := ints_slice hi2
      have hol := Lib.hid (show (M.offI p f xs ys).length ≤ 1000 from Nat.le_trans (M.offK_len p f xs ys xs.length) (Nat.le_trans hok2.len (by omega)))
      clear hok2 hn2 hg2 hf2 hi2 he1
      go_wp2_with fail
      refine (same_any _ _ _ _ F2.out F3.out).mono ?_
      rintro e w3 ⟨rfl, hb⟩
      have B3 := Lib.hid (bnext B2.out hb)
      have I4 := Lib.hid (I2.out.below hb)
      have I5 := Lib.hid (I3.out.below hb)
      clear hb
      go_wp2_with fail
      refine (ints5_any _ _ _ _ hol.out I4.out I5.out).mono ?_
      rintro e w4 ⟨rfl, hb⟩
      have B4 := Lib.hid (bnext B3.out hb)
      clear hb
      go_wp2_with fail
      refine (alive_any _).mono ?_
      rintro e w9 ⟨rfl, hb⟩
      have B9 := Lib.hid (bnext B4.out hb)
      clear hb
      go_wp2_with fail
      go_ret
      exact ⟨rfl, B9.out⟩
    · clear hd2'
      go_wp2_with fail
      refine (alive_any _).mono ?_
      rintro e w9 ⟨rfl, hb⟩
      have B9 := Lib.hid (bnext B2.out hb)
      clear hb
      go_wp2_with fail
      go_ret
      exact ⟨rfl, B9.out⟩
    · obtain rfl : D = E := by omega
      exact absurd (HG.out.2.mono (by omega)) (hno2 f)
  · go_wp2_with fail
    refine (H2.out _ V1.out).mono ?_
    rintro e w2 ⟨hb, h2⟩
    have B2 := Lib.hid (bnext B1.out hb)
    skip
    clear hb
    rcases h2 with ⟨E, r, g, v2, u2, he1, rfl, hok2, hn2, hg2, rfl, hf2, hi2⟩ | ⟨c2, hc2, hd2', rfl⟩ | ⟨E, r, he1, rfl, hok2, hn2, hno2, rfl⟩
    · obtain ⟨Ag, cg, rfl⟩ := nums_slice' hf2
      obtain ⟨Aw, cw, rfl⟩ := ints_slice hi2
      clear hok2 hn2 hg2 hf2 hi2 he1
      go_wp2_with fail
      refine (alive_any _).mono ?_
      rintro e w9 ⟨rfl, hb⟩
      have B9 := Lib.hid (bnext B2.out hb)
      clear hb
      go_wp2_with fail
      go_ret
      exact ⟨rfl, B9.out⟩
    · clear hd2'
      go_wp2_with fail
      refine (alive_any _).mono ?_
      rintro e w9 ⟨rfl, hb⟩
      have B9 := Lib.hid (bnext B2.out hb)
      clear hb
      go_wp2_with fail
      go_ret
      exact ⟨rfl, B9.out⟩
    · clear hok2 hn2 hno2 he1
      go_wp2_with fail
      refine (alive_any _).mono ?_
      rintro e w9 ⟨rfl, hb⟩
      have B9 := Lib.hid (bnext B2.out hb)
      clear hb
      go_wp2_with fail
      go_ret
      exact ⟨rfl, B9.out⟩
  · have HN := Lib.hid (show M.DOk p D xs ys ∧ (∀ f, ¬ M.Good p D q xs ys f) from ⟨hok, hno⟩)
    clear hok hn hno
    go_wp2_with fail
    refine (H2.out _ V1.out).mono ?_
    rintro e w2 ⟨hb, h2⟩
    have B2 := Lib.hid (bnext B1.out hb)
    skip
    clear hb
    rcases h2 with ⟨E, r, g, v2, u2, he1, rfl, hok2, hn2, hg2, rfl, hf2, hi2⟩ | ⟨c2, hc2, hd2', rfl⟩ | ⟨E, r, he1, rfl, hok2, hn2, hno2, rfl⟩
    · obtain rfl : D = E := by omega
      have hlen : q < (M.offI p g xs ys).length := by
        apply Nat.lt_of_not_le
        intro hle
        exact HN.out.2 g ⟨hg2.lt, hg2.tr, hg2.len, hle⟩
      have hlen2 : (q : Int) < ((M.offI p g xs ys).length : Int) := by omega
      obtain ⟨Ag, cg, rfl⟩ := nums_slice' hf2
      obtain ⟨Aw, cw, rfl⟩ := ints_slice hi2
      clear hok2 hn2 hg2 hf2 hi2 he1
      go_wp2_with fail
      refine (alive_any _).mono ?_
      rintro e w9 ⟨rfl, hb⟩
      have B9 := Lib.hid (bnext B2.out hb)
      clear hb
      go_wp2_with fail
      go_ret
      exact ⟨rfl, B9.out⟩
    · clear hd2'
      go_wp2_with fail
      refine (alive_any _).mono ?_
      rintro e w9 ⟨rfl, hb⟩
      have B9 := Lib.hid (bnext B2.out hb)
      clear hb
      go_wp2_with fail
      go_ret
      exact ⟨rfl, B9.out⟩
    · clear hok2 hn2 hno2 he1
      go_wp2_with fail
      refine (alive_any _).mono ?_
      rintro e w9 ⟨rfl, hb⟩
      have B9 := Lib.hid (bnext B2.out hb)
      clear hb
      go_wp2_with fail
      go_ret
      exact ⟨rfl, B9.out⟩

theorem walk (w : World) (p : Nat) (hp : p < 18446744073709551616) (d : Int) (hd1 : -9223372036854775808 ≤ d) (hd2 : d ≤ 9223372036854775807) (a : Int) (ha1 : -9223372036854775808 ≤ a) (ha2 : a ≤ 9223372036854775807) (b : Int) (hb1 : -9223372036854775808 ≤ b) (hb2 : b ≤ 9223372036854775807) (v : Value) (xs ys : List Nat) (hv : Pts w v xs ys) :
    Calls Try.prog 9 #[.int .u64 p, .agg #[.int .i64 d, .int .i64 a, .int .i64 b], v] w fun e w' => e = .returned (.bool true) ∧ Below w.heap.size w w' := by
  by_cases h : b < a
  · exact gt w p hp d a b hd1 hd2 ha1 ha2 hb1 hb2 v xs ys hv h
  · exact le w p hp d a b hd1 hd2 ha1 ha2 hb1 hb2 v xs ys hv h
end Go.Proofs.Ytfgfapbhgehfiaa.decodeOneW
