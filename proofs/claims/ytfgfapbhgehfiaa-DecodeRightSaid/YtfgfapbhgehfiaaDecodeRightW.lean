/-
  The walk of the law DecodeRight.
-/
import Derived.Test.YtfgfapbhgehfiaaDRa
import Derived.Test.YtfgfapbhgehfiaaDRb
import Derived.Test.YtfgfapbhgehfiaaDRc
import Derived.Test.YtfgfapbhgehfiaaDRw
namespace Go.Proofs.Ytfgfapbhgehfiaa.decodeRightW
open Go.RowKit
set_option linter.unusedVariables false

theorem walk (w : World) (p : Nat) (hp : p < 18446744073709551616) (d : Int) (hd1 : -9223372036854775808 ≤ d) (hd2 : d ≤ 9223372036854775807) (vf vx va vv : Value) (f xs : List Nat) (zs : List Int) (ys : List Nat) (hf : Nums w vf f) (hx : Nums w vx xs) (ha : IntsZ w va zs) (hy : Nums w vv ys) :
    Calls Try.prog 10 #[.int .u64 p, .int .i64 d, .agg #[vf, vx, va, vv]] w fun e w' => e = .returned (.bool true) ∧ Below w.heap.size w w' := by
  cases h0 : M.isP p with
  | false => exact bad0 w p hp d hd1 hd2 vf vx va vv f xs zs ys hf hx ha hy h0
  | true =>
  by_cases h1 : d < 0
  · exact bad1 w p hp d hd1 hd2 vf vx va vv f xs zs ys hf hx ha hy h0 h1
  have g1 : 0 ≤ d := by omega
  by_cases h2 : 63 < d
  · exact bad2 w p hp d hd1 hd2 vf vx va vv f xs zs ys hf hx ha hy h0 g1 h2
  have g2 : d ≤ 63 := by omega
  by_cases h3 : 64 < xs.length
  · exact bad3 w p hp d hd1 hd2 vf vx va vv f xs zs ys hf hx ha hy h0 g1 g2 h3
  have g3 : xs.length ≤ 64 := by omega
  cases h4 : M.within p xs with
  | false => exact bad4 w p hp d hd1 hd2 vf vx va vv f xs zs ys hf hx ha hy h0 g1 g2 g3 h4
  | true =>
  by_cases h5 : xs.Nodup
  case neg => exact bad5 w p hp d hd1 hd2 vf vx va vv f xs zs ys hf hx ha hy h0 g1 g2 g3 h4 h5
  cases h6 : M.within p f with
  | false => exact bad6 w p hp d hd1 hd2 vf vx va vv f xs zs ys hf hx ha hy h0 g1 g2 g3 h4 h5 h6
  | true =>
  by_cases h7 : d + 1 < ((M.trim f).length : Int)
  · exact bad7 w p hp d hd1 hd2 vf vx va vv f xs zs ys hf hx ha hy h0 g1 g2 g3 h4 h5 h6 h7
  have g7 : ((M.trim f).length : Int) ≤ d + 1 := by omega
  cases h8 : M.within p ys with
  | false => exact bad8 w p hp d hd1 hd2 vf vx va vv f xs zs ys hf hx ha hy h0 g1 g2 g3 h4 h5 h6 g7 h8
  | true =>
  by_cases h9 : zs.length = ys.length
  case neg => exact bad9 w p hp d hd1 hd2 vf vx va vv f xs zs ys hf hx ha hy h0 g1 g2 g3 h4 h5 h6 g7 h8 h9
  by_cases h10 : M.most xs.length d < (zs.length : Int)
  · exact bad10 w p hp d hd1 hd2 vf vx va vv f xs zs ys hf hx ha hy h0 g1 g2 g3 h4 h5 h6 g7 h8 h9 h10
  obtain ⟨D, rfl⟩ := Int.eq_ofNat_of_zero_le g1
  have hn : D + 1 ≤ xs.length := by
    apply Classical.byContradiction
    intro hc
    unfold M.most at h10
    rw [if_pos (by omega)] at h10
    omega
  rw [M.most_nat hn] at h10
  exact good w p hp D vf vx va vv f xs zs ys hf hx ha hy h0 (by omega) g3 h4 h5 h6 (by omega) h8 h9 hn (by omega)
end Go.Proofs.Ytfgfapbhgehfiaa.decodeRightW
