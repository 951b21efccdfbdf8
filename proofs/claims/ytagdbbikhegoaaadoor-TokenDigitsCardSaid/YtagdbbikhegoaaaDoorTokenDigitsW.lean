/-
  The walk of TokenDigits: Number of Digits.
-/
import Derived.Test.YtagdbbikhegoaaaDoorDg8
import Derived.Test.YtagdbbikhegoaaaDoorL8
namespace Go.Proofs.YtagdbbikhegoaaaDoor
open Go.RowKit
set_option linter.unusedVariables false
set_option maxRecDepth 100000
namespace tokenDigitsW
set_option maxHeartbeats 2000000 in
theorem walk (W : World) (htab : Lib.TabIs Tryd.prog W "internal/strconv.uint64pow10" .u64 Lib.pow10Tab) (n : Nat) (hn : n < 18446744073709551616) :
    Calls Tryd.prog 4 #[.int .u64 n] W fun e w' => e = .returned (.bool true) ∧ Below W.heap.size W w' := by
  have hud : ∀ b : Bool, undef ≠ Value.bool b := fun b h => by cases h
  have DG := Lib.hid (digits_any n hn W htab)
  have NU := Lib.hid fun (T : ByteArray) w (h : T.size ≤ 140737488351232) => tnumber_any T w h
  have AL := Lib.hid fun w => alive_any w
  have HE := Lib.hid (M.numE_digits n)
  have HV := Lib.hid (M.numV_digits n)
  have HL := Lib.hid (M.digitsL_len n)
  clear htab
  go_enter Tryd.func4, Tryd.ntmps4
  go_wp2_with fail
  (with_reducible refine (DG.out).mono ?_)
  rintro e w1 ⟨T, rfl, hT, hb1⟩
  have hTs : T.size ≤ 140737488351232 := by
    by_cases h11 : 1 < T.size
    · have h := M.digitsL_big n (by rw [← hT, M.bs_len]; exact h11)
      rw [← hT, M.bs_len] at h
      have h3 : T.size - 1 ≤ 19 := by
        refine Nat.le_of_not_lt fun h4 => ?_
        have : 10 ^ 20 ≤ 10 ^ (T.size - 1) := Nat.pow_le_pow_right (by decide) (by omega)
        omega
      omega
    · omega
  have N1 := Lib.hid (NU.out T w1 hTs)
  rw [hT, HE.out, HV.out] at N1
  have B1 := Lib.hid hb1
  clear hT hb1 hTs DG
  by_cases hbig : 4294967295 < n
  · rw [if_pos hbig, if_pos hbig] at N1
    have g1 : decide ((n : Int) > 4294967295) = true := by rw [decide_eq_true_eq]; omega
    have g2 : decide (4294967295 < (n : Int)) = true := by rw [decide_eq_true_eq]; omega
    go_wp2_with fail
    (with_reducible refine (N1.out).mono ?_)
    rintro e w' ⟨rfl, rfl⟩
    go_wp2_with fail
    (with_reducible refine (AL.out _).mono ?_)
    rintro e w4 ⟨rfl, hb4⟩
    have B4 := Lib.hid (B1.out.trans (hb4.mono B1.out.size))
    clear hb4
    go_wp2_with fail
    go_ret
    exact ⟨rfl, B4.out⟩
  · rw [if_neg hbig, if_neg hbig] at N1
    have g1 : decide ((n : Int) > 4294967295) = false := by rw [decide_eq_false_iff_not]; omega
    have g2 : decide (4294967295 < (n : Int)) = false := by rw [decide_eq_false_iff_not]; omega
    have g3 : ((n : Int) == (n : Int)) = true := by simp
    go_wp2_with fail
    (with_reducible refine (N1.out).mono ?_)
    rintro e w' ⟨rfl, rfl⟩
    go_wp2_with fail
    (with_reducible refine (AL.out _).mono ?_)
    rintro e w4 ⟨rfl, hb4⟩
    have B4 := Lib.hid (B1.out.trans (hb4.mono B1.out.size))
    clear hb4
    go_wp2_with fail
    go_ret
    exact ⟨rfl, B4.out⟩
end tokenDigitsW
end Go.Proofs.YtagdbbikhegoaaaDoor
