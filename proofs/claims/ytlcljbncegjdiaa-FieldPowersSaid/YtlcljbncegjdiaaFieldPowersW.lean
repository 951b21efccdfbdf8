/-
  The walk of the law FieldPowers.
-/
import Derived.Test.YtlcljbncegjdiaaRefA
namespace Go.Proofs.Ytlcljbncegjdiaa.fieldPowersW
open Go.RowKit
set_option linter.unusedVariables false

set_option maxHeartbeats 1000000 in
theorem walk_bad (w : World) (p a n : Nat) (hp : p < 18446744073709551616) (ha : a < 18446744073709551616) (hv : M.validB p [a] = false) :
    Calls Try.prog 8 #[.int .u64 p, .int .u64 a, .int .u64 n] w fun e w' => e = .returned (.bool true) ∧ Below w.heap.size w w' := by
  have HX := Lib.hid fun wx => pow_bad p a n wx hp ha hv
  have hR := fun wx => right1 p a wx hp ha hv
  rw [show errOf false = 2 from rfl] at hR
  have HR := Lib.hid hR
  have B0 := Lib.hid (Below.refl w.heap.size w)
  clear hR hv hp ha
  go_enter Try.func8, Try.ntmps8
  go_wp2_with fail
  refine (HX.out _).mono ?_
  rintro e w1 ⟨rfl, hb1⟩
  have B1 := Lib.hid (bnext B0.out hb1)
  clear hb1 B0
  go_wp2_with fail
  refine (HR.out _).mono ?_
  rintro e w2 ⟨rfl, rfl⟩
  have B2 := Lib.hid (bnext B1.out (balloc w1 (.cells #[.int .u64 a] 22)))
  clear B1
  go_wp2_with fail
  refine (is_err 2 (by decide) 0 _).mono ?_
  rintro e w' ⟨rfl, rfl⟩
  go_wp2_with fail
  refine (alive_any _).mono ?_
  rintro e w3 ⟨rfl, hb3⟩
  have B3 := Lib.hid (bnext B2.out hb3)
  clear hb3 B2
  go_wp2_with fail
  go_ret
  exact ⟨rfl, B3.out⟩

set_option maxHeartbeats 1000000 in
theorem walk_ok (w : World) (p a n : Nat) (hn : n < 18446744073709551616) (hv : M.validB p [a] = true) :
    Calls Try.prog 8 #[.int .u64 p, .int .u64 a, .int .u64 n] w fun e w' => e = .returned (.bool true) ∧ Below w.heap.size w w' := by
  obtain ⟨hi, ha⟩ := M.valid1_iff.1 hv
  obtain ⟨h3, hp⟩ := M.pos_of hi
  have HX := Lib.hid fun wx => pow_ok p a n wx hv hn
  have hR := fun wx => right1 p a wx (by omega) (by omega) hv
  rw [show errOf true = 0 from rfl] at hR
  have HR := Lib.hid hR
  have HG := Lib.hid fun wx => refPow_any p a (by omega) hp ha n n wx (Nat.le_refl _) hn
  have B0 := Lib.hid (Below.refl w.heap.size w)
  obtain ⟨x, hx⟩ : ∃ x, x = M.pw p a n := ⟨_, rfl⟩
  rw [← hx] at HX HG
  clear hR hv hi h3 hp ha hx hn
  go_enter Try.func8, Try.ntmps8
  go_wp2_with fail
  refine (HX.out _).mono ?_
  rintro e w1 ⟨rfl, hb1⟩
  have B1 := Lib.hid (bnext B0.out hb1)
  clear hb1 B0
  go_wp2_with fail
  refine (HR.out _).mono ?_
  rintro e w2 ⟨rfl, rfl⟩
  have B2 := Lib.hid (bnext B1.out (balloc w1 (.cells #[.int .u64 a] 22)))
  clear B1
  go_wp2_with fail
  refine (HG.out _).mono ?_
  rintro e w' ⟨rfl, rfl⟩
  go_wp2_with fail
  refine (is_ok x _).mono ?_
  rintro e w' ⟨rfl, rfl⟩
  go_wp2_with fail
  go_ret
  exact ⟨rfl, B2.out⟩

theorem walk (w : World) (p : Nat) (hp : p < 18446744073709551616) (a : Nat) (ha : a < 18446744073709551616) (n : Nat) (hn : n < 18446744073709551616) :
    Calls Try.prog 8 #[.int .u64 p, .int .u64 a, .int .u64 n] w fun e w' => e = .returned (.bool true) ∧ Below w.heap.size w w' := by
  cases hv : M.validB p [a] with
  | false => exact walk_bad w p a n hp ha hv
  | true => exact walk_ok w p a n hn hv
end Go.Proofs.Ytlcljbncegjdiaa.fieldPowersW
