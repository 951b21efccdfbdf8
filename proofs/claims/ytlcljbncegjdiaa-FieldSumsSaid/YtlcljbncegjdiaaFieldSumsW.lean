/-
  The walk of the law FieldSums.
-/
import Derived.Test.YtlcljbncegjdiaaRefA
namespace Go.Proofs.Ytlcljbncegjdiaa.fieldSumsW
open Go.RowKit
set_option linter.unusedVariables false

set_option maxHeartbeats 1000000 in
theorem walk_bad (w : World) (p a b : Nat) (hp : p < 18446744073709551616) (ha : a < 18446744073709551616) (hb : b < 18446744073709551616) (hv : M.validB p [a, b] = false) :
    Calls Try.prog 4 #[.int .u64 p, .int .u64 a, .int .u64 b] w fun e w' => e = .returned (.bool true) ∧ Below w.heap.size w w' := by
  have hR := right2 p a b w hp ha hb hv
  rw [show errOf false = 2 from rfl] at hR
  have HR := Lib.hid hR
  have HA := Lib.hid fun wx => add_bad p a b wx hp ha hb hv
  have HS := Lib.hid fun wx => sub_bad p a b wx hp ha hb hv
  have HM := Lib.hid fun wx => mul_bad p a b wx hp ha hb hv
  have B0 := Lib.hid (balloc w (.cells #[.int .u64 a, .int .u64 b] 22))
  clear hR hv hp ha hb
  go_enter Try.func4, Try.ntmps4
  go_wp2_with fail
  refine (HR.out).mono ?_
  rintro e w' ⟨rfl, rfl⟩
  go_wp2_with fail
  refine (HA.out _).mono ?_
  rintro e w1 ⟨rfl, hb1⟩
  have B1 := Lib.hid (bnext B0.out hb1)
  clear hb1 B0
  go_wp2_with fail
  refine (HS.out _).mono ?_
  rintro e w2 ⟨rfl, hb2⟩
  have B2 := Lib.hid (bnext B1.out hb2)
  clear hb2 B1
  go_wp2_with fail
  refine (HM.out _).mono ?_
  rintro e w3 ⟨rfl, hb3⟩
  have B3 := Lib.hid (bnext B2.out hb3)
  clear hb3 B2
  go_wp2_with fail
  refine (is_err 2 (by decide) 0 _).mono ?_
  rintro e w' ⟨rfl, rfl⟩
  go_wp2_with fail
  refine (is_err 2 (by decide) 0 _).mono ?_
  rintro e w' ⟨rfl, rfl⟩
  go_wp2_with fail
  refine (is_err 2 (by decide) 0 _).mono ?_
  rintro e w' ⟨rfl, rfl⟩
  go_wp2_with fail
  refine (alive_any _).mono ?_
  rintro e w4 ⟨rfl, hb4⟩
  have B4 := Lib.hid (bnext B3.out hb4)
  clear hb4 B3
  go_wp2_with fail
  go_ret
  exact ⟨rfl, B4.out⟩

set_option maxHeartbeats 1000000 in
theorem walk_ok (w : World) (p a b : Nat) (hv : M.validB p [a, b] = true) :
    Calls Try.prog 4 #[.int .u64 p, .int .u64 a, .int .u64 b] w fun e w' => e = .returned (.bool true) ∧ Below w.heap.size w w' := by
  obtain ⟨hi, ha, hb⟩ := M.valid2_iff.1 hv
  obtain ⟨h3, hp⟩ := M.pos_of hi
  have hR := right2 p a b w (by omega) (by omega) (by omega) hv
  rw [show errOf true = 0 from rfl] at hR
  have HR := Lib.hid hR
  have HA := Lib.hid fun wx => add_ok p a b wx hv
  have HS := Lib.hid fun wx => sub_ok p a b wx hv
  have HM := Lib.hid fun wx => mul_ok p a b wx hv
  have GA := Lib.hid fun wx => refAdd_any p a b wx (by omega) hp ha hb
  have GS := Lib.hid fun wx => refSub_any p a b wx (by omega) hp ha hb
  have GM := Lib.hid fun wx => refMul_any p a b wx (by omega) hp ha hb
  have B0 := Lib.hid (balloc w (.cells #[.int .u64 a, .int .u64 b] 22))
  obtain ⟨x, hx⟩ : ∃ x, x = (a + b) % p := ⟨_, rfl⟩
  obtain ⟨y, hy⟩ : ∃ y, y = (a + p - b) % p := ⟨_, rfl⟩
  obtain ⟨z, hz⟩ : ∃ z, z = a * b % p := ⟨_, rfl⟩
  rw [← hx] at HA GA
  rw [← hy] at HS GS
  rw [← hz] at HM GM
  clear hR hv hi h3 hp ha hb hx hy hz
  go_enter Try.func4, Try.ntmps4
  go_wp2_with fail
  refine (HR.out).mono ?_
  rintro e w' ⟨rfl, rfl⟩
  go_wp2_with fail
  refine (HA.out _).mono ?_
  rintro e w1 ⟨rfl, hb1⟩
  have B1 := Lib.hid (bnext B0.out hb1)
  clear hb1 B0
  go_wp2_with fail
  refine (HS.out _).mono ?_
  rintro e w2 ⟨rfl, hb2⟩
  have B2 := Lib.hid (bnext B1.out hb2)
  clear hb2 B1
  go_wp2_with fail
  refine (HM.out _).mono ?_
  rintro e w3 ⟨rfl, hb3⟩
  have B3 := Lib.hid (bnext B2.out hb3)
  clear hb3 B2
  go_wp2_with fail
  refine (GA.out _).mono ?_
  rintro e w' ⟨rfl, rfl⟩
  go_wp2_with fail
  refine (is_ok x _).mono ?_
  rintro e w' ⟨rfl, rfl⟩
  go_wp2_with fail
  refine (GS.out _).mono ?_
  rintro e w' ⟨rfl, rfl⟩
  go_wp2_with fail
  refine (is_ok y _).mono ?_
  rintro e w' ⟨rfl, rfl⟩
  go_wp2_with fail
  refine (GM.out _).mono ?_
  rintro e w' ⟨rfl, rfl⟩
  go_wp2_with fail
  refine (is_ok z _).mono ?_
  rintro e w' ⟨rfl, rfl⟩
  go_wp2_with fail
  go_ret
  exact ⟨rfl, B3.out⟩

theorem walk (w : World) (p : Nat) (hp : p < 18446744073709551616) (a : Nat) (ha : a < 18446744073709551616) (b : Nat) (hb : b < 18446744073709551616) :
    Calls Try.prog 4 #[.int .u64 p, .int .u64 a, .int .u64 b] w fun e w' => e = .returned (.bool true) ∧ Below w.heap.size w w' := by
  cases hv : M.validB p [a, b] with
  | false => exact walk_bad w p a b hp ha hb hv
  | true => exact walk_ok w p a b hv
end Go.Proofs.Ytlcljbncegjdiaa.fieldSumsW
