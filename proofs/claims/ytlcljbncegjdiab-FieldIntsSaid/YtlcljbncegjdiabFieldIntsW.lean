/-
  The walk of the law FieldInts.
-/
import Derived.Test.YtlcljbncegjdiabRefB
namespace Go.Proofs.Ytlcljbncegjdiab.fieldIntsW
open Go.RowKit
set_option linter.unusedVariables false

set_option maxHeartbeats 400000 in
theorem walk_bad (w : World) (p : Nat) (n : Int) (hp : p < 18446744073709551616) (hi : M.isP p = false) :
    Calls Try.prog 3 #[.int .u64 p, .int .i64 n] w fun e w' => e = .returned (.bool true) ∧ Below w.heap.size w w' := by
  have HX := Lib.hid fun wx => int_bad p n wx hp hi
  have hr := fun wx => refIs_any p wx hp
  rw [hi] at hr
  have HR := Lib.hid hr
  have B0 := Lib.hid (Below.refl w.heap.size w)
  clear hi hr hp
  go_enter Try.func3, Try.ntmps3
  go_wp2_with fail
  refine (HX.out _).mono ?_
  rintro e w' ⟨rfl, rfl⟩
  go_wp2_with fail
  refine (HR.out _).mono ?_
  rintro e w' ⟨rfl, rfl⟩
  go_wp2_with fail
  refine (is_err 2 (by decide) 0 _).mono ?_
  rintro e w' ⟨rfl, rfl⟩
  go_wp2_with fail
  refine (alive_any _).mono ?_
  rintro e w1 ⟨rfl, hb1⟩
  have B1 := Lib.hid (bnext B0.out hb1)
  clear hb1 B0
  go_wp2_with fail
  go_ret
  exact ⟨rfl, B1.out⟩

set_option maxHeartbeats 400000 in
theorem walk_ok (w : World) (p : Nat) (n : Int) (h1 : -9223372036854775808 ≤ n) (h2 : n ≤ 9223372036854775807) (hi : M.isP p = true) :
    Calls Try.prog 3 #[.int .u64 p, .int .i64 n] w fun e w' => e = .returned (.bool true) ∧ Below w.heap.size w w' := by
  obtain ⟨h3, hp⟩ := M.pos_of hi
  have HX := Lib.hid fun wx => int_ok p n wx hi h1 h2
  have hr := fun wx => refIs_any p wx (by omega)
  rw [hi] at hr
  have HR := Lib.hid hr
  have HG := Lib.hid fun wx => refInt_any p n wx h3 hp h1 h2
  have B0 := Lib.hid (Below.refl w.heap.size w)
  obtain ⟨x, hx⟩ : ∃ x, x = n % (p : Int) := ⟨_, rfl⟩
  rw [← hx] at HX HG
  clear hi hr hx h1 h2 h3 hp
  go_enter Try.func3, Try.ntmps3
  go_wp2_with fail
  refine (HX.out _).mono ?_
  rintro e w' ⟨rfl, rfl⟩
  go_wp2_with fail
  refine (HR.out _).mono ?_
  rintro e w' ⟨rfl, rfl⟩
  go_wp2_with fail
  refine (HG.out _).mono ?_
  rintro e w' ⟨rfl, rfl⟩
  go_wp2_with fail
  refine (is_okI x _).mono ?_
  rintro e w' ⟨rfl, rfl⟩
  go_wp2_with fail
  go_ret
  exact ⟨rfl, B0.out⟩

theorem walk (w : World) (p : Nat) (hp : p < 18446744073709551616) (n : Int) (h1 : -9223372036854775808 ≤ n) (h2 : n ≤ 9223372036854775807) :
    Calls Try.prog 3 #[.int .u64 p, .int .i64 n] w fun e w' => e = .returned (.bool true) ∧ Below w.heap.size w w' := by
  cases hi : M.isP p with
  | false => exact walk_bad w p n hp hi
  | true => exact walk_ok w p n h1 h2 hi
end Go.Proofs.Ytlcljbncegjdiab.fieldIntsW
