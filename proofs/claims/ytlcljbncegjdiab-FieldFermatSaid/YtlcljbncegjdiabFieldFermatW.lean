/-
  The walk of the law FieldFermat.
-/
import Derived.Test.YtlcljbncegjdiabRefB
namespace Go.Proofs.Ytlcljbncegjdiab.fieldFermatW
open Go.RowKit
set_option linter.unusedVariables false

set_option maxHeartbeats 400000 in
theorem walk_bad (w : World) (p a : Nat) (hp : p < 18446744073709551616) (ha : a < 18446744073709551616) (hv : M.validB p [a] = false) :
    Calls Try.prog 7 #[.int .u64 p, .int .u64 a] w fun e w' => e = .returned (.bool true) ∧ Below w.heap.size w w' := by
  have hR := right1 p a w hp ha hv
  rw [show errOf false = 2 from rfl] at hR
  have HR := Lib.hid hR
  have B0 := Lib.hid (balloc w (.cells #[.int .u64 a] 22))
  clear hR hv hp ha
  go_enter Try.func7, Try.ntmps7
  go_wp2_with fail
  refine (HR.out).mono ?_
  rintro e w' ⟨rfl, rfl⟩
  go_wp2_with fail
  refine (alive_any _).mono ?_
  rintro e w1 ⟨rfl, hb1⟩
  have B1 := Lib.hid (bnext B0.out hb1)
  clear hb1 B0
  go_wp2_with fail
  go_ret
  exact ⟨rfl, B1.out⟩

set_option maxHeartbeats 1000000 in
theorem walk_some (w : World) (p a r : Nat) (hv : M.validB p [a] = true) (hn : M.rootOf p a = some r) :
    Calls Try.prog 7 #[.int .u64 p, .int .u64 a] w fun e w' => e = .returned (.bool true) ∧ Below w.heap.size w w' := by
  obtain ⟨hi, ha⟩ := M.valid1_iff.1 hv
  obtain ⟨h3, hp⟩ := M.pos_of hi
  have hR := right1 p a w (by omega) (by omega) hv
  rw [show errOf true = 0 from rfl] at hR
  have HR := Lib.hid hR
  have hP := fun wx => pow_ok p a p wx hv (by omega)
  have hf : M.pw p a p = a := by unfold M.pw; rw [M.fermat_all hi, Nat.mod_eq_of_lt ha]
  rw [hf] at hP
  have hH := fun wx => pow_ok p a ((p - 1) / 2) wx hv (by omega)
  rw [show (((p - 1) / 2 : Nat) : Int) = ((p : Int) - 1) / 2 by omega] at hH
  have hle := (power_facts hv).1 r hn
  have HS := Lib.hid fun wx => square_ok p a wx hv (decide_eq_true hle)
  obtain ⟨h, eh⟩ : ∃ h, h = M.pw p a ((p - 1) / 2) := ⟨_, rfl⟩
  rw [← eh] at hH hle
  have hx := fun wx => root_ok p a wx hv
  rw [hn] at hx
  obtain ⟨hr1, hr2⟩ := M.rootOf_spec hn
  have hm := fun wx => mul_ok p r r wx (M.valid2_iff.2 ⟨hi, by omega, by omega⟩)
  rw [hr2] at hm
  have HM := Lib.hid hm
  have hr3 : (r : Int) ≤ (p : Int) / 2 := by omega
  clear hm hr2
  have HP := Lib.hid hP
  have HH := Lib.hid hH
  have HX := Lib.hid hx
  have B0 := Lib.hid (balloc w (.cells #[.int .u64 a] 22))
  clear hR hv hi hx hn hP hH hf eh
  go_enter Try.func7, Try.ntmps7
  go_wp2_with fail
  refine (HR.out).mono ?_
  rintro e w' ⟨rfl, rfl⟩
  go_wp2_with fail
  refine (HP.out _).mono ?_
  rintro e w1 ⟨rfl, hb1⟩
  have B1 := Lib.hid (bnext B0.out hb1)
  clear hb1 B0
  go_wp2_with fail
  refine (HH.out _).mono ?_
  rintro e w2 ⟨rfl, hb2⟩
  have B2 := Lib.hid (bnext B1.out hb2)
  clear hb2 B1
  go_wp2_with fail
  refine (HS.out _).mono ?_
  rintro e w3 ⟨rfl, hb3⟩
  have B3 := Lib.hid (bnext B2.out hb3)
  clear hb3 B2
  go_wp2_with fail
  refine (HX.out _).mono ?_
  rintro e w4 ⟨rfl, hb4⟩
  have B4 := Lib.hid (bnext B3.out hb4)
  clear hb4 B3
  unfold rootVal
  go_wp2_with fail
  refine (HM.out _).mono ?_
  rintro e w5 ⟨rfl, hb5⟩
  have B5 := Lib.hid (bnext B4.out hb5)
  clear hb5 B4
  go_wp2_with fail
  refine (alive_any _).mono ?_
  rintro e w6 ⟨rfl, hb6⟩
  have B6 := Lib.hid (bnext B5.out hb6)
  clear hb6 B5
  go_wp2_with fail
  go_ret
  exact ⟨by first | rfl | (simp; omega), B6.out⟩

set_option maxHeartbeats 1000000 in
theorem walk_none (w : World) (p a : Nat) (hv : M.validB p [a] = true) (hn : M.rootOf p a = none) :
    Calls Try.prog 7 #[.int .u64 p, .int .u64 a] w fun e w' => e = .returned (.bool true) ∧ Below w.heap.size w w' := by
  obtain ⟨hi, ha⟩ := M.valid1_iff.1 hv
  obtain ⟨h3, hp⟩ := M.pos_of hi
  have hR := right1 p a w (by omega) (by omega) hv
  rw [show errOf true = 0 from rfl] at hR
  have HR := Lib.hid hR
  have hP := fun wx => pow_ok p a p wx hv (by omega)
  have hf : M.pw p a p = a := by unfold M.pw; rw [M.fermat_all hi, Nat.mod_eq_of_lt ha]
  rw [hf] at hP
  have hH := fun wx => pow_ok p a ((p - 1) / 2) wx hv (by omega)
  rw [show (((p - 1) / 2 : Nat) : Int) = ((p : Int) - 1) / 2 by omega] at hH
  have hle := (power_facts hv).2 hn
  have HS := Lib.hid fun wx => square_ok p a wx hv (decide_eq_false hle)
  obtain ⟨h, eh⟩ : ∃ h, h = M.pw p a ((p - 1) / 2) := ⟨_, rfl⟩
  rw [← eh] at hH hle
  have hx := fun wx => root_ok p a wx hv
  rw [hn] at hx
  have hm := fun wx => mul_ok p 0 0 wx (M.valid2_iff.2 ⟨hi, by omega, by omega⟩)
  rw [show 0 * 0 % p = 0 by simp] at hm
  have HM := Lib.hid hm
  clear hm
  have HP := Lib.hid hP
  have HH := Lib.hid hH
  have HX := Lib.hid hx
  have B0 := Lib.hid (balloc w (.cells #[.int .u64 a] 22))
  clear hR hv hi hx hn hP hH hf eh
  go_enter Try.func7, Try.ntmps7
  go_wp2_with fail
  refine (HR.out).mono ?_
  rintro e w' ⟨rfl, rfl⟩
  go_wp2_with fail
  refine (HP.out _).mono ?_
  rintro e w1 ⟨rfl, hb1⟩
  have B1 := Lib.hid (bnext B0.out hb1)
  clear hb1 B0
  go_wp2_with fail
  refine (HH.out _).mono ?_
  rintro e w2 ⟨rfl, hb2⟩
  have B2 := Lib.hid (bnext B1.out hb2)
  clear hb2 B1
  go_wp2_with fail
  refine (HS.out _).mono ?_
  rintro e w3 ⟨rfl, hb3⟩
  have B3 := Lib.hid (bnext B2.out hb3)
  clear hb3 B2
  go_wp2_with fail
  refine (HX.out _).mono ?_
  rintro e w4 ⟨rfl, hb4⟩
  have B4 := Lib.hid (bnext B3.out hb4)
  clear hb4 B3
  unfold rootVal
  go_wp2_with fail
  refine (HM.out _).mono ?_
  rintro e w5 ⟨rfl, hb5⟩
  have B5 := Lib.hid (bnext B4.out hb5)
  clear hb5 B4
  go_wp2_with fail
  refine (alive_any _).mono ?_
  rintro e w6 ⟨rfl, hb6⟩
  have B6 := Lib.hid (bnext B5.out hb6)
  clear hb6 B5
  go_wp2_with fail
  go_ret
  exact ⟨by first | rfl | (simp; omega), B6.out⟩

theorem walk (w : World) (p : Nat) (hp : p < 18446744073709551616) (a : Nat) (ha : a < 18446744073709551616) :
    Calls Try.prog 7 #[.int .u64 p, .int .u64 a] w fun e w' => e = .returned (.bool true) ∧ Below w.heap.size w w' := by
  cases hv : M.validB p [a] with
  | false => exact walk_bad w p a hp ha hv
  | true =>
    cases hr : M.rootOf p a with
    | none => exact walk_none w p a hv hr
    | some r => exact walk_some w p a r hv hr
end Go.Proofs.Ytlcljbncegjdiab.fieldFermatW
