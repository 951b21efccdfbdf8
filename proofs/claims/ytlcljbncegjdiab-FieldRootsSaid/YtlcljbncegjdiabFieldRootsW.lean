/-
  The walk of the law FieldRoots.
-/
import Derived.Test.YtlcljbncegjdiabRefB
namespace Go.Proofs.Ytlcljbncegjdiab.fieldRootsW
open Go.RowKit
set_option linter.unusedVariables false

set_option maxHeartbeats 400000 in
theorem walk_bad (w : World) (p a : Nat) (hp : p < 18446744073709551616) (ha : a < 18446744073709551616) (hv : M.validB p [a] = false) :
    Calls Try.prog 4 #[.int .u64 p, .int .u64 a] w fun e w' => e = .returned (.bool true) ∧ Below w.heap.size w w' := by
  have HS := Lib.hid fun wx => square_bad p a wx hp ha hv
  have HX := Lib.hid fun wx => root_bad p a wx hp ha hv
  have hR := fun wx n hn => right1n p a wx n hn hp ha hv
  rw [show errOf false = 2 from rfl] at hR
  have HR := Lib.hid hR
  have B0 := Lib.hid (Below.refl w.heap.size w)
  clear hR hv hp ha
  go_enter Try.func4, Try.ntmps4
  go_wp2_with fail
  refine (HS.out _).mono ?_
  rintro e w1 ⟨rfl, hb1⟩
  have B1 := Lib.hid (bnext B0.out hb1)
  clear hb1 B0
  go_wp2_with fail
  refine (HX.out _).mono ?_
  rintro e w2 ⟨rfl, hb2⟩
  have B2 := Lib.hid (bnext B1.out hb2)
  clear hb2 B1
  go_wp2_with fail
  refine (HR.out _ _ (by simp)).mono ?_
  rintro e w2a ⟨rfl, rfl⟩
  have B3 := Lib.hid (bnext B2.out (balloc w2 (.cells #[.int .u64 a] 22)))
  clear B2
  go_wp2_with fail
  refine (is_err 2 (by decide) 0 _).mono ?_
  rintro e w' ⟨rfl, rfl⟩
  go_wp2_with fail
  refine (alive_any _).mono ?_
  rintro e w4 ⟨rfl, hb4⟩
  have B4 := Lib.hid (bnext B3.out hb4)
  clear hb4 B3
  go_wp2_with fail
  go_ret
  exact ⟨rfl, B4.out⟩

set_option maxHeartbeats 400000 in
theorem walk_none (w : World) (p a : Nat) (hv : M.validB p [a] = true) (hn : M.rootOf p a = none) :
    Calls Try.prog 4 #[.int .u64 p, .int .u64 a] w fun e w' => e = .returned (.bool true) ∧ Below w.heap.size w w' := by
  obtain ⟨hi, ha⟩ := M.valid1_iff.1 hv
  obtain ⟨h3, hp⟩ := M.pos_of hi
  have HS := Lib.hid fun wx => square_ok p a wx hv (decide_eq_false ((power_facts hv).2 hn))
  have hx := fun wx => root_ok p a wx hv
  rw [hn] at hx
  have hR := fun wx n hn => right1n p a wx n hn (by omega) (by omega) hv
  rw [show errOf true = 0 from rfl] at hR
  have hg := fun wx => refRoot_any p a wx h3 hp ha
  rw [hn] at hg
  have HR := Lib.hid hR
  have HX := Lib.hid hx
  have HG := Lib.hid hg
  have B0 := Lib.hid (Below.refl w.heap.size w)
  clear hR hv hi h3 hp ha hx hg hn
  go_enter Try.func4, Try.ntmps4
  go_wp2_with fail
  refine (HS.out _).mono ?_
  rintro e w1 ⟨rfl, hb1⟩
  have B1 := Lib.hid (bnext B0.out hb1)
  clear hb1 B0
  go_wp2_with fail
  refine (HX.out _).mono ?_
  rintro e w2 ⟨rfl, hb2⟩
  have B2 := Lib.hid (bnext B1.out hb2)
  clear hb2 B1
  unfold rootVal
  go_wp2_with fail
  refine (HR.out _ _ (by simp)).mono ?_
  rintro e w2a ⟨rfl, rfl⟩
  have B3 := Lib.hid (bnext B2.out (balloc w2 (.cells #[.int .u64 a] 22)))
  clear B2
  go_wp2_with fail
  refine (HG.out _).mono ?_
  rintro e w' ⟨rfl, rfl⟩
  unfold refRootVal
  go_wp2_with fail
  refine (is_err 5 (by decide) 0 _).mono ?_
  rintro e w' ⟨rfl, rfl⟩
  go_wp2_with fail
  refine (alive_any _).mono ?_
  rintro e w4 ⟨rfl, hb4⟩
  have B4 := Lib.hid (bnext B3.out hb4)
  clear hb4 B3
  go_wp2_with fail
  go_ret
  exact ⟨rfl, B4.out⟩

set_option maxHeartbeats 400000 in
theorem walk_some (w : World) (p a r : Nat) (hv : M.validB p [a] = true) (hn : M.rootOf p a = some r) :
    Calls Try.prog 4 #[.int .u64 p, .int .u64 a] w fun e w' => e = .returned (.bool true) ∧ Below w.heap.size w w' := by
  obtain ⟨hi, ha⟩ := M.valid1_iff.1 hv
  obtain ⟨h3, hp⟩ := M.pos_of hi
  have HS := Lib.hid fun wx => square_ok p a wx hv (decide_eq_true ((power_facts hv).1 r hn))
  have hx := fun wx => root_ok p a wx hv
  rw [hn] at hx
  have hR := fun wx n hn => right1n p a wx n hn (by omega) (by omega) hv
  rw [show errOf true = 0 from rfl] at hR
  have hg := fun wx => refRoot_any p a wx h3 hp ha
  rw [hn] at hg
  have HR := Lib.hid hR
  have HX := Lib.hid hx
  have HG := Lib.hid hg
  have B0 := Lib.hid (Below.refl w.heap.size w)
  clear hR hv hi h3 hp ha hx hg hn
  go_enter Try.func4, Try.ntmps4
  go_wp2_with fail
  refine (HS.out _).mono ?_
  rintro e w1 ⟨rfl, hb1⟩
  have B1 := Lib.hid (bnext B0.out hb1)
  clear hb1 B0
  go_wp2_with fail
  refine (HX.out _).mono ?_
  rintro e w2 ⟨rfl, hb2⟩
  have B2 := Lib.hid (bnext B1.out hb2)
  clear hb2 B1
  unfold rootVal
  go_wp2_with fail
  refine (HR.out _ _ (by simp)).mono ?_
  rintro e w2a ⟨rfl, rfl⟩
  have B3 := Lib.hid (bnext B2.out (balloc w2 (.cells #[.int .u64 a] 22)))
  clear B2
  go_wp2_with fail
  refine (HG.out _).mono ?_
  rintro e w' ⟨rfl, rfl⟩
  unfold refRootVal
  go_wp2_with fail
  refine (is_ok r _).mono ?_
  rintro e w' ⟨rfl, rfl⟩
  go_wp2_with fail
  go_ret
  exact ⟨rfl, B3.out⟩

theorem walk (w : World) (p : Nat) (hp : p < 18446744073709551616) (a : Nat) (ha : a < 18446744073709551616) :
    Calls Try.prog 4 #[.int .u64 p, .int .u64 a] w fun e w' => e = .returned (.bool true) ∧ Below w.heap.size w w' := by
  cases hv : M.validB p [a] with
  | false => exact walk_bad w p a hp ha hv
  | true =>
    cases hr : M.rootOf p a with
    | none => exact walk_none w p a hv hr
    | some r => exact walk_some w p a r hv hr
end Go.Proofs.Ytlcljbncegjdiab.fieldRootsW
