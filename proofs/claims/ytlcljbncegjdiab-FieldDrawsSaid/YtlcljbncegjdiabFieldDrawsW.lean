/-
  The walk of the law FieldDraws.
-/
import Derived.Test.YtlcljbncegjdiabRefDraw
namespace Go.Proofs.Ytlcljbncegjdiab.fieldDrawsW
open Go.RowKit
set_option linter.unusedVariables false

set_option maxHeartbeats 400000 in
theorem walk_np (w : World) (p : Nat) (a : Option Addr) (len cap : Nat) (n : Int) (hp : p < 18446744073709551616) (hi : M.isP p = false) :
    Calls Try.prog 5 #[.int .u64 p, .slice a len cap, .int .i64 n] w fun e w' => e = .returned (.bool true) ∧ Below w.heap.size w w' := by
  have HX := Lib.hid (draw_bad p (.slice a len cap) n w hp (.inl hi) a len cap rfl)
  have hI := refIs_any p w hp
  rw [hi] at hI
  have HI := Lib.hid hI
  have B0 := Lib.hid (Below.refl w.heap.size w)
  clear hI hi hp
  go_enter Try.func5, Try.ntmps5
  go_wp2_with fail
  refine (HX.out).mono ?_
  rintro e w' ⟨rfl, rfl⟩
  go_wp2_with fail
  refine (HI.out).mono ?_
  rintro e w' ⟨rfl, rfl⟩
  go_wp2_with fail
  refine (alive_any _).mono ?_
  rintro e w1 ⟨rfl, hb1⟩
  have B1 := Lib.hid (bnext B0.out hb1)
  clear hb1 B0
  go_wp2_with fail
  go_ret
  exact ⟨rfl, B1.out⟩

set_option maxHeartbeats 400000 in
theorem walk_neg (w : World) (p : Nat) (a : Option Addr) (len cap : Nat) (n : Int) (hp : p < 18446744073709551616) (hi : M.isP p = true) (hn : n < 0) :
    Calls Try.prog 5 #[.int .u64 p, .slice a len cap, .int .i64 n] w fun e w' => e = .returned (.bool true) ∧ Below w.heap.size w w' := by
  have HX := Lib.hid (draw_bad p (.slice a len cap) n w hp (.inr (.inl hn)) a len cap rfl)
  have hI := refIs_any p w hp
  rw [hi] at hI
  have HI := Lib.hid hI
  have B0 := Lib.hid (Below.refl w.heap.size w)
  clear hI hi hp
  go_enter Try.func5, Try.ntmps5
  go_wp2_with fail
  refine (HX.out).mono ?_
  rintro e w' ⟨rfl, rfl⟩
  go_wp2_with fail
  refine (HI.out).mono ?_
  rintro e w' ⟨rfl, rfl⟩
  go_wp2_with fail
  refine (alive_any _).mono ?_
  rintro e w1 ⟨rfl, hb1⟩
  have B1 := Lib.hid (bnext B0.out hb1)
  clear hb1 B0
  go_wp2_with fail
  go_ret
  exact ⟨rfl, B1.out⟩

set_option maxHeartbeats 400000 in
theorem walk_big (w : World) (p : Nat) (a : Option Addr) (len cap : Nat) (n : Int) (hp : p < 18446744073709551616) (hi : M.isP p = true) (hn0 : 0 ≤ n) (hn : 65536 < n) :
    Calls Try.prog 5 #[.int .u64 p, .slice a len cap, .int .i64 n] w fun e w' => e = .returned (.bool true) ∧ Below w.heap.size w w' := by
  have HX := Lib.hid (draw_bad p (.slice a len cap) n w hp (.inr (.inr hn)) a len cap rfl)
  have hI := refIs_any p w hp
  rw [hi] at hI
  have HI := Lib.hid hI
  have B0 := Lib.hid (Below.refl w.heap.size w)
  clear hI hi hp
  go_enter Try.func5, Try.ntmps5
  go_wp2_with fail
  refine (HX.out).mono ?_
  rintro e w' ⟨rfl, rfl⟩
  go_wp2_with fail
  refine (HI.out).mono ?_
  rintro e w' ⟨rfl, rfl⟩
  go_wp2_with fail
  refine (alive_any _).mono ?_
  rintro e w1 ⟨rfl, hb1⟩
  have B1 := Lib.hid (bnext B0.out hb1)
  clear hb1 B0
  go_wp2_with fail
  go_ret
  exact ⟨rfl, B1.out⟩

set_option maxHeartbeats 1000000 in
theorem walk_ok (w : World) (p n : Nat) (v : Value) (zs : List Nat) (hi : M.isP p = true) (hn : n ≤ 65536) (hv : Nums w v zs) :
    Calls Try.prog 5 #[.int .u64 p, v, .int .i64 n] w fun e w' => e = .returned (.bool true) ∧ Below w.heap.size w w' := by
  obtain ⟨h3, hp⟩ := M.pos_of hi
  have HX := Lib.hid (draw_any p n v zs w hi hn hv)
  have hI := fun wx => refIs_any p wx (by omega)
  rw [hi] at hI
  have HI := Lib.hid hI
  have HR := Lib.hid fun wx hw => refDraw_any p n v zs wx h3 hp hn hw
  have HV := Lib.hid hv
  clear hI hi hv h3 hp
  go_enter Try.func5, Try.ntmps5
  go_wp2_with fail
  refine HX.out.mono ?_
  rintro e w1 ⟨l, rest, rfl, hl, hr, hb1⟩
  have B1 := Lib.hid hb1
  have HL := Lib.hid hl
  have HRE := Lib.hid hr
  have HV1 := Lib.hid (HV.out.below hb1)
  clear hb1 hl hr
  go_wp2_with fail
  refine (HI.out _).mono ?_
  rintro e w' ⟨rfl, rfl⟩
  go_wp2_with fail
  refine (HR.out _ HV1.out).mono ?_
  rintro e w2 ⟨want, left, rfl, hl2, hr2, hb2⟩
  have B2 := Lib.hid (bnext B1.out hb2)
  have HL1 := Lib.hid (HL.out.below hb2)
  have HRE1 := Lib.hid (HRE.out.below hb2)
  have HW := Lib.hid hl2
  have HLE := Lib.hid hr2
  clear hb2 hl2 hr2 B1 HL HRE HV1
  go_wp2_with fail
  refine (same_any _ _ _ _ HL1.out HW.out).mono ?_
  rintro e w3 ⟨rfl, hb3⟩
  have B3 := Lib.hid (bnext B2.out hb3)
  have HRE2 := Lib.hid (HRE1.out.below hb3)
  have HLE2 := Lib.hid (HLE.out.below hb3)
  clear hb3 B2
  go_wp2_with fail
  refine (same_any _ _ _ _ HRE2.out HLE2.out).mono ?_
  rintro e w4 ⟨rfl, hb4⟩
  have B4 := Lib.hid (bnext B3.out hb4)
  clear hb4 B3
  go_wp2_with fail
  refine (alive_any _).mono ?_
  rintro e w5 ⟨rfl, hb5⟩
  have B5 := Lib.hid (bnext B4.out hb5)
  clear hb5 B4
  go_wp2_with fail
  go_ret
  exact ⟨rfl, B5.out⟩

theorem walk (w : World) (p : Nat) (hp : p < 18446744073709551616) (v : Value) (zs : List Nat) (hv : Nums w v zs) (n : Int) (h1 : -9223372036854775808 ≤ n) (h2 : n ≤ 9223372036854775807) :
    Calls Try.prog 5 #[.int .u64 p, v, .int .i64 n] w fun e w' => e = .returned (.bool true) ∧ Below w.heap.size w w' := by
  obtain ⟨a, len, cap, hs⟩ := nums_open hv
  cases hi : M.isP p with
  | false => rw [hs]; exact walk_np w p a len cap n hp hi
  | true =>
    by_cases hn0 : n < 0
    · rw [hs]; exact walk_neg w p a len cap n hp hi hn0
    · by_cases hn : 65536 < n
      · rw [hs]; exact walk_big w p a len cap n hp hi (by omega) hn
      · obtain ⟨m, rfl⟩ := Int.eq_ofNat_of_zero_le (show 0 ≤ n by omega)
        exact walk_ok w p m v zs hi (by omega) hv
end Go.Proofs.Ytlcljbncegjdiab.fieldDrawsW
