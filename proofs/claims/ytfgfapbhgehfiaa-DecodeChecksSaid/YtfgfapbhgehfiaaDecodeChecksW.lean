/-
  The walk of the law DecodeChecks.
-/
import Derived.Test.YtfgfapbhgehfiaaL5
namespace Go.Proofs.Ytfgfapbhgehfiaa.decodeChecksW
open Go.RowKit
set_option linter.unusedVariables false
set_option maxRecDepth 100000

set_option maxHeartbeats 1000000 in
theorem walk (w : World) (p : Nat) (hp : p < 18446744073709551616) (d : Int) (hd1 : -9223372036854775808 ≤ d) (hd2 : d ≤ 9223372036854775807) (v : Value) (xs ys : List Nat) (hv : Pts w v xs ys) :
    Calls Try.prog 3 #[.int .u64 p, .int .i64 d, v] w fun e w' => e = .returned (.bool true) ∧ Below w.heap.size w w' := by
  have hud : ∀ b : Bool, undef ≠ Value.bool b := fun b h => by cases h
  have h1 := fun W (hW : Pts W v xs ys) => dcheck_any p d v xs ys W hp hW
  have h2 := fun W (hW : Pts W v xs ys) => rcheck_any p d v xs ys W hp hW
  obtain ⟨m, em⟩ : ∃ m, m = M.dchk p d xs ys := ⟨_, rfl⟩
  rw [← em] at h1 h2
  have H1 := Lib.hid h1
  have H2 := Lib.hid h2
  have HV := Lib.hid hv
  have hmm : (m == m) = true := by simp
  obtain ⟨A, cap, rfl, _⟩ := hv.2.2.2.2
  clear h1 h2 em hv
  have B0 := Lib.hid (Below.refl w.heap.size w)
  go_enter Try.func3, Try.ntmps3
  have V_0 := Lib.hid HV.out
  go_wp2_with fail
  refine (H1.out _ V_0.out).mono ?_
  rintro e w1 ⟨rfl, hb1⟩
  have B1 := Lib.hid (bnext B0.out hb1)
  have V_1 := Lib.hid (V_0.out.below hb1)
  clear hb1  
  go_wp2_with fail
  refine (H2.out _ V_1.out).mono ?_
  rintro e w2 ⟨rfl, hb2⟩
  have B2 := Lib.hid (bnext B1.out hb2)
  have V_2 := Lib.hid (V_1.out.below hb2)
  clear hb2  
  go_wp2_with fail
  refine (alive_any _).mono ?_
  rintro e w3 ⟨rfl, hb3⟩
  have B3 := Lib.hid (bnext B2.out hb3)
  have V_3 := Lib.hid (V_2.out.below hb3)
  clear hb3  
  go_wp2_with fail
  go_ret
  exact ⟨rfl, B3.out⟩
end Go.Proofs.Ytfgfapbhgehfiaa.decodeChecksW
