/-
  The walk of TokenReads: Read against the reference's.
-/
import Derived.Test.YtagdbbikhegoaaaL8
import Derived.Test.YtagdbbikhegoaaaKy
namespace Go.Proofs.Ytagdbbikhegoaaa
open Go.RowKit
set_option linter.unusedVariables false
set_option maxRecDepth 100000
namespace tokenReadsW
set_option maxHeartbeats 2000000 in
theorem walk (W : World) (s : ByteArray) (hs : s.size ≤ 140737488351232) :
    Calls Try.prog 3 #[.string s] W fun e w' => e = .returned (.bool true) ∧ Below W.heap.size W w' := by
  have hud : ∀ b : Bool, undef ≠ Value.bool b := fun b h => by cases h
  have R1 := Lib.hid fun w => read_any s w hs
  have R2 := Lib.hid fun w => rread_any s w hs
  have AL := Lib.hid fun w => alive_any w
  clear hs
  go_enter Try.func3, Try.ntmps3
  go_wp2_with fail
  (with_reducible refine (R1.out _).mono ?_)
  rintro e w1 ⟨A, ts, v, p, E, rfl, hv, hr, h1, h2, hb⟩
  have HV := Lib.hid hv
  have HR := Lib.hid hr
  have H1 := Lib.hid h1
  have H2 := Lib.hid h2
  have B1 := Lib.hid hb
  clear hv hr h1 h2 hb
  go_wp2_with fail
  (with_reducible refine (R2.out _).mono ?_)
  rintro e w2 ⟨A', ts', v', p', E', rfl, hv, hr, h1, h2, hb⟩
  obtain ⟨rfl, rfl, rfl⟩ := HR.out.one hr
  have hA : A = A' := by
    by_cases hE : E = 0
    · exact (H1.out hE).one (h1 hE)
    · rw [H2.out hE, h2 hE]
  subst hA
  have HV1 := Lib.hid (HV.out.below hb)
  have HV2 := Lib.hid hv
  have B2 := Lib.hid (bnext8 B1.out hb)
  have SA := Lib.hid fun w h => rsameT_any v v' A A w (HV1.out.below h) (HV2.out.below h) rfl (fun i hi => ⟨rfl, rfl, rfl⟩)
  have e1 : (E == E) = true := by simp
  have e2 : ((p : Int) == (p : Int)) = true := by simp
  clear hv hr h1 h2 hb HV HR H1 H2
  go_wp2_with fail
  (with_reducible refine (SA.out _ (Below.refl _ _)).mono ?_)
  rintro e w3 ⟨rfl, hb⟩
  have B3 := Lib.hid (bnext8 B2.out hb)
  clear hb
  go_wp2_with fail
  (with_reducible refine (AL.out _).mono ?_)
  rintro e w4 ⟨rfl, hb⟩
  have B4 := Lib.hid (bnext8 B3.out hb)
  clear hb
  go_wp2_with fail
  go_ret
  exact ⟨rfl, B4.out⟩
end tokenReadsW
end Go.Proofs.Ytagdbbikhegoaaa
