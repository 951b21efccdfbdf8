/-
  The walk of TokenNumbers: Number and Digits against the reference's.
-/
import Derived.Test.YtagdbbikhegoaaaDoorDg8
import Derived.Test.YtagdbbikhegoaaaDoorL8
namespace Go.Proofs.YtagdbbikhegoaaaDoor
open Go.RowKit
set_option linter.unusedVariables false
set_option maxRecDepth 100000
namespace tokenNumbersW
set_option maxHeartbeats 2000000 in
theorem walk (W : World) (htab : Lib.TabIs Tryd.prog W "internal/strconv.uint64pow10" .u64 Lib.pow10Tab) (s : ByteArray) (hs : s.size ≤ 140737488351232) (n : Nat) (hn : n < 18446744073709551616) :
    Calls Tryd.prog 3 #[.string s, .int .u64 n] W fun e w' => e = .returned (.bool true) ∧ Below W.heap.size W w' := by
  have hud : ∀ b : Bool, undef ≠ Value.bool b := fun b h => by cases h
  have DG := Lib.hid (digits_any n hn W htab)
  have RD := Lib.hid fun w => rdigits_any n w hn
  have N1 := Lib.hid (tnumber_any s W hs)
  have N2 := Lib.hid (rnumber_any s W hs)
  have AL := Lib.hid fun w => alive_any w
  obtain ⟨E, eE⟩ : ∃ E, E = M.numE (M.bs s) := ⟨_, rfl⟩
  obtain ⟨V, eV⟩ : ∃ V, V = M.numV (M.bs s) := ⟨_, rfl⟩
  rw [← eE, ← eV] at N1 N2
  have g1 : ((V : Int) == (V : Int)) = true := by simp
  have g2 : (E == E) = true := by simp
  clear htab eE eV hs
  go_enter Tryd.func3, Tryd.ntmps3
  go_wp2_with fail
  (with_reducible refine (N1.out).mono ?_)
  rintro e w' ⟨rfl, rfl⟩
  go_wp2_with fail
  (with_reducible refine (N2.out).mono ?_)
  rintro e w' ⟨rfl, rfl⟩
  go_wp2_with fail
  (with_reducible refine (DG.out).mono ?_)
  rintro e w1 ⟨T, rfl, hT, hb1⟩
  have HT := Lib.hid hT
  have B1 := Lib.hid hb1
  clear hT hb1
  go_wp2_with fail
  (with_reducible refine (RD.out _).mono ?_)
  rintro e w2 ⟨T', rfl, hT', hb2⟩
  obtain rfl : T' = T := M.bs_inj (hT'.trans HT.out.symm)
  have B2 := Lib.hid (B1.out.trans (hb2.mono B1.out.size))
  have g3 : (T'.toList == T'.toList) = true := by simp
  clear hT' hb2 HT
  go_wp2_with fail
  (with_reducible refine (AL.out _).mono ?_)
  rintro e w4 ⟨rfl, hb4⟩
  have B4 := Lib.hid (B2.out.trans (hb4.mono B2.out.size))
  clear hb4
  go_wp2_with fail
  go_ret
  exact ⟨rfl, B4.out⟩
end tokenNumbersW
end Go.Proofs.YtagdbbikhegoaaaDoor
