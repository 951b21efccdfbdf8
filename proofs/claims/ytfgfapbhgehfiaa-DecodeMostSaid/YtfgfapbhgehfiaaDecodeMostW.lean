/-
  The walk of the law DecodeMost.
-/
import Derived.Test.YtfgfapbhgehfiaaL5
namespace Go.Proofs.Ytfgfapbhgehfiaa.decodeMostW
open Go.RowKit
set_option linter.unusedVariables false
set_option maxRecDepth 100000

set_option maxHeartbeats 1000000 in
theorem walk (w : World) (n : Int) (hn1 : -9223372036854775808 ≤ n) (hn2 : n ≤ 9223372036854775807) (d : Int) (hd1 : -9223372036854775808 ≤ d) (hd2 : d ≤ 9223372036854775807) :
    Calls Try.prog 4 #[.int .i64 n, .int .i64 d] w fun e w' => e = .returned (.bool true) ∧ Below w.heap.size w w' := by
  have hud : ∀ b : Bool, undef ≠ Value.bool b := fun b h => by cases h
  have h1 := fun W => most_any n d W hn1 hn2 hd1 hd2
  have h2 := fun W => rmost_any n d W hn1 hn2 hd1 hd2
  obtain ⟨m, em⟩ : ∃ m, m = M.most n d := ⟨_, rfl⟩
  rw [← em] at h1 h2
  have H1 := Lib.hid h1
  have H2 := Lib.hid h2
  have hmm : (m == m) = true := by simp
  clear h1 h2 em
  have B0 := Lib.hid (Below.refl w.heap.size w)
  go_enter Try.func4, Try.ntmps4
  go_wp2_with fail
  refine (H1.out _).mono ?_
  rintro e w' ⟨rfl, rfl⟩
  go_wp2_with fail
  refine (H2.out _).mono ?_
  rintro e w' ⟨rfl, rfl⟩
  go_wp2_with fail
  refine (alive_any _).mono ?_
  rintro e w1 ⟨rfl, hb1⟩
  have B1 := Lib.hid (bnext B0.out hb1)
  clear hb1  
  go_wp2_with fail
  go_ret
  exact ⟨rfl, B1.out⟩
end Go.Proofs.Ytfgfapbhgehfiaa.decodeMostW
