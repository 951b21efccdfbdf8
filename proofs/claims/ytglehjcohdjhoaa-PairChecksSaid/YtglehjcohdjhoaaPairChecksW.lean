/-
  The walk of PairChecks: Check and Size against the definition.
-/
import Derived.Test.YtglehjcohdjhoaaAl6
namespace Go.Proofs.Ytglehjcohdjhoaa
open Go.RowKit
set_option linter.unusedVariables false
set_option maxRecDepth 100000

namespace pairChecksW
set_option maxHeartbeats 2000000 in
theorem walk (W : World) (p : Nat) (hp : p < 18446744073709551616) (t : Int) (h1 : -9223372036854775808 ≤ t) (h2 : t ≤ 9223372036854775807) (v : Value) (m : List (List Nat)) (hv : Mat W v m) :
    Calls Try.prog 3 #[.int .u64 p, .int .i64 t, v] W fun e W' => e = .returned (.bool true) ∧ Below W.heap.size W W' := by
  have hud : ∀ b : Bool, undef ≠ Value.bool b := fun b h => by cases h
  have CH := Lib.hid fun (w : World) (b : Below W.heap.size W w) => pcheck_any p t v m w hp h1 h2 (hv.below b)
  have CHK := Lib.hid fun (w : World) (b : Below W.heap.size W w) => rcheck6_one p t v m w hp h1 h2 (hv.below b)
  have PS := Lib.hid fun (w : World) => psize_any t w h1 h2
  have RS := Lib.hid fun (w : World) => rsize_any t w h1 h2
  obtain ⟨c, ec⟩ : ∃ c, M.pchk p t m = c := ⟨_, rfl⟩
  obtain ⟨s, es⟩ : ∃ s, M.psize t = s := ⟨_, rfl⟩
  rw [ec] at CH CHK
  rw [es] at PS RS
  have hcc : (c == c) = true := by simp
  have hss : (s == s) = true := by simp
  obtain ⟨A, cap, rfl, _⟩ := mat_view6 hv
  clear hv ec es
  go_enter Try.func3, Try.ntmps3
  go_wp2_with fail
  refine (CH.out _ (Below.refl _ _)).mono ?_
  rintro e w1 ⟨rfl, hb⟩
  have B1 := Lib.hid hb
  clear hb
  go_wp2_with fail
  refine (CHK.out _ B1.out).mono ?_
  rintro e w2 ⟨rfl, hb⟩
  have B2 := Lib.hid (bnext B1.out hb)
  clear hb
  go_wp2_with fail
  refine (PS.out _).mono ?_
  rintro e w3 ⟨rfl, rfl⟩
  go_wp2_with fail
  refine (RS.out _).mono ?_
  rintro e w4 ⟨rfl, rfl⟩
  go_wp2_with fail
  refine (alive6_any _).mono ?_
  rintro e w5 ⟨rfl, hb⟩
  have B3 := Lib.hid (bnext B2.out hb)
  clear hb
  go_wp2_with fail
  go_ret
  exact ⟨rfl, B3.out⟩
end pairChecksW
end Go.Proofs.Ytglehjcohdjhoaa
