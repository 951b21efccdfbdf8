/-
  Contracts of the two primality tests (package field and the reference).
-/
import Derived.Test.YtgoognipljknjaaProg
import Derived.Test.YtgoognipljknjaaMath
import Derived.WalkKit
import Derived.WalkSpells
import Derived.WalkLawsBesides
import Derived.Lib.Hide
namespace Go.Proofs.Ytgoognipljknjaa
open Go.RowKit

theorem ret_bool {a b : Bool} (h : a = b) : Ending.returned (.bool a) = .returned (.bool b) := by rw [h]

set_option maxHeartbeats 400000 in
theorem refIs_any (p : Nat) (w : World) (hp : p < 18446744073709551616) :
    Calls Try.prog 38 #[.int .u64 p] w fun e w' => e = .returned (.bool (M.isP p)) ∧ w = w' := by
  by_cases h3 : p < 3
  · go_enter Try.func38, Try.ntmps38
    go_wp2
    go_ret
    exact ⟨ret_bool (M.isP_small h3).symm, rfl⟩
  · by_cases h4 : 65537 < p
    · go_enter Try.func38, Try.ntmps38
      go_wp2
      go_ret
      exact ⟨ret_bool (M.isP_large h4).symm, rfl⟩
    · go_enter Try.func38, Try.ntmps38
      go_wp2
      go_loop [3] (fun t => ∃ d : Nat, 2 ≤ d ∧ d ≤ 257 ∧ t = .int .u64 d ∧ M.Tried p d) (fun t => 300 - (intOf t).toNat)
      case atStart => exact ⟨2, by omega, by omega, rfl, M.tried_two p⟩
      case round =>
        obtain ⟨d, h2, hd, rfl, ht⟩ := hrel
        have hdd : d * d ≤ 257 * 257 := Nat.mul_le_mul hd hd
        have hdi : (d : Int) * d ≤ 66049 := by omega
        have hd0 : (0 : Int) ≤ (d : Int) * d := by omega
        go_wp2
        · have h1 : d * d ≤ p := by have h : (d : Int) * d ≤ p := by assumption
                                    omega
          have h0 : p % d = 0 := by have h : ((p : Int) % (d : Int) == 0) = true := by assumption
                                    have h' := eq_of_beq h
                                    omega
          go_ret
          exact ⟨ret_bool (M.isP_not h2 h1 h0).symm, rfl⟩
        · have h1 : d * d ≤ p := by have h : (d : Int) * d ≤ p := by assumption
                                    omega
          have h0 : p % d ≠ 0 := by have h : ((p : Int) % (d : Int) == 0) = false := by assumption
                                    have h' := ne_of_beq_false h
                                    omega
          have h5 : d < 257 := by
            apply Nat.lt_of_not_le; intro hc
            have := Nat.mul_le_mul hc hc; omega
          go_round
          case rel => exact ⟨d + 1, by omega, by omega, by go_num, M.tried_step ht h0⟩
          case measure => simp [intOf]; omega
        · have h1 : p < d * d := by have h : (p : Int) < (d : Int) * d := by assumption
                                    omega
          go_ret
          exact ⟨ret_bool (M.isP_of_tried (by omega) (by omega) ht h1).symm, rfl⟩

end Go.Proofs.Ytgoognipljknjaa
