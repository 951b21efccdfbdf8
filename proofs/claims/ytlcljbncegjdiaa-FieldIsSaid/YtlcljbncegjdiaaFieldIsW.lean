/-
  The walk of the law FieldIs.
-/
import Derived.Test.YtlcljbncegjdiaaRoot
namespace Go.Proofs.Ytlcljbncegjdiaa.fieldIsW
open Go.RowKit
set_option maxHeartbeats 400000 in
theorem walk (w : World) (p : Nat) (hp : p < 18446744073709551616) :
    Calls Try.prog 3 #[.int .u64 p] w fun e w' => e = .returned (.bool true) ∧ Below w.heap.size w w' := by
  have H1 := Lib.hid (is_any p w hp)
  have H2 := Lib.hid (refIs_any p w hp)
  clear hp
  obtain ⟨b, hb⟩ : ∃ b, b = M.isP p := ⟨_, rfl⟩
  rw [← hb] at H1 H2
  clear hb
  go_enter Try.func3, Try.ntmps3
  go_wp2_with fail
  refine H1.out.mono ?_
  rintro e w' ⟨rfl, rfl⟩
  go_wp2_with fail
  refine H2.out.mono ?_
  rintro e w' ⟨rfl, rfl⟩
  go_wp2_with fail
  refine (alive_any _).mono ?_
  rintro e w' ⟨rfl, hb⟩
  go_wp2_with fail
  go_ret
  exact ⟨rfl, by assumption⟩
end Go.Proofs.Ytlcljbncegjdiaa.fieldIsW
