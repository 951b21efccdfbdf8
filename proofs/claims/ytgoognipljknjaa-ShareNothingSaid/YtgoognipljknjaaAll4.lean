/-
  The reference's All.
-/
import Derived.Test.YtgoognipljknjaaLaw4a
namespace Go.Proofs.Ytgoognipljknjaa
open Go.RowKit
set_option linter.unusedVariables false
set_option maxRecDepth 100000

set_option maxHeartbeats 400000 in
theorem rall_any (p : Nat) (n t : Int) (v : Value) (zs : List Nat) (w : World) (hv : Nums w v zs) :
    Calls Try.prog 43 #[suV p n t, v] w fun e w' => e = .returned (.int .i64 (if (zs.length : Int) = n then errOf (M.within p zs) else 2)) ∧ Below w.heap.size w w' := by
  have hB0 := balloc w (.cells #[.int .u64 p, .int .i64 n, .int .i64 t] 40)
  have hK0 := kept3 w w.heap.size rfl (.int .u64 p) (.int .i64 n) (.int .i64 t) 40
  obtain ⟨w0, hw0⟩ : ∃ w0, w.alloc (.cells #[.int .u64 p, .int .i64 n, .int .i64 t] 40) = w0 := ⟨_, rfl⟩
  rw [hw0] at hB0 hK0
  have B0 := Lib.hid hB0
  obtain ⟨a0, a1, a2⟩ := hK0.c3
  have HW := Lib.hid (within_any p v zs w0 (hv.below hB0) rfl)
  have hl := hv.2.1
  obtain ⟨A, cap, rfl⟩ := nums_slice' hv
  unfold suV
  by_cases h : (zs.length : Int) = n
  · rw [if_pos h]
    have hb : ((zs.length : Int) != n) = false := by simp [h]
    obtain ⟨c, ec⟩ : ∃ c, errOf (M.within p zs) = c := ⟨_, rfl⟩
    rw [ec] at HW ⊢
    clear hv hB0 hK0 h ec
    go_enter Try.func43, Try.ntmps43
    go_wp2_with fail
    clear hw0
    refine HW.out.mono ?_
    rintro e w' ⟨rfl, rfl⟩
    go_wp2_with fail
    go_ret
    exact ⟨rfl, B0.out⟩
  · rw [if_neg h]
    have hb : ((zs.length : Int) != n) = true := by simp [h]
    clear hv hB0 hK0 h HW
    go_enter Try.func43, Try.ntmps43
    go_wp2_with fail
    clear hw0
    go_ret
    exact ⟨rfl, B0.out⟩

end Go.Proofs.Ytgoognipljknjaa
