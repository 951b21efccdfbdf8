/-
  Package share: Setup, and the reference's.
-/
import Derived.Test.YtgjkinmfgejjaaaIntsZ
namespace Go.Proofs.Ytgjkinmfgejjaaa
open Go.RowKit
set_option linter.unusedVariables false
set_option maxRecDepth 100000

namespace M
/-- a valid setup -/
def okS (p : Nat) (n t : Int) : Bool := isP p && decide (1 ≤ n) && decide (n ≤ 13) && decide (0 ≤ t) && decide (4 * t + 1 ≤ n) && decide (n < (p : Int))
def errS (p : Nat) (n t : Int) : Int := if okS p n t = true then 0 else 2
theorem okS_iff {p : Nat} {n t : Int} : okS p n t = true ↔ isP p = true ∧ 1 ≤ n ∧ n ≤ 13 ∧ 0 ≤ t ∧ 4 * t + 1 ≤ n ∧ n < (p : Int) := by
  simp only [okS, Bool.and_eq_true, decide_eq_true_eq]
  constructor
  · rintro ⟨⟨⟨⟨⟨h1, h2⟩, h3⟩, h4⟩, h5⟩, h6⟩; exact ⟨h1, h2, h3, h4, h5, h6⟩
  · rintro ⟨h1, h2, h3, h4, h5, h6⟩; exact ⟨⟨⟨⟨⟨h1, h2⟩, h3⟩, h4⟩, h5⟩, h6⟩
theorem errS_ok {p : Nat} {n t : Int} (h : okS p n t = true) : 0 = errS p n t := by simp [errS, h]
theorem errS_of {p : Nat} {n t : Int} (h1 : isP p = true) (h2 : 1 ≤ n) (h3 : n ≤ 13) (h4 : 0 ≤ t) (h5 : 4 * t + 1 ≤ n) (h6 : n < (p : Int)) : 0 = errS p n t := errS_ok (okS_iff.2 ⟨h1, h2, h3, h4, h5, h6⟩)
theorem errS_no {p : Nat} {n t : Int} (h : ¬ (isP p = true ∧ 1 ≤ n ∧ n ≤ 13 ∧ 0 ≤ t ∧ 4 * t + 1 ≤ n ∧ n < (p : Int))) : 2 = errS p n t := by
  unfold errS; rw [if_neg (fun h2 => h (okS_iff.1 h2))]
theorem okS_nat {p : Nat} {n t : Int} (h : okS p n t = true) : ∃ N T : Nat, n = (N : Int) ∧ t = (T : Int) ∧ isP p = true ∧ 1 ≤ N ∧ N ≤ 13 ∧ 4 * T + 1 ≤ N ∧ N < p := by
  obtain ⟨h1, h2, h3, h4, h5, h6⟩ := okS_iff.1 h
  exact ⟨n.toNat, t.toNat, by omega, by omega, h1, by omega, by omega, by omega, by omega⟩
end M

set_option maxHeartbeats 1000000 in
theorem setup_any (p : Nat) (n t : Int) (w : World) (hp : p < 18446744073709551616) (hn1 : -9223372036854775808 ≤ n) (hn2 : n ≤ 9223372036854775807) (ht1 : -9223372036854775808 ≤ t) (ht2 : t ≤ 9223372036854775807) :
    Calls Try.prog 15 #[suV p n t] w fun e w' => e = .returned (.int .i64 (M.errS p n t)) ∧ Below w.heap.size w w' := by
  have HC := Lib.hid fun W => is_any p W hp
  have HB := Lib.hid (balloc w (Obj.cells #[Value.int IntKind.u64 p, Value.int IntKind.i64 n, Value.int IntKind.i64 t] 24))
  have hud : ∀ b : Bool, undef ≠ Value.bool b := fun b h => by cases h
  unfold suV
  by_cases h1 : n < 1
  · go_enter Try.func15, Try.ntmps15
    go_wp2_with fail
    go_ret
    exact ⟨ret1 (M.errS_no (by omega)), HB.out⟩
  by_cases h2 : n > 13
  · go_enter Try.func15, Try.ntmps15
    go_wp2_with fail
    go_ret
    exact ⟨ret1 (M.errS_no (by omega)), HB.out⟩
  obtain ⟨N, rfl⟩ := Int.eq_ofNat_of_zero_le (show 0 ≤ n by omega)
  cases hi : M.isP p with
  | false =>
    rw [hi] at HC
    go_enter Try.func15, Try.ntmps15
    go_wp2_with (go_at_call 54; refine (HC.out _).mono ?_; rintro e w' ⟨rfl, rfl⟩)
    go_ret
    exact ⟨ret1 (M.errS_no (by simp [hi])), HB.out⟩
  | true =>
    rw [hi] at HC
    by_cases h3 : p ≤ N
    · go_enter Try.func15, Try.ntmps15
      go_wp2_with (go_at_call 54; refine (HC.out _).mono ?_; rintro e w' ⟨rfl, rfl⟩)
      go_ret
      exact ⟨ret1 (M.errS_no (by omega)), HB.out⟩
    · by_cases h4 : t < 0
      · go_enter Try.func15, Try.ntmps15
        go_wp2_with (go_at_call 54; refine (HC.out _).mono ?_; rintro e w' ⟨rfl, rfl⟩)
        go_ret
        exact ⟨ret1 (M.errS_no (by omega)), HB.out⟩
      · by_cases h5 : t > ((N : Int) - 1) / 4
        · go_enter Try.func15, Try.ntmps15
          go_wp2_with (go_at_call 54; refine (HC.out _).mono ?_; rintro e w' ⟨rfl, rfl⟩)
          go_ret
          exact ⟨ret1 (M.errS_no (by omega)), HB.out⟩
        · go_enter Try.func15, Try.ntmps15
          go_wp2_with (go_at_call 54; refine (HC.out _).mono ?_; rintro e w' ⟨rfl, rfl⟩)
          go_ret
          exact ⟨ret1 (M.errS_of hi (by omega) (by omega) (by omega) (by omega) (by omega)), HB.out⟩

set_option maxHeartbeats 1000000 in
theorem rsetup_any (p : Nat) (n t : Int) (w : World) (hp : p < 18446744073709551616) (hn1 : -9223372036854775808 ≤ n) (hn2 : n ≤ 9223372036854775807) (ht1 : -9223372036854775808 ≤ t) (ht2 : t ≤ 9223372036854775807) :
    Calls Try.prog 16 #[suV p n t] w fun e w' => e = .returned (.int .i64 (M.errS p n t)) ∧ Below w.heap.size w w' := by
  have HC := Lib.hid fun W => refIs_any p W hp
  have HB := Lib.hid (balloc w (Obj.cells #[Value.int IntKind.u64 p, Value.int IntKind.i64 n, Value.int IntKind.i64 t] 24))
  have hud : ∀ b : Bool, undef ≠ Value.bool b := fun b h => by cases h
  unfold suV
  cases hi : M.isP p with
  | false =>
    rw [hi] at HC
    go_enter Try.func16, Try.ntmps16
    go_wp2_with (go_at_call 28; refine (HC.out _).mono ?_; rintro e w' ⟨rfl, rfl⟩)
    go_ret
    exact ⟨ret1 (M.errS_no (by simp [hi])), HB.out⟩
  | true =>
    rw [hi] at HC
    by_cases h1 : n < 1
    · go_enter Try.func16, Try.ntmps16
      go_wp2_with (go_at_call 28; refine (HC.out _).mono ?_; rintro e w' ⟨rfl, rfl⟩)
      go_ret
      exact ⟨ret1 (M.errS_no (by omega)), HB.out⟩
    by_cases h2 : n > 13
    · go_enter Try.func16, Try.ntmps16
      go_wp2_with (go_at_call 28; refine (HC.out _).mono ?_; rintro e w' ⟨rfl, rfl⟩)
      go_ret
      exact ⟨ret1 (M.errS_no (by omega)), HB.out⟩
    obtain ⟨N, rfl⟩ := Int.eq_ofNat_of_zero_le (show 0 ≤ n by omega)
    by_cases h4 : t < 0
    · go_enter Try.func16, Try.ntmps16
      go_wp2_with (go_at_call 28; refine (HC.out _).mono ?_; rintro e w' ⟨rfl, rfl⟩)
      go_ret
      exact ⟨ret1 (M.errS_no (by omega)), HB.out⟩
    by_cases h5 : t > 13
    · go_enter Try.func16, Try.ntmps16
      go_wp2_with (go_at_call 28; refine (HC.out _).mono ?_; rintro e w' ⟨rfl, rfl⟩)
      go_ret
      exact ⟨ret1 (M.errS_no (by omega)), HB.out⟩
    by_cases h6 : (N : Int) < 4 * t + 1
    · go_enter Try.func16, Try.ntmps16
      go_wp2_with (go_at_call 28; refine (HC.out _).mono ?_; rintro e w' ⟨rfl, rfl⟩)
      go_ret
      exact ⟨ret1 (M.errS_no (by omega)), HB.out⟩
    by_cases h3 : p ≤ N
    · go_enter Try.func16, Try.ntmps16
      go_wp2_with (go_at_call 28; refine (HC.out _).mono ?_; rintro e w' ⟨rfl, rfl⟩)
      go_ret
      exact ⟨ret1 (M.errS_no (by omega)), HB.out⟩
    · go_enter Try.func16, Try.ntmps16
      go_wp2_with (go_at_call 28; refine (HC.out _).mono ?_; rintro e w' ⟨rfl, rfl⟩)
      go_ret
      exact ⟨ret1 (M.errS_of hi (by omega) (by omega) (by omega) (by omega) (by omega)), HB.out⟩
end Go.Proofs.Ytgjkinmfgejjaaa
