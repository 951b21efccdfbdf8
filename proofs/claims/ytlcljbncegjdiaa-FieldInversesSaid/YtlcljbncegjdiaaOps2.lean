/-
  More contracts: quotients, powers, integers, and the reference's arithmetic.
-/
import Derived.Test.YtlcljbncegjdiaaOps
namespace Go.Proofs.Ytlcljbncegjdiaa
open Go.RowKit
set_option linter.unusedVariables false

namespace M
theorem valid_one {p a : Nat} : validB p [1, a] = validB p [a] := by
  unfold validB
  cases hi : isP p with
  | false => rfl
  | true => have := pos_of hi; simp [within]; omega
theorem one_pw {p x : Nat} (h : x < p) : 1 * x % p = x := by rw [Nat.one_mul, Nat.mod_eq_of_lt h]
end M

set_option maxHeartbeats 400000 in
theorem inverse_any (p a : Nat) (w : World) (h3 : 3 ≤ p) (hp : p ≤ 65537) (ha : a < p) :
    Calls Try.prog 38 #[.int .u64 p, .int .u64 a] w fun e' w' => e' = .returned (.int .u64 (M.pw p a (p - 2))) ∧ w = w' := by
  have h := power_any p a (p - 2) w (by omega) hp ha (by omega)
  have e : (((p - 2 : Nat)) : Int) = (p : Int) - 2 := by omega
  rw [e] at h
  have HC := Lib.hid h
  clear h e
  go_enter Try.func38, Try.ntmps38
  go_wp2_with (go_at_call 41; refine HC.out.mono ?_; rintro e w' ⟨rfl, rfl⟩)
  go_ret
  exact ⟨rfl, rfl⟩

set_option maxHeartbeats 400000 in
theorem div_ok (p a b : Nat) (w : World) (hv : M.validB p [a, b] = true) (h0 : b ≠ 0) :
    Calls Try.prog 26 #[.int .u64 p, .int .u64 a, .int .u64 b] w fun e w' => e = .returned (.tuple #[.int .u64 (a * M.pw p b (p - 2) % p : Nat), .int .i64 0]) ∧ Below w.heap.size w w' := by
  obtain ⟨hi, ha, hb⟩ := M.valid2_iff.1 hv
  obtain ⟨h3, hp⟩ := M.pos_of hi
  have HC := Lib.hid (valid2 p a b w (by omega) (by omega) (by omega) hv)
  have hl := M.pw_lt (p := p) b (p - 2) (by omega)
  have HD := Lib.hid (inverse_any p b (w.alloc (.cells #[.int .u64 a, .int .u64 b] 22)) h3 hp hb)
  obtain ⟨q, hq⟩ : ∃ q, q = M.pw p b (p - 2) := ⟨_, rfl⟩
  rw [← hq] at HD hl ⊢
  obtain ⟨m1, m2⟩ := mul_le hp ha hl
  have hz : ((b : Int) == 0) = false := by simp; omega
  clear hv hi hq
  go_enter Try.func26, Try.ntmps26
  go_wp2_with (first | (go_at_call 37; refine HC.out.mono ?_; rintro e w' ⟨rfl, rfl⟩) | (go_at_call 38; refine HD.out.mono ?_; rintro e w' ⟨rfl, rfl⟩))
  go_ret2
  exact ⟨ret2 (by rw [Int.natCast_emod, Int.natCast_mul]) rfl, (Below.refl _ _).alloc (Nat.le_refl _) _⟩

set_option maxHeartbeats 400000 in
theorem div_zero (p a : Nat) (w : World) (hv : M.validB p [a, 0] = true) :
    Calls Try.prog 26 #[.int .u64 p, .int .u64 a, .int .u64 0] w fun e w' => e = .returned (.tuple #[.int .u64 0, .int .i64 7]) ∧ Below w.heap.size w w' := by
  obtain ⟨hi, ha, hb⟩ := M.valid2_iff.1 hv
  obtain ⟨h3, hp⟩ := M.pos_of hi
  have HC := Lib.hid (valid2 p a 0 w (by omega) (by omega) (by omega) hv)
  clear hv hi
  go_enter Try.func26, Try.ntmps26
  go_wp2_with (go_at_call 37; refine HC.out.mono ?_; rintro e w' ⟨rfl, rfl⟩)
  go_ret2
  exact ⟨rfl, (Below.refl _ _).alloc (Nat.le_refl _) _⟩

set_option maxHeartbeats 400000 in
theorem div_bad (p a b : Nat) (w : World) (hp : p < 18446744073709551616) (ha : a < 18446744073709551616) (hb : b < 18446744073709551616) (hv : M.validB p [a, b] = false) :
    Calls Try.prog 26 #[.int .u64 p, .int .u64 a, .int .u64 b] w fun e w' => e = .returned (.tuple #[.int .u64 0, .int .i64 2]) ∧ Below w.heap.size w w' := by
  have HC := Lib.hid (valid2 p a b w hp ha hb hv)
  clear hv hp ha hb
  go_enter Try.func26, Try.ntmps26
  go_wp2_with (go_at_call 37; refine HC.out.mono ?_; rintro e w' ⟨rfl, rfl⟩)
  go_ret2
  exact ⟨rfl, (Below.refl _ _).alloc (Nat.le_refl _) _⟩

/-- a call that hands on the two results of another -/
theorem inv_of (p b : Nat) (w : World) (r : Int) (c : Int)
    (h : Calls Try.prog 26 #[.int .u64 p, .int .u64 1, .int .u64 b] w fun e w' => e = .returned (.tuple #[.int .u64 r, .int .i64 c]) ∧ Below w.heap.size w w') :
    Calls Try.prog 25 #[.int .u64 p, .int .u64 b] w fun e w' => e = .returned (.tuple #[.int .u64 r, .int .i64 c]) ∧ Below w.heap.size w w' := by
  have HC := Lib.hid h
  clear h
  go_enter Try.func25, Try.ntmps25
  go_wp2_with (go_at_call 26; refine HC.out.mono ?_; rintro e w' ⟨rfl, hb⟩)
  go_ret2
  exact ⟨rfl, by assumption⟩

theorem inv_ok (p b : Nat) (w : World) (hv : M.validB p [b] = true) (h0 : b ≠ 0) :
    Calls Try.prog 25 #[.int .u64 p, .int .u64 b] w fun e w' => e = .returned (.tuple #[.int .u64 (M.pw p b (p - 2)), .int .i64 0]) ∧ Below w.heap.size w w' := by
  have h := div_ok p 1 b w (by rw [M.valid_one]; exact hv) h0
  have h3 := M.pos_of (M.validB_isP hv)
  rw [M.one_pw (M.pw_lt _ _ (by omega))] at h
  exact inv_of p b w _ _ h
theorem inv_zero (p : Nat) (w : World) (hv : M.validB p [0] = true) :
    Calls Try.prog 25 #[.int .u64 p, .int .u64 0] w fun e w' => e = .returned (.tuple #[.int .u64 0, .int .i64 7]) ∧ Below w.heap.size w w' :=
  inv_of p 0 w _ _ (div_zero p 1 w (by rw [M.valid_one]; exact hv))
theorem inv_bad (p b : Nat) (w : World) (hp : p < 18446744073709551616) (hb : b < 18446744073709551616) (hv : M.validB p [b] = false) :
    Calls Try.prog 25 #[.int .u64 p, .int .u64 b] w fun e w' => e = .returned (.tuple #[.int .u64 0, .int .i64 2]) ∧ Below w.heap.size w w' :=
  inv_of p b w _ _ (div_bad p 1 b w hp (by omega) hb (by rw [M.valid_one]; exact hv))

set_option maxHeartbeats 400000 in
theorem pow_ok (p a n : Nat) (w : World) (hv : M.validB p [a] = true) (hn : n < 18446744073709551616) :
    Calls Try.prog 29 #[.int .u64 p, .int .u64 a, .int .u64 n] w fun e w' => e = .returned (.tuple #[.int .u64 (M.pw p a n), .int .i64 0]) ∧ Below w.heap.size w w' := by
  obtain ⟨hi, ha⟩ := M.valid1_iff.1 hv
  obtain ⟨h3, hp⟩ := M.pos_of hi
  have HC := Lib.hid (valid1 p a w (by omega) (by omega) hv)
  have HD := Lib.hid (power_any p a n (w.alloc (.cells #[.int .u64 a] 22)) (by omega) hp ha hn)
  clear hv hi hn
  go_enter Try.func29, Try.ntmps29
  go_wp2_with (first | (go_at_call 37; refine HC.out.mono ?_; rintro e w' ⟨rfl, rfl⟩) | (go_at_call 41; refine HD.out.mono ?_; rintro e w' ⟨rfl, rfl⟩))
  go_ret2
  exact ⟨rfl, (Below.refl _ _).alloc (Nat.le_refl _) _⟩

set_option maxHeartbeats 400000 in
theorem pow_bad (p a n : Nat) (w : World) (hp : p < 18446744073709551616) (ha : a < 18446744073709551616) (hv : M.validB p [a] = false) :
    Calls Try.prog 29 #[.int .u64 p, .int .u64 a, .int .u64 n] w fun e w' => e = .returned (.tuple #[.int .u64 0, .int .i64 2]) ∧ Below w.heap.size w w' := by
  have HC := Lib.hid (valid1 p a w hp ha hv)
  clear hv hp ha
  go_enter Try.func29, Try.ntmps29
  go_wp2_with (go_at_call 37; refine HC.out.mono ?_; rintro e w' ⟨rfl, rfl⟩)
  go_ret2
  exact ⟨rfl, (Below.refl _ _).alloc (Nat.le_refl _) _⟩

/-! ### Int -/
theorem tmod_bounds (n : Int) (p : Nat) (hp : 1 ≤ p) : -(p : Int) < n.tmod p ∧ n.tmod p < p := by
  have h1 := Int.lt_tmod_of_pos n (show (0 : Int) < p by omega)
  have h2 := Int.tmod_lt_of_pos n (show (0 : Int) < p by omega)
  exact ⟨h1, h2⟩
theorem emod_of_tmod (n : Int) (p : Nat) (hp : 1 ≤ p) (r : Int) (h0 : 0 ≤ r) (hr : r < p) (he : r = n.tmod p ∨ r = n.tmod p + p) : r = n % p := by
  have e : n.tmod p + p * n.tdiv p = n := Int.tmod_add_mul_tdiv n p
  rw [← e]
  rcases he with rfl | he
  · rw [Int.add_mul_emod_self_left, Int.emod_eq_of_lt h0 hr]
  · have e2 : n.tmod p = r - p := by omega
    rw [e2, Int.add_mul_emod_self_left, Int.sub_emod_right, Int.emod_eq_of_lt h0 hr]

set_option maxHeartbeats 400000 in
theorem int_ok (p : Nat) (n : Int) (w : World) (hi : M.isP p = true) (h1 : -9223372036854775808 ≤ n) (h2 : n ≤ 9223372036854775807) :
    Calls Try.prog 34 #[.int .u64 p, .int .i64 n] w fun e w' => e = .returned (.tuple #[.int .u64 (n % p), .int .i64 0]) ∧ w = w' := by
  obtain ⟨h3, hp⟩ := M.pos_of hi
  have HC := Lib.hid (valid0 p w (by omega) hi)
  obtain ⟨b1, b2⟩ := tmod_bounds n p (by omega)
  clear hi
  by_cases hn : n.tmod p < 0
  · go_enter Try.func34, Try.ntmps34
    go_wp2_with (go_at_call 37; refine HC.out.mono ?_; rintro e w' ⟨rfl, rfl⟩)
    go_ret2
    exact ⟨ret2 (emod_of_tmod n p (by omega) _ (by omega) (by omega) (.inr rfl)) rfl, rfl⟩
  · go_enter Try.func34, Try.ntmps34
    go_wp2_with (go_at_call 37; refine HC.out.mono ?_; rintro e w' ⟨rfl, rfl⟩)
    go_ret2
    exact ⟨ret2 (emod_of_tmod n p (by omega) _ (by omega) (by omega) (.inl rfl)) rfl, rfl⟩

set_option maxHeartbeats 400000 in
theorem int_bad (p : Nat) (n : Int) (w : World) (hp : p < 18446744073709551616) (hi : M.isP p = false) :
    Calls Try.prog 34 #[.int .u64 p, .int .i64 n] w fun e w' => e = .returned (.tuple #[.int .u64 0, .int .i64 2]) ∧ w = w' := by
  have HC := Lib.hid (valid0 p w hp hi)
  clear hi hp
  go_enter Try.func34, Try.ntmps34
  go_wp2_with (go_at_call 37; refine HC.out.mono ?_; rintro e w' ⟨rfl, rfl⟩)
  go_ret2
  exact ⟨rfl, rfl⟩
end Go.Proofs.Ytlcljbncegjdiaa
