/-
  Package field, as package matrix calls it: power, inverse, Div, Inv.
-/
import Derived.Test.YtgoognipljknjaaValid
namespace Go.Proofs.Ytgoognipljknjaa
open Go.RowKit
set_option linter.unusedVariables false


theorem ret2 {a b : Int} {k : IntKind} {c d : Int} (h : a = c) (h2 : b = d) : Ending.returned (.tuple #[.int k a, .int .i64 b]) = .returned (.tuple #[.int k c, .int .i64 d]) := by rw [h, h2]

theorem ret1 {k : IntKind} {a c : Int} (h : a = c) : Ending.returned (.int k a) = .returned (.int k c) := by rw [h]

theorem mul_le {p a b : Nat} (hp : p ≤ 65537) (ha : a < p) (hb : b < p) : (a : Int) * b ≤ 4295098369 ∧ 0 ≤ (a : Int) * b := by
  have : a * b ≤ 65537 * 65537 := Nat.mul_le_mul (by omega) (by omega)
  omega

set_option maxHeartbeats 400000 in
theorem power_any (p a e : Nat) (w : World) (h2 : 2 ≤ p) (hp : p ≤ 65537) (ha : a < p) (he : e < 18446744073709551616) :
    Calls Try.prog 138 #[.int .u64 p, .int .u64 a, .int .u64 e] w fun e' w' => e' = .returned (.int .u64 (M.pw p a e)) ∧ w = w' := by
  go_enter Try.func138, Try.ntmps138
  go_wp2
  go_loop [1, 2, 7] (fun tx tn tr => ∃ r x n : Nat, r < p ∧ x < p ∧ n ≤ e ∧ tr = .int .u64 r ∧ tx = .int .u64 x ∧ tn = .int .u64 n ∧ M.PowInv p a e r x n) (fun _ tn _ => (intOf tn).toNat)
  case atStart => exact ⟨1, a, e, by omega, ha, by omega, rfl, rfl, rfl, by simp [M.PowInv]⟩
  case round =>
    obtain ⟨r, x, n, hr, hx, hn, rfl, rfl, rfl, hinv⟩ := hrel
    obtain ⟨m1, m2⟩ := mul_le hp hr hx
    obtain ⟨m3, m4⟩ := mul_le hp hx hx
    have HI := Lib.hid hinv
    clear hinv
    by_cases h0 : n = 0
    · subst h0
      go_wp2
      go_ret
      exact ⟨ret1 (by rw [M.pw_of_inv HI.out hr]), rfl⟩
    · by_cases ho : n % 2 = 1
      · have hb : ((n : Int) % 2 == 1) = true := by simp; omega
        have HO := Lib.hid ho
        clear ho
        go_wp2
        go_round
        case rel =>
          have e1 : (r : Int) * x % p = ((r * x % p : Nat) : Int) := by rw [Int.natCast_emod, Int.natCast_mul]
          have e2 : (x : Int) * x % p = ((x * x % p : Nat) : Int) := by rw [Int.natCast_emod, Int.natCast_mul]
          exact ⟨r * x % p, x * x % p, n / 2, Nat.mod_lt _ (by omega), Nat.mod_lt _ (by omega), by omega, by rw [e1], by rw [e2], by go_num, M.powInv_odd HI.out HO.out⟩
        case measure => simp [intOf]; omega
      · have hb : ((n : Int) % 2 == 1) = false := by simp; omega
        have HO : Hid (n % 2 = 0) := Lib.hid (by omega)
        clear ho
        go_wp2
        go_round
        case rel =>
          have e2 : (x : Int) * x % p = ((x * x % p : Nat) : Int) := by rw [Int.natCast_emod, Int.natCast_mul]
          exact ⟨r, x * x % p, n / 2, hr, Nat.mod_lt _ (by omega), by omega, rfl, by rw [e2], by go_num, M.powInv_even HI.out HO.out⟩
        case measure => simp [intOf]; omega

namespace M
theorem valid_one {p a : Nat} : validB p [1, a] = validB p [a] := by
  unfold validB
  cases hi : isP p with
  | false => rfl
  | true => have := pos_of hi; simp [within]; omega
theorem one_pw {p x : Nat} (h : x < p) : 1 * x % p = x := by rw [Nat.one_mul, Nat.mod_eq_of_lt h]
end M

set_option maxHeartbeats 400000 in
theorem inverse_any (p a : Nat) (w : World) (h3 : 3 ≤ p) (hp : p ≤ 65537) (ha : a < p) :
    Calls Try.prog 137 #[.int .u64 p, .int .u64 a] w fun e' w' => e' = .returned (.int .u64 (M.pw p a (p - 2))) ∧ w = w' := by
  have h := power_any p a (p - 2) w (by omega) hp ha (by omega)
  have e : (((p - 2 : Nat)) : Int) = (p : Int) - 2 := by omega
  rw [e] at h
  have HC := Lib.hid h
  clear h e
  go_enter Try.func137, Try.ntmps137
  go_wp2_with (go_at_call 138; refine HC.out.mono ?_; rintro e w' ⟨rfl, rfl⟩)
  go_ret
  exact ⟨rfl, rfl⟩

set_option maxHeartbeats 400000 in
theorem div_ok (p a b : Nat) (w : World) (hv : M.validB p [a, b] = true) (h0 : b ≠ 0) :
    Calls Try.prog 135 #[.int .u64 p, .int .u64 a, .int .u64 b] w fun e w' => e = .returned (.tuple #[.int .u64 (a * M.pw p b (p - 2) % p : Nat), .int .i64 0]) ∧ Below w.heap.size w w' := by
  obtain ⟨hi, ha, hb⟩ := M.valid2_iff.1 hv
  obtain ⟨h3, hp⟩ := M.pos_of hi
  have HC := Lib.hid (valid2 p a b w (by omega) (by omega) (by omega) hv)
  have hl := M.pw_lt (p := p) b (p - 2) (by omega)
  have HD := Lib.hid (inverse_any p b (w.alloc (.cells #[.int .u64 a, .int .u64 b] 22)) h3 hp hb)
  obtain ⟨q, hq⟩ : ∃ q, q = M.pw p b (p - 2) := ⟨_, rfl⟩
  rw [← hq] at HD hl ⊢
  obtain ⟨m1, m2⟩ := mul_le hp ha hl
  have hz : ((b : Int) == 0) = false := by simp; omega
  clear hv hi hq
  go_enter Try.func135, Try.ntmps135
  go_wp2_with (first | (go_at_call 108; refine HC.out.mono ?_; rintro e w' ⟨rfl, rfl⟩) | (go_at_call 137; refine HD.out.mono ?_; rintro e w' ⟨rfl, rfl⟩))
  go_ret2
  exact ⟨ret2 (by rw [Int.natCast_emod, Int.natCast_mul]) rfl, (Below.refl _ _).alloc (Nat.le_refl _) _⟩

set_option maxHeartbeats 400000 in
theorem div_zero (p a : Nat) (w : World) (hv : M.validB p [a, 0] = true) :
    Calls Try.prog 135 #[.int .u64 p, .int .u64 a, .int .u64 0] w fun e w' => e = .returned (.tuple #[.int .u64 0, .int .i64 7]) ∧ Below w.heap.size w w' := by
  obtain ⟨hi, ha, hb⟩ := M.valid2_iff.1 hv
  obtain ⟨h3, hp⟩ := M.pos_of hi
  have HC := Lib.hid (valid2 p a 0 w (by omega) (by omega) (by omega) hv)
  clear hv hi
  go_enter Try.func135, Try.ntmps135
  go_wp2_with (go_at_call 108; refine HC.out.mono ?_; rintro e w' ⟨rfl, rfl⟩)
  go_ret2
  exact ⟨rfl, (Below.refl _ _).alloc (Nat.le_refl _) _⟩

set_option maxHeartbeats 400000 in
theorem div_bad (p a b : Nat) (w : World) (hp : p < 18446744073709551616) (ha : a < 18446744073709551616) (hb : b < 18446744073709551616) (hv : M.validB p [a, b] = false) :
    Calls Try.prog 135 #[.int .u64 p, .int .u64 a, .int .u64 b] w fun e w' => e = .returned (.tuple #[.int .u64 0, .int .i64 2]) ∧ Below w.heap.size w w' := by
  have HC := Lib.hid (valid2 p a b w hp ha hb hv)
  clear hv hp ha hb
  go_enter Try.func135, Try.ntmps135
  go_wp2_with (go_at_call 108; refine HC.out.mono ?_; rintro e w' ⟨rfl, rfl⟩)
  go_ret2
  exact ⟨rfl, (Below.refl _ _).alloc (Nat.le_refl _) _⟩

/-- a call that hands on the two results of another -/
theorem inv_of (p b : Nat) (w : World) (r : Int) (c : Int)
    (h : Calls Try.prog 135 #[.int .u64 p, .int .u64 1, .int .u64 b] w fun e w' => e = .returned (.tuple #[.int .u64 r, .int .i64 c]) ∧ Below w.heap.size w w') :
    Calls Try.prog 129 #[.int .u64 p, .int .u64 b] w fun e w' => e = .returned (.tuple #[.int .u64 r, .int .i64 c]) ∧ Below w.heap.size w w' := by
  have HC := Lib.hid h
  clear h
  go_enter Try.func129, Try.ntmps129
  go_wp2_with (go_at_call 135; refine HC.out.mono ?_; rintro e w' ⟨rfl, hb⟩)
  go_ret2
  exact ⟨rfl, by assumption⟩

theorem inv_ok (p b : Nat) (w : World) (hv : M.validB p [b] = true) (h0 : b ≠ 0) :
    Calls Try.prog 129 #[.int .u64 p, .int .u64 b] w fun e w' => e = .returned (.tuple #[.int .u64 (M.pw p b (p - 2)), .int .i64 0]) ∧ Below w.heap.size w w' := by
  have h := div_ok p 1 b w (by rw [M.valid_one]; exact hv) h0
  have h3 := M.pos_of (M.validB_isP hv)
  rw [M.one_pw (M.pw_lt _ _ (by omega))] at h
  exact inv_of p b w _ _ h

theorem inv_zero (p : Nat) (w : World) (hv : M.validB p [0] = true) :
    Calls Try.prog 129 #[.int .u64 p, .int .u64 0] w fun e w' => e = .returned (.tuple #[.int .u64 0, .int .i64 7]) ∧ Below w.heap.size w w' :=
  inv_of p 0 w _ _ (div_zero p 1 w (by rw [M.valid_one]; exact hv))

theorem inv_bad (p b : Nat) (w : World) (hp : p < 18446744073709551616) (hb : b < 18446744073709551616) (hv : M.validB p [b] = false) :
    Calls Try.prog 129 #[.int .u64 p, .int .u64 b] w fun e w' => e = .returned (.tuple #[.int .u64 0, .int .i64 2]) ∧ Below w.heap.size w w' :=
  inv_of p b w _ _ (div_bad p 1 b w hp (by omega) hb (by rw [M.valid_one]; exact hv))

end Go.Proofs.Ytgoognipljknjaa
