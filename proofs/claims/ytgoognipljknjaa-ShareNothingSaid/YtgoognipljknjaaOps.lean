/-
  The contracts of the arithmetic: package field and the reference.
-/
import Derived.Test.YtgoognipljknjaaValid
namespace Go.Proofs.Ytgoognipljknjaa
open Go.RowKit

theorem ret2 {a b : Int} {k : IntKind} {c d : Int} (h : a = c) (h2 : b = d) : Ending.returned (.tuple #[.int k a, .int .i64 b]) = .returned (.tuple #[.int k c, .int .i64 d]) := by rw [h, h2]
theorem ret1 {k : IntKind} {a c : Int} (h : a = c) : Ending.returned (.int k a) = .returned (.int k c) := by rw [h]
theorem mul_le {p a b : Nat} (hp : p ≤ 65537) (ha : a < p) (hb : b < p) : (a : Int) * b ≤ 4295098369 ∧ 0 ≤ (a : Int) * b := by
  have : a * b ≤ 65537 * 65537 := Nat.mul_le_mul (by omega) (by omega)
  omega

set_option maxHeartbeats 400000 in
theorem add_ok (p a b : Nat) (w : World) (hv : M.validB p [a, b] = true) :
    Calls Try.prog 123 #[.int .u64 p, .int .u64 a, .int .u64 b] w fun e w' => e = .returned (.tuple #[.int .u64 ((a + b) % p : Nat), .int .i64 0]) ∧ Below w.heap.size w w' := by
  obtain ⟨hi, ha, hb⟩ := M.valid2_iff.1 hv
  obtain ⟨h3, hp⟩ := M.pos_of hi
  have HC := Lib.hid (valid2 p a b w (by omega) (by omega) (by omega) hv)
  clear hv hi
  go_enter Try.func123, Try.ntmps123
  go_wp2_with (go_at_call 108; refine HC.out.mono ?_; rintro e w' ⟨rfl, rfl⟩)
  go_ret2
  exact ⟨ret2 (by rw [Int.natCast_emod, Int.natCast_add]) rfl, (Below.refl _ _).alloc (Nat.le_refl _) _⟩

set_option maxHeartbeats 400000 in
theorem add_bad (p a b : Nat) (w : World) (hp : p < 18446744073709551616) (ha : a < 18446744073709551616) (hb : b < 18446744073709551616) (hv : M.validB p [a, b] = false) :
    Calls Try.prog 123 #[.int .u64 p, .int .u64 a, .int .u64 b] w fun e w' => e = .returned (.tuple #[.int .u64 0, .int .i64 2]) ∧ Below w.heap.size w w' := by
  have HC := Lib.hid (valid2 p a b w hp ha hb hv)
  clear hv hp ha hb
  go_enter Try.func123, Try.ntmps123
  go_wp2_with (go_at_call 108; refine HC.out.mono ?_; rintro e w' ⟨rfl, rfl⟩)
  go_ret2
  exact ⟨rfl, (Below.refl _ _).alloc (Nat.le_refl _) _⟩

set_option maxHeartbeats 400000 in
theorem sub_ok (p a b : Nat) (w : World) (hv : M.validB p [a, b] = true) :
    Calls Try.prog 82 #[.int .u64 p, .int .u64 a, .int .u64 b] w fun e w' => e = .returned (.tuple #[.int .u64 ((a + p - b) % p : Nat), .int .i64 0]) ∧ Below w.heap.size w w' := by
  obtain ⟨hi, ha, hb⟩ := M.valid2_iff.1 hv
  obtain ⟨h3, hp⟩ := M.pos_of hi
  have HC := Lib.hid (valid2 p a b w (by omega) (by omega) (by omega) hv)
  clear hv hi
  go_enter Try.func82, Try.ntmps82
  go_wp2_with (go_at_call 108; refine HC.out.mono ?_; rintro e w' ⟨rfl, rfl⟩)
  go_ret2
  exact ⟨ret2 (by rw [Int.natCast_emod, Int.natCast_sub (by omega)]; rfl) rfl, (Below.refl _ _).alloc (Nat.le_refl _) _⟩

set_option maxHeartbeats 400000 in
theorem sub_bad (p a b : Nat) (w : World) (hp : p < 18446744073709551616) (ha : a < 18446744073709551616) (hb : b < 18446744073709551616) (hv : M.validB p [a, b] = false) :
    Calls Try.prog 82 #[.int .u64 p, .int .u64 a, .int .u64 b] w fun e w' => e = .returned (.tuple #[.int .u64 0, .int .i64 2]) ∧ Below w.heap.size w w' := by
  have HC := Lib.hid (valid2 p a b w hp ha hb hv)
  clear hv hp ha hb
  go_enter Try.func82, Try.ntmps82
  go_wp2_with (go_at_call 108; refine HC.out.mono ?_; rintro e w' ⟨rfl, rfl⟩)
  go_ret2
  exact ⟨rfl, (Below.refl _ _).alloc (Nat.le_refl _) _⟩

set_option maxHeartbeats 400000 in
theorem mul_ok (p a b : Nat) (w : World) (hv : M.validB p [a, b] = true) :
    Calls Try.prog 81 #[.int .u64 p, .int .u64 a, .int .u64 b] w fun e w' => e = .returned (.tuple #[.int .u64 (a * b % p : Nat), .int .i64 0]) ∧ Below w.heap.size w w' := by
  obtain ⟨hi, ha, hb⟩ := M.valid2_iff.1 hv
  obtain ⟨h3, hp⟩ := M.pos_of hi
  obtain ⟨m1, m2⟩ := mul_le hp ha hb
  have HC := Lib.hid (valid2 p a b w (by omega) (by omega) (by omega) hv)
  clear hv hi
  go_enter Try.func81, Try.ntmps81
  go_wp2_with (go_at_call 108; refine HC.out.mono ?_; rintro e w' ⟨rfl, rfl⟩)
  go_ret2
  exact ⟨ret2 (by rw [Int.natCast_emod, Int.natCast_mul]) rfl, (Below.refl _ _).alloc (Nat.le_refl _) _⟩

set_option maxHeartbeats 400000 in
theorem mul_bad (p a b : Nat) (w : World) (hp : p < 18446744073709551616) (ha : a < 18446744073709551616) (hb : b < 18446744073709551616) (hv : M.validB p [a, b] = false) :
    Calls Try.prog 81 #[.int .u64 p, .int .u64 a, .int .u64 b] w fun e w' => e = .returned (.tuple #[.int .u64 0, .int .i64 2]) ∧ Below w.heap.size w w' := by
  have HC := Lib.hid (valid2 p a b w hp ha hb hv)
  clear hv hp ha hb
  go_enter Try.func81, Try.ntmps81
  go_wp2_with (go_at_call 108; refine HC.out.mono ?_; rintro e w' ⟨rfl, rfl⟩)
  go_ret2
  exact ⟨rfl, (Below.refl _ _).alloc (Nat.le_refl _) _⟩

set_option maxHeartbeats 400000 in
theorem power_any (p a e : Nat) (w : World) (h2 : 2 ≤ p) (hp : p ≤ 65537) (ha : a < p) (he : e < 18446744073709551616) :
    Calls Try.prog 138 #[.int .u64 p, .int .u64 a, .int .u64 e] w fun e' w' => e' = .returned (.int .u64 (M.pw p a e)) ∧ w = w' := by
  go_enter Try.func138, Try.ntmps138
  go_wp2
  go_loop [1, 2, 7] (fun tx tn tr => ∃ r x n : Nat, r < p ∧ x < p ∧ n ≤ e ∧ tr = .int .u64 r ∧ tx = .int .u64 x ∧ tn = .int .u64 n ∧ M.PowInv p a e r x n) (fun _ tn _ => (intOf tn).toNat)
  case atStart => exact ⟨1, a, e, by omega, ha, by omega, rfl, rfl, rfl, by simp [M.PowInv]⟩
  case round =>
    obtain ⟨r, x, n, hr, hx, hn, rfl, rfl, rfl, hinv⟩ := hrel
    obtain ⟨m1, m2⟩ := mul_le hp hr hx
    obtain ⟨m3, m4⟩ := mul_le hp hx hx
    have HI := Lib.hid hinv
    clear hinv
    by_cases h0 : n = 0
    · subst h0
      go_wp2
      go_ret
      exact ⟨ret1 (by rw [M.pw_of_inv HI.out hr]), rfl⟩
    · by_cases ho : n % 2 = 1
      · have hb : ((n : Int) % 2 == 1) = true := by simp; omega
        have HO := Lib.hid ho
        clear ho
        go_wp2
        go_round
        case rel =>
          have e1 : (r : Int) * x % p = ((r * x % p : Nat) : Int) := by rw [Int.natCast_emod, Int.natCast_mul]
          have e2 : (x : Int) * x % p = ((x * x % p : Nat) : Int) := by rw [Int.natCast_emod, Int.natCast_mul]
          exact ⟨r * x % p, x * x % p, n / 2, Nat.mod_lt _ (by omega), Nat.mod_lt _ (by omega), by omega, by rw [e1], by rw [e2], by go_num, M.powInv_odd HI.out HO.out⟩
        case measure => simp [intOf]; omega
      · have hb : ((n : Int) % 2 == 1) = false := by simp; omega
        have HO : Hid (n % 2 = 0) := Lib.hid (by omega)
        clear ho
        go_wp2
        go_round
        case rel =>
          have e2 : (x : Int) * x % p = ((x * x % p : Nat) : Int) := by rw [Int.natCast_emod, Int.natCast_mul]
          exact ⟨r, x * x % p, n / 2, hr, Nat.mod_lt _ (by omega), by omega, rfl, by rw [e2], by go_num, M.powInv_even HI.out HO.out⟩
        case measure => simp [intOf]; omega
end Go.Proofs.Ytgoognipljknjaa
