/-
  Contracts that the second seat's laws want: Square, the reference's Int and Root, the laws' add and mul.
-/
import Derived.Test.YtlcljbncegjdiabRoot
namespace Go.Proofs.Ytlcljbncegjdiab
open Go.RowKit
set_option linter.unusedVariables false

theorem bnext {w w1 w2 : World} (h : Below w.heap.size w w1) (h2 : Below w1.heap.size w1 w2) : Below w.heap.size w w2 := h.trans (h2.mono h.size)
theorem balloc (w : World) (o : Obj) : Below w.heap.size w (w.alloc o) := (Below.refl _ _).alloc (Nat.le_refl _) _
theorem right1n (p a : Nat) (w : World) (n : Nat) (hn : n = w.heap.size) (hp : p < 18446744073709551616) (ha : a < 18446744073709551616) {r : Bool} (hr : M.validB p [a] = r) :
    Calls Try.prog 16 #[.int .u64 p, .slice (some ⟨n, 0, none⟩) 1 1] (w.alloc (.cells #[.int .u64 a] 22)) fun e w' => e = .returned (.int .i64 (errOf r)) ∧ w.alloc (.cells #[.int .u64 a] 22) = w' := by
  subst hn; exact right1 p a w hp ha hr

set_option maxHeartbeats 400000 in
theorem is_okI (a : Int) (w : World) :
    Calls Try.prog 11 #[.int .u64 a, .int .i64 0, .int .u64 a, .int .i64 0] w fun e w' => e = .returned (.bool true) ∧ w = w' := by
  have hb : (a == a) = true := by simp
  go_enter Try.func11, Try.ntmps11
  go_wp2
  go_ret
  exact ⟨rfl, rfl⟩

set_option maxHeartbeats 400000 in
theorem refInt_any (p : Nat) (n : Int) (w : World) (h3 : 3 ≤ p) (hp : p ≤ 65537) (h1 : -9223372036854775808 ≤ n) (h2 : n ≤ 9223372036854775807) :
    Calls Try.prog 13 #[.int .u64 p, .int .i64 n] w fun e w' => e = .returned (.int .u64 (n % p)) ∧ w = w' := by
  obtain ⟨b1, b2⟩ := tmod_bounds n p (by omega)
  have he : (n.tmod p) % p = n % p := by
    have e := Int.tmod_add_mul_tdiv n p
    conv => rhs; rw [← e]
    rw [Int.add_mul_emod_self_left]
  have HE := Lib.hid he
  clear he
  go_enter Try.func13, Try.ntmps13
  go_wp2
  go_ret
  have hlt := Int.emod_lt_of_pos n (show (0 : Int) < p by omega)
  have hge := Int.emod_nonneg n (show (p : Int) ≠ 0 by omega)
  exact ⟨ret1 (by rw [HE.out, IntWalk.u64_in _ (by omega)]), rfl⟩

set_option maxHeartbeats 400000 in
theorem square_ok (p a : Nat) (w : World) (hv : M.validB p [a] = true) {b : Bool} (hb : decide (M.pw p a ((p - 1) / 2) ≤ 1) = b) :
    Calls Try.prog 14 #[.int .u64 p, .int .u64 a] w fun e w' => e = .returned (.tuple #[.bool b, .int .i64 0]) ∧ Below w.heap.size w w' := by
  obtain ⟨hi, ha⟩ := M.valid1_iff.1 hv
  obtain ⟨h3, hp⟩ := M.pos_of hi
  have HC := Lib.hid (valid1 p a w (by omega) (by omega) hv)
  have hd := power_any p a ((p - 1) / 2) (w.alloc (.cells #[.int .u64 a] 22)) (by omega) hp ha (by omega)
  rw [show (((p - 1) / 2 : Nat) : Int) = ((p : Int) - 1) / 2 by omega] at hd
  obtain ⟨x, hx⟩ : ∃ x, x = M.pw p a ((p - 1) / 2) := ⟨_, rfl⟩
  rw [← hx] at hd hb
  have HD := Lib.hid hd
  clear hv hi hd hx
  cases b with
  | true =>
    have hx1 : x ≤ 1 := of_decide_eq_true hb
    clear hb
    go_enter Try.func14, Try.ntmps14
    go_wp2_with fail
    refine HC.out.mono ?_
    rintro e w' ⟨rfl, rfl⟩
    go_wp2_with fail
    refine HD.out.mono ?_
    rintro e w' ⟨rfl, rfl⟩
    go_wp2_with fail
    go_ret2
    exact ⟨by simp; omega, (Below.refl _ _).alloc (Nat.le_refl _) _⟩
  | false =>
    have hx1 : ¬ x ≤ 1 := of_decide_eq_false hb
    clear hb
    go_enter Try.func14, Try.ntmps14
    go_wp2_with fail
    refine HC.out.mono ?_
    rintro e w' ⟨rfl, rfl⟩
    go_wp2_with fail
    refine HD.out.mono ?_
    rintro e w' ⟨rfl, rfl⟩
    go_wp2_with fail
    go_ret2
    exact ⟨by simp; omega, (Below.refl _ _).alloc (Nat.le_refl _) _⟩

set_option maxHeartbeats 400000 in
theorem square_bad (p a : Nat) (w : World) (hp : p < 18446744073709551616) (ha : a < 18446744073709551616) (hv : M.validB p [a] = false) :
    Calls Try.prog 14 #[.int .u64 p, .int .u64 a] w fun e w' => e = .returned (.tuple #[.bool false, .int .i64 2]) ∧ Below w.heap.size w w' := by
  have HC := Lib.hid (valid1 p a w hp ha hv)
  clear hv hp ha
  go_enter Try.func14, Try.ntmps14
  go_wp2_with fail
  refine HC.out.mono ?_
  rintro e w' ⟨rfl, rfl⟩
  go_wp2_with fail
  go_ret2
  exact ⟨rfl, (Below.refl _ _).alloc (Nat.le_refl _) _⟩

/-- what the reference's Root answers -/
def refRootVal (o : Option Nat) : Value := match o with
  | some r => .tuple #[.int .u64 (r : Nat), .bool true]
  | none => .tuple #[.int .u64 0, .bool false]

set_option maxHeartbeats 400000 in
theorem refRoot_any (p a : Nat) (w : World) (h3 : 3 ≤ p) (hp : p ≤ 65537) (ha : a < p) :
    Calls Try.prog 17 #[.int .u64 p, .int .u64 a] w fun e w' => e = .returned (refRootVal (M.rootOf p a)) ∧ w = w' := by
  go_enter Try.func17, Try.ntmps17
  go_wp2
  go_loop [6] (fun t => ∃ r : Nat, r ≤ p / 2 + 1 ∧ t = .int .u64 r ∧ M.NoRoot p a r) (fun t => p / 2 + 2 - (intOf t).toNat)
  case atStart => exact ⟨0, by omega, rfl, fun s hs => by omega⟩
  case round =>
    obtain ⟨r, hr, rfl, hno⟩ := hrel
    have HN := Lib.hid hno
    clear hno
    by_cases hlt : r ≤ p / 2
    · have hle : (r : Int) ≤ (p : Int) / 2 := by omega
      have HM := Lib.hid (refMul_any p r r w (by omega) hp (by omega) (by omega))
      obtain ⟨x, hx⟩ : ∃ x, x = r * r % p := ⟨_, rfl⟩
      rw [← hx] at HM
      by_cases he : x = a
      · have hb : ((x : Int) == (a : Int)) = true := by rw [beq_iff_eq]; omega
        have HE : Hid (r * r % p = a) := Lib.hid (by omega)
        clear he hx
        go_wp2_with fail
        refine HM.out.mono ?_
        rintro e w' ⟨rfl, rfl⟩
        go_wp2_with fail
        go_ret2
        exact ⟨by rw [M.rootOf_some hlt HE.out HN.out]; rfl, rfl⟩
      · have hb : ((x : Int) == (a : Int)) = false := by rw [beq_eq_false_iff_ne]; omega
        have HE : Hid (r * r % p ≠ a) := Lib.hid (by omega)
        clear he hx
        go_wp2_with fail
        refine HM.out.mono ?_
        rintro e w' ⟨rfl, rfl⟩
        go_wp2_with fail
        go_round
        case rel =>
          refine ⟨r + 1, by omega, by go_num, ?_⟩
          intro s hs
          by_cases hsr : s = r
          · subst hsr; exact HE.out
          · exact HN.out s (by omega)
        case measure => simp [intOf]; omega
    · have hgt : (p : Int) / 2 < (r : Int) := by omega
      obtain rfl : r = p / 2 + 1 := by omega
      go_wp2
      go_ret2
      exact ⟨by rw [M.rootOf_none HN.out]; rfl, rfl⟩

theorem power_facts {p a : Nat} (hv : M.validB p [a] = true) : (∀ r, M.rootOf p a = some r → M.pw p a ((p - 1) / 2) ≤ 1) ∧ (M.rootOf p a = none → ¬ M.pw p a ((p - 1) / 2) ≤ 1) := by
  obtain ⟨hi, ha⟩ := M.valid1_iff.1 hv
  obtain ⟨h3, hp⟩ := M.pos_of hi
  have ho := M.odd_of hi
  unfold M.pw
  rw [M.square_iff hi ha]
  refine ⟨fun r hr => ?_, fun hn => ?_⟩
  · obtain ⟨h1, h2⟩ := M.rootOf_spec hr
    exact ⟨r, by omega, h2⟩
  · rintro ⟨r, h1, h2⟩
    exact M.rootOf_no hn r (by omega) h2
end Go.Proofs.Ytlcljbncegjdiab
