/-
  The walk of the law FieldRing.
-/
import Derived.Test.YtlcljbncegjdiabRefB
import Derived.Deep.QuietTactic
import Derived.BigQuiet
namespace Go.Proofs.Ytlcljbncegjdiab.fieldRingW
open Go.RowKit
set_option linter.unusedVariables false

theorem right3n (p a b c : Nat) (w : World) (n : Nat) (hn : n = w.heap.size) (hp : p < 18446744073709551616) (ha : a < 18446744073709551616) (hb : b < 18446744073709551616) (hc : c < 18446744073709551616) {r : Bool} (hr : M.validB p [a, b, c] = r) :
    Calls Try.prog 16 #[.int .u64 p, .slice (some ⟨n, 0, none⟩) 3 3] (w.alloc (.cells #[.int .u64 a, .int .u64 b, .int .u64 c] 22)) fun e w' => e = .returned (.int .i64 (errOf r)) ∧ w.alloc (.cells #[.int .u64 a, .int .u64 b, .int .u64 c] 22) = w' := by
  subst hn; exact right3 p a b c w hp ha hb hc hr

set_option maxHeartbeats 400000 in
theorem ladd (p a b r : Nat) (hv : M.validB p [a, b] = true) (hr : (a + b) % p = r) (w : World) :
    Calls Try.prog 23 #[.int .u64 p, .int .u64 a, .int .u64 b] w fun e w' => e = .returned (.int .u64 r) ∧ Below w.heap.size w w' := by
  have h := add_ok p a b w hv
  rw [hr] at h
  have HC := Lib.hid h
  clear h hv hr
  go_enter Try.func23, Try.ntmps23
  go_wp2_with fail
  refine HC.out.mono ?_
  rintro e w' ⟨rfl, hb⟩
  go_wp2_with fail
  go_ret
  exact ⟨rfl, hb⟩
set_option maxHeartbeats 400000 in
theorem lmul (p a b r : Nat) (hv : M.validB p [a, b] = true) (hr : a * b % p = r) (w : World) :
    Calls Try.prog 24 #[.int .u64 p, .int .u64 a, .int .u64 b] w fun e w' => e = .returned (.int .u64 r) ∧ Below w.heap.size w w' := by
  have h := mul_ok p a b w hv
  rw [hr] at h
  have HC := Lib.hid h
  clear h hv hr
  go_enter Try.func24, Try.ntmps24
  go_wp2_with fail
  refine HC.out.mono ?_
  rintro e w' ⟨rfl, hb⟩
  go_wp2_with fail
  go_ret
  exact ⟨rfl, hb⟩

set_option maxHeartbeats 400000 in
theorem walk_bad (w : World) (p a b c : Nat) (hp : p < 18446744073709551616) (ha : a < 18446744073709551616) (hb : b < 18446744073709551616) (hc : c < 18446744073709551616) (hv : M.validB p [a, b, c] = false) :
    Calls Try.prog 6 #[.int .u64 p, .agg #[.int .u64 a, .int .u64 b, .int .u64 c]] w fun e w' => e = .returned (.bool true) ∧ Below w.heap.size w w' := by
  have hR := fun wx n hn => right3n p a b c wx n hn hp ha hb hc hv
  rw [show errOf false = 2 from rfl] at hR
  have HR := Lib.hid hR
  clear hR hv hp ha hb hc
  go_enter Try.func6, Try.ntmps6
  go_wp2_with fail
  go_quiet (fail)
  have B0 := Lib.hid (below_drewN (balloc w (.cells #[.int .u64 a, .int .u64 b, .int .u64 c] 45)) nq)
  generalize (w.alloc (.cells #[.int .u64 a, .int .u64 b, .int .u64 c] 45)).drewN nq = w0 at *
  go_wp2_with fail
  refine (HR.out _ _ rfl).mono ?_
  rintro e w' ⟨rfl, rfl⟩
  have B1 := Lib.hid (bnext B0.out (balloc w0 (.cells #[.int .u64 a, .int .u64 b, .int .u64 c] 22)))
  clear B0
  go_wp2_with fail
  refine (alive_any _).mono ?_
  rintro e w2 ⟨rfl, hb2⟩
  have B2 := Lib.hid (bnext B1.out hb2)
  clear hb2 B1
  go_wp2_with fail
  go_ret
  exact ⟨rfl, B2.out⟩

namespace M
theorem mm1 (x y p : Nat) : x % p * y % p = x * y % p := by rw [Nat.mul_mod, Nat.mod_mod, ← Nat.mul_mod]
theorem mm2 (x y p : Nat) : x * (y % p) % p = x * y % p := by rw [Nat.mul_mod, Nat.mod_mod, ← Nat.mul_mod]
theorem neg_add (p a : Nat) (h : a < p) : (a + (0 + p - a) % p) % p = 0 := by
  rw [Nat.add_mod_mod]
  have : a + (0 + p - a) = p := by omega
  rw [this, Nat.mod_self]
end M

set_option maxHeartbeats 4000000 in
set_option maxRecDepth 100000 in
theorem walk_zero (w : World) (p a b c : Nat) (hv : M.validB p [a, b, c] = true) (h0 : a = 0) :
    Calls Try.prog 6 #[.int .u64 p, .agg #[.int .u64 a, .int .u64 b, .int .u64 c]] w fun e w' => e = .returned (.bool true) ∧ Below w.heap.size w w' := by
  obtain ⟨hi, ha, hb, hc⟩ := M.valid3_iff.1 hv
  obtain ⟨h3, hp⟩ := M.pos_of hi
  have hR := fun wx n hn => right3n p a b c wx n hn (by omega) (by omega) (by omega) (by omega) hv
  rw [show errOf true = 0 from rfl] at hR
  have HR := Lib.hid hR
  have v2 : ∀ x y, x < p → y < p → M.validB p [x, y] = true := fun x y hx hy => M.valid2_iff.2 ⟨hi, hx, hy⟩
  have ml : ∀ x, x % p < p := fun x => Nat.mod_lt x (by omega)
  obtain ⟨x1, e1⟩ : ∃ x1, x1 = (a + b) % p := ⟨_, rfl⟩
  obtain ⟨x2, e2⟩ : ∃ x2, x2 = a * b % p := ⟨_, rfl⟩
  obtain ⟨x3, e3⟩ : ∃ x3, x3 = (x1 + c) % p := ⟨_, rfl⟩
  obtain ⟨x4, e4⟩ : ∃ x4, x4 = (b + c) % p := ⟨_, rfl⟩
  obtain ⟨x5, e5⟩ : ∃ x5, x5 = x2 * c % p := ⟨_, rfl⟩
  obtain ⟨x6, e6⟩ : ∃ x6, x6 = b * c % p := ⟨_, rfl⟩
  obtain ⟨x7, e7⟩ : ∃ x7, x7 = a * x4 % p := ⟨_, rfl⟩
  obtain ⟨x8, e8⟩ : ∃ x8, x8 = a * c % p := ⟨_, rfl⟩
  obtain ⟨x9, e9⟩ : ∃ x9, x9 = (0 + p - a) % p := ⟨_, rfl⟩
  have l1 : x1 < p := e1 ▸ ml _
  have l2 : x2 < p := e2 ▸ ml _
  have l4 : x4 < p := e4 ▸ ml _
  have l6 : x6 < p := e6 ▸ ml _
  have l8 : x8 < p := e8 ▸ ml _
  have l9 : x9 < p := e9 ▸ ml _
  have C1 := Lib.hid fun wx => ladd p a b x1 (v2 _ _ ha hb) e1.symm wx
  have C2 := Lib.hid fun wx => ladd p b a x1 (v2 _ _ hb ha) (by rw [e1, Nat.add_comm]) wx
  have C3 := Lib.hid fun wx => lmul p a b x2 (v2 _ _ ha hb) e2.symm wx
  have C4 := Lib.hid fun wx => lmul p b a x2 (v2 _ _ hb ha) (by rw [e2, Nat.mul_comm]) wx
  have C5 := Lib.hid fun wx => ladd p x1 c x3 (v2 _ _ l1 hc) e3.symm wx
  have C6 := Lib.hid fun wx => ladd p b c x4 (v2 _ _ hb hc) e4.symm wx
  have C7 := Lib.hid fun wx => ladd p a x4 x3 (v2 _ _ ha l4) (by rw [e3, e4, e1, Nat.add_mod_mod, Nat.mod_add_mod, Nat.add_assoc]) wx
  have C8 := Lib.hid fun wx => lmul p x2 c x5 (v2 _ _ l2 hc) e5.symm wx
  have C9 := Lib.hid fun wx => lmul p b c x6 (v2 _ _ hb hc) e6.symm wx
  have C10 := Lib.hid fun wx => lmul p a x6 x5 (v2 _ _ ha l6) (by rw [e5, e6, e2, M.mm1, M.mm2, Nat.mul_assoc]) wx
  have C11 := Lib.hid fun wx => lmul p a x4 x7 (v2 _ _ ha l4) e7.symm wx
  have C12 := Lib.hid fun wx => lmul p a c x8 (v2 _ _ ha hc) e8.symm wx
  have C13 := Lib.hid fun wx => ladd p x2 x8 x7 (v2 _ _ l2 l8) (by rw [e7, e8, e4, e2, M.mm2, Nat.mod_add_mod, Nat.add_mod_mod, Nat.mul_add]) wx
  have C14 := Lib.hid fun wx => ladd p a 0 a (v2 _ _ ha (by omega)) (by rw [Nat.add_zero, Nat.mod_eq_of_lt ha]) wx
  have C15 := Lib.hid fun wx => lmul p a 1 a (v2 _ _ ha (by omega)) (by rw [Nat.mul_one, Nat.mod_eq_of_lt ha]) wx
  have C16 := Lib.hid fun wx => ladd p a x9 0 (v2 _ _ ha l9) (by rw [e9]; exact M.neg_add p a ha) wx
  have hS := fun wx => sub_ok p 0 a wx (v2 _ _ (by omega) ha)
  rw [← e9] at hS
  have HS := Lib.hid hS
  have hI : ∀ wx, Calls Try.prog 22 #[.int .u64 p, .int .u64 a] wx fun e w' => e = .returned (.tuple #[.int .u64 0, .int .i64 7]) ∧ Below wx.heap.size wx w' := by
    intro wx
    rw [h0]
    exact inv_zero p wx (M.valid1_iff.2 ⟨hi, by omega⟩)
  have HI := Lib.hid hI
  have hz : ((a : Int) == 0) = true := by simp; omega
  have hud : ∀ b : Bool, undef ≠ Value.bool b := fun b h => by cases h
  clear hR hS hI v2 ml e1 e2 e3 e4 e5 e6 e7 e8 e9 l1 l2 l4 l6 l8 l9 hv hi ha hb hc h3 hp h0
  go_enter Try.func6, Try.ntmps6
  go_wp2_with fail
  go_quiet (fail)
  have B0 := Lib.hid (below_drewN (balloc w (.cells #[.int .u64 a, .int .u64 b, .int .u64 c] 45)) nq)
  generalize (w.alloc (.cells #[.int .u64 a, .int .u64 b, .int .u64 c] 45)).drewN nq = w0 at *
  go_wp2_with fail
  refine (HR.out _ _ rfl).mono ?_
  rintro e w' ⟨rfl, rfl⟩
  have B1 := Lib.hid (bnext B0.out (balloc w0 (.cells #[.int .u64 a, .int .u64 b, .int .u64 c] 22)))
  clear B0
  go_wp2_with fail
  refine (HS.out _).mono ?_
  rintro e w2 ⟨rfl, hb2⟩
  have B2 := Lib.hid (bnext B1.out hb2)
  clear hb2 B1
  go_wp2_with fail
  refine (HI.out _).mono ?_
  rintro e w3 ⟨rfl, hb3⟩
  have B3 := Lib.hid (bnext B2.out hb3)
  clear hb3 B2
  go_wp2_with fail
  refine (C1.out _).mono ?_
  rintro e w4 ⟨rfl, hb4⟩
  have B4 := Lib.hid (bnext B3.out hb4)
  clear hb4 B3
  go_wp2_with fail
  refine (C2.out _).mono ?_
  rintro e w5 ⟨rfl, hb5⟩
  have B5 := Lib.hid (bnext B4.out hb5)
  clear hb5 B4
  go_wp2_with fail
  refine (C3.out _).mono ?_
  rintro e w6 ⟨rfl, hb6⟩
  have B6 := Lib.hid (bnext B5.out hb6)
  clear hb6 B5
  go_wp2_with fail
  refine (C4.out _).mono ?_
  rintro e w7 ⟨rfl, hb7⟩
  have B7 := Lib.hid (bnext B6.out hb7)
  clear hb7 B6
  go_wp2_with fail
  refine (C1.out _).mono ?_
  rintro e w8 ⟨rfl, hb8⟩
  have B8 := Lib.hid (bnext B7.out hb8)
  clear hb8 B7
  go_wp2_with fail
  refine (C5.out _).mono ?_
  rintro e w9 ⟨rfl, hb9⟩
  have B9 := Lib.hid (bnext B8.out hb9)
  clear hb9 B8
  go_wp2_with fail
  refine (C6.out _).mono ?_
  rintro e w10 ⟨rfl, hb10⟩
  have B10 := Lib.hid (bnext B9.out hb10)
  clear hb10 B9
  go_wp2_with fail
  refine (C7.out _).mono ?_
  rintro e w11 ⟨rfl, hb11⟩
  have B11 := Lib.hid (bnext B10.out hb11)
  clear hb11 B10
  go_wp2_with fail
  refine (C3.out _).mono ?_
  rintro e w12 ⟨rfl, hb12⟩
  have B12 := Lib.hid (bnext B11.out hb12)
  clear hb12 B11
  go_wp2_with fail
  refine (C8.out _).mono ?_
  rintro e w13 ⟨rfl, hb13⟩
  have B13 := Lib.hid (bnext B12.out hb13)
  clear hb13 B12
  go_wp2_with fail
  refine (C9.out _).mono ?_
  rintro e w14 ⟨rfl, hb14⟩
  have B14 := Lib.hid (bnext B13.out hb14)
  clear hb14 B13
  go_wp2_with fail
  refine (C10.out _).mono ?_
  rintro e w15 ⟨rfl, hb15⟩
  have B15 := Lib.hid (bnext B14.out hb15)
  clear hb15 B14
  go_wp2_with fail
  refine (C6.out _).mono ?_
  rintro e w16 ⟨rfl, hb16⟩
  have B16 := Lib.hid (bnext B15.out hb16)
  clear hb16 B15
  go_wp2_with fail
  refine (C11.out _).mono ?_
  rintro e w17 ⟨rfl, hb17⟩
  have B17 := Lib.hid (bnext B16.out hb17)
  clear hb17 B16
  go_wp2_with fail
  refine (C3.out _).mono ?_
  rintro e w18 ⟨rfl, hb18⟩
  have B18 := Lib.hid (bnext B17.out hb18)
  clear hb18 B17
  go_wp2_with fail
  refine (C12.out _).mono ?_
  rintro e w19 ⟨rfl, hb19⟩
  have B19 := Lib.hid (bnext B18.out hb19)
  clear hb19 B18
  go_wp2_with fail
  refine (C13.out _).mono ?_
  rintro e w20 ⟨rfl, hb20⟩
  have B20 := Lib.hid (bnext B19.out hb20)
  clear hb20 B19
  go_wp2_with fail
  refine (C14.out _).mono ?_
  rintro e w21 ⟨rfl, hb21⟩
  have B21 := Lib.hid (bnext B20.out hb21)
  clear hb21 B20
  go_wp2_with fail
  refine (C15.out _).mono ?_
  rintro e w22 ⟨rfl, hb22⟩
  have B22 := Lib.hid (bnext B21.out hb22)
  clear hb22 B21
  go_wp2_with fail
  refine (C16.out _).mono ?_
  rintro e w23 ⟨rfl, hb23⟩
  have B23 := Lib.hid (bnext B22.out hb23)
  clear hb23 B22
  go_wp2_with fail
  refine (alive_any _).mono ?_
  rintro e w24 ⟨rfl, hb24⟩
  have B24 := Lib.hid (bnext B23.out hb24)
  clear hb24 B23
  go_wp2_with fail
  go_ret
  exact ⟨rfl, B24.out⟩

set_option maxHeartbeats 4000000 in
set_option maxRecDepth 100000 in
theorem walk_ok (w : World) (p a b c : Nat) (hv : M.validB p [a, b, c] = true) (h0 : a ≠ 0) :
    Calls Try.prog 6 #[.int .u64 p, .agg #[.int .u64 a, .int .u64 b, .int .u64 c]] w fun e w' => e = .returned (.bool true) ∧ Below w.heap.size w w' := by
  obtain ⟨hi, ha, hb, hc⟩ := M.valid3_iff.1 hv
  obtain ⟨h3, hp⟩ := M.pos_of hi
  have hR := fun wx n hn => right3n p a b c wx n hn (by omega) (by omega) (by omega) (by omega) hv
  rw [show errOf true = 0 from rfl] at hR
  have HR := Lib.hid hR
  have v2 : ∀ x y, x < p → y < p → M.validB p [x, y] = true := fun x y hx hy => M.valid2_iff.2 ⟨hi, hx, hy⟩
  have ml : ∀ x, x % p < p := fun x => Nat.mod_lt x (by omega)
  obtain ⟨x1, e1⟩ : ∃ x1, x1 = (a + b) % p := ⟨_, rfl⟩
  obtain ⟨x2, e2⟩ : ∃ x2, x2 = a * b % p := ⟨_, rfl⟩
  obtain ⟨x3, e3⟩ : ∃ x3, x3 = (x1 + c) % p := ⟨_, rfl⟩
  obtain ⟨x4, e4⟩ : ∃ x4, x4 = (b + c) % p := ⟨_, rfl⟩
  obtain ⟨x5, e5⟩ : ∃ x5, x5 = x2 * c % p := ⟨_, rfl⟩
  obtain ⟨x6, e6⟩ : ∃ x6, x6 = b * c % p := ⟨_, rfl⟩
  obtain ⟨x7, e7⟩ : ∃ x7, x7 = a * x4 % p := ⟨_, rfl⟩
  obtain ⟨x8, e8⟩ : ∃ x8, x8 = a * c % p := ⟨_, rfl⟩
  obtain ⟨x9, e9⟩ : ∃ x9, x9 = (0 + p - a) % p := ⟨_, rfl⟩
  have l1 : x1 < p := e1 ▸ ml _
  have l2 : x2 < p := e2 ▸ ml _
  have l4 : x4 < p := e4 ▸ ml _
  have l6 : x6 < p := e6 ▸ ml _
  have l8 : x8 < p := e8 ▸ ml _
  have l9 : x9 < p := e9 ▸ ml _
  have C1 := Lib.hid fun wx => ladd p a b x1 (v2 _ _ ha hb) e1.symm wx
  have C2 := Lib.hid fun wx => ladd p b a x1 (v2 _ _ hb ha) (by rw [e1, Nat.add_comm]) wx
  have C3 := Lib.hid fun wx => lmul p a b x2 (v2 _ _ ha hb) e2.symm wx
  have C4 := Lib.hid fun wx => lmul p b a x2 (v2 _ _ hb ha) (by rw [e2, Nat.mul_comm]) wx
  have C5 := Lib.hid fun wx => ladd p x1 c x3 (v2 _ _ l1 hc) e3.symm wx
  have C6 := Lib.hid fun wx => ladd p b c x4 (v2 _ _ hb hc) e4.symm wx
  have C7 := Lib.hid fun wx => ladd p a x4 x3 (v2 _ _ ha l4) (by rw [e3, e4, e1, Nat.add_mod_mod, Nat.mod_add_mod, Nat.add_assoc]) wx
  have C8 := Lib.hid fun wx => lmul p x2 c x5 (v2 _ _ l2 hc) e5.symm wx
  have C9 := Lib.hid fun wx => lmul p b c x6 (v2 _ _ hb hc) e6.symm wx
  have C10 := Lib.hid fun wx => lmul p a x6 x5 (v2 _ _ ha l6) (by rw [e5, e6, e2, M.mm1, M.mm2, Nat.mul_assoc]) wx
  have C11 := Lib.hid fun wx => lmul p a x4 x7 (v2 _ _ ha l4) e7.symm wx
  have C12 := Lib.hid fun wx => lmul p a c x8 (v2 _ _ ha hc) e8.symm wx
  have C13 := Lib.hid fun wx => ladd p x2 x8 x7 (v2 _ _ l2 l8) (by rw [e7, e8, e4, e2, M.mm2, Nat.mod_add_mod, Nat.add_mod_mod, Nat.mul_add]) wx
  have C14 := Lib.hid fun wx => ladd p a 0 a (v2 _ _ ha (by omega)) (by rw [Nat.add_zero, Nat.mod_eq_of_lt ha]) wx
  have C15 := Lib.hid fun wx => lmul p a 1 a (v2 _ _ ha (by omega)) (by rw [Nat.mul_one, Nat.mod_eq_of_lt ha]) wx
  have C16 := Lib.hid fun wx => ladd p a x9 0 (v2 _ _ ha l9) (by rw [e9]; exact M.neg_add p a ha) wx
  have hS := fun wx => sub_ok p 0 a wx (v2 _ _ (by omega) ha)
  rw [← e9] at hS
  have HS := Lib.hid hS
  have hI := fun wx => inv_ok p a wx (M.valid1_iff.2 ⟨hi, ha⟩) h0
  have hone : a * M.pw p a (p - 2) % p = 1 := by
    have := M.inv_mul hi (a := a) (by rw [Nat.mod_eq_of_lt ha]; exact h0)
    unfold M.pw; rw [Nat.mul_comm, M.mm1]; exact this
  have lI := M.pw_lt (p := p) a (p - 2) (by omega)
  have C17 := Lib.hid fun wx => lmul p a (M.pw p a (p - 2)) 1 (v2 _ _ ha lI) hone wx
  obtain ⟨v, ev⟩ : ∃ v, v = M.pw p a (p - 2) := ⟨_, rfl⟩
  rw [← ev] at hI C17
  have HI := Lib.hid hI
  have hz : ((a : Int) == 0) = false := by simp; omega
  have hz2 : ((a : Int) != 0) = true := by simp; omega
  clear hR hS hI v2 ml e1 e2 e3 e4 e5 e6 e7 e8 e9 l1 l2 l4 l6 l8 l9 hv hi ha hb hc h3 hp h0 hone lI ev
  go_enter Try.func6, Try.ntmps6
  go_wp2_with fail
  go_quiet (fail)
  have B0 := Lib.hid (below_drewN (balloc w (.cells #[.int .u64 a, .int .u64 b, .int .u64 c] 45)) nq)
  generalize (w.alloc (.cells #[.int .u64 a, .int .u64 b, .int .u64 c] 45)).drewN nq = w0 at *
  go_wp2_with fail
  refine (HR.out _ _ rfl).mono ?_
  rintro e w' ⟨rfl, rfl⟩
  have B1 := Lib.hid (bnext B0.out (balloc w0 (.cells #[.int .u64 a, .int .u64 b, .int .u64 c] 22)))
  clear B0
  go_wp2_with fail
  refine (HS.out _).mono ?_
  rintro e w2 ⟨rfl, hb2⟩
  have B2 := Lib.hid (bnext B1.out hb2)
  clear hb2 B1
  go_wp2_with fail
  refine (HI.out _).mono ?_
  rintro e w3 ⟨rfl, hb3⟩
  have B3 := Lib.hid (bnext B2.out hb3)
  clear hb3 B2
  go_wp2_with fail
  refine (C1.out _).mono ?_
  rintro e w4 ⟨rfl, hb4⟩
  have B4 := Lib.hid (bnext B3.out hb4)
  clear hb4 B3
  go_wp2_with fail
  refine (C2.out _).mono ?_
  rintro e w5 ⟨rfl, hb5⟩
  have B5 := Lib.hid (bnext B4.out hb5)
  clear hb5 B4
  go_wp2_with fail
  refine (C3.out _).mono ?_
  rintro e w6 ⟨rfl, hb6⟩
  have B6 := Lib.hid (bnext B5.out hb6)
  clear hb6 B5
  go_wp2_with fail
  refine (C4.out _).mono ?_
  rintro e w7 ⟨rfl, hb7⟩
  have B7 := Lib.hid (bnext B6.out hb7)
  clear hb7 B6
  go_wp2_with fail
  refine (C1.out _).mono ?_
  rintro e w8 ⟨rfl, hb8⟩
  have B8 := Lib.hid (bnext B7.out hb8)
  clear hb8 B7
  go_wp2_with fail
  refine (C5.out _).mono ?_
  rintro e w9 ⟨rfl, hb9⟩
  have B9 := Lib.hid (bnext B8.out hb9)
  clear hb9 B8
  go_wp2_with fail
  refine (C6.out _).mono ?_
  rintro e w10 ⟨rfl, hb10⟩
  have B10 := Lib.hid (bnext B9.out hb10)
  clear hb10 B9
  go_wp2_with fail
  refine (C7.out _).mono ?_
  rintro e w11 ⟨rfl, hb11⟩
  have B11 := Lib.hid (bnext B10.out hb11)
  clear hb11 B10
  go_wp2_with fail
  refine (C3.out _).mono ?_
  rintro e w12 ⟨rfl, hb12⟩
  have B12 := Lib.hid (bnext B11.out hb12)
  clear hb12 B11
  go_wp2_with fail
  refine (C8.out _).mono ?_
  rintro e w13 ⟨rfl, hb13⟩
  have B13 := Lib.hid (bnext B12.out hb13)
  clear hb13 B12
  go_wp2_with fail
  refine (C9.out _).mono ?_
  rintro e w14 ⟨rfl, hb14⟩
  have B14 := Lib.hid (bnext B13.out hb14)
  clear hb14 B13
  go_wp2_with fail
  refine (C10.out _).mono ?_
  rintro e w15 ⟨rfl, hb15⟩
  have B15 := Lib.hid (bnext B14.out hb15)
  clear hb15 B14
  go_wp2_with fail
  refine (C6.out _).mono ?_
  rintro e w16 ⟨rfl, hb16⟩
  have B16 := Lib.hid (bnext B15.out hb16)
  clear hb16 B15
  go_wp2_with fail
  refine (C11.out _).mono ?_
  rintro e w17 ⟨rfl, hb17⟩
  have B17 := Lib.hid (bnext B16.out hb17)
  clear hb17 B16
  go_wp2_with fail
  refine (C3.out _).mono ?_
  rintro e w18 ⟨rfl, hb18⟩
  have B18 := Lib.hid (bnext B17.out hb18)
  clear hb18 B17
  go_wp2_with fail
  refine (C12.out _).mono ?_
  rintro e w19 ⟨rfl, hb19⟩
  have B19 := Lib.hid (bnext B18.out hb19)
  clear hb19 B18
  go_wp2_with fail
  refine (C13.out _).mono ?_
  rintro e w20 ⟨rfl, hb20⟩
  have B20 := Lib.hid (bnext B19.out hb20)
  clear hb20 B19
  go_wp2_with fail
  refine (C14.out _).mono ?_
  rintro e w21 ⟨rfl, hb21⟩
  have B21 := Lib.hid (bnext B20.out hb21)
  clear hb21 B20
  go_wp2_with fail
  refine (C15.out _).mono ?_
  rintro e w22 ⟨rfl, hb22⟩
  have B22 := Lib.hid (bnext B21.out hb22)
  clear hb22 B21
  go_wp2_with fail
  refine (C16.out _).mono ?_
  rintro e w23 ⟨rfl, hb23⟩
  have B23 := Lib.hid (bnext B22.out hb23)
  clear hb23 B22
  go_wp2_with fail
  refine (C17.out _).mono ?_
  rintro e w24 ⟨rfl, hb24⟩
  have B24 := Lib.hid (bnext B23.out hb24)
  clear hb24 B23
  go_wp2_with fail
  refine (alive_any _).mono ?_
  rintro e w25 ⟨rfl, hb25⟩
  have B25 := Lib.hid (bnext B24.out hb25)
  clear hb25 B24
  go_wp2_with fail
  go_ret
  exact ⟨rfl, B25.out⟩

theorem walk (w : World) (p : Nat) (hp : p < 18446744073709551616) (a : Nat) (ha : a < 18446744073709551616) (b : Nat) (hb : b < 18446744073709551616) (c : Nat) (hc : c < 18446744073709551616) :
    Calls Try.prog 6 #[.int .u64 p, .agg #[.int .u64 a, .int .u64 b, .int .u64 c]] w fun e w' => e = .returned (.bool true) ∧ Below w.heap.size w w' := by
  cases hv : M.validB p [a, b, c] with
  | false => exact walk_bad w p a b c hp ha hb hc hv
  | true =>
    by_cases h0 : a = 0
    · exact walk_zero w p a b c hv h0
    · exact walk_ok w p a b c hv h0
end Go.Proofs.Ytlcljbncegjdiab.fieldRingW
