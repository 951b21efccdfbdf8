/-
  The walk of the law FieldQuotients.
-/
import Derived.Test.YtlcljbncegjdiaaRefA
namespace Go.Proofs.Ytlcljbncegjdiaa.fieldQuotientsW
open Go.RowKit
set_option linter.unusedVariables false

set_option maxHeartbeats 400000 in
theorem walk_bad (w : World) (p a b : Nat) (hp : p < 18446744073709551616) (ha : a < 18446744073709551616) (hb : b < 18446744073709551616) (hv1 : M.validB p [b] = false) (hv2 : M.validB p [a, b] = false) :
    Calls Try.prog 6 #[.int .u64 p, .int .u64 a, .int .u64 b] w fun e w' => e = .returned (.bool true) ∧ Below w.heap.size w w' := by
  have HI := Lib.hid fun wx => inv_bad p b wx hp hb hv1
  have HD := Lib.hid fun wx => div_bad p a b wx hp ha hb hv2
  have h1 := fun wx => right1 p b wx hp hb hv1
  have h2 := fun wx n hn => right2n p a b wx n hn hp ha hb hv2
  rw [show errOf false = 2 from rfl] at h1
  rw [show errOf false = 2 from rfl] at h2
  have H1 := Lib.hid h1
  have H2 := Lib.hid h2
  have B0 := Lib.hid (Below.refl w.heap.size w)
  clear h1 h2 hv1 hv2 hp ha hb
  go_enter Try.func6, Try.ntmps6
  go_wp2_with fail
  refine (HI.out _).mono ?_
  rintro e w1 ⟨rfl, hb1⟩
  have B1 := Lib.hid (bnext B0.out hb1)
  clear hb1 B0
  go_wp2_with fail
  refine (HD.out _).mono ?_
  rintro e w2 ⟨rfl, hb2⟩
  have B2 := Lib.hid (bnext B1.out hb2)
  clear hb2 B1
  go_wp2_with fail
  refine (H1.out _).mono ?_
  rintro e w3a ⟨rfl, rfl⟩
  have B3 := Lib.hid (bnext B2.out (balloc w2 (.cells #[.int .u64 b] 22)))
  clear B2
  go_wp2_with fail
  refine (H2.out _ _ (by simp)).mono ?_
  rintro e w3b ⟨rfl, rfl⟩
  have B4 := Lib.hid (bnext B3.out (balloc _ (.cells #[.int .u64 a, .int .u64 b] 22)))
  clear B3
  go_wp2_with fail
  refine (is_err 2 (by decide) 0 _).mono ?_
  rintro e w' ⟨rfl, rfl⟩
  go_wp2_with fail
  refine (is_err 2 (by decide) 0 _).mono ?_
  rintro e w' ⟨rfl, rfl⟩
  go_wp2_with fail
  refine (alive_any _).mono ?_
  rintro e w5 ⟨rfl, hb5⟩
  have B5 := Lib.hid (bnext B4.out hb5)
  clear hb5 B4
  go_wp2_with fail
  go_ret
  exact ⟨rfl, B5.out⟩

set_option maxHeartbeats 400000 in
theorem walk_abad (w : World) (p a b : Nat) (hp : p < 18446744073709551616) (ha : a < 18446744073709551616) (hb : b < 18446744073709551616) (hv1 : M.validB p [b] = true) (h0 : b ≠ 0) (hv2 : M.validB p [a, b] = false) :
    Calls Try.prog 6 #[.int .u64 p, .int .u64 a, .int .u64 b] w fun e w' => e = .returned (.bool true) ∧ Below w.heap.size w w' := by
  obtain ⟨hi, hbp⟩ := M.valid1_iff.1 hv1
  obtain ⟨h3, hp6⟩ := M.pos_of hi
  have HI := Lib.hid fun wx => inv_ok p b wx hv1 h0
  have HD := Lib.hid fun wx => div_bad p a b wx hp ha hb hv2
  have HG := Lib.hid fun wx => refInv_any p b wx h3 hp6 hbp
  have h1 := fun wx => right1 p b wx hp hb hv1
  have h2 := fun wx n hn => right2n p a b wx n hn hp ha hb hv2
  rw [show errOf true = 0 from rfl] at h1
  rw [show errOf false = 2 from rfl] at h2
  have H1 := Lib.hid h1
  have H2 := Lib.hid h2
  have B0 := Lib.hid (Below.refl w.heap.size w)
  have hl := M.pw_lt (p := p) b (p - 2) (by omega)
  have HM := Lib.hid fun wx => refMul_any p (M.pw p b (p - 2)) b wx (by omega) hp6 hl hbp
  have hone : M.pw p b (p - 2) * b % p = 1 := by
    have := M.inv_mul hi (a := b) (by rw [Nat.mod_eq_of_lt hbp]; exact h0)
    unfold M.pw; rw [Nat.mul_mod, Nat.mod_mod, ← Nat.mul_mod]; exact this
  rw [hone] at HM
  obtain ⟨x, hx⟩ : ∃ x, x = M.pw p b (p - 2) := ⟨_, rfl⟩
  rw [← hx] at HI HG HM
  have hz : ((b : Int) == 0) = false := by simp; omega
  clear h1 h2 hv1 hv2 hi hp6 h3 hbp hl hone hx hp ha hb
  go_enter Try.func6, Try.ntmps6
  go_wp2_with fail
  refine (HI.out _).mono ?_
  rintro e w1 ⟨rfl, hb1⟩
  have B1 := Lib.hid (bnext B0.out hb1)
  clear hb1 B0
  go_wp2_with fail
  refine (HD.out _).mono ?_
  rintro e w2 ⟨rfl, hb2⟩
  have B2 := Lib.hid (bnext B1.out hb2)
  clear hb2 B1
  go_wp2_with fail
  refine (H1.out _).mono ?_
  rintro e w3a ⟨rfl, rfl⟩
  have B3 := Lib.hid (bnext B2.out (balloc w2 (.cells #[.int .u64 b] 22)))
  clear B2
  go_wp2_with fail
  refine (H2.out _ _ (by simp)).mono ?_
  rintro e w3b ⟨rfl, rfl⟩
  have B4 := Lib.hid (bnext B3.out (balloc _ (.cells #[.int .u64 a, .int .u64 b] 22)))
  clear B3
  go_wp2_with fail
  refine (HG.out _).mono ?_
  rintro e w' ⟨rfl, rfl⟩
  go_wp2_with fail
  refine (is_ok x _).mono ?_
  rintro e w' ⟨rfl, rfl⟩
  go_wp2_with fail
  refine (is_err 2 (by decide) 0 _).mono ?_
  rintro e w' ⟨rfl, rfl⟩
  go_wp2_with fail
  refine (HM.out _).mono ?_
  rintro e w' ⟨rfl, rfl⟩
  go_wp2_with fail
  refine (alive_any _).mono ?_
  rintro e w5 ⟨rfl, hb5⟩
  have B5 := Lib.hid (bnext B4.out hb5)
  clear hb5 B4
  go_wp2_with fail
  go_ret
  exact ⟨rfl, B5.out⟩

set_option maxHeartbeats 400000 in
theorem walk_zero (w : World) (p a b : Nat) (hp : p < 18446744073709551616) (ha : a < 18446744073709551616) (hb : b < 18446744073709551616) (hz0 : b = 0) (hv1 : M.validB p [b] = true) (hv2 : M.validB p [a, b] = true) :
    Calls Try.prog 6 #[.int .u64 p, .int .u64 a, .int .u64 b] w fun e w' => e = .returned (.bool true) ∧ Below w.heap.size w w' := by
  subst hz0
  have HI := Lib.hid fun wx => inv_zero p wx hv1
  have HD := Lib.hid fun wx => div_zero p a wx hv2
  have h1 := fun wx => right1 p 0 wx hp (by omega) hv1
  have h2 := fun wx n hn => right2n p a 0 wx n hn hp ha (by omega) hv2
  rw [show errOf true = 0 from rfl] at h1
  rw [show errOf true = 0 from rfl] at h2
  have H1 := Lib.hid h1
  have H2 := Lib.hid h2
  have B0 := Lib.hid (Below.refl w.heap.size w)
  clear h1 h2 hv1 hv2 hp ha hb
  go_enter Try.func6, Try.ntmps6
  go_wp2_with fail
  refine (HI.out _).mono ?_
  rintro e w1 ⟨rfl, hb1⟩
  have B1 := Lib.hid (bnext B0.out hb1)
  clear hb1 B0
  go_wp2_with fail
  refine (HD.out _).mono ?_
  rintro e w2 ⟨rfl, hb2⟩
  have B2 := Lib.hid (bnext B1.out hb2)
  clear hb2 B1
  go_wp2_with fail
  refine (H1.out _).mono ?_
  rintro e w3a ⟨rfl, rfl⟩
  have B3 := Lib.hid (bnext B2.out (balloc w2 (.cells #[.int .u64 (0 : Nat)] 22)))
  clear B2
  go_wp2_with fail
  refine (H2.out _ _ (by simp)).mono ?_
  rintro e w3b ⟨rfl, rfl⟩
  have B4 := Lib.hid (bnext B3.out (balloc _ (.cells #[.int .u64 a, .int .u64 (0 : Nat)] 22)))
  clear B3
  go_wp2_with fail
  refine (is_err 7 (by decide) 0 _).mono ?_
  rintro e w' ⟨rfl, rfl⟩
  go_wp2_with fail
  refine (is_err 7 (by decide) 0 _).mono ?_
  rintro e w' ⟨rfl, rfl⟩
  go_wp2_with fail
  refine (alive_any _).mono ?_
  rintro e w5 ⟨rfl, hb5⟩
  have B5 := Lib.hid (bnext B4.out hb5)
  clear hb5 B4
  go_wp2_with fail
  go_ret
  exact ⟨rfl, B5.out⟩

set_option maxHeartbeats 400000 in
theorem walk_zbad (w : World) (p a b : Nat) (hp : p < 18446744073709551616) (ha : a < 18446744073709551616) (hb : b < 18446744073709551616) (hz0 : b = 0) (hv1 : M.validB p [b] = true) (hv2 : M.validB p [a, b] = false) :
    Calls Try.prog 6 #[.int .u64 p, .int .u64 a, .int .u64 b] w fun e w' => e = .returned (.bool true) ∧ Below w.heap.size w w' := by
  subst hz0
  have HI := Lib.hid fun wx => inv_zero p wx hv1
  have HD := Lib.hid fun wx => div_bad p a 0 wx hp ha hb hv2
  have h1 := fun wx => right1 p 0 wx hp (by omega) hv1
  have h2 := fun wx n hn => right2n p a 0 wx n hn hp ha (by omega) hv2
  rw [show errOf true = 0 from rfl] at h1
  rw [show errOf false = 2 from rfl] at h2
  have H1 := Lib.hid h1
  have H2 := Lib.hid h2
  have B0 := Lib.hid (Below.refl w.heap.size w)
  clear h1 h2 hv1 hv2 hp ha hb
  go_enter Try.func6, Try.ntmps6
  go_wp2_with fail
  refine (HI.out _).mono ?_
  rintro e w1 ⟨rfl, hb1⟩
  have B1 := Lib.hid (bnext B0.out hb1)
  clear hb1 B0
  go_wp2_with fail
  refine (HD.out _).mono ?_
  rintro e w2 ⟨rfl, hb2⟩
  have B2 := Lib.hid (bnext B1.out hb2)
  clear hb2 B1
  go_wp2_with fail
  refine (H1.out _).mono ?_
  rintro e w3a ⟨rfl, rfl⟩
  have B3 := Lib.hid (bnext B2.out (balloc w2 (.cells #[.int .u64 (0 : Nat)] 22)))
  clear B2
  go_wp2_with fail
  refine (H2.out _ _ (by simp)).mono ?_
  rintro e w3b ⟨rfl, rfl⟩
  have B4 := Lib.hid (bnext B3.out (balloc _ (.cells #[.int .u64 a, .int .u64 (0 : Nat)] 22)))
  clear B3
  go_wp2_with fail
  refine (is_err 7 (by decide) 0 _).mono ?_
  rintro e w' ⟨rfl, rfl⟩
  go_wp2_with fail
  refine (is_err 2 (by decide) 0 _).mono ?_
  rintro e w' ⟨rfl, rfl⟩
  go_wp2_with fail
  refine (alive_any _).mono ?_
  rintro e w5 ⟨rfl, hb5⟩
  have B5 := Lib.hid (bnext B4.out hb5)
  clear hb5 B4
  go_wp2_with fail
  go_ret
  exact ⟨rfl, B5.out⟩

set_option maxHeartbeats 400000 in
theorem walk_ok (w : World) (p a b : Nat) (hp : p < 18446744073709551616) (ha : a < 18446744073709551616) (hb : b < 18446744073709551616) (h0 : b ≠ 0) (hv1 : M.validB p [b] = true) (hv2 : M.validB p [a, b] = true) :
    Calls Try.prog 6 #[.int .u64 p, .int .u64 a, .int .u64 b] w fun e w' => e = .returned (.bool true) ∧ Below w.heap.size w w' := by
  obtain ⟨hi, hap, hbp⟩ := M.valid2_iff.1 hv2
  obtain ⟨h3, hp6⟩ := M.pos_of hi
  have HI := Lib.hid fun wx => inv_ok p b wx hv1 h0
  have HD := Lib.hid fun wx => div_ok p a b wx hv2 h0
  have HG := Lib.hid fun wx => refInv_any p b wx h3 hp6 hbp
  have h1 := fun wx => right1 p b wx hp hb hv1
  have h2 := fun wx n hn => right2n p a b wx n hn hp ha hb hv2
  rw [show errOf true = 0 from rfl] at h1
  rw [show errOf true = 0 from rfl] at h2
  have H1 := Lib.hid h1
  have H2 := Lib.hid h2
  have B0 := Lib.hid (Below.refl w.heap.size w)
  have hl := M.pw_lt (p := p) b (p - 2) (by omega)
  have HM := Lib.hid fun wx => refMul_any p (M.pw p b (p - 2)) b wx (by omega) hp6 hl hbp
  have HQ := Lib.hid fun wx => refMul_any p a (M.pw p b (p - 2)) wx (by omega) hp6 hap hl
  have hone : M.pw p b (p - 2) * b % p = 1 := by
    have := M.inv_mul hi (a := b) (by rw [Nat.mod_eq_of_lt hbp]; exact h0)
    unfold M.pw; rw [Nat.mul_mod, Nat.mod_mod, ← Nat.mul_mod]; exact this
  rw [hone] at HM
  obtain ⟨x, hx⟩ : ∃ x, x = M.pw p b (p - 2) := ⟨_, rfl⟩
  rw [← hx] at HI HG HM HD HQ
  obtain ⟨y, hy⟩ : ∃ y, y = a * x % p := ⟨_, rfl⟩
  rw [← hy] at HD HQ
  have hz : ((b : Int) == 0) = false := by simp; omega
  clear h1 h2 hv1 hv2 hi hp6 h3 hbp hl hone hx hy hap hp ha hb
  go_enter Try.func6, Try.ntmps6
  go_wp2_with fail
  refine (HI.out _).mono ?_
  rintro e w1 ⟨rfl, hb1⟩
  have B1 := Lib.hid (bnext B0.out hb1)
  clear hb1 B0
  go_wp2_with fail
  refine (HD.out _).mono ?_
  rintro e w2 ⟨rfl, hb2⟩
  have B2 := Lib.hid (bnext B1.out hb2)
  clear hb2 B1
  go_wp2_with fail
  refine (H1.out _).mono ?_
  rintro e w3a ⟨rfl, rfl⟩
  have B3 := Lib.hid (bnext B2.out (balloc w2 (.cells #[.int .u64 b] 22)))
  clear B2
  go_wp2_with fail
  refine (H2.out _ _ (by simp)).mono ?_
  rintro e w3b ⟨rfl, rfl⟩
  have B4 := Lib.hid (bnext B3.out (balloc _ (.cells #[.int .u64 a, .int .u64 b] 22)))
  clear B3
  go_wp2_with fail
  refine (HG.out _).mono ?_
  rintro e w' ⟨rfl, rfl⟩
  go_wp2_with fail
  refine (HQ.out _).mono ?_
  rintro e w' ⟨rfl, rfl⟩
  go_wp2_with fail
  refine (is_ok x _).mono ?_
  rintro e w' ⟨rfl, rfl⟩
  go_wp2_with fail
  refine (is_ok y _).mono ?_
  rintro e w' ⟨rfl, rfl⟩
  go_wp2_with fail
  refine (HM.out _).mono ?_
  rintro e w' ⟨rfl, rfl⟩
  go_wp2_with fail
  refine (alive_any _).mono ?_
  rintro e w5 ⟨rfl, hb5⟩
  have B5 := Lib.hid (bnext B4.out hb5)
  clear hb5 B4
  go_wp2_with fail
  go_ret
  exact ⟨rfl, B5.out⟩

theorem walk (w : World) (p : Nat) (hp : p < 18446744073709551616) (a : Nat) (ha : a < 18446744073709551616) (b : Nat) (hb : b < 18446744073709551616) :
    Calls Try.prog 6 #[.int .u64 p, .int .u64 a, .int .u64 b] w fun e w' => e = .returned (.bool true) ∧ Below w.heap.size w w' := by
  cases hv1 : M.validB p [b] with
  | false =>
    have hv2 : M.validB p [a, b] = false := by
      cases h : M.validB p [a, b] with
      | false => rfl
      | true => obtain ⟨hi, _, hbp⟩ := M.valid2_iff.1 h; rw [M.valid1_iff.2 ⟨hi, hbp⟩] at hv1; cases hv1
    exact walk_bad w p a b hp ha hb hv1 hv2
  | true =>
    cases hv2 : M.validB p [a, b] with
    | false =>
      by_cases h0 : b = 0
      · exact walk_zbad w p a b hp ha hb h0 hv1 hv2
      · exact walk_abad w p a b hp ha hb hv1 h0 hv2
    | true =>
      by_cases h0 : b = 0
      · exact walk_zero w p a b hp ha hb h0 hv1 hv2
      · exact walk_ok w p a b hp ha hb h0 hv1 hv2
end Go.Proofs.Ytlcljbncegjdiaa.fieldQuotientsW
