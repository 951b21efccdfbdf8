/-
  The walk of the law MatrixProducts.
-/
import Derived.Test.YtaaipcdipdkooaaRmul
namespace Go.Proofs.Ytaaipcdipdkooaa.matrixProductsW
open Go.RowKit
set_option linter.unusedVariables false

set_option maxHeartbeats 1000000 in
theorem bad (w : World) (p : Nat) (hp : p < 18446744073709551616) (v : Value) (a : List (List Nat)) (hv : Mat w v a) (v2 : Value) (b : List (List Nat)) (hv2 : Mat w v2 b) (c : Int) (hc : (if M.chkm p a = 0 then M.chkm p b else M.chkm p a) = c) (h : c ≠ 0)
    (hmul : Calls Try.prog 17 #[.int .u64 p, v, v2] w fun e w' => e = .returned (.tuple #[.slice none 0 0, .int .i64 c]) ∧ Below w.heap.size w w') :
    Calls Try.prog 4 #[.int .u64 p, v, v2] w fun e w' => e = .returned (.bool true) ∧ Below w.heap.size w w' := by
  have H1 := Lib.hid hmul
  have h2 := fun W (hW : Mat W v a) (hW2 : Mat W v2 b) => rcheck_two p v v2 a b W hp hW hW2
  rw [hc] at h2
  have H2 := Lib.hid h2
  have HV := Lib.hid hv
  have HV2 := Lib.hid hv2
  have hud : ∀ b : Bool, undef ≠ Value.bool b := fun b h => by cases h
  obtain ⟨A, cap, rfl, _⟩ := mat_view hv
  obtain ⟨A2, cap2, rfl, _⟩ := mat_view hv2
  have hb : (c == 0) = false := by simp [h]
  have hb2 : (c != 0) = true := by rw [bne_iff_ne]; exact h
  have H3 := Lib.hid fun W => is_bad c (.slice none 0 0) W h ⟨_, _, _, rfl⟩
  clear hv hv2 hc h h2 hmul
  go_enter Try.func4, Try.ntmps4
  go_wp2_with fail
  refine H1.out.mono ?_
  rintro e w1 ⟨rfl, hb1⟩
  have B1 := Lib.hid hb1
  clear hb1
  go_wp2_with fail
  refine (H2.out _ (HV.out.below B1.out) (HV2.out.below B1.out)).mono ?_
  rintro e w2 ⟨rfl, hb2'⟩
  have B2 := Lib.hid (bnext B1.out hb2')
  clear hb2'
  go_wp2_with fail
  refine (H3.out _).mono ?_
  rintro e w' ⟨rfl, rfl⟩
  go_wp2_with fail
  refine (alive_any _).mono ?_
  rintro e w3 ⟨rfl, hb3⟩
  have B3 := Lib.hid (bnext B2.out hb3)
  clear hb3
  go_wp2_with fail
  go_ret
  exact ⟨rfl, B3.out⟩

set_option maxHeartbeats 1000000 in
theorem arg (w : World) (p R K R2 K2 : Nat) (hp : p < 18446744073709551616) (v : Value) (a : List (List Nat)) (hv : Mat w v a) (v2 : Value) (b : List (List Nat)) (hv2 : Mat w v2 b) (hok : M.Ok p a R K) (hok2 : M.Ok p b R2 K2) (h : K ≠ R2) :
    Calls Try.prog 4 #[.int .u64 p, v, v2] w fun e w' => e = .returned (.bool true) ∧ Below w.heap.size w w' := by
  have H1 := Lib.hid (mul_arg p R K R2 K2 v v2 a b w hv hv2 hok hok2 h)
  have h2 := fun W (hW : Mat W v a) (hW2 : Mat W v2 b) => rcheck_two p v v2 a b W hp hW hW2
  rw [hok.chk, hok2.chk, if_pos rfl] at h2
  have H2 := Lib.hid h2
  have HV := Lib.hid hv
  have HV2 := Lib.hid hv2
  have hud : ∀ b : Bool, undef ≠ Value.bool b := fun b h => by cases h
  have hR1 := hok.R1
  obtain ⟨A, cap, rfl, _, _, hrows⟩ := mat_view hv
  obtain ⟨A2, cap2, rfl, _⟩ := mat_view hv2
  rw [hok.rows] at H1 H2 HV hrows ⊢
  rw [hok2.rows] at H1 H2 HV2 ⊢
  obtain ⟨bm, om, rfl, hbm, hcells⟩ := hrows (by omega)
  obtain ⟨A0, k0, cm, _⟩ := hcells 0 (by omega)
  rw [Nat.add_zero, hok.cols 0 (by omega)] at cm
  have hs0 : ((0 : Int) == 0) = true := rfl
  have hs1 : ((2 : Int) != 0) = true := rfl
  have hb : ((K : Int) != (R2 : Int)) = true := by simp; omega
  have H3 := Lib.hid fun W => is_bad 2 (.slice none 0 0) W (by omega) ⟨_, _, _, rfl⟩
  clear hv hv2 h h2 hok hok2 hrows hcells
  go_enter Try.func4, Try.ntmps4
  go_wp2_with fail
  refine H1.out.mono ?_
  rintro e w1 ⟨rfl, hb1⟩
  have B1 := Lib.hid hb1
  clear hb1
  go_wp2_with fail
  refine (H2.out _ (HV.out.below B1.out) (HV2.out.below B1.out)).mono ?_
  rintro e w2 ⟨rfl, hb2'⟩
  have B2 := Lib.hid (bnext B1.out hb2')
  have cm2 := (B2.out.cell (p := ⟨bm, om, none⟩) hbm).trans cm
  clear hb2'
  go_wp2_with fail
  refine (H3.out _).mono ?_
  rintro e w' ⟨rfl, rfl⟩
  go_wp2_with fail
  refine (alive_any _).mono ?_
  rintro e w3 ⟨rfl, hb3⟩
  have B3 := Lib.hid (bnext B2.out hb3)
  clear hb3
  go_wp2_with fail
  go_ret
  exact ⟨rfl, B3.out⟩

set_option maxHeartbeats 1000000 in
theorem ok (w : World) (p R n K : Nat) (hp : p < 18446744073709551616) (v : Value) (a : List (List Nat)) (hv : Mat w v a) (v2 : Value) (b : List (List Nat)) (hv2 : Mat w v2 b) (hok : M.Ok p a R n) (hok2 : M.Ok p b n K) :
    Calls Try.prog 4 #[.int .u64 p, v, v2] w fun e w' => e = .returned (.bool true) ∧ Below w.heap.size w w' := by
  have H1 := Lib.hid (mul_ok p R n K v v2 a b w hv hv2 hok hok2)
  have h2 := fun W (hW : Mat W v a) (hW2 : Mat W v2 b) => rcheck_two p v v2 a b W hp hW hW2
  rw [hok.chk, hok2.chk, if_pos rfl] at h2
  have H2 := Lib.hid h2
  have H4 := Lib.hid fun W (hW : Mat W v a) (hW2 : Mat W v2 b) => rmul_any p R n K v v2 a b W hW hW2 hok hok2
  have HV := Lib.hid hv
  have HV2 := Lib.hid hv2
  have hud : ∀ b : Bool, undef ≠ Value.bool b := fun b h => by cases h
  have hR1 := hok.R1
  obtain ⟨A, cap, rfl, _, _, hrows⟩ := mat_view hv
  obtain ⟨A2, cap2, rfl, _⟩ := mat_view hv2
  rw [hok.rows] at H1 H2 H4 HV hrows ⊢
  rw [hok2.rows] at H1 H2 H4 HV2 ⊢
  obtain ⟨bm, om, rfl, hbm, hcells⟩ := hrows (by omega)
  obtain ⟨A0, k0, cm, _⟩ := hcells 0 (by omega)
  rw [Nat.add_zero, hok.cols 0 (by omega)] at cm
  have hs0 : ((0 : Int) == 0) = true := rfl
  have hs1 : ((0 : Int) != 0) = false := rfl
  have hb : ((n : Int) != (n : Int)) = false := by simp
  clear hv hv2 h2 hok hok2 hrows hcells
  go_enter Try.func4, Try.ntmps4
  go_wp2_with fail
  refine H1.out.mono ?_
  rintro e w1 ⟨v1, rfl, hm1, hb1⟩
  have B1 := Lib.hid hb1
  have M1 := Lib.hid hm1
  obtain ⟨A1, c1, rfl, _⟩ := mat_view hm1
  clear hb1 hm1
  go_wp2_with fail
  refine (H2.out _ (HV.out.below B1.out) (HV2.out.below B1.out)).mono ?_
  rintro e w2 ⟨rfl, hb2'⟩
  have B2 := Lib.hid (bnext B1.out hb2')
  have M2 := Lib.hid (M1.out.below hb2')
  have cm2 := (B2.out.cell (p := ⟨bm, om, none⟩) hbm).trans cm
  clear hb2'
  go_wp2_with fail
  refine (H4.out _ (HV.out.below B2.out) (HV2.out.below B2.out)).mono ?_
  rintro e w3 ⟨v3, rfl, hm3, hb3⟩
  have B3 := Lib.hid (bnext B2.out hb3)
  have N3 := Lib.hid (M2.out.below hb3)
  have M3 := Lib.hid hm3
  obtain ⟨A3, c3, rfl, _⟩ := mat_view hm3
  clear hb3 hm3
  go_wp2_with fail
  refine (is_good _ _ _ _ N3.out M3.out).mono ?_
  rintro e w4 ⟨rfl, hb4⟩
  have B4 := Lib.hid (bnext B3.out hb4)
  clear hb4
  go_wp2_with fail
  go_ret
  exact ⟨rfl, B4.out⟩

theorem walk (w : World) (p : Nat) (hp : p < 18446744073709551616) (v : Value) (a : List (List Nat)) (hv : Mat w v a) (v2 : Value) (b : List (List Nat)) (hv2 : Mat w v2 b) :
    Calls Try.prog 4 #[.int .u64 p, v, v2] w fun e w' => e = .returned (.bool true) ∧ Below w.heap.size w w' := by
  by_cases h : M.chkm p a = 0
  · by_cases h2 : M.chkm p b = 0
    · have hok := M.chkm_ok h
      have hok2 := M.chkm_ok h2
      by_cases e : (a.getD 0 []).length = b.length
      · rw [e] at hok
        exact ok w p _ _ _ hp v a hv v2 b hv2 hok hok2
      · exact arg w p _ _ _ _ hp v a hv v2 b hv2 hok hok2 e
    · exact bad w p hp v a hv v2 b hv2 _ (if_pos h) h2 (mul_bad2 p v v2 a b w hp hv hv2 h h2)
  · exact bad w p hp v a hv v2 b hv2 _ (if_neg h) h (mul_bad1 p v v2 a b w hp hv hv2 h)
end Go.Proofs.Ytaaipcdipdkooaa.matrixProductsW
