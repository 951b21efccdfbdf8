/-
  The contract of hasSmallFactor: a chain of 53 tests, group by group over a frame that stays a variable.
-/
import Derived.Test.YtgoognipljknjaaOr
import Derived.Test.YtgoognipljknjaaIs
import Derived.Test.YtgoognipljknjaaMath
import Derived.Lib.Hide
namespace Go.Proofs.Ytgoognipljknjaa
open Go.RowKit

set_option maxHeartbeats 2000000 in
set_option maxRecDepth 100000 in
theorem hasSmall_any (p : Nat) (w : World) (hp : p < 4294967296) :
    Calls Try.prog 107 #[.int .u32 p] w fun e w' => e = .returned (.bool (M.anyOf p false M.smallPrimes)) ∧ w = w' := by
  go_enter Try.func107, Try.ntmps107
  go_step
  go_step
  go_step
  go_step
  go_step
  go_step
  go_step
  go_step
  go_step
  go_step
  go_step

  refine or_first (q := 3) rfl rfl rfl hp (by omega) (n := 266) (by omega) fun a1 c1 => ?_
  refine or_group (q := 5) (k := 5) (n := 266) c1 hp (by omega) (by omega) (by omega) (g := 3) rfl rfl fun a2 c2 => ?_
  clear c1
  refine or_group (q := 7) (k := 10) (n := 266) c2 hp (by omega) (by omega) (by omega) (g := 8) rfl rfl fun a3 c3 => ?_
  clear c2
  refine or_group (q := 11) (k := 15) (n := 266) c3 hp (by omega) (by omega) (by omega) (g := 13) rfl rfl fun a4 c4 => ?_
  clear c3
  refine or_group (q := 13) (k := 20) (n := 266) c4 hp (by omega) (by omega) (by omega) (g := 18) rfl rfl fun a5 c5 => ?_
  clear c4
  refine or_group (q := 17) (k := 25) (n := 266) c5 hp (by omega) (by omega) (by omega) (g := 23) rfl rfl fun a6 c6 => ?_
  clear c5
  refine or_group (q := 19) (k := 30) (n := 266) c6 hp (by omega) (by omega) (by omega) (g := 28) rfl rfl fun a7 c7 => ?_
  clear c6
  refine or_group (q := 23) (k := 35) (n := 266) c7 hp (by omega) (by omega) (by omega) (g := 33) rfl rfl fun a8 c8 => ?_
  clear c7
  refine or_group (q := 29) (k := 40) (n := 266) c8 hp (by omega) (by omega) (by omega) (g := 38) rfl rfl fun a9 c9 => ?_
  clear c8
  refine or_group (q := 31) (k := 45) (n := 266) c9 hp (by omega) (by omega) (by omega) (g := 43) rfl rfl fun a10 c10 => ?_
  clear c9
  refine or_group (q := 37) (k := 50) (n := 266) c10 hp (by omega) (by omega) (by omega) (g := 48) rfl rfl fun a11 c11 => ?_
  clear c10
  refine or_group (q := 41) (k := 55) (n := 266) c11 hp (by omega) (by omega) (by omega) (g := 53) rfl rfl fun a12 c12 => ?_
  clear c11
  refine or_group (q := 43) (k := 60) (n := 266) c12 hp (by omega) (by omega) (by omega) (g := 58) rfl rfl fun a13 c13 => ?_
  clear c12
  refine or_group (q := 47) (k := 65) (n := 266) c13 hp (by omega) (by omega) (by omega) (g := 63) rfl rfl fun a14 c14 => ?_
  clear c13
  refine or_group (q := 53) (k := 70) (n := 266) c14 hp (by omega) (by omega) (by omega) (g := 68) rfl rfl fun a15 c15 => ?_
  clear c14
  refine or_group (q := 59) (k := 75) (n := 266) c15 hp (by omega) (by omega) (by omega) (g := 73) rfl rfl fun a16 c16 => ?_
  clear c15
  refine or_group (q := 61) (k := 80) (n := 266) c16 hp (by omega) (by omega) (by omega) (g := 78) rfl rfl fun a17 c17 => ?_
  clear c16
  refine or_group (q := 67) (k := 85) (n := 266) c17 hp (by omega) (by omega) (by omega) (g := 83) rfl rfl fun a18 c18 => ?_
  clear c17
  refine or_group (q := 71) (k := 90) (n := 266) c18 hp (by omega) (by omega) (by omega) (g := 88) rfl rfl fun a19 c19 => ?_
  clear c18
  refine or_group (q := 73) (k := 95) (n := 266) c19 hp (by omega) (by omega) (by omega) (g := 93) rfl rfl fun a20 c20 => ?_
  clear c19
  refine or_group (q := 79) (k := 100) (n := 266) c20 hp (by omega) (by omega) (by omega) (g := 98) rfl rfl fun a21 c21 => ?_
  clear c20
  refine or_group (q := 83) (k := 105) (n := 266) c21 hp (by omega) (by omega) (by omega) (g := 103) rfl rfl fun a22 c22 => ?_
  clear c21
  refine or_group (q := 89) (k := 110) (n := 266) c22 hp (by omega) (by omega) (by omega) (g := 108) rfl rfl fun a23 c23 => ?_
  clear c22
  refine or_group (q := 97) (k := 115) (n := 266) c23 hp (by omega) (by omega) (by omega) (g := 113) rfl rfl fun a24 c24 => ?_
  clear c23
  refine or_group (q := 101) (k := 120) (n := 266) c24 hp (by omega) (by omega) (by omega) (g := 118) rfl rfl fun a25 c25 => ?_
  clear c24
  refine or_group (q := 103) (k := 125) (n := 266) c25 hp (by omega) (by omega) (by omega) (g := 123) rfl rfl fun a26 c26 => ?_
  clear c25
  refine or_group (q := 107) (k := 130) (n := 266) c26 hp (by omega) (by omega) (by omega) (g := 128) rfl rfl fun a27 c27 => ?_
  clear c26
  refine or_group (q := 109) (k := 135) (n := 266) c27 hp (by omega) (by omega) (by omega) (g := 133) rfl rfl fun a28 c28 => ?_
  clear c27
  refine or_group (q := 113) (k := 140) (n := 266) c28 hp (by omega) (by omega) (by omega) (g := 138) rfl rfl fun a29 c29 => ?_
  clear c28
  refine or_group (q := 127) (k := 145) (n := 266) c29 hp (by omega) (by omega) (by omega) (g := 143) rfl rfl fun a30 c30 => ?_
  clear c29
  refine or_group (q := 131) (k := 150) (n := 266) c30 hp (by omega) (by omega) (by omega) (g := 148) rfl rfl fun a31 c31 => ?_
  clear c30
  refine or_group (q := 137) (k := 155) (n := 266) c31 hp (by omega) (by omega) (by omega) (g := 153) rfl rfl fun a32 c32 => ?_
  clear c31
  refine or_group (q := 139) (k := 160) (n := 266) c32 hp (by omega) (by omega) (by omega) (g := 158) rfl rfl fun a33 c33 => ?_
  clear c32
  refine or_group (q := 149) (k := 165) (n := 266) c33 hp (by omega) (by omega) (by omega) (g := 163) rfl rfl fun a34 c34 => ?_
  clear c33
  refine or_group (q := 151) (k := 170) (n := 266) c34 hp (by omega) (by omega) (by omega) (g := 168) rfl rfl fun a35 c35 => ?_
  clear c34
  refine or_group (q := 157) (k := 175) (n := 266) c35 hp (by omega) (by omega) (by omega) (g := 173) rfl rfl fun a36 c36 => ?_
  clear c35
  refine or_group (q := 163) (k := 180) (n := 266) c36 hp (by omega) (by omega) (by omega) (g := 178) rfl rfl fun a37 c37 => ?_
  clear c36
  refine or_group (q := 167) (k := 185) (n := 266) c37 hp (by omega) (by omega) (by omega) (g := 183) rfl rfl fun a38 c38 => ?_
  clear c37
  refine or_group (q := 173) (k := 190) (n := 266) c38 hp (by omega) (by omega) (by omega) (g := 188) rfl rfl fun a39 c39 => ?_
  clear c38
  refine or_group (q := 179) (k := 195) (n := 266) c39 hp (by omega) (by omega) (by omega) (g := 193) rfl rfl fun a40 c40 => ?_
  clear c39
  refine or_group (q := 181) (k := 200) (n := 266) c40 hp (by omega) (by omega) (by omega) (g := 198) rfl rfl fun a41 c41 => ?_
  clear c40
  refine or_group (q := 191) (k := 205) (n := 266) c41 hp (by omega) (by omega) (by omega) (g := 203) rfl rfl fun a42 c42 => ?_
  clear c41
  refine or_group (q := 193) (k := 210) (n := 266) c42 hp (by omega) (by omega) (by omega) (g := 208) rfl rfl fun a43 c43 => ?_
  clear c42
  refine or_group (q := 197) (k := 215) (n := 266) c43 hp (by omega) (by omega) (by omega) (g := 213) rfl rfl fun a44 c44 => ?_
  clear c43
  refine or_group (q := 199) (k := 220) (n := 266) c44 hp (by omega) (by omega) (by omega) (g := 218) rfl rfl fun a45 c45 => ?_
  clear c44
  refine or_group (q := 211) (k := 225) (n := 266) c45 hp (by omega) (by omega) (by omega) (g := 223) rfl rfl fun a46 c46 => ?_
  clear c45
  refine or_group (q := 223) (k := 230) (n := 266) c46 hp (by omega) (by omega) (by omega) (g := 228) rfl rfl fun a47 c47 => ?_
  clear c46
  refine or_group (q := 227) (k := 235) (n := 266) c47 hp (by omega) (by omega) (by omega) (g := 233) rfl rfl fun a48 c48 => ?_
  clear c47
  refine or_group (q := 229) (k := 240) (n := 266) c48 hp (by omega) (by omega) (by omega) (g := 238) rfl rfl fun a49 c49 => ?_
  clear c48
  refine or_group (q := 233) (k := 245) (n := 266) c49 hp (by omega) (by omega) (by omega) (g := 243) rfl rfl fun a50 c50 => ?_
  clear c49
  refine or_group (q := 239) (k := 250) (n := 266) c50 hp (by omega) (by omega) (by omega) (g := 248) rfl rfl fun a51 c51 => ?_
  clear c50
  refine or_group (q := 241) (k := 255) (n := 266) c51 hp (by omega) (by omega) (by omega) (g := 253) rfl rfl fun a52 c52 => ?_
  clear c51
  refine or_group (q := 251) (k := 260) (n := 266) c52 hp (by omega) (by omega) (by omega) (g := 258) rfl rfl fun a53 c53 => ?_
  clear c52
  have hz := c53.size
  refine at_assign c53.ans (wpList_nil ?_)
  go_step
  go_step
  go_step
  refine bodyPost_ret (v := .bool (M.anyOf p false M.smallPrimes)) ?_ ?_ ⟨rfl, rfl⟩
  · rw [results_tmp rfl]
    have e := (Has.new (a := a53) (d := 2) (.bool (M.anyOf p false M.smallPrimes)) (by omega)).eval
    exact congrArg (fun v => Result.ok v w) e
  · exact c53.def0

set_option maxHeartbeats 400000 in
theorem hasDivisor_any (p : Nat) (w : World) (hp : p < 65536) (h3 : 3 ≤ p) (ho : p % 2 = 1) :
    Calls Try.prog 106 #[.int .u32 p] w fun e w' => e = .returned (.bool (!M.isP p)) ∧ w = w' := by
  go_enter Try.func106, Try.ntmps106
  go_wp2
  go_loop [3] (fun t => ∃ d : Nat, 3 ≤ d ∧ d ≤ 258 ∧ d % 2 = 1 ∧ t = .int .u32 d ∧ M.Tried p d) (fun t => 300 - (intOf t).toNat)
  case atStart => exact ⟨3, by omega, by omega, by omega, rfl, M.tried_step (M.tried_two p) (by omega)⟩
  case round =>
    obtain ⟨d, h2, hd, hdo, rfl, ht⟩ := hrel
    have hdd : d * d ≤ 258 * 258 := Nat.mul_le_mul hd hd
    have hdi : (d : Int) * d ≤ 66564 := by omega
    have hd0 : (0 : Int) ≤ (d : Int) * d := by omega
    have HO : Hid (d % 2 = 1) := Lib.hid hdo
    have HP : Hid (p % 2 = 1) := Lib.hid ho
    clear hdo ho
    go_wp2
    · have h1 : d * d ≤ p := by have h : (d : Int) * d ≤ p := by assumption
                                omega
      have h0 : p % d = 0 := by have h : ((p : Int) % (d : Int) == 0) = true := by assumption
                                have h' := eq_of_beq h
                                omega
      go_ret
      exact ⟨ret_bool (by rw [M.isP_not (by omega) h1 h0]; rfl), rfl⟩
    · have h1 : d * d ≤ p := by have h : (d : Int) * d ≤ p := by assumption
                                omega
      have h0 : p % d ≠ 0 := by have h : ((p : Int) % (d : Int) == 0) = false := by assumption
                                have h' := ne_of_beq_false h
                                omega
      have h5 : d < 256 := by
        apply Nat.lt_of_not_le; intro hc
        have := Nat.mul_le_mul hc hc; omega
      have ho := HO.out
      have hpo := HP.out
      have h6 : p % (d + 1) ≠ 0 := by
        intro hc
        have : 2 ∣ p := Nat.dvd_trans (Nat.dvd_of_mod_eq_zero (by omega)) (Nat.dvd_of_mod_eq_zero hc)
        omega
      clear ho
      go_round
      case rel => exact ⟨d + 2, by omega, by omega, by have := HO.out; omega, by go_num, M.tried_step (M.tried_step ht h0) h6⟩
      case measure => simp [intOf]; omega
    · have h1 : p < d * d := by have h : (p : Int) < (d : Int) * d := by assumption
                                omega
      go_ret
      exact ⟨ret_bool (by rw [M.isP_of_tried (by omega) (by omega) ht h1]; rfl), rfl⟩

set_option maxHeartbeats 400000 in
set_option maxRecDepth 100000 in
theorem is_any (p : Nat) (w : World) (hp : p < 18446744073709551616) :
    Calls Try.prog 68 #[.int .u64 p] w fun e w' => e = .returned (.bool (M.isP p)) ∧ w = w' := by
  by_cases h3 : p < 3
  · go_enter Try.func68, Try.ntmps68
    go_wp2
    go_ret
    exact ⟨ret_bool (M.isP_small h3).symm, rfl⟩
  · by_cases h4 : 65537 < p
    · go_enter Try.func68, Try.ntmps68
      go_wp2
      go_ret
      exact ⟨ret_bool (M.isP_large h4).symm, rfl⟩
    · by_cases h2 : p % 2 = 0
      · have hb : ((p : Int) % 2 == 0) = true := by simp; omega
        have HP : Hid (p % 2 = 0) := Lib.hid h2
        clear h2
        go_enter Try.func68, Try.ntmps68
        go_wp2
        go_ret
        exact ⟨ret_bool (M.isP_even (by omega) HP.out).symm, rfl⟩
      · have hb : ((p : Int) % 2 == 0) = false := by simp; omega
        have HP : Hid (p % 2 = 1) := Lib.hid (by omega)
        clear h2 hp
        have h4' : p ≤ 65537 := by omega
        clear h4
        by_cases h5 : p < 256
        · go_enter Try.func68, Try.ntmps68
          go_wp2_with (go_at_call 106; refine (hasDivisor_any p _ (by omega) (by omega) HP.out).mono ?_; rintro e w' ⟨rfl, rfl⟩)
          go_ret
          exact ⟨ret_bool (by simp), rfl⟩
        · go_enter Try.func68, Try.ntmps68
          go_wp2_with (go_at_call 107; refine (hasSmall_any p _ (by omega)).mono ?_; rintro e w' ⟨rfl, rfl⟩)
          go_ret
          exact ⟨ret_bool (M.anyOf_isP (by omega) (by omega) HP.out), rfl⟩
end Go.Proofs.Ytgoognipljknjaa
