/-
  The walk of the law MatrixPowers.
-/
import Derived.Test.YtaaipcdipdkooaaPow3
namespace Go.Proofs.Ytaaipcdipdkooaa.matrixPowersW
open Go.RowKit
set_option linter.unusedVariables false

set_option maxHeartbeats 1000000 in
theorem no (w : World) (p : Nat) (hp : p < 18446744073709551616) (v : Value) (xs : List Nat) (hv : Nums w v xs) (n : Int) (h : M.isP p = false) :
    Calls Try.prog 10 #[.int .u64 p, v, .int .i64 n] w fun e w' => e = .returned (.bool true) ∧ Below w.heap.size w w' := by
  have H1 := Lib.hid (pow_no p v xs n w hp hv h)
  have h2 := fun W => refIs_any p W hp
  rw [h] at h2
  have H2 := Lib.hid h2
  have H3 := Lib.hid fun W => is_bad 2 (.slice none 0 0) W (by omega) ⟨_, _, _, rfl⟩
  have hud : ∀ b : Bool, undef ≠ Value.bool b := fun b h => by cases h
  have hs1 : ((2 : Int) != 0) = true := rfl
  obtain ⟨A, c, rfl⟩ := nums_slice' hv
  clear hv h h2
  go_enter Try.func10, Try.ntmps10
  go_wp2_with fail
  refine H1.out.mono ?_
  rintro e w' ⟨rfl, rfl⟩
  go_wp2_with fail
  refine (H2.out _).mono ?_
  rintro e w' ⟨rfl, rfl⟩
  go_wp2_with fail
  refine (H3.out _).mono ?_
  rintro e w' ⟨rfl, rfl⟩
  go_wp2_with fail
  refine (alive_any _).mono ?_
  rintro e w3 ⟨rfl, hb3⟩
  have B3 := Lib.hid hb3
  clear hb3
  go_wp2_with fail
  go_ret
  exact ⟨rfl, B3.out⟩

set_option maxHeartbeats 2000000 in
theorem size (w : World) (p : Nat) (hp : p < 18446744073709551616) (v : Value) (xs : List Nat) (hv : Nums w v xs) (n : Int) (h : M.isP p = true) (hs : ¬ ((1 ≤ xs.length ∧ xs.length ≤ 64) ∧ 1 ≤ n ∧ n ≤ 64)) :
    Calls Try.prog 10 #[.int .u64 p, v, .int .i64 n] w fun e w' => e = .returned (.bool true) ∧ Below w.heap.size w w' := by
  have H1 := Lib.hid (pow_size p v xs n w hp hv h hs)
  have h2 := fun W => refIs_any p W hp
  rw [h] at h2
  have H2 := Lib.hid h2
  have H3 := Lib.hid fun W => is_bad 3 (.slice none 0 0) W (by omega) ⟨_, _, _, rfl⟩
  have hud : ∀ b : Bool, undef ≠ Value.bool b := fun b h => by cases h
  have hs1 : ((3 : Int) != 0) = true := rfl
  have hl := hv.2.1
  obtain ⟨A, c, rfl⟩ := nums_slice' hv
  obtain ⟨L, eL⟩ : ∃ L, xs.length = L := ⟨_, rfl⟩
  rw [eL] at hs hl H1 ⊢
  clear hv h h2 eL
  have t1 : decide ((L : Int) < 1) = true ∨ decide ((L : Int) < 1) = false := by cases decide ((L : Int) < 1) <;> simp
  have t2 : decide ((64 : Int) < (L : Int)) = true ∨ decide ((64 : Int) < (L : Int)) = false := by cases decide ((64 : Int) < (L : Int)) <;> simp
  have t3 : decide (n < 1) = true ∨ decide (n < 1) = false := by cases decide (n < 1) <;> simp
  have t4 : decide ((64 : Int) < n) = true ∨ decide ((64 : Int) < n) = false := by cases decide ((64 : Int) < n) <;> simp
  have hall : ¬ (decide ((L : Int) < 1) = false ∧ decide ((64 : Int) < (L : Int)) = false ∧ decide (n < 1) = false ∧ decide ((64 : Int) < n) = false) := by
    rintro ⟨a1, a2, a3, a4⟩
    simp at a1 a2 a3 a4
    exact hs ⟨⟨by omega, by omega⟩, by omega, by omega⟩
  have HALL := Lib.hid hall
  clear hs hall
  rcases t1 with t1 | t1
  case inl =>
    clear t2 t3 t4 HALL
    go_enter Try.func10, Try.ntmps10
    go_wp2_with fail
    refine H1.out.mono ?_
    rintro e w' ⟨rfl, rfl⟩
    go_wp2_with fail
    refine (H2.out _).mono ?_
    rintro e w' ⟨rfl, rfl⟩
    go_wp2_with fail
    refine (H3.out _).mono ?_
    rintro e w' ⟨rfl, rfl⟩
    go_wp2_with fail
    refine (alive_any _).mono ?_
    rintro e w3 ⟨rfl, hb3⟩
    have B3 := Lib.hid hb3
    clear hb3
    go_wp2_with fail
    go_ret
    exact ⟨rfl, B3.out⟩
  rcases t2 with t2 | t2
  case inl =>
    clear t3 t4 HALL
    go_enter Try.func10, Try.ntmps10
    go_wp2_with fail
    refine H1.out.mono ?_
    rintro e w' ⟨rfl, rfl⟩
    go_wp2_with fail
    refine (H2.out _).mono ?_
    rintro e w' ⟨rfl, rfl⟩
    go_wp2_with fail
    refine (H3.out _).mono ?_
    rintro e w' ⟨rfl, rfl⟩
    go_wp2_with fail
    refine (alive_any _).mono ?_
    rintro e w3 ⟨rfl, hb3⟩
    have B3 := Lib.hid hb3
    clear hb3
    go_wp2_with fail
    go_ret
    exact ⟨rfl, B3.out⟩
  rcases t3 with t3 | t3
  case inl =>
    clear t4 HALL
    go_enter Try.func10, Try.ntmps10
    go_wp2_with fail
    refine H1.out.mono ?_
    rintro e w' ⟨rfl, rfl⟩
    go_wp2_with fail
    refine (H2.out _).mono ?_
    rintro e w' ⟨rfl, rfl⟩
    go_wp2_with fail
    refine (H3.out _).mono ?_
    rintro e w' ⟨rfl, rfl⟩
    go_wp2_with fail
    refine (alive_any _).mono ?_
    rintro e w3 ⟨rfl, hb3⟩
    have B3 := Lib.hid hb3
    clear hb3
    go_wp2_with fail
    go_ret
    exact ⟨rfl, B3.out⟩
  rcases t4 with t4 | t4
  case inr => exact absurd ⟨t1, t2, t3, t4⟩ HALL.out
  clear HALL
  go_enter Try.func10, Try.ntmps10
  go_wp2_with fail
  refine H1.out.mono ?_
  rintro e w' ⟨rfl, rfl⟩
  go_wp2_with fail
  refine (H2.out _).mono ?_
  rintro e w' ⟨rfl, rfl⟩
  go_wp2_with fail
  refine (H3.out _).mono ?_
  rintro e w' ⟨rfl, rfl⟩
  go_wp2_with fail
  refine (alive_any _).mono ?_
  rintro e w3 ⟨rfl, hb3⟩
  have B3 := Lib.hid hb3
  clear hb3
  go_wp2_with fail
  go_ret
  exact ⟨rfl, B3.out⟩

set_option maxHeartbeats 1000000 in
theorem arg (w : World) (p : Nat) (hp : p < 18446744073709551616) (v : Value) (xs : List Nat) (hv : Nums w v xs) (n : Nat) (h : M.isP p = true) (hl : 1 ≤ xs.length ∧ xs.length ≤ 64) (hn : 1 ≤ n ∧ n ≤ 64) (hw : M.within p xs = false) :
    Calls Try.prog 10 #[.int .u64 p, v, .int .i64 n] w fun e w' => e = .returned (.bool true) ∧ Below w.heap.size w w' := by
  have H1 := Lib.hid (pow_arg p v xs n w hp hv h hl hn hw)
  have h2 := fun W => refIs_any p W hp
  rw [h] at h2
  have H2 := Lib.hid h2
  have H4 := Lib.hid fun W (hW : Nums W v xs) => within_any p v xs W hW (c := 2) (by rw [hw]; rfl)
  have H3 := Lib.hid fun W => is_bad 2 (.slice none 0 0) W (by omega) ⟨_, _, _, rfl⟩
  have HV := Lib.hid hv
  have hud : ∀ b : Bool, undef ≠ Value.bool b := fun b h => by cases h
  have hs1 : ((2 : Int) != 0) = true := rfl
  obtain ⟨A, c, rfl⟩ := nums_slice' hv
  obtain ⟨L, eL⟩ : ∃ L, xs.length = L := ⟨_, rfl⟩
  rw [eL] at hl H1 H4 HV ⊢
  have t1 : decide ((L : Int) < 1) = false := by simp; omega
  have t2 : decide ((64 : Int) < (L : Int)) = false := by simp; omega
  have t3 : decide ((n : Int) < 1) = false := by simp; omega
  have t4 : decide ((64 : Int) < (n : Int)) = false := by simp; omega
  clear hv h h2 eL hl hn hw
  go_enter Try.func10, Try.ntmps10
  go_wp2_with fail
  refine H1.out.mono ?_
  rintro e w1 ⟨rfl, hb1⟩
  have B1 := Lib.hid hb1
  clear hb1
  go_wp2_with fail
  refine (H2.out _).mono ?_
  rintro e w' ⟨rfl, rfl⟩
  go_wp2_with fail
  refine (H4.out _ (HV.out.below B1.out)).mono ?_
  rintro e w' ⟨rfl, rfl⟩
  go_wp2_with fail
  refine (H3.out _).mono ?_
  rintro e w' ⟨rfl, rfl⟩
  go_wp2_with fail
  refine (alive_any _).mono ?_
  rintro e w3 ⟨rfl, hb3⟩
  have B3 := Lib.hid (bnext B1.out hb3)
  clear hb3
  go_wp2_with fail
  go_ret
  exact ⟨rfl, B3.out⟩

set_option maxHeartbeats 1000000 in
theorem ok (w : World) (p : Nat) (hp : p < 18446744073709551616) (v : Value) (xs : List Nat) (hv : Nums w v xs) (n : Nat) (h : M.isP p = true) (hl : 1 ≤ xs.length ∧ xs.length ≤ 64) (hn : 1 ≤ n ∧ n ≤ 64) (hw : M.within p xs = true) :
    Calls Try.prog 10 #[.int .u64 p, v, .int .i64 n] w fun e w' => e = .returned (.bool true) ∧ Below w.heap.size w w' := by
  have H1 := Lib.hid (pow_ok' p _ n v xs w hv h rfl hl hn hw)
  have h2 := fun W => refIs_any p W hp
  rw [h] at h2
  have H2 := Lib.hid h2
  have H4 := Lib.hid fun W (hW : Nums W v xs) => within_any p v xs W hW (c := 0) (by rw [hw]; rfl)
  have H5 := Lib.hid fun W (hW : Nums W v xs) => rpowers_any p _ n v xs W hW h rfl hl hn hw
  have HV := Lib.hid hv
  have hud : ∀ b : Bool, undef ≠ Value.bool b := fun b h => by cases h
  have hs1 : ((0 : Int) != 0) = false := rfl
  obtain ⟨A, c, rfl⟩ := nums_slice' hv
  obtain ⟨L, eL⟩ : ∃ L, xs.length = L := ⟨_, rfl⟩
  rw [eL] at hl H1 H4 H5 HV ⊢
  have t1 : decide ((L : Int) < 1) = false := by simp; omega
  have t2 : decide ((64 : Int) < (L : Int)) = false := by simp; omega
  have t3 : decide ((n : Int) < 1) = false := by simp; omega
  have t4 : decide ((64 : Int) < (n : Int)) = false := by simp; omega
  clear hv h h2 eL hl hn hw
  go_enter Try.func10, Try.ntmps10
  go_wp2_with fail
  refine H1.out.mono ?_
  rintro e w1 ⟨v1, rfl, hm1, hb1⟩
  have B1 := Lib.hid hb1
  have M1 := Lib.hid hm1
  obtain ⟨A1, c1, rfl, _⟩ := mat_view hm1
  clear hb1 hm1
  go_wp2_with fail
  refine (H2.out _).mono ?_
  rintro e w' ⟨rfl, rfl⟩
  go_wp2_with fail
  refine (H4.out _ (HV.out.below B1.out)).mono ?_
  rintro e w' ⟨rfl, rfl⟩
  go_wp2_with fail
  refine (H5.out _ (HV.out.below B1.out)).mono ?_
  rintro e w3 ⟨v3, rfl, hm3, hb3⟩
  have B3 := Lib.hid (bnext B1.out hb3)
  have N3 := Lib.hid (M1.out.below hb3)
  have M3 := Lib.hid hm3
  obtain ⟨A3, c3, rfl, _⟩ := mat_view hm3
  clear hb3 hm3
  go_wp2_with fail
  refine (is_good _ _ _ _ N3.out M3.out).mono ?_
  rintro e w4 ⟨rfl, hb4⟩
  have B4 := Lib.hid (bnext B3.out hb4)
  clear hb4
  go_wp2_with fail
  go_ret
  exact ⟨rfl, B4.out⟩

theorem walk (w : World) (p : Nat) (hp : p < 18446744073709551616) (v : Value) (xs : List Nat) (hv : Nums w v xs) (n : Int) (hn1 : -9223372036854775808 ≤ n) (hn2 : n ≤ 9223372036854775807) :
    Calls Try.prog 10 #[.int .u64 p, v, .int .i64 n] w fun e w' => e = .returned (.bool true) ∧ Below w.heap.size w w' := by
  cases h : M.isP p with
  | false => exact no w p hp v xs hv n h
  | true =>
    by_cases hs : (1 ≤ xs.length ∧ xs.length ≤ 64) ∧ 1 ≤ n ∧ n ≤ 64
    · obtain ⟨hl, hn⟩ := hs
      obtain ⟨k, rfl⟩ := Int.eq_ofNat_of_zero_le (show 0 ≤ n by omega)
      cases hw : M.within p xs with
      | true => exact ok w p hp v xs hv k h hl (by omega) hw
      | false => exact arg w p hp v xs hv k h hl (by omega) hw
    · exact size w p hp v xs hv n h hs
end Go.Proofs.Ytaaipcdipdkooaa.matrixPowersW
