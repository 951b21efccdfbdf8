/-
  The walk of the law MatrixUnlike.
-/
import Derived.Test.YtaaipcdipdkooaaOne3
namespace Go.Proofs.Ytaaipcdipdkooaa.matrixUnlikeW
open Go.RowKit
set_option linter.unusedVariables false

theorem no (w : World) (p : Nat) (hp : p < 18446744073709551616) (v : Value) (xs : List Nat) (hv : Nums w v xs) (h : M.isP p = false) :
    Calls Try.prog 13 #[.int .u64 p, v] w fun e w' => e = .returned (.bool true) ∧ Below w.heap.size w w' := by
  have h2 := fun W => refIs_any p W hp
  rw [h] at h2
  have H2 := Lib.hid h2
  have hud : ∀ b : Bool, undef ≠ Value.bool b := fun b h => by cases h
  obtain ⟨A, c, rfl⟩ := nums_slice' hv
  clear hv h h2
  go_enter Try.func13, Try.ntmps13
  go_wp2_with fail
  refine (H2.out _).mono ?_
  rintro e w' ⟨rfl, rfl⟩
  go_wp2_with fail
  refine (alive_any _).mono ?_
  rintro e w3 ⟨rfl, hb3⟩
  have B3 := Lib.hid hb3
  clear hb3
  go_wp2_with fail
  go_ret
  exact ⟨rfl, B3.out⟩

set_option maxHeartbeats 1000000 in
theorem out (w : World) (p : Nat) (hp : p < 18446744073709551616) (v : Value) (xs : List Nat) (hv : Nums w v xs) (h : M.isP p = true) (hw : M.within p xs = false) :
    Calls Try.prog 13 #[.int .u64 p, v] w fun e w' => e = .returned (.bool true) ∧ Below w.heap.size w w' := by
  have h2 := fun W => refIs_any p W hp
  rw [h] at h2
  have H2 := Lib.hid h2
  have h4 := fun W (hW : Nums W v xs) => within_any p v xs W hW rfl
  rw [hw] at h4
  have H4 := Lib.hid h4
  have HV := Lib.hid hv
  have hs1 : ((2 : Int) != 0) = true := rfl
  have hud : ∀ b : Bool, undef ≠ Value.bool b := fun b h => by cases h
  obtain ⟨A, c, rfl⟩ := nums_slice' hv
  clear hv h h2 hw h4
  go_enter Try.func13, Try.ntmps13
  go_wp2_with fail
  refine (H2.out _).mono ?_
  rintro e w' ⟨rfl, rfl⟩
  go_wp2_with fail
  refine (H4.out _ HV.out).mono ?_
  rintro e w' ⟨rfl, rfl⟩
  simp only [errOf]
  go_wp2_with fail
  refine (alive_any _).mono ?_
  rintro e w3 ⟨rfl, hb3⟩
  have B3 := Lib.hid hb3
  clear hb3
  go_wp2_with fail
  go_ret
  exact ⟨rfl, B3.out⟩

set_option maxHeartbeats 1000000 in
theorem size (w : World) (p : Nat) (hp : p < 18446744073709551616) (v : Value) (xs : List Nat) (hv : Nums w v xs) (h : M.isP p = true) (hw : M.within p xs = true) (hs : xs.length < 1 ∨ 64 < xs.length) :
    Calls Try.prog 13 #[.int .u64 p, v] w fun e w' => e = .returned (.bool true) ∧ Below w.heap.size w w' := by
  have h2 := fun W => refIs_any p W hp
  rw [h] at h2
  have H2 := Lib.hid h2
  have h4 := fun W (hW : Nums W v xs) => within_any p v xs W hW rfl
  rw [hw] at h4
  have H4 := Lib.hid h4
  have HV := Lib.hid hv
  have hs1 : ((0 : Int) != 0) = false := rfl
  have hud : ∀ b : Bool, undef ≠ Value.bool b := fun b h => by cases h
  have hl := hv.2.1
  obtain ⟨A, c, rfl⟩ := nums_slice' hv
  obtain ⟨L, eL⟩ : ∃ L, xs.length = L := ⟨_, rfl⟩
  rw [eL] at hs hl H4 HV ⊢
  clear hv h h2 hw h4 eL
  rcases hs with hs | hs
  · have t1 : decide ((L : Int) < 1) = true := by simp; omega
    clear hs
    go_enter Try.func13, Try.ntmps13
    go_wp2_with fail
    refine (H2.out _).mono ?_
    rintro e w' ⟨rfl, rfl⟩
    go_wp2_with fail
    refine (H4.out _ HV.out).mono ?_
    rintro e w' ⟨rfl, rfl⟩
    simp only [errOf]
    go_wp2_with fail
    refine (alive_any _).mono ?_
    rintro e w3 ⟨rfl, hb3⟩
    have B3 := Lib.hid hb3
    clear hb3
    go_wp2_with fail
    go_ret
    exact ⟨rfl, B3.out⟩
  · have t1 : decide ((L : Int) < 1) = false := by simp; omega
    have t2 : decide ((64 : Int) < (L : Int)) = true := by simp; omega
    clear hs
    go_enter Try.func13, Try.ntmps13
    go_wp2_with fail
    refine (H2.out _).mono ?_
    rintro e w' ⟨rfl, rfl⟩
    go_wp2_with fail
    refine (H4.out _ HV.out).mono ?_
    rintro e w' ⟨rfl, rfl⟩
    simp only [errOf]
    go_wp2_with fail
    refine (alive_any _).mono ?_
    rintro e w3 ⟨rfl, hb3⟩
    have B3 := Lib.hid hb3
    clear hb3
    go_wp2_with fail
    go_ret
    exact ⟨rfl, B3.out⟩

theorem not_nodup {xs : List Nat} (h : ¬ xs.Nodup) : ∃ a b, a < xs.length ∧ b < xs.length ∧ a ≠ b ∧ xs.getD a 0 = xs.getD b 0 := by
  apply Classical.byContradiction
  intro hc
  apply h
  have hd : M.Diff xs xs.length := fun i j hij hj e => hc ⟨i, j, by omega, hj, by omega, e⟩
  exact hd.nodup

set_option maxHeartbeats 2000000 in
theorem ok (w : World) (p R : Nat) (hp : p < 18446744073709551616) (v : Value) (xs : List Nat) (hv : Nums w v xs) (h : M.isP p = true) (hw : M.within p xs = true) (hl : xs.length = R) (hR : 1 ≤ R ∧ R ≤ 64) :
    Calls Try.prog 13 #[.int .u64 p, v] w fun e w' => e = .returned (.bool true) ∧ Below w.heap.size w w' := by
  have h2 := fun W => refIs_any p W hp
  rw [h] at h2
  have H2 := Lib.hid h2
  have h4 := fun W (hW : Nums W v xs) => within_any p v xs W hW rfl
  rw [hw] at h4
  have H4 := Lib.hid h4
  have H1 := Lib.hid fun W (hW : Nums W v xs) => pow_ok' p R R v xs W hW h hl hR hR hw
  have hok := M.pw_ok h (xs := xs) hR
  have HINVC := Lib.hid fun W u (hW : Mat W u (M.tabMM R R (M.pwF p xs))) => inverse_ok p R u _ W hok hW
  have HTW := Lib.hid fun W (hW : Nums W v xs) => twice_any v xs W hW
  have HMUL := Lib.hid fun W u u2 hW hW2 => rmul_any p R R R u u2 (M.tabMM R R (M.pwF p xs)) (M.inv p (M.tabMM R R (M.pwF p xs)) R) W hW hW2 hok (M.inv_isOk hok)
  have HONE := Lib.hid fun W => rone_any R W hR.1 hR.2
  have HFULL := Lib.hid fun hd => M.pw_full h hl hR hw (xs := xs) hd
  have HTWI := Lib.hid fun (hd : ¬ xs.Nodup) => (show (M.rdI p (M.tabMM R R (M.pwF p xs)) R).lead.length < R from by
    obtain ⟨a, b, ha, hb, hab, e⟩ := not_nodup hd
    exact M.pw_twice h hR (by omega) (by omega) hab e)
  have HMI := Lib.hid fun hf => M.mul_inv hok hf
  have HV := Lib.hid hv
  have hs1 : ((0 : Int) != 0) = false := rfl
  have hs0 : ((0 : Int) == 0) = true := rfl
  have hs7 : ((7 : Int) == 7) = true := rfl
  have hud : ∀ b : Bool, undef ≠ Value.bool b := fun b h => by cases h
  obtain ⟨A, c, rfl⟩ := nums_slice' hv
  rw [hl] at H4 H1 HTW HV ⊢
  obtain ⟨hR1, hR64⟩ := hR
  have t1 : decide ((R : Int) < 1) = false := by simp; omega
  have t2 : decide ((64 : Int) < (R : Int)) = false := by simp; omega
  obtain ⟨m, em⟩ : ∃ m, M.tabMM R R (M.pwF p xs) = m := ⟨_, rfl⟩
  rw [em] at H1 HINVC HMUL HFULL HTWI HMI
  clear hv h h2 hw h4 hl em hok
  go_enter Try.func13, Try.ntmps13
  go_wp2_with fail
  refine (H2.out _).mono ?_
  rintro e w' ⟨rfl, rfl⟩
  go_wp2_with fail
  refine (H4.out _ HV.out).mono ?_
  rintro e w' ⟨rfl, rfl⟩
  simp only [errOf]
  go_wp2_with fail
  refine (H1.out _ HV.out).mono ?_
  rintro e w1 ⟨v1, rfl, hm1, hb1⟩
  have B1 := Lib.hid hb1
  have M1 := Lib.hid hm1
  clear hb1 hm1
  go_wp2_with fail
  refine (HINVC.out _ _ M1.out).mono ?_
  rintro e w2 ⟨hb2, ⟨hlt, rfl⟩ | ⟨hge, v2, rfl, hm2⟩⟩
  · have B2 := Lib.hid (bnext B1.out hb2)
    have hd : ¬ xs.Nodup := fun hd => HFULL.out hd hlt
    have htw : M.twice xs = true := (M.twice_yes hd).symm
    have HT := Lib.hid htw
    clear hb2 hlt hd htw
    go_wp2_with fail
    refine (HTW.out _ (HV.out.below B2.out)).mono ?_
    rintro e w3 ⟨rfl, hb3⟩
    rw [HT.out]
    have B3 := Lib.hid (bnext B2.out hb3)
    clear hb3
    go_wp2_with fail
    refine (alive_any _).mono ?_
    rintro e w4 ⟨rfl, hb4⟩
    have B4 := Lib.hid (bnext B3.out hb4)
    clear hb4
    go_wp2_with fail
    go_ret
    exact ⟨rfl, B4.out⟩
  · have B2 := Lib.hid (bnext B1.out hb2)
    have hd : xs.Nodup := Classical.byContradiction fun hd => hge (HTWI.out hd)
    have htw : M.twice xs = false := (M.twice_no hd).symm
    have HT := Lib.hid htw
    have hmi := HMI.out hge
    have hmul := HMUL.out
    rw [hmi] at hmul
    have HMU := Lib.hid hmul
    have M2 := Lib.hid hm2
    have M1' := Lib.hid (M1.out.below hb2)
    clear hb2 hge hd htw hmi hmul hm2
    go_wp2_with fail
    refine (HTW.out _ (HV.out.below B2.out)).mono ?_
    rintro e w3 ⟨rfl, hb3⟩
    rw [HT.out]
    have B3 := Lib.hid (bnext B2.out hb3)
    have M3 := Lib.hid (M2.out.below hb3)
    have M3' := Lib.hid (M1'.out.below hb3)
    clear hb3
    go_wp2_with fail
    refine (HMU.out _ _ _ M3'.out M3.out).mono ?_
    rintro e w4 ⟨v4, rfl, hm4, hb4⟩
    have B4 := Lib.hid (bnext B3.out hb4)
    have M4 := Lib.hid hm4
    clear hb4 hm4
    go_wp2_with fail
    refine (HONE.out _).mono ?_
    rintro e w5 ⟨v5, rfl, hm5, hb5⟩
    have B5 := Lib.hid (bnext B4.out hb5)
    have M5 := Lib.hid hm5
    have M5' := Lib.hid (M4.out.below hb5)
    clear hb5 hm5
    go_wp2_with fail
    refine (rsame_any v4 v5 _ _ M5'.out M5.out).mono ?_
    rintro e w6 ⟨rfl, hb6⟩
    have B6 := Lib.hid (bnext B5.out hb6)
    clear hb6
    go_wp2_with fail
    refine (alive_any _).mono ?_
    rintro e w7 ⟨rfl, hb7⟩
    have B7 := Lib.hid (bnext B6.out hb7)
    clear hb7
    go_wp2_with fail
    go_ret
    exact ⟨rfl, B7.out⟩

theorem walk (w : World) (p : Nat) (hp : p < 18446744073709551616) (v : Value) (xs : List Nat) (hv : Nums w v xs) :
    Calls Try.prog 13 #[.int .u64 p, v] w fun e w' => e = .returned (.bool true) ∧ Below w.heap.size w w' := by
  cases h : M.isP p with
  | false => exact no w p hp v xs hv h
  | true =>
    cases hw : M.within p xs with
    | false => exact out w p hp v xs hv h hw
    | true =>
      by_cases hs : xs.length < 1 ∨ 64 < xs.length
      · exact size w p hp v xs hv h hw hs
      · exact ok w p _ hp v xs hv h hw rfl (by omega)
end Go.Proofs.Ytaaipcdipdkooaa.matrixUnlikeW
