/-
  The walk of the law MatrixReduces.
-/
import Derived.Test.YtaaipcdipdkooaaRred2
namespace Go.Proofs.Ytaaipcdipdkooaa.matrixReducesW
open Go.RowKit
set_option linter.unusedVariables false

set_option maxHeartbeats 4000000 in
theorem no (w : World) (p : Nat) (hp : p < 18446744073709551616) (v : Value) (m : List (List Nat)) (hv : Mat w v m) (h : M.chkm p m ≠ 0) :
    Calls Try.prog 6 #[.int .u64 p, v] w fun e w' => e = .returned (.bool true) ∧ Below w.heap.size w w' := by
  have H1 := Lib.hid (mreduce_bad p v m w hp hv h)
  have H0 := Lib.hid fun W (hW : Mat W v m) => rank_bad p v m W hp hW h
  have H2 := Lib.hid fun W (hW : Mat W v m) => rcheck_one p v m W hp hW
  have HV := Lib.hid hv
  have hud : ∀ b : Bool, undef ≠ Value.bool b := fun b h => by cases h
  obtain ⟨A, cap, rfl, _⟩ := mat_view hv
  have hb : (M.chkm p m == 0) = false := by simp [h]
  have hb2 : (M.chkm p m != 0) = true := by rw [bne_iff_ne]; exact h
  have hb3 : (M.chkm p m == M.chkm p m) = true := by simp
  have hz0 : ((0 : Int) == 0) = true := rfl
  obtain ⟨c, ec⟩ : ∃ c, M.chkm p m = c := ⟨_, rfl⟩
  rw [ec] at H1 H2 H0 hb hb2 hb3 h
  have H3 := Lib.hid fun W => is_bad c (.slice none 0 0) W h ⟨_, _, _, rfl⟩
  clear hv ec h
  go_enter Try.func6, Try.ntmps6
  go_wp2_with fail
  refine H1.out.mono ?_
  rintro e w1 ⟨rfl, hb1⟩
  have B1 := Lib.hid hb1
  clear hb1
  go_wp2_with fail
  refine (H0.out _ (HV.out.below B1.out)).mono ?_
  rintro e w2 ⟨rfl, hb2'⟩
  have B2 := Lib.hid (bnext B1.out hb2')
  clear hb2'
  go_wp2_with fail
  refine (H2.out _ (HV.out.below B2.out)).mono ?_
  rintro e w3 ⟨rfl, hb3'⟩
  have B3 := Lib.hid (bnext B2.out hb3')
  clear hb3'
  go_wp2_with fail
  refine (H3.out _).mono ?_
  rintro e w' ⟨rfl, rfl⟩
  go_wp2_with fail
  refine (alive_any _).mono ?_
  rintro e w4 ⟨rfl, hb4⟩
  have B4 := Lib.hid (bnext B3.out hb4)
  clear hb4
  go_wp2_with fail
  go_ret
  exact ⟨rfl, B4.out⟩

set_option maxHeartbeats 4000000 in
theorem ok (w : World) (p R K : Nat) (hp : p < 18446744073709551616) (v : Value) (m : List (List Nat)) (hv : Mat w v m) (hok : M.Ok p m R K) :
    Calls Try.prog 6 #[.int .u64 p, v] w fun e w' => e = .returned (.bool true) ∧ Below w.heap.size w w' := by
  obtain ⟨h3, hp2⟩ := M.pos_of hok.isp
  have H1 := Lib.hid (mreduce_ok p R K v m w hok hv)
  have H0 := Lib.hid fun W (hW : Mat W v m) => rank_ok p R K v m W hok hW
  have h2 := fun W (hW : Mat W v m) => rcheck_one p v m W hp hW
  rw [hok.chk] at h2
  have H2 := Lib.hid h2
  have H5 := Lib.hid fun W (hW : Mat W v m) => rreduce_any p R K K v m W hok.isp hok.tab (Nat.le_refl _) hW
  have hinv := M.red_inv hok.isp (m := M.el m) (fun i hi' j hj => hok.tab.el_lt hi' hj) K (Nat.le_refl _)
  have HLT := Lib.hid hinv.lt
  have hll := hinv.len
  have HV := Lib.hid hv
  have hud : ∀ b : Bool, undef ≠ Value.bool b := fun b h => by cases h
  have hR1 := hok.R1
  have hR64 := hok.R64
  have hK64 := hok.K64
  have hs0 : ((0 : Int) == 0) = true := rfl
  have hs1 : ((0 : Int) != 0) = false := rfl
  obtain ⟨A, cap, rfl, _, _, hrows⟩ := mat_view hv
  rw [hok.rows] at H1 H2 H5 H0 HV hrows ⊢
  obtain ⟨bm, om, rfl, hbm, hcells⟩ := hrows (by omega)
  obtain ⟨A0, k0, cm, _⟩ := hcells 0 (by omega)
  rw [Nat.add_zero, hok.cols 0 (by omega)] at cm
  unfold ReducedOk M.rd at H1
  unfold M.rd at H0
  unfold RredEnd at H5
  obtain ⟨s, es⟩ : ∃ s, M.red p R (M.el m) K = s := ⟨_, rfl⟩
  rw [es] at H1 H0 H5 HLT hll
  obtain ⟨L, eL⟩ : ∃ L, s.lead.length = L := ⟨_, rfl⟩
  have hsL : ((L : Int) == (L : Int)) = true := by simp
  clear hv h2 hrows hcells hok hinv es
  go_enter Try.func6, Try.ntmps6
  go_wp2_with fail
  refine H1.out.mono ?_
  rintro e w1 ⟨hb1', B, cp, G, Cp, vp, rfl, hcp, hM, hI⟩
  have B1 := Lib.hid hb1'
  have M1 := Lib.hid (hM.mat hcp (by omega) (by omega) fun i hi j hj => Nat.lt_of_lt_of_le (HLT.out i hi j hj) (by omega))
  have I1 := Lib.hid hI
  clear hb1' hM hI
  go_wp2_with fail
  refine (H0.out _ (HV.out.below B1.out)).mono ?_
  rw [eL]
  rintro e w2 ⟨rfl, hb2'⟩
  have B2 := Lib.hid (bnext B1.out hb2')
  have M2 := Lib.hid (M1.out.below hb2')
  have I2 := Lib.hid (I1.out.below hb2')
  clear hb2'
  go_wp2_with fail
  refine (H2.out _ (HV.out.below B2.out)).mono ?_
  rintro e w3 ⟨rfl, hb3'⟩
  have B3 := Lib.hid (bnext B2.out hb3')
  have M3 := Lib.hid (M2.out.below hb3')
  have I3 := Lib.hid (I2.out.below hb3')
  have cm2 := (B3.out.cell (p := ⟨bm, om, none⟩) hbm).trans cm
  clear hb3'
  go_wp2_with fail
  refine (H5.out _ (HV.out.below B3.out)).mono ?_
  rw [eL]
  rintro e w4 ⟨B', cp', G', Cp', vl, rfl, hcp', hM, hO, hb4⟩
  have M4 := Lib.hid (hM.mat hcp' (by omega) (by omega) fun i hi j hj => Nat.lt_of_lt_of_le (HLT.out i hi j hj) (by omega))
  have B4 := Lib.hid (bnext B3.out hb4)
  have M5 := Lib.hid (M3.out.below hb4)
  have I5 := Lib.hid (I3.out.below hb4)
  have I4 := Lib.hid (ints_of_owns hO)
  rw [← eL] at hO
  obtain ⟨Al, cl, evl⟩ := reduce_vp hO
  rw [eL] at evl
  subst evl
  clear hM hO hb4
  have HG := Lib.hid fun W a b => is_good (.slice (some ⟨B, 0, none⟩) R cp) (.slice (some ⟨B', 0, none⟩) R cp') (M.tabMM R K s.m) W a b
  go_wp2_with fail
  refine (HG.out _ M5.out M4.out).mono ?_
  rintro e w5 ⟨rfl, hb5⟩
  have B5 := Lib.hid (bnext B4.out hb5)
  have I6 := Lib.hid (I5.out.below hb5)
  have I7 := Lib.hid (I4.out.below hb5)
  clear hb5
  go_wp2_with fail
  refine (ints_any _ _ s.lead _ (by omega) I6.out I7.out).mono ?_
  rintro e w6 ⟨rfl, hb6⟩
  have B6 := Lib.hid (bnext B5.out hb6)
  clear hb6
  go_wp2_with fail
  go_ret
  exact ⟨rfl, B6.out⟩

theorem walk (w : World) (p : Nat) (hp : p < 18446744073709551616) (v : Value) (m : List (List Nat)) (hv : Mat w v m) :
    Calls Try.prog 6 #[.int .u64 p, v] w fun e w' => e = .returned (.bool true) ∧ Below w.heap.size w w' := by
  by_cases h : M.chkm p m = 0
  · exact ok w p _ _ hp v m hv (M.chkm_ok h)
  · exact no w p hp v m hv h
end Go.Proofs.Ytaaipcdipdkooaa.matrixReducesW
