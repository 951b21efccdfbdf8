/-
  The walk of the law MatrixSolves.
-/
import Derived.Test.YtaaipcdipdkooaaRsol
namespace Go.Proofs.Ytaaipcdipdkooaa.matrixSolvesW
open Go.RowKit
set_option linter.unusedVariables false

set_option maxHeartbeats 1000000 in
theorem no (w : World) (p : Nat) (hp : p < 18446744073709551616) (v : Value) (m : List (List Nat)) (hv : Mat w v m) (vv : Value) (zs : List Nat) (hz : Nums w vv zs) (h : M.chkm p m ≠ 0) :
    Calls Try.prog 8 #[.int .u64 p, v, vv] w fun e w' => e = .returned (.bool true) ∧ Below w.heap.size w w' := by
  have H1 := Lib.hid (solve_bad p v m vv zs w hp hv hz h)
  have H2 := Lib.hid fun W (hW : Mat W v m) => rcheck_one p v m W hp hW
  have HV := Lib.hid hv
  have hud : ∀ b : Bool, undef ≠ Value.bool b := fun b h => by cases h
  obtain ⟨A, cap, rfl, _⟩ := mat_view hv
  obtain ⟨Az, cz, rfl⟩ := nums_slice' hz
  have hb : (M.chkm p m == 0) = false := by simp [h]
  have hb2 : (M.chkm p m != 0) = true := by rw [bne_iff_ne]; exact h
  obtain ⟨c, ec⟩ : ∃ c, M.chkm p m = c := ⟨_, rfl⟩
  rw [ec] at H1 H2 hb hb2 h
  have H3 := Lib.hid fun W => list_bad c (.slice none 0 0) W h ⟨_, _, _, rfl⟩
  clear hv hz ec h
  go_enter Try.func8, Try.ntmps8
  go_wp2_with fail
  refine H1.out.mono ?_
  rintro e w1 ⟨rfl, hb1⟩
  have B1 := Lib.hid hb1
  clear hb1
  go_wp2_with fail
  refine (H2.out _ (HV.out.below B1.out)).mono ?_
  rintro e w2 ⟨rfl, hb2'⟩
  have B2 := Lib.hid (bnext B1.out hb2')
  clear hb2'
  go_wp2_with fail
  refine (H3.out _).mono ?_
  rintro e w' ⟨rfl, rfl⟩
  go_wp2_with fail
  refine (alive_any _).mono ?_
  rintro e w3 ⟨rfl, hb3⟩
  have B3 := Lib.hid (bnext B2.out hb3)
  clear hb3
  go_wp2_with fail
  go_ret
  exact ⟨rfl, B3.out⟩

set_option maxHeartbeats 1000000 in
theorem arg (w : World) (p R K : Nat) (hp : p < 18446744073709551616) (v : Value) (m : List (List Nat)) (hv : Mat w v m) (vv : Value) (zs : List Nat) (hz : Nums w vv zs) (hok : M.Ok p m R K) (h : zs.length ≠ R ∨ (zs.length = R ∧ M.within p zs = false)) :
    Calls Try.prog 8 #[.int .u64 p, v, vv] w fun e w' => e = .returned (.bool true) ∧ Below w.heap.size w w' := by
  have H1 := Lib.hid (solve_arg p R K v m vv zs w hok hv hz (h.imp id And.right))
  have h2 := fun W (hW : Mat W v m) => rcheck_one p v m W hp hW
  rw [hok.chk] at h2
  have H2 := Lib.hid h2
  have H3 := Lib.hid fun W => list_bad 2 (.slice none 0 0) W (by omega) ⟨_, _, _, rfl⟩
  have H4 := Lib.hid fun W (hW : Nums W vv zs) => within_any p vv zs W hW rfl
  have HV := Lib.hid hv
  have HZ := Lib.hid hz
  have hud : ∀ b : Bool, undef ≠ Value.bool b := fun b h => by cases h
  have hR1 := hok.R1
  have hR64 := hok.R64
  have hs0 : ((0 : Int) == 0) = true := rfl
  have hs1 : ((2 : Int) != 0) = true := rfl
  obtain ⟨A, cap, rfl, _⟩ := mat_view hv
  obtain ⟨Az, cz, rfl⟩ := nums_slice' hz
  rw [hok.rows] at H1 H2 HV ⊢
  have hLi : zs.length ≤ 17592186043904 := hz.2.1
  obtain ⟨L, eL⟩ : ∃ L, zs.length = L := ⟨_, rfl⟩
  rw [eL] at H1 H4 HZ h hLi ⊢
  clear hv hz h2 hok eL
  by_cases hL : L = R
  · have hw := (h.resolve_left (by simp [hL])).2
    have hb1 : ((L : Int) != (R : Int)) = false := by simp [hL]
    rw [hw] at H4
    clear hw h hL
    go_enter Try.func8, Try.ntmps8
    go_wp2_with fail
    refine H1.out.mono ?_
    rintro e w1 ⟨rfl, hb1⟩
    have B1 := Lib.hid hb1
    clear hb1
    go_wp2_with fail
    refine (H2.out _ (HV.out.below B1.out)).mono ?_
    rintro e w2 ⟨rfl, hb2'⟩
    have B2 := Lib.hid (bnext B1.out hb2')
    clear hb2'
    go_wp2_with fail
    refine (H4.out _ (HZ.out.below B2.out)).mono ?_
    rintro e w' ⟨rfl, rfl⟩
    simp only [errOf]
    go_wp2_with fail
    refine (H3.out _).mono ?_
    rintro e w' ⟨rfl, rfl⟩
    go_wp2_with fail
    refine (alive_any _).mono ?_
    rintro e w3 ⟨rfl, hb3⟩
    have B3 := Lib.hid (bnext B2.out hb3)
    clear hb3
    go_wp2_with fail
    go_ret
    exact ⟨rfl, B3.out⟩
  · have hb1 : ((L : Int) != (R : Int)) = true := by simp; omega
    clear h hL
    go_enter Try.func8, Try.ntmps8
    go_wp2_with fail
    refine H1.out.mono ?_
    rintro e w1 ⟨rfl, hb1⟩
    have B1 := Lib.hid hb1
    clear hb1
    go_wp2_with fail
    refine (H2.out _ (HV.out.below B1.out)).mono ?_
    rintro e w2 ⟨rfl, hb2'⟩
    have B2 := Lib.hid (bnext B1.out hb2')
    clear hb2'
    go_wp2_with fail
    refine (H3.out _).mono ?_
    rintro e w' ⟨rfl, rfl⟩
    go_wp2_with fail
    refine (alive_any _).mono ?_
    rintro e w3 ⟨rfl, hb3⟩
    have B3 := Lib.hid (bnext B2.out hb3)
    clear hb3
    go_wp2_with fail
    go_ret
    exact ⟨rfl, B3.out⟩

set_option maxHeartbeats 2000000 in
theorem ok (w : World) (p R K : Nat) (hp : p < 18446744073709551616) (v : Value) (m : List (List Nat)) (hv : Mat w v m) (vv : Value) (zs : List Nat) (hz : Nums w vv zs) (hok : M.Ok p m R K) (hl : zs.length = R) (hw : M.within p zs = true) :
    Calls Try.prog 8 #[.int .u64 p, v, vv] w fun e w' => e = .returned (.bool true) ∧ Below w.heap.size w w' := by
  obtain ⟨h3, hp2⟩ := M.pos_of hok.isp
  have h1 := solve_ok p R K v m vv zs w hok hv hz hl hw
  have h2 := fun W (hW : Mat W v m) => rcheck_one p v m W hp hW
  rw [hok.chk] at h2
  have H2 := Lib.hid h2
  have h4 := fun W (hW : Nums W vv zs) => within_any p vv zs W hW rfl
  rw [hw] at h4
  have H4 := Lib.hid h4
  have h5 := fun W (hW : Mat W v m) (hZ : Nums W vv zs) => rsolve_any p R K v m vv zs W hok hW hZ hl hw
  have hblt := M.besF_lt (E := 1) hok (ap := fun i => [zs.getD i 0]) (fun i hi => ⟨rfl, by have := M.within_mem hw (k := i) (by omega); simp [M.within] at this ⊢; exact this⟩)
  have hinv := M.red_inv hok.isp hblt K (by omega)
  have hslt : ∀ j, j < K → M.solK (M.rdS p m zs R K) K (M.rdS p m zs R K).lead.length j < 18446744073709551616 := fun j hj => Nat.lt_of_lt_of_le (M.solK_lt (p := p) (by omega) _ (fun i hi => hinv.lt i (Nat.lt_of_lt_of_le hi hinv.len) K (by omega)) j) (by omega)
  unfold SolveEnd at h1
  unfold RsolEnd at h5
  have H3 := Lib.hid fun W => list_bad 5 (.slice none 0 0) W (by omega) ⟨_, _, _, rfl⟩
  obtain ⟨s, es⟩ : ∃ s, M.rdS p m zs R K = s := ⟨_, rfl⟩
  rw [es] at h1 h5 hslt
  obtain ⟨F, eF⟩ : ∃ F, M.solK s K s.lead.length = F := ⟨_, rfl⟩
  rw [eF] at h1 h5 hslt
  have H1 := Lib.hid h1
  have H5 := Lib.hid h5
  have HF := Lib.hid hslt
  have HV := Lib.hid hv
  have HZ := Lib.hid hz
  have hud : ∀ b : Bool, undef ≠ Value.bool b := fun b h => by cases h
  have hR1 := hok.R1
  have hR64 := hok.R64
  have hK64 := hok.K64
  have hs0 : ((0 : Int) == 0) = true := rfl
  have hs1 : ((0 : Int) != 0) = false := rfl
  obtain ⟨A, cap, rfl, _⟩ := mat_view hv
  obtain ⟨Az, cz, rfl⟩ := nums_slice' hz
  rw [hok.rows] at H1 H2 H5 HV ⊢
  rw [hl] at H1 H4 H5 HZ ⊢
  have hb1 : ((R : Int) != (R : Int)) = false := by simp
  clear hv hz h2 h4 h1 h5 hslt hinv hblt hok hl hw es eF
  go_enter Try.func8, Try.ntmps8
  go_wp2_with fail
  refine H1.out.mono ?_
  rintro e w1 ⟨hb1', ⟨hst, rfl⟩ | ⟨hst, g, c, rfl, hg, hc, hr⟩⟩
  · have B1 := Lib.hid hb1'
    have HST := Lib.hid hst
    clear hb1' hst
    go_wp2_with fail
    refine (H2.out _ (HV.out.below B1.out)).mono ?_
    rintro e w2 ⟨rfl, hb2'⟩
    have B2 := Lib.hid (bnext B1.out hb2')
    clear hb2'
    go_wp2_with fail
    refine (H4.out _ (HZ.out.below B2.out)).mono ?_
    rintro e w' ⟨rfl, rfl⟩
    simp only [errOf]
    go_wp2_with fail
    refine (H5.out _ (HV.out.below B2.out) (HZ.out.below B2.out)).mono ?_
    rintro e w3 ⟨hb3, ⟨_, rfl⟩ | ⟨hns, _⟩⟩
    · have B3 := Lib.hid (bnext B2.out hb3)
      clear hb3
      go_wp2_with fail
      refine (H3.out _).mono ?_
      rintro e w' ⟨rfl, rfl⟩
      go_wp2_with fail
      refine (alive_any _).mono ?_
      rintro e w4 ⟨rfl, hb4⟩
      have B4 := Lib.hid (bnext B3.out hb4)
      clear hb4
      go_wp2_with fail
      go_ret
      exact ⟨rfl, B4.out⟩
    · exact absurd HST.out hns
  · have B1 := Lib.hid hb1'
    have HST := Lib.hid hst
    have N1 := Lib.hid (hr.nums (n := K) (Nat.le_refl _) hc (by omega) HF.out)
    clear hb1' hst hr
    go_wp2_with fail
    refine (H2.out _ (HV.out.below B1.out)).mono ?_
    rintro e w2 ⟨rfl, hb2'⟩
    have B2 := Lib.hid (bnext B1.out hb2')
    have N2 := Lib.hid (N1.out.below hb2')
    clear hb2'
    go_wp2_with fail
    refine (H4.out _ (HZ.out.below B2.out)).mono ?_
    rintro e w' ⟨rfl, rfl⟩
    simp only [errOf]
    go_wp2_with fail
    refine (H5.out _ (HV.out.below B2.out) (HZ.out.below B2.out)).mono ?_
    rintro e w3 ⟨hb3, ⟨hns, _⟩ | ⟨_, g2, c2, rfl, hg2, hc2, hr2⟩⟩
    · exact absurd hns HST.out
    · have B3 := Lib.hid (bnext B2.out hb3)
      have N3 := Lib.hid (N2.out.below hb3)
      have M3 := Lib.hid (hr2.nums (n := K) (Nat.le_refl _) hc2 (by omega) HF.out)
      clear hb3 hr2
      go_wp2_with fail
      refine (list_good _ _ _ _ N3.out M3.out).mono ?_
      rintro e w4 ⟨rfl, hb4⟩
      have B4 := Lib.hid (bnext B3.out hb4)
      clear hb4
      go_wp2_with fail
      go_ret
      exact ⟨rfl, B4.out⟩

theorem walk (w : World) (p : Nat) (hp : p < 18446744073709551616) (v : Value) (m : List (List Nat)) (hv : Mat w v m) (vv : Value) (zs : List Nat) (hz : Nums w vv zs) :
    Calls Try.prog 8 #[.int .u64 p, v, vv] w fun e w' => e = .returned (.bool true) ∧ Below w.heap.size w w' := by
  by_cases h : M.chkm p m = 0
  · have hok := M.chkm_ok h
    by_cases hl : zs.length = m.length
    · cases hw : M.within p zs with
      | true => exact ok w p _ _ hp v m hv vv zs hz hok hl hw
      | false => exact arg w p _ _ hp v m hv vv zs hz hok (.inr ⟨hl, hw⟩)
    · exact arg w p _ _ hp v m hv vv zs hz hok (.inl hl)
  · exact no w p hp v m hv vv zs hz h
end Go.Proofs.Ytaaipcdipdkooaa.matrixSolvesW
