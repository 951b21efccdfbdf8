/-
  The walk of the law MatrixRanks.
-/
import Derived.Test.YtaaipcdipdkooaaRanksM
import Derived.Test.YtaaipcdipdkooaaPnull
namespace Go.Proofs.Ytaaipcdipdkooaa.matrixRanksW
open Go.RowKit
set_option linter.unusedVariables false

/-- Null's answer as a slice of so many rows -/
theorem mat_len {w : World} {v : Value} {m : List (List Nat)} (h : Mat w v m) {n : Nat} (hn : m.length = n) : ∃ A cap, v = .slice A n cap := by
  obtain ⟨A, cap, rfl, _⟩ := mat_view h
  exact ⟨A, cap, by rw [hn]⟩

set_option maxHeartbeats 1000000 in
theorem no (w : World) (p : Nat) (hp : p < 18446744073709551616) (v : Value) (a : List (List Nat)) (hv : Mat w v a) (v2 : Value) (b : List (List Nat)) (hv2 : Mat w v2 b) (c : Int) (hc : (if M.chkm p a = 0 then M.chkm p b else M.chkm p a) = c) (h : c ≠ 0) :
    Calls Try.prog 12 #[.int .u64 p, v, v2] w fun e w' => e = .returned (.bool true) ∧ Below w.heap.size w w' := by
  have h2 := rcheck_two p v v2 a b w hp hv hv2
  rw [hc] at h2
  have H2 := Lib.hid h2
  have hb2 : (c != 0) = true := by rw [bne_iff_ne]; exact h
  obtain ⟨A, cap, rfl, _⟩ := mat_view hv
  obtain ⟨A2, cap2, rfl, _⟩ := mat_view hv2
  clear hv hv2 h h2 hc
  go_enter Try.func12, Try.ntmps12
  go_wp2_with fail
  refine H2.out.mono ?_
  rintro e w1 ⟨rfl, hb1⟩
  have B1 := Lib.hid hb1
  clear hb1
  go_wp2_with fail
  refine (alive_any _).mono ?_
  rintro e w2 ⟨rfl, hb2'⟩
  have B2 := Lib.hid (bnext B1.out hb2')
  clear hb2'
  go_wp2_with fail
  go_ret
  exact ⟨rfl, B2.out⟩

set_option maxHeartbeats 2000000 in
theorem wide (w : World) (p R K R2 K2 : Nat) (hp : p < 18446744073709551616) (v : Value) (a : List (List Nat)) (hv : Mat w v a) (v2 : Value) (b : List (List Nat)) (hv2 : Mat w v2 b) (hok : M.Ok p a R K) (hok2 : M.Ok p b R2 K2) (hne : R ≠ K) :
    Calls Try.prog 12 #[.int .u64 p, v, v2] w fun e w' => e = .returned (.bool true) ∧ Below w.heap.size w w' := by
  obtain ⟨h3, hp2⟩ := M.pos_of hok.isp
  have h2 := rcheck_two p v v2 a b w hp hv hv2
  rw [hok.chk, hok2.chk] at h2
  have H2 := Lib.hid h2
  have h4 := fun W (hW : Mat W v a) => rank_ok p R K v a W hok hW
  have h5 := fun W (hW : Mat W v a) => null_ok p R K v a W hok hW
  have hinv := M.red_inv hok.isp (m := M.el a) (fun i hi' j hj => hok.tab.el_lt hi' hj) K (Nat.le_refl _)
  have hrn := M.rank_null hinv
  have hlR := hinv.len
  have hR64 := hok.R64
  have hR1 := hok.R1
  have hK64 := hok.K64
  have hS1 := hok2.R1
  have hS64 := hok2.R64
  unfold M.rd at h4 h5
  obtain ⟨s, es⟩ : ∃ s, M.red p R (M.el a) K = s := ⟨_, rfl⟩
  rw [es] at h4 h5 hrn hlR
  have hnl : (M.nulM p s K).length = (M.frees s.lead K).length := M.tabMM_len _ _ _
  obtain ⟨nm, enm⟩ : ∃ nm, M.nulM p s K = nm := ⟨_, rfl⟩
  rw [enm] at h5 hnl
  obtain ⟨n, en⟩ : ∃ n, (M.frees s.lead K).length = n := ⟨_, rfl⟩
  rw [en] at hnl hrn
  obtain ⟨L, eL⟩ : ∃ L, s.lead.length = L := ⟨_, rfl⟩
  rw [eL] at h4 hrn hlR
  have H4 := Lib.hid h4
  have H5 := Lib.hid h5
  have HNL := Lib.hid hnl
  have HV := Lib.hid hv
  have HV2 := Lib.hid hv2
  have hud : ∀ b : Bool, undef ≠ Value.bool b := fun b h => by cases h
  have q1 : ((R : Int) != (K : Int)) = true := by simp; omega
  have hs0 : ((0 : Int) == 0) = true := rfl
  have hs1 : ((0 : Int) != 0) = false := rfl
  have hsum : ((K : Int) != (K : Int)) = false := by simp
  have hadd : ((L : Int) + (n : Int)) = (K : Int) := by omega
  obtain ⟨A, cap, rfl, _, _, hrows⟩ := mat_view hv
  obtain ⟨A2, cap2, rfl, _, _, hrows2⟩ := mat_view hv2
  rw [hok.rows] at H2 H4 H5 HV hrows ⊢
  rw [hok2.rows] at H2 HV2 hrows2 ⊢
  obtain ⟨bm, om, rfl, hbm, hcells⟩ := hrows (by omega)
  obtain ⟨A0, k0, cm, _⟩ := hcells 0 (by omega)
  rw [Nat.add_zero, hok.cols 0 (by omega)] at cm
  obtain ⟨bn, on, rfl, hbn, hcells2⟩ := hrows2 (by omega)
  obtain ⟨A1, k1, cn, _⟩ := hcells2 0 (by omega)
  rw [Nat.add_zero, hok2.cols 0 (by omega)] at cn
  have CM := Lib.hid cm
  have CN := Lib.hid cn
  clear hv hv2 h2 h4 h5 hrows hrows2 hcells hcells2 hok hok2 hinv hnl enm en eL es cm cn
  go_enter Try.func12, Try.ntmps12
  go_wp2_with fail
  refine H2.out.mono ?_
  rintro e w1 ⟨rfl, hb1⟩
  simp only [if_pos]
  have B1 := Lib.hid hb1
  clear hb1
  go_wp2_with fail
  refine (H4.out _ (HV.out.below B1.out)).mono ?_
  rintro e w2 ⟨rfl, hb2⟩
  have B2 := Lib.hid (bnext B1.out hb2)
  clear hb2
  go_wp2_with fail
  refine (H5.out _ (HV.out.below B2.out)).mono ?_
  rintro e w3 ⟨v3, rfl, hm3, hb3⟩
  have B3 := Lib.hid (bnext B2.out hb3)
  obtain ⟨A3, c3, rfl⟩ := mat_len hm3 HNL.out
  have cm1 := (B3.out.cell (p := ⟨bm, om, none⟩) hbm).trans CM.out
  have cn1 := (B3.out.cell (p := ⟨bn, on, none⟩) hbn).trans CN.out
  clear hb3 hm3
  go_wp2_with fail
  refine (alive_any _).mono ?_
  rintro e w4 ⟨rfl, hb4⟩
  have B4 := Lib.hid (bnext B3.out hb4)
  clear hb4
  go_wp2_with fail
  go_ret
  exact ⟨rfl, B4.out⟩

set_option maxHeartbeats 2000000 in
theorem wide2 (w : World) (p R R2 K2 : Nat) (hp : p < 18446744073709551616) (v : Value) (a : List (List Nat)) (hv : Mat w v a) (v2 : Value) (b : List (List Nat)) (hv2 : Mat w v2 b) (hok : M.Ok p a R R) (hok2 : M.Ok p b R2 K2) (hne : R2 ≠ K2) :
    Calls Try.prog 12 #[.int .u64 p, v, v2] w fun e w' => e = .returned (.bool true) ∧ Below w.heap.size w w' := by
  obtain ⟨h3, hp2⟩ := M.pos_of hok.isp
  have h2 := rcheck_two p v v2 a b w hp hv hv2
  rw [hok.chk, hok2.chk] at h2
  have H2 := Lib.hid h2
  have h4 := fun W (hW : Mat W v a) => rank_ok p R R v a W hok hW
  have h5 := fun W (hW : Mat W v a) => null_ok p R R v a W hok hW
  have hinv := M.red_inv hok.isp (m := M.el a) (fun i hi' j hj => hok.tab.el_lt hi' hj) R (Nat.le_refl _)
  have hrn := M.rank_null hinv
  have hlR := hinv.len
  have hR64 := hok.R64
  have hR1 := hok.R1
  have hK64 := hok.K64
  have hS1 := hok2.R1
  have hS64 := hok2.R64
  unfold M.rd at h4 h5
  obtain ⟨s, es⟩ : ∃ s, M.red p R (M.el a) R = s := ⟨_, rfl⟩
  rw [es] at h4 h5 hrn hlR
  have hnl : (M.nulM p s R).length = (M.frees s.lead R).length := M.tabMM_len _ _ _
  obtain ⟨nm, enm⟩ : ∃ nm, M.nulM p s R = nm := ⟨_, rfl⟩
  rw [enm] at h5 hnl
  obtain ⟨n, en⟩ : ∃ n, (M.frees s.lead R).length = n := ⟨_, rfl⟩
  rw [en] at hnl hrn
  obtain ⟨L, eL⟩ : ∃ L, s.lead.length = L := ⟨_, rfl⟩
  rw [eL] at h4 hrn hlR
  have H4 := Lib.hid h4
  have H5 := Lib.hid h5
  have HNL := Lib.hid hnl
  have HV := Lib.hid hv
  have HV2 := Lib.hid hv2
  have hud : ∀ b : Bool, undef ≠ Value.bool b := fun b h => by cases h
  have q1 : ((R : Int) != (R : Int)) = false := by simp
  have q2 : ((R2 : Int) != (K2 : Int)) = true := by simp; omega
  have hs0 : ((0 : Int) == 0) = true := rfl
  have hs1 : ((0 : Int) != 0) = false := rfl
  have hsum : ((R : Int) != (R : Int)) = false := by simp
  have hadd : ((L : Int) + (n : Int)) = (R : Int) := by omega
  obtain ⟨A, cap, rfl, _, _, hrows⟩ := mat_view hv
  obtain ⟨A2, cap2, rfl, _, _, hrows2⟩ := mat_view hv2
  rw [hok.rows] at H2 H4 H5 HV hrows ⊢
  rw [hok2.rows] at H2 HV2 hrows2 ⊢
  obtain ⟨bm, om, rfl, hbm, hcells⟩ := hrows (by omega)
  obtain ⟨A0, k0, cm, _⟩ := hcells 0 (by omega)
  rw [Nat.add_zero, hok.cols 0 (by omega)] at cm
  obtain ⟨bn, on, rfl, hbn, hcells2⟩ := hrows2 (by omega)
  obtain ⟨A1, k1, cn, _⟩ := hcells2 0 (by omega)
  rw [Nat.add_zero, hok2.cols 0 (by omega)] at cn
  have CM := Lib.hid cm
  have CN := Lib.hid cn
  clear hv hv2 h2 h4 h5 hrows hrows2 hcells hcells2 hok hok2 hinv hnl enm en eL es cm cn
  go_enter Try.func12, Try.ntmps12
  go_wp2_with fail
  refine H2.out.mono ?_
  rintro e w1 ⟨rfl, hb1⟩
  simp only [if_pos]
  have B1 := Lib.hid hb1
  clear hb1
  go_wp2_with fail
  refine (H4.out _ (HV.out.below B1.out)).mono ?_
  rintro e w2 ⟨rfl, hb2⟩
  have B2 := Lib.hid (bnext B1.out hb2)
  clear hb2
  go_wp2_with fail
  refine (H5.out _ (HV.out.below B2.out)).mono ?_
  rintro e w3 ⟨v3, rfl, hm3, hb3⟩
  have B3 := Lib.hid (bnext B2.out hb3)
  obtain ⟨A3, c3, rfl⟩ := mat_len hm3 HNL.out
  have cm1 := (B3.out.cell (p := ⟨bm, om, none⟩) hbm).trans CM.out
  have cn1 := (B3.out.cell (p := ⟨bn, on, none⟩) hbn).trans CN.out
  clear hb3 hm3
  go_wp2_with fail
  refine (alive_any _).mono ?_
  rintro e w4 ⟨rfl, hb4⟩
  have B4 := Lib.hid (bnext B3.out hb4)
  clear hb4
  go_wp2_with fail
  go_ret
  exact ⟨rfl, B4.out⟩

set_option maxHeartbeats 2000000 in
theorem unlike (w : World) (p R R2 : Nat) (hp : p < 18446744073709551616) (v : Value) (a : List (List Nat)) (hv : Mat w v a) (v2 : Value) (b : List (List Nat)) (hv2 : Mat w v2 b) (hok : M.Ok p a R R) (hok2 : M.Ok p b R2 R2) (hne : R ≠ R2) :
    Calls Try.prog 12 #[.int .u64 p, v, v2] w fun e w' => e = .returned (.bool true) ∧ Below w.heap.size w w' := by
  obtain ⟨h3, hp2⟩ := M.pos_of hok.isp
  have h2 := rcheck_two p v v2 a b w hp hv hv2
  rw [hok.chk, hok2.chk] at h2
  have H2 := Lib.hid h2
  have h4 := fun W (hW : Mat W v a) => rank_ok p R R v a W hok hW
  have h5 := fun W (hW : Mat W v a) => null_ok p R R v a W hok hW
  have hinv := M.red_inv hok.isp (m := M.el a) (fun i hi' j hj => hok.tab.el_lt hi' hj) R (Nat.le_refl _)
  have hrn := M.rank_null hinv
  have hlR := hinv.len
  have hR64 := hok.R64
  have hR1 := hok.R1
  have hK64 := hok.K64
  have hS1 := hok2.R1
  have hS64 := hok2.R64
  unfold M.rd at h4 h5
  obtain ⟨s, es⟩ : ∃ s, M.red p R (M.el a) R = s := ⟨_, rfl⟩
  rw [es] at h4 h5 hrn hlR
  have hnl : (M.nulM p s R).length = (M.frees s.lead R).length := M.tabMM_len _ _ _
  obtain ⟨nm, enm⟩ : ∃ nm, M.nulM p s R = nm := ⟨_, rfl⟩
  rw [enm] at h5 hnl
  obtain ⟨n, en⟩ : ∃ n, (M.frees s.lead R).length = n := ⟨_, rfl⟩
  rw [en] at hnl hrn
  obtain ⟨L, eL⟩ : ∃ L, s.lead.length = L := ⟨_, rfl⟩
  rw [eL] at h4 hrn hlR
  have H4 := Lib.hid h4
  have H5 := Lib.hid h5
  have HNL := Lib.hid hnl
  have HV := Lib.hid hv
  have HV2 := Lib.hid hv2
  have hud : ∀ b : Bool, undef ≠ Value.bool b := fun b h => by cases h
  have q1 : ((R : Int) != (R : Int)) = false := by simp
  have q2 : ((R2 : Int) != (R2 : Int)) = false := by simp
  have q3 : ((R : Int) != (R2 : Int)) = true := by simp; omega
  have hs0 : ((0 : Int) == 0) = true := rfl
  have hs1 : ((0 : Int) != 0) = false := rfl
  have hsum : ((R : Int) != (R : Int)) = false := by simp
  have hadd : ((L : Int) + (n : Int)) = (R : Int) := by omega
  obtain ⟨A, cap, rfl, _, _, hrows⟩ := mat_view hv
  obtain ⟨A2, cap2, rfl, _, _, hrows2⟩ := mat_view hv2
  rw [hok.rows] at H2 H4 H5 HV hrows ⊢
  rw [hok2.rows] at H2 HV2 hrows2 ⊢
  obtain ⟨bm, om, rfl, hbm, hcells⟩ := hrows (by omega)
  obtain ⟨A0, k0, cm, _⟩ := hcells 0 (by omega)
  rw [Nat.add_zero, hok.cols 0 (by omega)] at cm
  obtain ⟨bn, on, rfl, hbn, hcells2⟩ := hrows2 (by omega)
  obtain ⟨A1, k1, cn, _⟩ := hcells2 0 (by omega)
  rw [Nat.add_zero, hok2.cols 0 (by omega)] at cn
  have CM := Lib.hid cm
  have CN := Lib.hid cn
  clear hv hv2 h2 h4 h5 hrows hrows2 hcells hcells2 hok hok2 hinv hnl enm en eL es cm cn
  go_enter Try.func12, Try.ntmps12
  go_wp2_with fail
  refine H2.out.mono ?_
  rintro e w1 ⟨rfl, hb1⟩
  simp only [if_pos]
  have B1 := Lib.hid hb1
  clear hb1
  go_wp2_with fail
  refine (H4.out _ (HV.out.below B1.out)).mono ?_
  rintro e w2 ⟨rfl, hb2⟩
  have B2 := Lib.hid (bnext B1.out hb2)
  clear hb2
  go_wp2_with fail
  refine (H5.out _ (HV.out.below B2.out)).mono ?_
  rintro e w3 ⟨v3, rfl, hm3, hb3⟩
  have B3 := Lib.hid (bnext B2.out hb3)
  obtain ⟨A3, c3, rfl⟩ := mat_len hm3 HNL.out
  have cm1 := (B3.out.cell (p := ⟨bm, om, none⟩) hbm).trans CM.out
  have cn1 := (B3.out.cell (p := ⟨bn, on, none⟩) hbn).trans CN.out
  clear hb3 hm3
  go_wp2_with fail
  refine (alive_any _).mono ?_
  rintro e w4 ⟨rfl, hb4⟩
  have B4 := Lib.hid (bnext B3.out hb4)
  clear hb4
  go_wp2_with fail
  go_ret
  exact ⟨rfl, B4.out⟩

set_option maxHeartbeats 2000000 in
theorem square (w : World) (p R : Nat) (hp : p < 18446744073709551616) (v : Value) (a : List (List Nat)) (hv : Mat w v a) (v2 : Value) (b : List (List Nat)) (hv2 : Mat w v2 b) (hok : M.Ok p a R R) (hok2 : M.Ok p b R R)  :
    Calls Try.prog 12 #[.int .u64 p, v, v2] w fun e w' => e = .returned (.bool true) ∧ Below w.heap.size w w' := by
  obtain ⟨h3, hp2⟩ := M.pos_of hok.isp
  have h2 := rcheck_two p v v2 a b w hp hv hv2
  rw [hok.chk, hok2.chk] at h2
  have H2 := Lib.hid h2
  have h4 := fun W (hW : Mat W v a) => rank_ok p R R v a W hok hW
  have h5 := fun W (hW : Mat W v a) => null_ok p R R v a W hok hW
  have h6 := fun W (hW : Mat W v a) => det_ok p R v a W hok hW
  have h7 := fun W (hW : Mat W v2 b) => det_ok p R v2 b W hok2 hW
  have H8 := Lib.hid fun W (hW : Mat W v a) (hW2 : Mat W v2 b) => mul_ok p R R R v v2 a b W hW hW2 hok hok2
  have h9 := fun W u (hW : Mat W u (M.mul p a b R R R)) => det_ok p R u _ W (M.mul_isOk hok) hW
  rw [M.det_mul hok hok2] at h9
  have hd2 := M.det_lt hok2
  have hd1 := M.det_lt hok
  have hz : M.det p a R = if (M.red p R (M.el a) R).lead.length < R then 0 else (M.red p R (M.el a) R).d := rfl
  obtain ⟨d2, ed2⟩ : ∃ d2, M.det p b R = d2 := ⟨_, rfl⟩
  obtain ⟨d1, ed1⟩ : ∃ d1, M.det p a R = d1 := ⟨_, rfl⟩
  rw [ed2] at h7 h9 hd2
  rw [ed1] at h6 h9 hd1 hz
  have hinv := M.red_inv hok.isp (m := M.el a) (fun i hi' j hj => hok.tab.el_lt hi' hj) R (Nat.le_refl _)
  have hrn := M.rank_null hinv
  have hlR := hinv.len
  have hR64 := hok.R64
  have hR1 := hok.R1
  have hK64 := hok.K64
  have hS1 := hok2.R1
  have hS64 := hok2.R64
  unfold M.rd at h4 h5
  obtain ⟨s, es⟩ : ∃ s, M.red p R (M.el a) R = s := ⟨_, rfl⟩
  rw [es] at h4 h5 hrn hlR hz
  have hnl : (M.nulM p s R).length = (M.frees s.lead R).length := M.tabMM_len _ _ _
  obtain ⟨nm, enm⟩ : ∃ nm, M.nulM p s R = nm := ⟨_, rfl⟩
  rw [enm] at h5 hnl
  obtain ⟨n, en⟩ : ∃ n, (M.frees s.lead R).length = n := ⟨_, rfl⟩
  rw [en] at hnl hrn
  obtain ⟨L, eL⟩ : ∃ L, s.lead.length = L := ⟨_, rfl⟩
  rw [eL] at h4 hrn hlR hz
  have H4 := Lib.hid h4
  have H5 := Lib.hid h5
  have HNL := Lib.hid hnl
  have HV := Lib.hid hv
  have HV2 := Lib.hid hv2
  have hud : ∀ b : Bool, undef ≠ Value.bool b := fun b h => by cases h
  have hdp := hinv.dpos
  rw [es] at hdp
  have hqq : ∃ q : Bool, ((d1 : Int) == 0) = q ∧ decide ((L : Int) < (R : Int)) = q ∧ decide (L < R) = q := by
    by_cases h : L < R
    · rw [if_pos h] at hz
      exact ⟨true, by simp [hz], by simp; omega, by simp; omega⟩
    · rw [if_neg h] at hz
      exact ⟨false, by simp; omega, by simp; omega, by simp; omega⟩
  obtain ⟨q, q1, q2, q5⟩ := hqq
  have q3 : ((q : Bool) == q) = true := by simp
  have H6 := Lib.hid h6
  have H7 := Lib.hid h7
  have H9 := Lib.hid h9
  have hmu := fun W => refMul_any p d1 d2 W (by omega) hp2 hd1 hd2
  obtain ⟨d3, ed3⟩ : ∃ d3, d1 * d2 % p = d3 := ⟨_, rfl⟩
  rw [ed3] at hmu H9
  have HMU := Lib.hid hmu
  have q4 : ((d3 : Int) == (d3 : Int)) = true := by simp
  have hs0 : ((0 : Int) == 0) = true := rfl
  have hs1 : ((0 : Int) != 0) = false := rfl
  have hsum : ((R : Int) != (R : Int)) = false := by simp
  have hadd : ((L : Int) + (n : Int)) = (R : Int) := by omega
  obtain ⟨A, cap, rfl, _, _, hrows⟩ := mat_view hv
  obtain ⟨A2, cap2, rfl, _, _, hrows2⟩ := mat_view hv2
  rw [hok.rows] at H2 H4 H5 HV H6 H8 hrows ⊢
  rw [hok2.rows] at H2 HV2 H7 H8 hrows2 ⊢
  obtain ⟨bm, om, rfl, hbm, hcells⟩ := hrows (by omega)
  obtain ⟨A0, k0, cm, _⟩ := hcells 0 (by omega)
  rw [Nat.add_zero, hok.cols 0 (by omega)] at cm
  obtain ⟨bn, on, rfl, hbn, hcells2⟩ := hrows2 (by omega)
  obtain ⟨A1, k1, cn, _⟩ := hcells2 0 (by omega)
  rw [Nat.add_zero, hok2.cols 0 (by omega)] at cn
  have CM := Lib.hid cm
  have CN := Lib.hid cn
  clear hv hv2 h2 h4 h5 hrows hrows2 hcells hcells2 hok hok2 hinv hnl enm en eL es cm cn hz h6 h7 h9 hmu ed1 ed2 ed3 hdp
  go_enter Try.func12, Try.ntmps12
  go_wp2_with fail
  refine H2.out.mono ?_
  rintro e w1 ⟨rfl, hb1⟩
  simp only [if_pos]
  have B1 := Lib.hid hb1
  clear hb1
  go_wp2_with fail
  refine (H4.out _ (HV.out.below B1.out)).mono ?_
  rintro e w2 ⟨rfl, hb2⟩
  have B2 := Lib.hid (bnext B1.out hb2)
  clear hb2
  go_wp2_with fail
  refine (H5.out _ (HV.out.below B2.out)).mono ?_
  rintro e w3 ⟨v3, rfl, hm3, hb3⟩
  have B3 := Lib.hid (bnext B2.out hb3)
  obtain ⟨A3, c3, rfl⟩ := mat_len hm3 HNL.out
  have cm1 := (B3.out.cell (p := ⟨bm, om, none⟩) hbm).trans CM.out
  have cn1 := (B3.out.cell (p := ⟨bn, on, none⟩) hbn).trans CN.out
  clear hb3 hm3
  have r1 : ((R : Int) != (R : Int)) = false := by simp
  go_wp2_with fail
  refine (H6.out _ (HV.out.below B3.out)).mono ?_
  rintro e w4 ⟨rfl, hb4⟩
  have B4 := Lib.hid (bnext B3.out hb4)
  clear hb4
  go_wp2_with fail
  refine (H7.out _ (HV2.out.below B4.out)).mono ?_
  rintro e w5 ⟨rfl, hb5⟩
  have B5 := Lib.hid (bnext B4.out hb5)
  clear hb5
  go_wp2_with fail
  refine (H8.out _ (HV.out.below B5.out) (HV2.out.below B5.out)).mono ?_
  rintro e w6 ⟨v6, rfl, hm6, hb6⟩
  have B6 := Lib.hid (bnext B5.out hb6)
  have M6 := Lib.hid hm6
  clear hb6 hm6
  go_wp2_with fail
  refine (H9.out _ _ M6.out).mono ?_
  rintro e w7 ⟨rfl, hb7⟩
  have B7 := Lib.hid (bnext B6.out hb7)
  clear hb7
  go_wp2_with fail
  refine (HMU.out _).mono ?_
  rintro e w' ⟨rfl, rfl⟩
  go_wp2_with fail
  refine (alive_any _).mono ?_
  rintro e w8 ⟨rfl, hb8⟩
  have B8 := Lib.hid (bnext B7.out hb8)
  clear hb8
  go_wp2_with fail
  go_ret
  exact ⟨rfl, B8.out⟩

theorem walk (w : World) (p : Nat) (hp : p < 18446744073709551616) (v : Value) (a : List (List Nat)) (hv : Mat w v a) (v2 : Value) (b : List (List Nat)) (hv2 : Mat w v2 b) :
    Calls Try.prog 12 #[.int .u64 p, v, v2] w fun e w' => e = .returned (.bool true) ∧ Below w.heap.size w w' := by
  by_cases h1 : M.chkm p a = 0
  · by_cases h2 : M.chkm p b = 0
    · have ha := M.chkm_ok h1
      have hb := M.chkm_ok h2
      obtain ⟨R, eR⟩ : ∃ R, a.length = R := ⟨_, rfl⟩
      obtain ⟨K, eK⟩ : ∃ K, (a.getD 0 []).length = K := ⟨_, rfl⟩
      obtain ⟨R2, eR2⟩ : ∃ R2, b.length = R2 := ⟨_, rfl⟩
      obtain ⟨K2, eK2⟩ : ∃ K2, (b.getD 0 []).length = K2 := ⟨_, rfl⟩
      rw [eR, eK] at ha
      rw [eR2, eK2] at hb
      by_cases e1 : R = K
      · by_cases e2 : R2 = K2
        · by_cases e3 : R = R2
          · subst e1; subst e2; subst e3
            exact square w p _ hp v a hv v2 b hv2 ha hb
          · subst e1; subst e2
            exact unlike w p _ _ hp v a hv v2 b hv2 ha hb e3
        · subst e1
          exact wide2 w p _ R2 K2 hp v a hv v2 b hv2 ha hb e2
      · exact wide w p R K R2 K2 hp v a hv v2 b hv2 ha hb e1
    · exact no w p hp v a hv v2 b hv2 _ (if_pos h1) h2
  · exact no w p hp v a hv v2 b hv2 _ (if_neg h1) h1
end Go.Proofs.Ytaaipcdipdkooaa.matrixRanksW
