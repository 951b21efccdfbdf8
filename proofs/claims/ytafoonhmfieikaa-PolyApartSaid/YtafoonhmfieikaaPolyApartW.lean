/-
  The walk of the law PolyApart.
-/
import Derived.Test.YtafoonhmfieikaaLawLib
import Derived.Test.YtafoonhmfieikaaP14
import Derived.Test.YtafoonhmfieikaaRef2c
namespace Go.Proofs.Ytafoonhmfieikaa.polyApartW
open Go.RowKit
set_option linter.unusedVariables false

set_option maxHeartbeats 1000000 in
theorem bad (w : World) (p : Nat) (hp : p < 18446744073709551616) (v : Value) (f : List Nat) (hv : Nums w v f) (v2 : Value) (g : List Nat) (hv2 : Nums w v2 g) (h : M.rgt p [f, g] ≠ 0) :
    Calls Try.prog 15 #[.int .u64 p, v, v2] w fun e w' => e = .returned (.bool true) ∧ Below w.heap.size w w' := by
  have HV := Lib.hid hv
  have HV2 := Lib.hid hv2
  have h1 := fun W (h1 : Nums W v f) (h2 : Nums W v2 g) => right_two p v v2 f g W hp h1 h2
  obtain ⟨c, ec⟩ : ∃ c, c = M.rgt p [f, g] := ⟨_, rfl⟩
  rw [← ec] at h h1
  have H1 := Lib.hid h1
  have hb : (c != 0) = true := by rw [bne_iff_ne]; exact h
  obtain ⟨A, cap, rfl⟩ := nums_slice' hv
  obtain ⟨A2, cap2, rfl⟩ := nums_slice' hv2
  have hud : ∀ b : Bool, undef ≠ Value.bool b := fun b h => by cases h
  clear ec h hv hv2 h1
  go_enter Try.func15, Try.ntmps15
  go_wp2_with fail
  refine (H1.out _ HV.out HV2.out).mono ?_
  rintro e w1 ⟨rfl, hb1⟩
  have B1 := Lib.hid hb1
  clear hb1
  go_wp2_with fail
  refine (alive_any _).mono ?_
  rintro e w2 ⟨rfl, hb2⟩
  have B2 := Lib.hid (bnext B1.out hb2)
  clear hb2
  go_wp2_with fail
  go_ret
  exact ⟨rfl, B2.out⟩

set_option maxHeartbeats 1000000 in
theorem zero (w : World) (p : Nat) (hp : p < 18446744073709551616) (v : Value) (f : List Nat) (hv : Nums w v f) (v2 : Value) (g : List Nat) (hv2 : Nums w v2 g) (h : M.rgt p [f, g] = 0) (hz : M.trim g = []) :
    Calls Try.prog 15 #[.int .u64 p, v, v2] w fun e w' => e = .returned (.bool true) ∧ Below w.heap.size w w' := by
  have HV := Lib.hid hv
  have HV2 := Lib.hid hv2
  have h1 := fun W (h1 : Nums W v f) (h2 : Nums W v2 g) => right_two p v v2 f g W hp h1 h2
  rw [h] at h1
  have H1 := Lib.hid h1
  have ht := fun W (h1 : Nums W v2 g) => rtrim_any v2 g W h1
  rw [hz] at ht
  have HT := Lib.hid ht
  obtain ⟨A, cap, rfl⟩ := nums_slice' hv
  obtain ⟨A2, cap2, rfl⟩ := nums_slice' hv2
  have hud : ∀ b : Bool, undef ≠ Value.bool b := fun b h => by cases h
  clear h hz hv hv2 h1 ht
  go_enter Try.func15, Try.ntmps15
  go_wp2_with fail
  refine (H1.out _ HV.out HV2.out).mono ?_
  rintro e w1 ⟨rfl, hb1⟩
  have B1 := Lib.hid hb1
  clear hb1
  go_wp2_with fail
  refine (HT.out _ (HV2.out.below B1.out)).mono ?_
  rintro e w2 ⟨v2, rfl, hNT, hb2⟩
  have B2 := Lib.hid (bnext B1.out hb2)
  have NT := Lib.hid hNT
  clear hb2 hNT
  obtain ⟨aT, cT, rfl⟩ := nums_slice' NT.out
  go_wp2_with fail
  refine (alive_any _).mono ?_
  rintro e w3 ⟨rfl, hb3⟩
  have B3 := Lib.hid (bnext B2.out hb3)
  have NT_3 := Lib.hid (NT.out.below hb3)
  clear hb3
  go_wp2_with fail
  go_ret
  exact ⟨rfl, B3.out⟩

set_option maxRecDepth 100000 in
set_option maxHeartbeats 4000000 in
theorem good (w : World) (p : Nat) (hp : p < 18446744073709551616) (v : Value) (f : List Nat) (hv : Nums w v f) (v2 : Value) (g : List Nat) (hv2 : Nums w v2 g) (h : M.rgt p [f, g] = 0) (hz : M.trim g ≠ []) :
    Calls Try.prog 15 #[.int .u64 p, v, v2] w fun e w' => e = .returned (.bool true) ∧ Below w.heap.size w w' := by
  obtain ⟨hi, ⟨hlf, hwf⟩, hlg, hwg⟩ := M.rgt_ok h
  obtain ⟨h3, hp'⟩ := M.pos_of hi
  have hpos : 0 < p := by omega
  have HV := Lib.hid hv
  have HV2 := Lib.hid hv2
  have h1 := fun W (h1 : Nums W v f) (h2 : Nums W v2 g) => right_two p v v2 f g W hp h1 h2
  rw [h] at h1
  have hgp : 0 < (M.trim g).length := by cases hh : M.trim g with | nil => exact absurd hh hz | cons a t => simp
  have hlead := M.lead_of (M.within_trim hwg) (M.trim_trim g) hgp
  have htf := fun W (h1 : Nums W v f) => rtrim_any v f W h1
  have htg := fun W (h1 : Nums W v2 g) => rtrim_any v2 g W h1
  have hdi := fun W (h1 : Nums W v f) (h2 : Nums W v2 g) => divide2_fine p v v2 f g W h1 h2 h hz
  have hgc := fun W (h1 : Nums W v f) (h2 : Nums W v2 g) => gcd2_ok p v v2 f g W h1 h2 h
  have he1 := fun W V D (hD : M.GcdOf p (M.trim f) (M.trim g) D) (h1 : Nums W v f) (h2 : Nums W V D) => (fun k => divide2_even p v V f D W h1 h2 (M.chk_of hi hlf hwf) k.1 k.2.1 k.2.2.1 k.2.2.2.1) (hD.facts hi hlead)
  have he2 := fun W V D (hD : M.GcdOf p (M.trim f) (M.trim g) D) (h1 : Nums W v2 g) (h2 : Nums W V D) => (fun k => divide2_even p v2 V g D W h1 h2 (M.chk_of hi hlg hwg) k.1 k.2.1 k.2.2.1 k.2.2.2.2) (hD.facts hi hlead)
  have hmu := fun W V q (hq : M.within p q = true) (hl : q.length ≤ 1000) (h1 : Nums W V q) (h2 : Nums W v2 g) => rmul_any p V v2 q g W hpos hp' hq hwg hl (by omega) h1 h2
  have had := fun W V V2 q r (hd : M.IsDiv p (M.trim f) (M.trim g) q r) (hl : (M.pmul p q g).length ≤ 1000) (hl2 : r.length ≤ 1000) (h1 : Nums W V (M.pmul p q g)) (h2 : Nums W V2 r) => radd_any p V V2 (M.pmul p q g) r W hpos hp' (M.poly_within hpos _ _) hd.2.2.1 hl hl2 h1 h2
  have hba := fun q r (hd : M.IsDiv p (M.trim f) (M.trim g) q r) => M.div_back hpos (M.within_trim hwf) (M.trim_trim f) hd
  have hql := fun q r (hd : M.IsDiv p (M.trim f) (M.trim g) q r) => M.isDiv_qlen hi hlead (M.trim_trim g) hd
  have hpl := fun q => M.poly_len p (q.length + g.length) (M.mulAt q (M.at_ g))
  have hfl : (M.trim f).length ≤ 201 := Nat.le_trans (M.trim_len_le f) hlf
  have hgl : (M.trim g).length ≤ 201 := Nat.le_trans (M.trim_len_le g) hlg
  obtain ⟨F, eF⟩ : ∃ F, F = M.trim f := ⟨_, rfl⟩
  obtain ⟨K, eK⟩ : ∃ K, K = M.trim g := ⟨_, rfl⟩
  rw [← eF] at htf hdi hgc he1 he2 had hba hql hfl
  rw [← eK] at htg hdi hgc he1 he2 had hba hql hgp hgl hlead
  have H1 := Lib.hid h1
  have HTF := Lib.hid htf
  have HTG := Lib.hid htg
  have HDI := Lib.hid hdi
  have HGC := Lib.hid hgc
  have HE1 := Lib.hid he1
  have HE2 := Lib.hid he2
  have HMU := Lib.hid hmu
  have HAD := Lib.hid had
  have HBA := Lib.hid hba
  have HQL := Lib.hid hql
  have HPL := Lib.hid hpl
  have hkz : ((K.length : Int) == 0) = false := by rw [beq_eq_false_iff_ne]; omega
  obtain ⟨A, cap, rfl⟩ := nums_slice' hv
  obtain ⟨A2, cap2, rfl⟩ := nums_slice' hv2
  have hud : ∀ b : Bool, undef ≠ Value.bool b := fun b h => by cases h
  clear h hz hv hv2 hi hwf hwg hlead eF eK h1 htf htg hdi hgc he1 he2 hmu had hba hql hpl
  go_enter Try.func15, Try.ntmps15
  go_wp2_with fail
  refine (H1.out _ HV.out HV2.out).mono ?_
  rintro e w1 ⟨rfl, hb1⟩
  have B1 := Lib.hid hb1
  clear hb1
  go_wp2_with fail
  refine (HTG.out _ (HV2.out.below B1.out)).mono ?_
  rintro e w2 ⟨v2, rfl, hNT, hb2⟩
  have B2 := Lib.hid (bnext B1.out hb2)
  have NT := Lib.hid hNT
  clear hb2 hNT
  obtain ⟨aT, cT, rfl⟩ := nums_slice' NT.out
  go_wp2_with fail
  refine (HDI.out _ (HV.out.below B2.out) (HV2.out.below B2.out)).mono ?_
  rintro e w3 ⟨vq, vr, q, r, rfl, hNQ, hNR, hDV, hb3⟩
  have B3 := Lib.hid (bnext B2.out hb3)
  have NT_3 := Lib.hid (NT.out.below hb3)
  have NQ := Lib.hid hNQ
  have NR := Lib.hid hNR
  clear hb3 hNQ hNR
  obtain ⟨aQ, cQ, rfl⟩ := nums_slice' NQ.out
  obtain ⟨aR, cR, rfl⟩ := nums_slice' NR.out
  have hrl := hDV.2.2.2.2.1
  have hqq := HQL.out q r hDV
  have hqw := hDV.1
  have hpl1 := HPL.out q
  have DV := Lib.hid hDV
  have BAK := Lib.hid (HBA.out q r hDV)
  have hrk : (r.length : Int) < (K.length : Nat) := by omega
  clear hDV
  go_wp2_with fail
  refine (HGC.out _ (HV.out.below B3.out) (HV2.out.below B3.out)).mono ?_
  rintro e w4 ⟨vd, D, rfl, hND, hGD, hb4⟩
  have B4 := Lib.hid (bnext B3.out hb4)
  have NT_4 := Lib.hid (NT_3.out.below hb4)
  have NQ_4 := Lib.hid (NQ.out.below hb4)
  have NR_4 := Lib.hid (NR.out.below hb4)
  have ND := Lib.hid hND
  clear hb4 hND
  obtain ⟨aD, cD, rfl⟩ := nums_slice' ND.out
  have GD := Lib.hid hGD
  clear hGD
  go_wp2_with fail
  refine (HE1.out _ _ D GD.out (HV.out.below B4.out) ND.out).mono ?_
  rintro e w5 ⟨vq1, vr1, q1, rfl, hNQ1, hNR1, hb5⟩
  have B5 := Lib.hid (bnext B4.out hb5)
  have NT_5 := Lib.hid (NT_4.out.below hb5)
  have NQ_5 := Lib.hid (NQ_4.out.below hb5)
  have NR_5 := Lib.hid (NR_4.out.below hb5)
  have ND_5 := Lib.hid (ND.out.below hb5)
  have NQ1 := Lib.hid hNQ1
  have NR1 := Lib.hid hNR1
  clear hb5 hNQ1 hNR1
  obtain ⟨aQ1, cQ1, rfl⟩ := nums_slice' NQ1.out
  obtain ⟨aR1, cR1, rfl⟩ := nums_slice' NR1.out
  go_wp2_with fail
  refine (HE2.out _ _ D GD.out (HV2.out.below B5.out) ND_5.out).mono ?_
  rintro e w6 ⟨vq2, vr2, q2, rfl, hNQ2, hNR2, hb6⟩
  have B6 := Lib.hid (bnext B5.out hb6)
  have NT_6 := Lib.hid (NT_5.out.below hb6)
  have NQ_6 := Lib.hid (NQ_5.out.below hb6)
  have NR_6 := Lib.hid (NR_5.out.below hb6)
  have ND_6 := Lib.hid (ND_5.out.below hb6)
  have NQ1_6 := Lib.hid (NQ1.out.below hb6)
  have NR1_6 := Lib.hid (NR1.out.below hb6)
  have NQ2 := Lib.hid hNQ2
  have NR2 := Lib.hid hNR2
  clear hb6 hNQ2 hNR2
  obtain ⟨aQ2, cQ2, rfl⟩ := nums_slice' NQ2.out
  obtain ⟨aR2, cR2, rfl⟩ := nums_slice' NR2.out
  go_wp2_with fail
  refine (HTG.out _ (HV2.out.below B6.out)).mono ?_
  rintro e w7 ⟨v7, rfl, hNT2, hb7⟩
  have B7 := Lib.hid (bnext B6.out hb7)
  have NT_7 := Lib.hid (NT_6.out.below hb7)
  have NQ_7 := Lib.hid (NQ_6.out.below hb7)
  have NR_7 := Lib.hid (NR_6.out.below hb7)
  have ND_7 := Lib.hid (ND_6.out.below hb7)
  have NQ1_7 := Lib.hid (NQ1_6.out.below hb7)
  have NR1_7 := Lib.hid (NR1_6.out.below hb7)
  have NQ2_7 := Lib.hid (NQ2.out.below hb7)
  have NR2_7 := Lib.hid (NR2.out.below hb7)
  have NT2 := Lib.hid hNT2
  clear hb7 hNT2
  obtain ⟨aT2, cT2, rfl⟩ := nums_slice' NT2.out
  go_wp2_with fail
  refine (HMU.out _ _ q hqw (by omega) NQ_7.out (HV2.out.below B7.out)).mono ?_
  rintro e w8 ⟨v8, rfl, hNM, hb8⟩
  have B8 := Lib.hid (bnext B7.out hb8)
  have NT_8 := Lib.hid (NT_7.out.below hb8)
  have NQ_8 := Lib.hid (NQ_7.out.below hb8)
  have NR_8 := Lib.hid (NR_7.out.below hb8)
  have ND_8 := Lib.hid (ND_7.out.below hb8)
  have NQ1_8 := Lib.hid (NQ1_7.out.below hb8)
  have NR1_8 := Lib.hid (NR1_7.out.below hb8)
  have NQ2_8 := Lib.hid (NQ2_7.out.below hb8)
  have NR2_8 := Lib.hid (NR2_7.out.below hb8)
  have NT2_8 := Lib.hid (NT2.out.below hb8)
  have NM := Lib.hid hNM
  clear hb8 hNM
  go_wp2_with fail
  refine (HAD.out _ _ _ q r DV.out (by unfold M.pmul; omega) (by omega) NM.out NR_8.out).mono ?_
  rintro e w9 ⟨v9, rfl, hNA, hb9⟩
  have B9 := Lib.hid (bnext B8.out hb9)
  have NT_9 := Lib.hid (NT_8.out.below hb9)
  have NQ_9 := Lib.hid (NQ_8.out.below hb9)
  have NR_9 := Lib.hid (NR_8.out.below hb9)
  have ND_9 := Lib.hid (ND_8.out.below hb9)
  have NQ1_9 := Lib.hid (NQ1_8.out.below hb9)
  have NR1_9 := Lib.hid (NR1_8.out.below hb9)
  have NQ2_9 := Lib.hid (NQ2_8.out.below hb9)
  have NR2_9 := Lib.hid (NR2_8.out.below hb9)
  have NT2_9 := Lib.hid (NT2_8.out.below hb9)
  have NM_9 := Lib.hid (NM.out.below hb9)
  have NA := Lib.hid hNA
  clear hb9 hNA
  have hna := NA.out
  rw [BAK.out] at hna
  have NB := Lib.hid hna
  clear hna
  go_wp2_with fail
  refine (HTF.out _ (HV.out.below B9.out)).mono ?_
  rintro e w10 ⟨v10, rfl, hNF, hb10⟩
  have B10 := Lib.hid (bnext B9.out hb10)
  have NT_10 := Lib.hid (NT_9.out.below hb10)
  have NQ_10 := Lib.hid (NQ_9.out.below hb10)
  have NR_10 := Lib.hid (NR_9.out.below hb10)
  have ND_10 := Lib.hid (ND_9.out.below hb10)
  have NQ1_10 := Lib.hid (NQ1_9.out.below hb10)
  have NR1_10 := Lib.hid (NR1_9.out.below hb10)
  have NQ2_10 := Lib.hid (NQ2_9.out.below hb10)
  have NR2_10 := Lib.hid (NR2_9.out.below hb10)
  have NT2_10 := Lib.hid (NT2_9.out.below hb10)
  have NM_10 := Lib.hid (NM_9.out.below hb10)
  have NA_10 := Lib.hid (NA.out.below hb10)
  have NB_10 := Lib.hid (NB.out.below hb10)
  have NF := Lib.hid hNF
  clear hb10 hNF
  go_wp2_with fail
  refine (same_any _ _ _ _ NB_10.out NF.out).mono ?_
  rintro e w11 ⟨rfl, hb11⟩
  have B11 := Lib.hid (bnext B10.out hb11)
  have NT_11 := Lib.hid (NT_10.out.below hb11)
  have NQ_11 := Lib.hid (NQ_10.out.below hb11)
  have NR_11 := Lib.hid (NR_10.out.below hb11)
  have ND_11 := Lib.hid (ND_10.out.below hb11)
  have NQ1_11 := Lib.hid (NQ1_10.out.below hb11)
  have NR1_11 := Lib.hid (NR1_10.out.below hb11)
  have NQ2_11 := Lib.hid (NQ2_10.out.below hb11)
  have NR2_11 := Lib.hid (NR2_10.out.below hb11)
  have NT2_11 := Lib.hid (NT2_10.out.below hb11)
  have NM_11 := Lib.hid (NM_10.out.below hb11)
  have NA_11 := Lib.hid (NA_10.out.below hb11)
  have NB_11 := Lib.hid (NB_10.out.below hb11)
  have NF_11 := Lib.hid (NF.out.below hb11)
  clear hb11
  go_wp2_with fail
  refine (alive_any _).mono ?_
  rintro e w12 ⟨rfl, hb12⟩
  have B12 := Lib.hid (bnext B11.out hb12)
  have NT_12 := Lib.hid (NT_11.out.below hb12)
  have NQ_12 := Lib.hid (NQ_11.out.below hb12)
  have NR_12 := Lib.hid (NR_11.out.below hb12)
  have ND_12 := Lib.hid (ND_11.out.below hb12)
  have NQ1_12 := Lib.hid (NQ1_11.out.below hb12)
  have NR1_12 := Lib.hid (NR1_11.out.below hb12)
  have NQ2_12 := Lib.hid (NQ2_11.out.below hb12)
  have NR2_12 := Lib.hid (NR2_11.out.below hb12)
  have NT2_12 := Lib.hid (NT2_11.out.below hb12)
  have NM_12 := Lib.hid (NM_11.out.below hb12)
  have NA_12 := Lib.hid (NA_11.out.below hb12)
  have NB_12 := Lib.hid (NB_11.out.below hb12)
  have NF_12 := Lib.hid (NF_11.out.below hb12)
  clear hb12
  go_wp2_with fail
  go_ret
  exact ⟨rfl, B12.out⟩

set_option maxHeartbeats 1000000 in
theorem walk (w : World) (p : Nat) (hp : p < 18446744073709551616) (v : Value) (f : List Nat) (hv : Nums w v f) (v2 : Value) (g : List Nat) (hv2 : Nums w v2 g) :
    Calls Try.prog 15 #[.int .u64 p, v, v2] w fun e w' => e = .returned (.bool true) ∧ Below w.heap.size w w' := by
  by_cases h : M.rgt p [f, g] = 0
  · by_cases hz : M.trim g = []
    · exact zero w p hp v f hv v2 g hv2 h hz
    · exact good w p hp v f hv v2 g hv2 h hz
  · exact bad w p hp v f hv v2 g hv2 h
end Go.Proofs.Ytafoonhmfieikaa.polyApartW
