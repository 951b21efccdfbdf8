/-
  The statement of the law PolyQuotients at this commit: for every input the call returns true, and each argument reads afterwards as it read before. No further condition.
-/
import Derived.Test.YtafoonhmfieikaaLawLib
import Derived.Test.YtafoonhmfieikaaRef2l
import Derived.Test.YtafoonhmfieikaaRows
import Derived.Test.YtafoonhmfieikaaFrame
import Derived.WalkKit
import Derived.ProofKit
import Derived.OpenShut
import Derived.ShutString
import Derived.ChangeOld
import Derived.Below
import Derived.SizedLaws

namespace Go.Proofs.Ytafoonhmfieikaa.polyQuotientsW
open Go.RowKit
set_option linter.unusedVariables false

set_option maxHeartbeats 1000000 in
theorem bad (w : World) (p : Nat) (hp : p < 18446744073709551616) (v : Value) (f : List Nat) (hv : Nums w v f) (v2 : Value) (g : List Nat) (hv2 : Nums w v2 g) (h : M.rgt p [f, g] ≠ 0) :
    Calls Try.prog 6 #[.int .u64 p, v, v2] w fun e w' => e = .returned (.bool true) ∧ Below w.heap.size w w' := by
  have HV := Lib.hid hv
  have HV2 := Lib.hid hv2
  have h1 := fun W (h1 : Nums W v f) (h2 : Nums W v2 g) => right_two p v v2 f g W hp h1 h2
  have hd := fun W (h1 : Nums W v f) (h2 : Nums W v2 g) => divide2_bad p v v2 f g W hp h1 h2 h
  have hg := fun W (h1 : Nums W v f) (h2 : Nums W v2 g) => gcd2_bad p v v2 f g W hp h1 h2 h
  obtain ⟨c, ec⟩ : ∃ c, c = M.rgt p [f, g] := ⟨_, rfl⟩
  rw [← ec] at h h1 hd hg
  have H1 := Lib.hid h1
  have HD := Lib.hid hd
  have HGC := Lib.hid hg
  have HC := Lib.hid h
  have hb : (c != 0) = true := by rw [bne_iff_ne]; exact h
  obtain ⟨A, cap, rfl⟩ := nums_slice' hv
  obtain ⟨A2, cap2, rfl⟩ := nums_slice' hv2
  have hud : ∀ b : Bool, undef ≠ Value.bool b := fun b h => by cases h
  clear ec h hv hv2 h1 hd hg
  go_enter Try.func6, Try.ntmps6
  go_wp2_with fail
  refine (HD.out _ HV.out HV2.out).mono ?_
  rintro e w1 ⟨rfl, hb1⟩
  have B1 := Lib.hid hb1
  clear hb1
  go_wp2_with fail
  refine (HGC.out _ (HV.out.below B1.out) (HV2.out.below B1.out)).mono ?_
  rintro e w2 ⟨rfl, hb2⟩
  have B2 := Lib.hid (bnext B1.out hb2)
  clear hb2
  go_wp2_with fail
  refine (H1.out _ (HV.out.below B2.out) (HV2.out.below B2.out)).mono ?_
  rintro e w3 ⟨rfl, hb3⟩
  have B3 := Lib.hid (bnext B2.out hb3)
  clear hb3
  go_wp2_with fail
  refine (is_bad c _ _ HC.out).mono ?_
  rintro e w' ⟨rfl, rfl⟩
  go_wp2_with fail
  refine (is_bad c _ _ HC.out).mono ?_
  rintro e w' ⟨rfl, rfl⟩
  go_wp2_with fail
  refine (alive_any _).mono ?_
  rintro e w4 ⟨rfl, hb4⟩
  have B4 := Lib.hid (bnext B3.out hb4)
  clear hb4
  go_wp2_with fail
  go_ret
  exact ⟨rfl, B4.out⟩

set_option maxHeartbeats 1000000 in
theorem zero (w : World) (p : Nat) (hp : p < 18446744073709551616) (v : Value) (f : List Nat) (hv : Nums w v f) (v2 : Value) (g : List Nat) (hv2 : Nums w v2 g) (h : M.rgt p [f, g] = 0) (hz : M.trim g = []) :
    Calls Try.prog 6 #[.int .u64 p, v, v2] w fun e w' => e = .returned (.bool true) ∧ Below w.heap.size w w' := by
  obtain ⟨hi, ⟨hlf, hwf⟩, hlg, hwg⟩ := M.rgt_ok h
  obtain ⟨h3, hp'⟩ := M.pos_of hi
  have hpos : 0 < p := by omega
  have HV := Lib.hid hv
  have HV2 := Lib.hid hv2
  have HI := Lib.hid hi
  have h1 := fun W (h1 : Nums W v f) (h2 : Nums W v2 g) => right_two p v v2 f g W hp h1 h2
  rw [h] at h1
  have htg := fun W (h1 : Nums W v2 g) => rtrim_any v2 g W h1
  have hgc := fun W (h1 : Nums W v f) (h2 : Nums W v2 g) => gcd2_ok p v v2 f g W h1 h2 h
  have hrg := fun W (h1 : Nums W v f) (h2 : Nums W v2 g) => rgcd_any p v v2 f g W hi hwf hwg hlf hlg h1 h2
  have hd := fun W (h1 : Nums W v f) (h2 : Nums W v2 g) => (divide2_ok p v v2 f g W h1 h2 h).mono fun e w' (hh : _) => show e = .returned (.tuple #[.slice none 0 0, .slice none 0 0, .int .i64 7]) ∧ Below W.heap.size W w' by
    obtain ⟨vq, vr, c, he, hb, hh2, _⟩ := hh
    obtain ⟨rfl, rfl, rfl⟩ := hh2 hz
    exact ⟨he, hb⟩
  rw [hz] at htg
  have H1 := Lib.hid h1
  have HTG := Lib.hid htg
  have HGC := Lib.hid hgc
  have HRG := Lib.hid hrg
  have HD := Lib.hid hd
  obtain ⟨A, cap, rfl⟩ := nums_slice' hv
  obtain ⟨A2, cap2, rfl⟩ := nums_slice' hv2
  have hud : ∀ b : Bool, undef ≠ Value.bool b := fun b h => by cases h
  clear h hz hv hv2 h1 htg hgc hrg hd hi hwf hwg
  go_enter Try.func6, Try.ntmps6
  go_wp2_with fail
  refine (HD.out _ HV.out HV2.out).mono ?_
  rintro e w1 ⟨rfl, hb1⟩
  have B1 := Lib.hid hb1
  clear hb1
  go_wp2_with fail
  refine (HGC.out _ (HV.out.below B1.out) (HV2.out.below B1.out)).mono ?_
  rintro e w2 ⟨vd, D, rfl, hND, hGD, hb2⟩
  have B2 := Lib.hid (bnext B1.out hb2)
  have ND := Lib.hid hND
  clear hb2 hND
  obtain ⟨aD, cD, rfl⟩ := nums_slice' ND.out
  have GD := Lib.hid hGD
  clear hGD
  go_wp2_with fail
  refine (H1.out _ (HV.out.below B2.out) (HV2.out.below B2.out)).mono ?_
  rintro e w3 ⟨rfl, hb3⟩
  have B3 := Lib.hid (bnext B2.out hb3)
  have ND_3 := Lib.hid (ND.out.below hb3)
  clear hb3
  go_wp2_with fail
  refine (HRG.out _ (HV.out.below B3.out) (HV2.out.below B3.out)).mono ?_
  rintro e w4 ⟨ve, E, rfl, hNE, hGE, hb4⟩
  have B4 := Lib.hid (bnext B3.out hb4)
  have ND_4 := Lib.hid (ND_3.out.below hb4)
  have NE := Lib.hid hNE
  clear hb4 hNE
  obtain rfl := M.GcdOf.unique HI.out GD.out hGE
  clear hGE
  go_wp2_with fail
  refine (is_good _ _ _ _ ND_4.out NE.out).mono ?_
  rintro e w5 ⟨rfl, hb5⟩
  have B5 := Lib.hid (bnext B4.out hb5)
  have ND_5 := Lib.hid (ND_4.out.below hb5)
  have NE_5 := Lib.hid (NE.out.below hb5)
  clear hb5
  go_wp2_with fail
  refine (HTG.out _ (HV2.out.below B5.out)).mono ?_
  rintro e w6 ⟨v6, rfl, hNT, hb6⟩
  have B6 := Lib.hid (bnext B5.out hb6)
  have ND_6 := Lib.hid (ND_5.out.below hb6)
  have NE_6 := Lib.hid (NE_5.out.below hb6)
  have NT := Lib.hid hNT
  clear hb6 hNT
  obtain ⟨aT, cT, rfl⟩ := nums_slice' NT.out
  go_wp2_with fail
  refine (is_bad 7 _ _ (by omega)).mono ?_
  rintro e w' ⟨rfl, rfl⟩
  go_wp2_with fail
  go_ret
  exact ⟨rfl, B6.out⟩

set_option maxRecDepth 100000 in
set_option maxHeartbeats 4000000 in
theorem good (w : World) (p : Nat) (hp : p < 18446744073709551616) (v : Value) (f : List Nat) (hv : Nums w v f) (v2 : Value) (g : List Nat) (hv2 : Nums w v2 g) (h : M.rgt p [f, g] = 0) (hz : M.trim g ≠ []) :
    Calls Try.prog 6 #[.int .u64 p, v, v2] w fun e w' => e = .returned (.bool true) ∧ Below w.heap.size w w' := by
  obtain ⟨hi, ⟨hlf, hwf⟩, hlg, hwg⟩ := M.rgt_ok h
  obtain ⟨h3, hp'⟩ := M.pos_of hi
  have hpos : 0 < p := by omega
  have HV := Lib.hid hv
  have HV2 := Lib.hid hv2
  have HI := Lib.hid hi
  have h1 := fun W (h1 : Nums W v f) (h2 : Nums W v2 g) => right_two p v v2 f g W hp h1 h2
  rw [h] at h1
  have htg := fun W (h1 : Nums W v2 g) => rtrim_any v2 g W h1
  have hgc := fun W (h1 : Nums W v f) (h2 : Nums W v2 g) => gcd2_ok p v v2 f g W h1 h2 h
  have hrg := fun W (h1 : Nums W v f) (h2 : Nums W v2 g) => rgcd_any p v v2 f g W hi hwf hwg hlf hlg h1 h2
  have hgp : 0 < (M.trim g).length := by cases hh : M.trim g with | nil => exact absurd hh hz | cons a t => simp
  have hlead := M.lead_of (M.within_trim hwg) (M.trim_trim g) hgp
  have htf := fun W (h1 : Nums W v f) => rtrim_any v f W h1
  have hd := fun W (h1 : Nums W v f) (h2 : Nums W v2 g) => divide2_fine p v v2 f g W h1 h2 h hz
  have hrd := fun W (h1 : Nums W v f) (h2 : Nums W v2 g) => rdivide_any p v v2 f g W hi hwf hwg hlf hlg hz h1 h2
  have hmu := fun W V q (hq : M.within p q = true) (hl : q.length ≤ 1000) (h1 : Nums W V q) (h2 : Nums W v2 g) => rmul_any p v2 V g q W hpos hp' hwg hq (by omega) hl h2 h1
  have had := fun W V V2 q r (hd : M.IsDiv p (M.trim f) (M.trim g) q r) (hl : (M.pmul p g q).length ≤ 1000) (hl2 : r.length ≤ 1000) (h1 : Nums W V (M.pmul p g q)) (h2 : Nums W V2 r) => radd_any p V V2 (M.pmul p g q) r W hpos hp' (M.poly_within hpos _ _) hd.2.2.1 hl hl2 h1 h2
  have hba := fun q r (hd : M.IsDiv p (M.trim f) (M.trim g) q r) => M.div_back' hpos (M.within_trim hwf) (M.trim_trim f) hd
  have hql := fun q r (hd : M.IsDiv p (M.trim f) (M.trim g) q r) => M.isDiv_qlen hi hlead (M.trim_trim g) hd
  have hun := fun q r q' r' (hd : M.IsDiv p (M.trim f) (M.trim g) q r) (hd' : M.IsDiv p (M.trim f) (M.trim g) q' r') => M.isDiv_unique hi hlead (fun _ => rfl) hd hd'
  have hpl := fun q => M.poly_len p (g.length + q.length) (M.mulAt g (M.at_ q))
  have hfl : (M.trim f).length ≤ 201 := Nat.le_trans (M.trim_len_le f) hlf
  have hgl : (M.trim g).length ≤ 201 := Nat.le_trans (M.trim_len_le g) hlg
  obtain ⟨F, eF⟩ : ∃ F, F = M.trim f := ⟨_, rfl⟩
  obtain ⟨K, eK⟩ : ∃ K, K = M.trim g := ⟨_, rfl⟩
  rw [← eF] at htf hd hrd hgc hrg had hba hql hun hfl
  rw [← eK] at htg hd hrd hgc hrg had hba hql hun hgp hgl
  have H1 := Lib.hid h1
  have HTF := Lib.hid htf
  have HTG := Lib.hid htg
  have HD := Lib.hid hd
  have HRD := Lib.hid hrd
  have HGC := Lib.hid hgc
  have HRG := Lib.hid hrg
  have HMU := Lib.hid hmu
  have HAD := Lib.hid had
  have HBA := Lib.hid hba
  have HQL := Lib.hid hql
  have HUN := Lib.hid hun
  have HPL := Lib.hid hpl
  have hkz : ((K.length : Int) == 0) = false := by rw [beq_eq_false_iff_ne]; omega
  obtain ⟨A, cap, rfl⟩ := nums_slice' hv
  obtain ⟨A2, cap2, rfl⟩ := nums_slice' hv2
  have hud : ∀ b : Bool, undef ≠ Value.bool b := fun b h => by cases h
  clear h hz hv hv2 hi hwf hwg hlead eF eK h1 htf htg hd hrd hgc hrg hmu had hba hql hun hpl
  go_enter Try.func6, Try.ntmps6
  go_wp2_with fail
  refine (HD.out _ HV.out HV2.out).mono ?_
  rintro e w1 ⟨vq, vr, q, r, rfl, hNQ, hNR, hDV, hb1⟩
  have B1 := Lib.hid hb1
  have NQ := Lib.hid hNQ
  have NR := Lib.hid hNR
  clear hb1 hNQ hNR
  obtain ⟨aQ, cQ, rfl⟩ := nums_slice' NQ.out
  obtain ⟨aR, cR, rfl⟩ := nums_slice' NR.out
  have hrl := hDV.2.2.2.2.1
  have hqq := HQL.out q r hDV
  have hqw := hDV.1
  have hpl1 := HPL.out q
  have DV := Lib.hid hDV
  have BAK := Lib.hid (HBA.out q r hDV)
  clear hDV
  go_wp2_with fail
  refine (HGC.out _ (HV.out.below B1.out) (HV2.out.below B1.out)).mono ?_
  rintro e w2 ⟨vd, D, rfl, hND, hGD, hb2⟩
  have B2 := Lib.hid (bnext B1.out hb2)
  have NQ_2 := Lib.hid (NQ.out.below hb2)
  have NR_2 := Lib.hid (NR.out.below hb2)
  have ND := Lib.hid hND
  clear hb2 hND
  obtain ⟨aD, cD, rfl⟩ := nums_slice' ND.out
  have GD := Lib.hid hGD
  clear hGD
  go_wp2_with fail
  refine (H1.out _ (HV.out.below B2.out) (HV2.out.below B2.out)).mono ?_
  rintro e w3 ⟨rfl, hb3⟩
  have B3 := Lib.hid (bnext B2.out hb3)
  have NQ_3 := Lib.hid (NQ_2.out.below hb3)
  have NR_3 := Lib.hid (NR_2.out.below hb3)
  have ND_3 := Lib.hid (ND.out.below hb3)
  clear hb3
  go_wp2_with fail
  refine (HRG.out _ (HV.out.below B3.out) (HV2.out.below B3.out)).mono ?_
  rintro e w4 ⟨ve, E, rfl, hNE, hGE, hb4⟩
  have B4 := Lib.hid (bnext B3.out hb4)
  have NQ_4 := Lib.hid (NQ_3.out.below hb4)
  have NR_4 := Lib.hid (NR_3.out.below hb4)
  have ND_4 := Lib.hid (ND_3.out.below hb4)
  have NE := Lib.hid hNE
  clear hb4 hNE
  obtain rfl := M.GcdOf.unique HI.out GD.out hGE
  clear hGE
  go_wp2_with fail
  refine (is_good _ _ _ _ ND_4.out NE.out).mono ?_
  rintro e w5 ⟨rfl, hb5⟩
  have B5 := Lib.hid (bnext B4.out hb5)
  have NQ_5 := Lib.hid (NQ_4.out.below hb5)
  have NR_5 := Lib.hid (NR_4.out.below hb5)
  have ND_5 := Lib.hid (ND_4.out.below hb5)
  have NE_5 := Lib.hid (NE.out.below hb5)
  clear hb5
  go_wp2_with fail
  refine (HTG.out _ (HV2.out.below B5.out)).mono ?_
  rintro e w6 ⟨v6, rfl, hNT, hb6⟩
  have B6 := Lib.hid (bnext B5.out hb6)
  have NQ_6 := Lib.hid (NQ_5.out.below hb6)
  have NR_6 := Lib.hid (NR_5.out.below hb6)
  have ND_6 := Lib.hid (ND_5.out.below hb6)
  have NE_6 := Lib.hid (NE_5.out.below hb6)
  have NT := Lib.hid hNT
  clear hb6 hNT
  obtain ⟨aT, cT, rfl⟩ := nums_slice' NT.out
  go_wp2_with fail
  refine (HRD.out _ (HV.out.below B6.out) (HV2.out.below B6.out)).mono ?_
  rintro e w7 ⟨vq2, vr2, q2, r2, rfl, hNQ2, hNR2, hDV2, hb7⟩
  have B7 := Lib.hid (bnext B6.out hb7)
  have NQ_7 := Lib.hid (NQ_6.out.below hb7)
  have NR_7 := Lib.hid (NR_6.out.below hb7)
  have ND_7 := Lib.hid (ND_6.out.below hb7)
  have NE_7 := Lib.hid (NE_6.out.below hb7)
  have NT_7 := Lib.hid (NT.out.below hb7)
  have NQ2 := Lib.hid hNQ2
  have NR2 := Lib.hid hNR2
  clear hb7 hNQ2 hNR2
  obtain ⟨e1, e2⟩ := HUN.out q r q2 r2 DV.out hDV2
  subst e1
  subst e2
  obtain ⟨aQ2, cQ2, rfl⟩ := nums_slice' NQ2.out
  obtain ⟨aR2, cR2, rfl⟩ := nums_slice' NR2.out
  clear hDV2
  go_wp2_with fail
  refine (is_good _ _ _ _ NQ_7.out NQ2.out).mono ?_
  rintro e w8 ⟨rfl, hb8⟩
  have B8 := Lib.hid (bnext B7.out hb8)
  have NQ_8 := Lib.hid (NQ_7.out.below hb8)
  have NR_8 := Lib.hid (NR_7.out.below hb8)
  have ND_8 := Lib.hid (ND_7.out.below hb8)
  have NE_8 := Lib.hid (NE_7.out.below hb8)
  have NT_8 := Lib.hid (NT_7.out.below hb8)
  have NQ2_8 := Lib.hid (NQ2.out.below hb8)
  have NR2_8 := Lib.hid (NR2.out.below hb8)
  clear hb8
  go_wp2_with fail
  refine (same_any _ _ _ _ NR_8.out NR2_8.out).mono ?_
  rintro e w9 ⟨rfl, hb9⟩
  have B9 := Lib.hid (bnext B8.out hb9)
  have NQ_9 := Lib.hid (NQ_8.out.below hb9)
  have NR_9 := Lib.hid (NR_8.out.below hb9)
  have ND_9 := Lib.hid (ND_8.out.below hb9)
  have NE_9 := Lib.hid (NE_8.out.below hb9)
  have NT_9 := Lib.hid (NT_8.out.below hb9)
  have NQ2_9 := Lib.hid (NQ2_8.out.below hb9)
  have NR2_9 := Lib.hid (NR2_8.out.below hb9)
  clear hb9
  go_wp2_with fail
  refine (HMU.out _ _ q hqw (by omega) NQ_9.out (HV2.out.below B9.out)).mono ?_
  rintro e w10 ⟨v10, rfl, hNM, hb10⟩
  have B10 := Lib.hid (bnext B9.out hb10)
  have NQ_10 := Lib.hid (NQ_9.out.below hb10)
  have NR_10 := Lib.hid (NR_9.out.below hb10)
  have ND_10 := Lib.hid (ND_9.out.below hb10)
  have NE_10 := Lib.hid (NE_9.out.below hb10)
  have NT_10 := Lib.hid (NT_9.out.below hb10)
  have NQ2_10 := Lib.hid (NQ2_9.out.below hb10)
  have NR2_10 := Lib.hid (NR2_9.out.below hb10)
  have NM := Lib.hid hNM
  clear hb10 hNM
  go_wp2_with fail
  refine (HAD.out _ _ _ q r DV.out (by unfold M.pmul; omega) (by omega) NM.out NR_10.out).mono ?_
  rintro e w11 ⟨v11, rfl, hNA, hb11⟩
  have B11 := Lib.hid (bnext B10.out hb11)
  have NQ_11 := Lib.hid (NQ_10.out.below hb11)
  have NR_11 := Lib.hid (NR_10.out.below hb11)
  have ND_11 := Lib.hid (ND_10.out.below hb11)
  have NE_11 := Lib.hid (NE_10.out.below hb11)
  have NT_11 := Lib.hid (NT_10.out.below hb11)
  have NQ2_11 := Lib.hid (NQ2_10.out.below hb11)
  have NR2_11 := Lib.hid (NR2_10.out.below hb11)
  have NM_11 := Lib.hid (NM.out.below hb11)
  have NA := Lib.hid hNA
  clear hb11 hNA
  have hna := NA.out
  rw [BAK.out] at hna
  have NB := Lib.hid hna
  clear hna
  go_wp2_with fail
  refine (HTF.out _ (HV.out.below B11.out)).mono ?_
  rintro e w12 ⟨v12, rfl, hNF, hb12⟩
  have B12 := Lib.hid (bnext B11.out hb12)
  have NQ_12 := Lib.hid (NQ_11.out.below hb12)
  have NR_12 := Lib.hid (NR_11.out.below hb12)
  have ND_12 := Lib.hid (ND_11.out.below hb12)
  have NE_12 := Lib.hid (NE_11.out.below hb12)
  have NT_12 := Lib.hid (NT_11.out.below hb12)
  have NQ2_12 := Lib.hid (NQ2_11.out.below hb12)
  have NR2_12 := Lib.hid (NR2_11.out.below hb12)
  have NM_12 := Lib.hid (NM_11.out.below hb12)
  have NA_12 := Lib.hid (NA.out.below hb12)
  have NB_12 := Lib.hid (NB.out.below hb12)
  have NF := Lib.hid hNF
  clear hb12 hNF
  go_wp2_with fail
  refine (same_any _ _ _ _ NB_12.out NF.out).mono ?_
  rintro e w13 ⟨rfl, hb13⟩
  have B13 := Lib.hid (bnext B12.out hb13)
  have NQ_13 := Lib.hid (NQ_12.out.below hb13)
  have NR_13 := Lib.hid (NR_12.out.below hb13)
  have ND_13 := Lib.hid (ND_12.out.below hb13)
  have NE_13 := Lib.hid (NE_12.out.below hb13)
  have NT_13 := Lib.hid (NT_12.out.below hb13)
  have NQ2_13 := Lib.hid (NQ2_12.out.below hb13)
  have NR2_13 := Lib.hid (NR2_12.out.below hb13)
  have NM_13 := Lib.hid (NM_12.out.below hb13)
  have NA_13 := Lib.hid (NA_12.out.below hb13)
  have NB_13 := Lib.hid (NB_12.out.below hb13)
  have NF_13 := Lib.hid (NF.out.below hb13)
  clear hb13
  go_wp2_with fail
  go_ret
  exact ⟨rfl, B13.out⟩

set_option maxHeartbeats 1000000 in
theorem walk (w : World) (p : Nat) (hp : p < 18446744073709551616) (v : Value) (f : List Nat) (hv : Nums w v f) (v2 : Value) (g : List Nat) (hv2 : Nums w v2 g) :
    Calls Try.prog 6 #[.int .u64 p, v, v2] w fun e w' => e = .returned (.bool true) ∧ Below w.heap.size w w' := by
  by_cases h : M.rgt p [f, g] = 0
  · by_cases hz : M.trim g = []
    · exact zero w p hp v f hv v2 g hv2 h hz
    · exact good w p hp v f hv v2 g hv2 h hz
  · exact bad w p hp v f hv v2 g hv2 h
end Go.Proofs.Ytafoonhmfieikaa.polyQuotientsW


namespace Go.Proofs.Ytafoonhmfieikaa.polyQuotients
open Go.ChangeShapes Go.WideShapes Go.ChangeAt Go.RowKit
set_option linter.unusedVariables false

theorem own : ownKnob Try.prog.godebug = none := by kernel_rfl
theorem laidOut : laidOutB Try.prog = true := by kernel_rfl

set_option maxRecDepth 100000 in
theorem lifted (os : Os) (started : os.Started) (H : Type) (enc : TypeId × Value → H) :
    ReturnsInHanded {} Try.checked os 6 .any (Rows.polyQuotientsSpec.pre6 enc Try.prog Try.f6 Rows.polyQuotientsRow.domain false) (Rows.polyQuotientsSpec.post enc Try.prog Try.f6 false true false false) := by
  refine returnsInHanded_of_change_sized (C := Try.checked) own started (by kernel_rfl) Try.func6
    (ChangeSpec.witness6 (enc := enc) (C := Try.checked) false ⟨#[], #[.int .u64 0, .slice none 0 0, .slice none 0 0], []⟩ 8 (by kernel_rfl) (by kernel_rfl) (by kernel_rfl) (by kernel_rfl)) ?_
  intro W base args ds gs before hval0 hW hcnd hsz0 _
  have hsz : (DataW.weightsEach Try.prog (Try.f6.params.toList ++ Rows.polyQuotientsSpec.plain.varTypes Try.prog) (ds ++ gs)).all (· ≤ reachBytes) = true := hsz0
  have hval : ∀ (j : Nat) t v, Try.f6.params[j]? = some t → args[j]? = some v → Value.okWide Try.prog W .any base t v := hval0
  have hW' := hW
  obtain ⟨p, q, hA0, hV, rfl, hfz, hnd⟩ := hW
  have hA : DataW.TrodAll enc Try.prog W 0 (fun _ => true) true Try.f6.params.toList args.toList ds p := hA0
  rw [Try.params6] at hA hval hsz
  obtain ⟨v0, vs0, d0, ds0, p0, q0, hargs, rfl, rfl, h0, r0⟩ := trodAll_cons hA
  obtain ⟨v1, vs1, d1, ds1, p1, q1, rfl, rfl, rfl, h1, r1⟩ := trodAll_cons r0
  obtain ⟨v2, vs2, d2, ds2, p2, q2, rfl, rfl, rfl, h2, r2⟩ := trodAll_cons r1
  obtain ⟨rfl, rfl, rfl⟩ := trodAll_nil r2
  obtain rfl : args = #[v0, v1, v2] := by cases args; simp_all
  obtain ⟨rfl, rfl⟩ := trodVars_none hV
  obtain ⟨i0, rfl, rfl, rfl, w0⟩ := open_int Try.underlying22 (hval 0 22 v0 rfl rfl) h0
  have b0 := bounds_u64 w0
  obtain ⟨n0, rfl⟩ := Int.eq_ofNat_of_zero_le b0.1
  obtain ⟨a1, len1, cap1, rfl⟩ := okWide_slice Try.underlying23 (hval 1 23 v1 rfl rfl)
  have k1 := h1
  have lt1 : ∀ x ∈ p1, x.block < W.heap.size := by obtain ⟨m, hm⟩ := k1; exact DataW.trod_lt m _ _ _ hm
  obtain ⟨z1, w1⟩ : ∃ zs, Nums W (.slice a1 len1 cap1) zs := by
    obtain ⟨fuel, hf⟩ := h1
    rcases open_ints Try.underlying23 Try.underlying22 (by kernel_rfl) hf with ⟨hcs, _⟩ | ⟨x, l, c, zs, hcs, _, hl, hm, hz, hx, hcell, hwz⟩
    · simp [Value.cells] at hcs
      obtain ⟨rfl, rfl, rfl⟩ := hcs
      exact nums_row_nil W
    · simp [Value.cells] at hcs
      obtain ⟨rfl, rfl, rfl⟩ := hcs
      have hs := sized_slice hsz (j := 1) (t := 23) (e := 22) rfl (by simp only [Prod.mk.injEq] at hx; exact congrArg some hx.1) Try.underlying23
      rw [show Try.prog.bytesOf 22 = 8 by kernel_rfl] at hs
      exact nums_row W x _ _ zs hl (by simpa using hz) hcell hwz (by simp only [lits, List.length_map, List.length_take, List.length_drop, reachBytes] at hs; simp at hz; omega)
  obtain ⟨a2, len2, cap2, rfl⟩ := okWide_slice Try.underlying23 (hval 2 23 v2 rfl rfl)
  have k2 := h2
  have lt2 : ∀ x ∈ p2, x.block < W.heap.size := by obtain ⟨m, hm⟩ := k2; exact DataW.trod_lt m _ _ _ hm
  obtain ⟨z2, w2⟩ : ∃ zs, Nums W (.slice a2 len2 cap2) zs := by
    obtain ⟨fuel, hf⟩ := h2
    rcases open_ints Try.underlying23 Try.underlying22 (by kernel_rfl) hf with ⟨hcs, _⟩ | ⟨x, l, c, zs, hcs, _, hl, hm, hz, hx, hcell, hwz⟩
    · simp [Value.cells] at hcs
      obtain ⟨rfl, rfl, rfl⟩ := hcs
      exact nums_row_nil W
    · simp [Value.cells] at hcs
      obtain ⟨rfl, rfl, rfl⟩ := hcs
      have hs := sized_slice hsz (j := 2) (t := 23) (e := 22) rfl (by simp only [Prod.mk.injEq] at hx; exact congrArg some hx.1) Try.underlying23
      rw [show Try.prog.bytesOf 22 = 8 by kernel_rfl] at hs
      exact nums_row W x _ _ zs hl (by simpa using hz) hcell hwz (by simp only [lits, List.length_map, List.length_take, List.length_drop, reachBytes] at hs; simp at hz; omega)
  clear hA0 hval0 hsz0 hsz
  refine (polyQuotientsW.walk W n0 (by omega) _ z1 w1 _ z2 w2).mono fun e W' ⟨he, bel⟩ => ?_
  subst he
  exact ⟨_, rfl, _, _, _, [], _, [], hW', trodAll_mk1 (shut_bool Try.underlying4 _), (trodAll_cons_mk (shut_int Try.underlying22 w0) (trodAll_cons_mk (Below.trod laidOut (by kernel_rfl) (of_decide_eq_true (by kernel_rfl)) k1 bel lt1) (trodAll_cons_mk (Below.trod laidOut (by kernel_rfl) (of_decide_eq_true (by kernel_rfl)) k2 bel lt2) trodAll_mk0))), rfl, bel.frame _, fun h => by cases h⟩

theorem over : Rows.polyQuotientsRow.holds Try.pinned (OpenSpec.ofChange Rows.polyQuotientsSpec) :=
  OpenClaim.holds_of_wide 6 Try.f6 rfl rfl rfl rfl rfl rfl rfl ⟨rfl, rfl, rfl, rfl, rfl⟩ rfl rfl rfl rfl rfl (by kernel_rfl) Try.func6 (by kernel_rfl)
    (of_decide_eq_true (by kernel_rfl)) (by unfold Func.isWrapper; first | (rw [if_pos (by decide +kernel)]; kernel_rfl) | (rw [if_neg (by decide +kernel)]; exact ⟨rfl, rfl⟩))
    (fun os started H enc _ => lifted os started H enc)

/-- THE STATEMENT -/
theorem proved : Rows.PolyQuotientsSaid := over
end Go.Proofs.Ytafoonhmfieikaa.polyQuotients
