/-
  The walk of the law PolySums.
-/
import Derived.Test.YtafoonhmfieikaaLawLib
import Derived.Test.YtafoonhmfieikaaApi1
import Derived.Test.YtafoonhmfieikaaRef2c
namespace Go.Proofs.Ytafoonhmfieikaa.polySumsW
open Go.RowKit
set_option linter.unusedVariables false

set_option maxHeartbeats 1000000 in
theorem fbad (w : World) (p : Nat) (hp : p < 18446744073709551616) (v : Value) (f : List Nat) (hv : Nums w v f) (v2 : Value) (g : List Nat) (hv2 : Nums w v2 g) (k : Nat) (hk : k < 18446744073709551616) (h : M.chk p f 201 ≠ 0) :
    Calls Try.prog 4 #[.int .u64 p, .agg #[v, v2], .int .u64 k] w fun e w' => e = .returned (.bool true) ∧ Below w.heap.size w w' := by
  have HV := Lib.hid hv
  have HV2 := Lib.hid hv2
  have H1 := Lib.hid fun W (h1 : Nums W v f) (h2 : Nums W v2 g) => right_two p v v2 f g W hp h1 h2
  have H1' := Lib.hid fun W (h1 : Nums W v f) => right_one p v f W hp h1
  have h2' : M.rgt p [f, g] = M.chk p f 201 := by rw [M.rgt_two, if_neg h]
  have h1 := fun W (h1 : Nums W v f) (h2 : Nums W v2 g) => right_two p v v2 f g W hp h1 h2
  have ha := fun W (h1 : Nums W v f) (h2 : Nums W v2 g) => add2_bad p v v2 f g W hp h1 h2 (by rw [h2']; exact h)
  have hs := fun W (h1 : Nums W v f) (h2 : Nums W v2 g) => sub2_bad p v v2 f g W hp h1 h2 (by rw [h2']; exact h)
  have hm := fun W (h1 : Nums W v f) => scale_bad p k v f W hp h1 h
  rw [h2'] at ha hs h1
  obtain ⟨c, ec⟩ : ∃ c, c = M.chk p f 201 := ⟨_, rfl⟩
  rw [← ec] at h h1 H1' ha hs hm
  have H1 := Lib.hid h1
  have HA := Lib.hid ha
  have HS := Lib.hid hs
  have HM := Lib.hid hm
  have HC := Lib.hid h
  have hb : (c != 0) = true := by rw [bne_iff_ne]; exact h
  obtain ⟨A, cap, rfl⟩ := nums_slice' hv
  obtain ⟨A2, cap2, rfl⟩ := nums_slice' hv2
  have hud : ∀ b : Bool, undef ≠ Value.bool b := fun b h => by cases h
  clear ec h hv hv2 h1 ha hs hm h2'
  go_enter Try.func4, Try.ntmps4
  go_wp2_with fail
  go_quiet (fail)
  obtain ⟨w0, hw0⟩ : ∃ w0, (w.alloc (.cells #[.slice A f.length cap, .slice A2 g.length cap2] 37)).drewN nq = w0 := ⟨_, rfl⟩
  have B0 := Lib.hid (show Below w.heap.size w w0 by rw [← hw0]; exact below_drewN (balloc w _) nq)
  rw [hw0]
  clear hw0
  go_wp2_with fail
  refine (H1.out _ (HV.out.below B0.out) (HV2.out.below B0.out)).mono ?_
  rintro e w1 ⟨rfl, hb1⟩
  have B1 := Lib.hid (bnext B0.out hb1)
  clear hb1
  go_wp2_with fail
  refine (H1'.out _ (HV.out.below B1.out)).mono ?_
  rintro e w2 ⟨rfl, hb2⟩
  have B2 := Lib.hid (bnext B1.out hb2)
  clear hb2
  go_wp2_with fail
  refine (HA.out _ (HV.out.below B2.out) (HV2.out.below B2.out)).mono ?_
  rintro e w3 ⟨rfl, hb3⟩
  have B3 := Lib.hid (bnext B2.out hb3)
  clear hb3
  go_wp2_with fail
  refine (HS.out _ (HV.out.below B3.out) (HV2.out.below B3.out)).mono ?_
  rintro e w4 ⟨rfl, hb4⟩
  have B4 := Lib.hid (bnext B3.out hb4)
  clear hb4
  go_wp2_with fail
  refine (HM.out _ (HV.out.below B4.out)).mono ?_
  rintro e w5 ⟨rfl, hb5⟩
  have B5 := Lib.hid (bnext B4.out hb5)
  clear hb5
  go_wp2_with fail
  refine (is_bad c _ _ HC.out).mono ?_
  rintro e w' ⟨rfl, rfl⟩
  go_wp2_with fail
  refine (is_bad c _ _ HC.out).mono ?_
  rintro e w' ⟨rfl, rfl⟩
  go_wp2_with fail
  refine (is_bad c _ _ HC.out).mono ?_
  rintro e w' ⟨rfl, rfl⟩
  go_wp2_with fail
  refine (alive_any _).mono ?_
  rintro e w6 ⟨rfl, hb6⟩
  have B6 := Lib.hid (bnext B5.out hb6)
  clear hb6
  go_wp2_with fail
  go_ret
  exact ⟨rfl, B6.out⟩

set_option maxHeartbeats 1000000 in
theorem ok_11 (w : World) (p : Nat) (hp : p < 18446744073709551616) (v : Value) (f : List Nat) (hv : Nums w v f) (v2 : Value) (g : List Nat) (hv2 : Nums w v2 g) (k : Nat) (hk : k < 18446744073709551616) (h : M.chk p f 201 = 0) (hc : k < p) (hg : M.rgt p [f, g] = 0) :
    Calls Try.prog 4 #[.int .u64 p, .agg #[v, v2], .int .u64 k] w fun e w' => e = .returned (.bool true) ∧ Below w.heap.size w w' := by
  obtain ⟨hi, hl, hw⟩ := M.chk_ok h
  obtain ⟨h3, hp'⟩ := M.pos_of hi
  have HV := Lib.hid hv
  have HV2 := Lib.hid hv2
  have h1 := fun W (h1 : Nums W v f) (h2 : Nums W v2 g) => right_two p v v2 f g W hp h1 h2
  have h1' := fun W (h1 : Nums W v f) => right_one p v f W hp h1
  rw [h] at h1'
  have hok := M.rgt_ok hg
  rw [hg] at h1
  have ha := fun W (h1 : Nums W v f) (h2 : Nums W v2 g) => add2_ok p v v2 f g W h1 h2 hg
  have hs := fun W (h1 : Nums W v f) (h2 : Nums W v2 g) => sub2_ok p v v2 f g W h1 h2 hg
  have hra := fun W (h1 : Nums W v f) (h2 : Nums W v2 g) => radd_any p v v2 f g W (by omega) hp' hw hok.2.2.2 (by omega) (by omega) h1 h2
  have hrs := fun W (h1 : Nums W v f) (h2 : Nums W v2 g) => rsub_any p v v2 f g W (by omega) hp' hw hok.2.2.2 (by omega) (by omega) h1 h2
  have HRA := Lib.hid hra
  have HRS := Lib.hid hrs
  have hxm : k % p < p := Nat.mod_lt _ (by omega)
  have hrc := fun W (h1 : Nums W v f) => rscale_any p (k % p) v f W (by omega) hp' hxm hw (by omega) h1
  rw [Int.natCast_emod] at hrc
  have HRC := Lib.hid hrc
  have h6 := fun W => with_one p k W hk
  have hm := fun W (h1 : Nums W v f) => scale_ok p k v f W hc h1 h
  rw [err_in hc] at h6
  rw [show M.pscale p f k = M.pscale p f (k % p) by rw [Nat.mod_eq_of_lt hc]] at hm
  have H6 := Lib.hid h6
  have HM := Lib.hid hm
  have HA := Lib.hid ha
  have HS := Lib.hid hs
  have H1 := Lib.hid h1
  have H1' := Lib.hid h1'
  have hud : ∀ b : Bool, undef ≠ Value.bool b := fun b h => by cases h
  obtain ⟨A, cap, rfl⟩ := nums_slice' hv
  obtain ⟨A2, cap2, rfl⟩ := nums_slice' hv2
  clear h hg hv hv2 h1 h1' ha hs hm hrc h6 hi hw hc hra hrs hok
  go_enter Try.func4, Try.ntmps4
  go_wp2_with fail
  go_quiet (fail)
  obtain ⟨w0, hw0⟩ : ∃ w0, (w.alloc (.cells #[.slice A f.length cap, .slice A2 g.length cap2] 37)).drewN nq = w0 := ⟨_, rfl⟩
  have B0 := Lib.hid (show Below w.heap.size w w0 by rw [← hw0]; exact below_drewN (balloc w _) nq)
  rw [hw0]
  clear hw0
  go_wp2_with fail
  refine (H1.out _ (HV.out.below B0.out) (HV2.out.below B0.out)).mono ?_
  rintro e w1 ⟨rfl, hb1⟩
  have B1 := Lib.hid (bnext B0.out hb1)
  clear hb1
  go_wp2_with fail
  refine (H1'.out _ (HV.out.below B1.out)).mono ?_
  rintro e w2 ⟨rfl, hb2⟩
  have B2 := Lib.hid (bnext B1.out hb2)
  clear hb2
  go_wp2_with fail
  refine (HA.out _ (HV.out.below B2.out) (HV2.out.below B2.out)).mono ?_
  rintro e w3 ⟨v3, rfl, hNA, hb3⟩
  have B3 := Lib.hid (bnext B2.out hb3)
  have NA := Lib.hid hNA
  clear hb3 hNA
  go_wp2_with fail
  refine (HS.out _ (HV.out.below B3.out) (HV2.out.below B3.out)).mono ?_
  rintro e w4 ⟨v4, rfl, hNS, hb4⟩
  have B4 := Lib.hid (bnext B3.out hb4)
  have NA_4 := Lib.hid (NA.out.below hb4)
  have NS := Lib.hid hNS
  clear hb4 hNS
  go_wp2_with fail
  refine (HM.out _ (HV.out.below B4.out)).mono ?_
  rintro e w5 ⟨v5, rfl, hNM, hb5⟩
  have B5 := Lib.hid (bnext B4.out hb5)
  have NA_5 := Lib.hid (NA_4.out.below hb5)
  have NS_5 := Lib.hid (NS.out.below hb5)
  have NM := Lib.hid hNM
  clear hb5 hNM
  go_wp2_with fail
  refine (HRC.out _ (HV.out.below B5.out)).mono ?_
  rintro e w6 ⟨v6, rfl, hNC, hb6⟩
  have B6 := Lib.hid (bnext B5.out hb6)
  have NA_6 := Lib.hid (NA_5.out.below hb6)
  have NS_6 := Lib.hid (NS_5.out.below hb6)
  have NM_6 := Lib.hid (NM.out.below hb6)
  have NC := Lib.hid hNC
  clear hb6 hNC
  go_wp2_with fail
  refine (H6.out _).mono ?_
  rintro e w7 ⟨rfl, hb7⟩
  have B7 := Lib.hid (bnext B6.out hb7)
  have NA_7 := Lib.hid (NA_6.out.below hb7)
  have NS_7 := Lib.hid (NS_6.out.below hb7)
  have NM_7 := Lib.hid (NM_6.out.below hb7)
  have NC_7 := Lib.hid (NC.out.below hb7)
  clear hb7
  go_wp2_with fail
  refine (is_good _ _ _ _ NM_7.out NC_7.out).mono ?_
  rintro e w8 ⟨rfl, hb8⟩
  have B8 := Lib.hid (bnext B7.out hb8)
  have NA_8 := Lib.hid (NA_7.out.below hb8)
  have NS_8 := Lib.hid (NS_7.out.below hb8)
  have NM_8 := Lib.hid (NM_7.out.below hb8)
  have NC_8 := Lib.hid (NC_7.out.below hb8)
  clear hb8
  go_wp2_with fail
  refine (HRA.out _ (HV.out.below B8.out) (HV2.out.below B8.out)).mono ?_
  rintro e w9 ⟨v9, rfl, hNRA, hb9⟩
  have B9 := Lib.hid (bnext B8.out hb9)
  have NA_9 := Lib.hid (NA_8.out.below hb9)
  have NS_9 := Lib.hid (NS_8.out.below hb9)
  have NM_9 := Lib.hid (NM_8.out.below hb9)
  have NC_9 := Lib.hid (NC_8.out.below hb9)
  have NRA := Lib.hid hNRA
  clear hb9 hNRA
  go_wp2_with fail
  refine (is_good _ _ _ _ NA_9.out NRA.out).mono ?_
  rintro e w10 ⟨rfl, hb10⟩
  have B10 := Lib.hid (bnext B9.out hb10)
  have NA_10 := Lib.hid (NA_9.out.below hb10)
  have NS_10 := Lib.hid (NS_9.out.below hb10)
  have NM_10 := Lib.hid (NM_9.out.below hb10)
  have NC_10 := Lib.hid (NC_9.out.below hb10)
  have NRA_10 := Lib.hid (NRA.out.below hb10)
  clear hb10
  go_wp2_with fail
  refine (HRS.out _ (HV.out.below B10.out) (HV2.out.below B10.out)).mono ?_
  rintro e w11 ⟨v11, rfl, hNRS, hb11⟩
  have B11 := Lib.hid (bnext B10.out hb11)
  have NA_11 := Lib.hid (NA_10.out.below hb11)
  have NS_11 := Lib.hid (NS_10.out.below hb11)
  have NM_11 := Lib.hid (NM_10.out.below hb11)
  have NC_11 := Lib.hid (NC_10.out.below hb11)
  have NRA_11 := Lib.hid (NRA_10.out.below hb11)
  have NRS := Lib.hid hNRS
  clear hb11 hNRS
  go_wp2_with fail
  refine (is_good _ _ _ _ NS_11.out NRS.out).mono ?_
  rintro e w12 ⟨rfl, hb12⟩
  have B12 := Lib.hid (bnext B11.out hb12)
  have NA_12 := Lib.hid (NA_11.out.below hb12)
  have NS_12 := Lib.hid (NS_11.out.below hb12)
  have NM_12 := Lib.hid (NM_11.out.below hb12)
  have NC_12 := Lib.hid (NC_11.out.below hb12)
  have NRA_12 := Lib.hid (NRA_11.out.below hb12)
  have NRS_12 := Lib.hid (NRS.out.below hb12)
  clear hb12
  go_wp2_with fail
  go_ret
  exact ⟨rfl, B12.out⟩

set_option maxHeartbeats 1000000 in
theorem ok_10 (w : World) (p : Nat) (hp : p < 18446744073709551616) (v : Value) (f : List Nat) (hv : Nums w v f) (v2 : Value) (g : List Nat) (hv2 : Nums w v2 g) (k : Nat) (hk : k < 18446744073709551616) (h : M.chk p f 201 = 0) (hc : k < p) (hg : M.rgt p [f, g] ≠ 0) :
    Calls Try.prog 4 #[.int .u64 p, .agg #[v, v2], .int .u64 k] w fun e w' => e = .returned (.bool true) ∧ Below w.heap.size w w' := by
  obtain ⟨hi, hl, hw⟩ := M.chk_ok h
  obtain ⟨h3, hp'⟩ := M.pos_of hi
  have HV := Lib.hid hv
  have HV2 := Lib.hid hv2
  have h1 := fun W (h1 : Nums W v f) (h2 : Nums W v2 g) => right_two p v v2 f g W hp h1 h2
  have h1' := fun W (h1 : Nums W v f) => right_one p v f W hp h1
  rw [h] at h1'
  have ha := fun W (h1 : Nums W v f) (h2 : Nums W v2 g) => add2_bad p v v2 f g W hp h1 h2 hg
  have hs := fun W (h1 : Nums W v f) (h2 : Nums W v2 g) => sub2_bad p v v2 f g W hp h1 h2 hg
  obtain ⟨c, ec⟩ : ∃ c, c = M.rgt p [f, g] := ⟨_, rfl⟩
  rw [← ec] at hg h1 ha hs
  have HC := Lib.hid hg
  have hb : (c != 0) = true := by rw [bne_iff_ne]; exact hg
  have hxm : k % p < p := Nat.mod_lt _ (by omega)
  have hrc := fun W (h1 : Nums W v f) => rscale_any p (k % p) v f W (by omega) hp' hxm hw (by omega) h1
  rw [Int.natCast_emod] at hrc
  have HRC := Lib.hid hrc
  have h6 := fun W => with_one p k W hk
  have hm := fun W (h1 : Nums W v f) => scale_ok p k v f W hc h1 h
  rw [err_in hc] at h6
  rw [show M.pscale p f k = M.pscale p f (k % p) by rw [Nat.mod_eq_of_lt hc]] at hm
  have H6 := Lib.hid h6
  have HM := Lib.hid hm
  have HA := Lib.hid ha
  have HS := Lib.hid hs
  have H1 := Lib.hid h1
  have H1' := Lib.hid h1'
  have hud : ∀ b : Bool, undef ≠ Value.bool b := fun b h => by cases h
  obtain ⟨A, cap, rfl⟩ := nums_slice' hv
  obtain ⟨A2, cap2, rfl⟩ := nums_slice' hv2
  clear h hg hv hv2 h1 h1' ha hs hm hrc h6 hi hw hc ec
  go_enter Try.func4, Try.ntmps4
  go_wp2_with fail
  go_quiet (fail)
  obtain ⟨w0, hw0⟩ : ∃ w0, (w.alloc (.cells #[.slice A f.length cap, .slice A2 g.length cap2] 37)).drewN nq = w0 := ⟨_, rfl⟩
  have B0 := Lib.hid (show Below w.heap.size w w0 by rw [← hw0]; exact below_drewN (balloc w _) nq)
  rw [hw0]
  clear hw0
  go_wp2_with fail
  refine (H1.out _ (HV.out.below B0.out) (HV2.out.below B0.out)).mono ?_
  rintro e w1 ⟨rfl, hb1⟩
  have B1 := Lib.hid (bnext B0.out hb1)
  clear hb1
  go_wp2_with fail
  refine (H1'.out _ (HV.out.below B1.out)).mono ?_
  rintro e w2 ⟨rfl, hb2⟩
  have B2 := Lib.hid (bnext B1.out hb2)
  clear hb2
  go_wp2_with fail
  refine (HA.out _ (HV.out.below B2.out) (HV2.out.below B2.out)).mono ?_
  rintro e w3 ⟨rfl, hb3⟩
  have B3 := Lib.hid (bnext B2.out hb3)
  clear hb3
  go_wp2_with fail
  refine (HS.out _ (HV.out.below B3.out) (HV2.out.below B3.out)).mono ?_
  rintro e w4 ⟨rfl, hb4⟩
  have B4 := Lib.hid (bnext B3.out hb4)
  clear hb4
  go_wp2_with fail
  refine (HM.out _ (HV.out.below B4.out)).mono ?_
  rintro e w5 ⟨v5, rfl, hNM, hb5⟩
  have B5 := Lib.hid (bnext B4.out hb5)
  have NM := Lib.hid hNM
  clear hb5 hNM
  go_wp2_with fail
  refine (HRC.out _ (HV.out.below B5.out)).mono ?_
  rintro e w6 ⟨v6, rfl, hNC, hb6⟩
  have B6 := Lib.hid (bnext B5.out hb6)
  have NM_6 := Lib.hid (NM.out.below hb6)
  have NC := Lib.hid hNC
  clear hb6 hNC
  go_wp2_with fail
  refine (H6.out _).mono ?_
  rintro e w7 ⟨rfl, hb7⟩
  have B7 := Lib.hid (bnext B6.out hb7)
  have NM_7 := Lib.hid (NM_6.out.below hb7)
  have NC_7 := Lib.hid (NC.out.below hb7)
  clear hb7
  go_wp2_with fail
  refine (is_good _ _ _ _ NM_7.out NC_7.out).mono ?_
  rintro e w8 ⟨rfl, hb8⟩
  have B8 := Lib.hid (bnext B7.out hb8)
  have NM_8 := Lib.hid (NM_7.out.below hb8)
  have NC_8 := Lib.hid (NC_7.out.below hb8)
  clear hb8
  go_wp2_with fail
  refine (is_bad c _ _ HC.out).mono ?_
  rintro e w' ⟨rfl, rfl⟩
  go_wp2_with fail
  refine (is_bad c _ _ HC.out).mono ?_
  rintro e w' ⟨rfl, rfl⟩
  go_wp2_with fail
  go_ret
  exact ⟨rfl, B8.out⟩

set_option maxHeartbeats 1000000 in
theorem ok_01 (w : World) (p : Nat) (hp : p < 18446744073709551616) (v : Value) (f : List Nat) (hv : Nums w v f) (v2 : Value) (g : List Nat) (hv2 : Nums w v2 g) (k : Nat) (hk : k < 18446744073709551616) (h : M.chk p f 201 = 0) (hc : ¬ k < p) (hg : M.rgt p [f, g] = 0) :
    Calls Try.prog 4 #[.int .u64 p, .agg #[v, v2], .int .u64 k] w fun e w' => e = .returned (.bool true) ∧ Below w.heap.size w w' := by
  obtain ⟨hi, hl, hw⟩ := M.chk_ok h
  obtain ⟨h3, hp'⟩ := M.pos_of hi
  have HV := Lib.hid hv
  have HV2 := Lib.hid hv2
  have h1 := fun W (h1 : Nums W v f) (h2 : Nums W v2 g) => right_two p v v2 f g W hp h1 h2
  have h1' := fun W (h1 : Nums W v f) => right_one p v f W hp h1
  rw [h] at h1'
  have hok := M.rgt_ok hg
  rw [hg] at h1
  have ha := fun W (h1 : Nums W v f) (h2 : Nums W v2 g) => add2_ok p v v2 f g W h1 h2 hg
  have hs := fun W (h1 : Nums W v f) (h2 : Nums W v2 g) => sub2_ok p v v2 f g W h1 h2 hg
  have hra := fun W (h1 : Nums W v f) (h2 : Nums W v2 g) => radd_any p v v2 f g W (by omega) hp' hw hok.2.2.2 (by omega) (by omega) h1 h2
  have hrs := fun W (h1 : Nums W v f) (h2 : Nums W v2 g) => rsub_any p v v2 f g W (by omega) hp' hw hok.2.2.2 (by omega) (by omega) h1 h2
  have HRA := Lib.hid hra
  have HRS := Lib.hid hrs
  have hxm : k % p < p := Nat.mod_lt _ (by omega)
  have hrc := fun W (h1 : Nums W v f) => rscale_any p (k % p) v f W (by omega) hp' hxm hw (by omega) h1
  rw [Int.natCast_emod] at hrc
  have HRC := Lib.hid hrc
  have h6 := fun W => with_one p k W hk
  have hm := fun W (h1 : Nums W v f) => scale_arg p k v f W hk (by omega) h1 h
  rw [err_out hc] at h6
  have H6 := Lib.hid h6
  have HM := Lib.hid hm
  have HA := Lib.hid ha
  have HS := Lib.hid hs
  have H1 := Lib.hid h1
  have H1' := Lib.hid h1'
  have hud : ∀ b : Bool, undef ≠ Value.bool b := fun b h => by cases h
  obtain ⟨A, cap, rfl⟩ := nums_slice' hv
  obtain ⟨A2, cap2, rfl⟩ := nums_slice' hv2
  clear h hg hv hv2 h1 h1' ha hs hm hrc h6 hi hw hc hra hrs hok
  go_enter Try.func4, Try.ntmps4
  go_wp2_with fail
  go_quiet (fail)
  obtain ⟨w0, hw0⟩ : ∃ w0, (w.alloc (.cells #[.slice A f.length cap, .slice A2 g.length cap2] 37)).drewN nq = w0 := ⟨_, rfl⟩
  have B0 := Lib.hid (show Below w.heap.size w w0 by rw [← hw0]; exact below_drewN (balloc w _) nq)
  rw [hw0]
  clear hw0
  go_wp2_with fail
  refine (H1.out _ (HV.out.below B0.out) (HV2.out.below B0.out)).mono ?_
  rintro e w1 ⟨rfl, hb1⟩
  have B1 := Lib.hid (bnext B0.out hb1)
  clear hb1
  go_wp2_with fail
  refine (H1'.out _ (HV.out.below B1.out)).mono ?_
  rintro e w2 ⟨rfl, hb2⟩
  have B2 := Lib.hid (bnext B1.out hb2)
  clear hb2
  go_wp2_with fail
  refine (HA.out _ (HV.out.below B2.out) (HV2.out.below B2.out)).mono ?_
  rintro e w3 ⟨v3, rfl, hNA, hb3⟩
  have B3 := Lib.hid (bnext B2.out hb3)
  have NA := Lib.hid hNA
  clear hb3 hNA
  go_wp2_with fail
  refine (HS.out _ (HV.out.below B3.out) (HV2.out.below B3.out)).mono ?_
  rintro e w4 ⟨v4, rfl, hNS, hb4⟩
  have B4 := Lib.hid (bnext B3.out hb4)
  have NA_4 := Lib.hid (NA.out.below hb4)
  have NS := Lib.hid hNS
  clear hb4 hNS
  go_wp2_with fail
  refine (HM.out _ (HV.out.below B4.out)).mono ?_
  rintro e w5 ⟨rfl, hb5⟩
  have B5 := Lib.hid (bnext B4.out hb5)
  have NA_5 := Lib.hid (NA_4.out.below hb5)
  have NS_5 := Lib.hid (NS.out.below hb5)
  clear hb5
  go_wp2_with fail
  refine (HRC.out _ (HV.out.below B5.out)).mono ?_
  rintro e w6 ⟨v6, rfl, hNC, hb6⟩
  have B6 := Lib.hid (bnext B5.out hb6)
  have NA_6 := Lib.hid (NA_5.out.below hb6)
  have NS_6 := Lib.hid (NS_5.out.below hb6)
  have NC := Lib.hid hNC
  clear hb6 hNC
  go_wp2_with fail
  refine (H6.out _).mono ?_
  rintro e w7 ⟨rfl, hb7⟩
  have B7 := Lib.hid (bnext B6.out hb7)
  have NA_7 := Lib.hid (NA_6.out.below hb7)
  have NS_7 := Lib.hid (NS_6.out.below hb7)
  have NC_7 := Lib.hid (NC.out.below hb7)
  clear hb7
  go_wp2_with fail
  refine (is_bad 2 _ _ (by omega)).mono ?_
  rintro e w' ⟨rfl, rfl⟩
  go_wp2_with fail
  refine (HRA.out _ (HV.out.below B7.out) (HV2.out.below B7.out)).mono ?_
  rintro e w8 ⟨v8, rfl, hNRA, hb8⟩
  have B8 := Lib.hid (bnext B7.out hb8)
  have NA_8 := Lib.hid (NA_7.out.below hb8)
  have NS_8 := Lib.hid (NS_7.out.below hb8)
  have NC_8 := Lib.hid (NC_7.out.below hb8)
  have NRA := Lib.hid hNRA
  clear hb8 hNRA
  go_wp2_with fail
  refine (is_good _ _ _ _ NA_8.out NRA.out).mono ?_
  rintro e w9 ⟨rfl, hb9⟩
  have B9 := Lib.hid (bnext B8.out hb9)
  have NA_9 := Lib.hid (NA_8.out.below hb9)
  have NS_9 := Lib.hid (NS_8.out.below hb9)
  have NC_9 := Lib.hid (NC_8.out.below hb9)
  have NRA_9 := Lib.hid (NRA.out.below hb9)
  clear hb9
  go_wp2_with fail
  refine (HRS.out _ (HV.out.below B9.out) (HV2.out.below B9.out)).mono ?_
  rintro e w10 ⟨v10, rfl, hNRS, hb10⟩
  have B10 := Lib.hid (bnext B9.out hb10)
  have NA_10 := Lib.hid (NA_9.out.below hb10)
  have NS_10 := Lib.hid (NS_9.out.below hb10)
  have NC_10 := Lib.hid (NC_9.out.below hb10)
  have NRA_10 := Lib.hid (NRA_9.out.below hb10)
  have NRS := Lib.hid hNRS
  clear hb10 hNRS
  go_wp2_with fail
  refine (is_good _ _ _ _ NS_10.out NRS.out).mono ?_
  rintro e w11 ⟨rfl, hb11⟩
  have B11 := Lib.hid (bnext B10.out hb11)
  have NA_11 := Lib.hid (NA_10.out.below hb11)
  have NS_11 := Lib.hid (NS_10.out.below hb11)
  have NC_11 := Lib.hid (NC_10.out.below hb11)
  have NRA_11 := Lib.hid (NRA_10.out.below hb11)
  have NRS_11 := Lib.hid (NRS.out.below hb11)
  clear hb11
  go_wp2_with fail
  go_ret
  exact ⟨rfl, B11.out⟩

set_option maxHeartbeats 1000000 in
theorem ok_00 (w : World) (p : Nat) (hp : p < 18446744073709551616) (v : Value) (f : List Nat) (hv : Nums w v f) (v2 : Value) (g : List Nat) (hv2 : Nums w v2 g) (k : Nat) (hk : k < 18446744073709551616) (h : M.chk p f 201 = 0) (hc : ¬ k < p) (hg : M.rgt p [f, g] ≠ 0) :
    Calls Try.prog 4 #[.int .u64 p, .agg #[v, v2], .int .u64 k] w fun e w' => e = .returned (.bool true) ∧ Below w.heap.size w w' := by
  obtain ⟨hi, hl, hw⟩ := M.chk_ok h
  obtain ⟨h3, hp'⟩ := M.pos_of hi
  have HV := Lib.hid hv
  have HV2 := Lib.hid hv2
  have h1 := fun W (h1 : Nums W v f) (h2 : Nums W v2 g) => right_two p v v2 f g W hp h1 h2
  have h1' := fun W (h1 : Nums W v f) => right_one p v f W hp h1
  rw [h] at h1'
  have ha := fun W (h1 : Nums W v f) (h2 : Nums W v2 g) => add2_bad p v v2 f g W hp h1 h2 hg
  have hs := fun W (h1 : Nums W v f) (h2 : Nums W v2 g) => sub2_bad p v v2 f g W hp h1 h2 hg
  obtain ⟨c, ec⟩ : ∃ c, c = M.rgt p [f, g] := ⟨_, rfl⟩
  rw [← ec] at hg h1 ha hs
  have HC := Lib.hid hg
  have hb : (c != 0) = true := by rw [bne_iff_ne]; exact hg
  have hxm : k % p < p := Nat.mod_lt _ (by omega)
  have hrc := fun W (h1 : Nums W v f) => rscale_any p (k % p) v f W (by omega) hp' hxm hw (by omega) h1
  rw [Int.natCast_emod] at hrc
  have HRC := Lib.hid hrc
  have h6 := fun W => with_one p k W hk
  have hm := fun W (h1 : Nums W v f) => scale_arg p k v f W hk (by omega) h1 h
  rw [err_out hc] at h6
  have H6 := Lib.hid h6
  have HM := Lib.hid hm
  have HA := Lib.hid ha
  have HS := Lib.hid hs
  have H1 := Lib.hid h1
  have H1' := Lib.hid h1'
  have hud : ∀ b : Bool, undef ≠ Value.bool b := fun b h => by cases h
  obtain ⟨A, cap, rfl⟩ := nums_slice' hv
  obtain ⟨A2, cap2, rfl⟩ := nums_slice' hv2
  clear h hg hv hv2 h1 h1' ha hs hm hrc h6 hi hw hc ec
  go_enter Try.func4, Try.ntmps4
  go_wp2_with fail
  go_quiet (fail)
  obtain ⟨w0, hw0⟩ : ∃ w0, (w.alloc (.cells #[.slice A f.length cap, .slice A2 g.length cap2] 37)).drewN nq = w0 := ⟨_, rfl⟩
  have B0 := Lib.hid (show Below w.heap.size w w0 by rw [← hw0]; exact below_drewN (balloc w _) nq)
  rw [hw0]
  clear hw0
  go_wp2_with fail
  refine (H1.out _ (HV.out.below B0.out) (HV2.out.below B0.out)).mono ?_
  rintro e w1 ⟨rfl, hb1⟩
  have B1 := Lib.hid (bnext B0.out hb1)
  clear hb1
  go_wp2_with fail
  refine (H1'.out _ (HV.out.below B1.out)).mono ?_
  rintro e w2 ⟨rfl, hb2⟩
  have B2 := Lib.hid (bnext B1.out hb2)
  clear hb2
  go_wp2_with fail
  refine (HA.out _ (HV.out.below B2.out) (HV2.out.below B2.out)).mono ?_
  rintro e w3 ⟨rfl, hb3⟩
  have B3 := Lib.hid (bnext B2.out hb3)
  clear hb3
  go_wp2_with fail
  refine (HS.out _ (HV.out.below B3.out) (HV2.out.below B3.out)).mono ?_
  rintro e w4 ⟨rfl, hb4⟩
  have B4 := Lib.hid (bnext B3.out hb4)
  clear hb4
  go_wp2_with fail
  refine (HM.out _ (HV.out.below B4.out)).mono ?_
  rintro e w5 ⟨rfl, hb5⟩
  have B5 := Lib.hid (bnext B4.out hb5)
  clear hb5
  go_wp2_with fail
  refine (HRC.out _ (HV.out.below B5.out)).mono ?_
  rintro e w6 ⟨v6, rfl, hNC, hb6⟩
  have B6 := Lib.hid (bnext B5.out hb6)
  have NC := Lib.hid hNC
  clear hb6 hNC
  go_wp2_with fail
  refine (H6.out _).mono ?_
  rintro e w7 ⟨rfl, hb7⟩
  have B7 := Lib.hid (bnext B6.out hb7)
  have NC_7 := Lib.hid (NC.out.below hb7)
  clear hb7
  go_wp2_with fail
  refine (is_bad 2 _ _ (by omega)).mono ?_
  rintro e w' ⟨rfl, rfl⟩
  go_wp2_with fail
  refine (is_bad c _ _ HC.out).mono ?_
  rintro e w' ⟨rfl, rfl⟩
  go_wp2_with fail
  refine (is_bad c _ _ HC.out).mono ?_
  rintro e w' ⟨rfl, rfl⟩
  go_wp2_with fail
  go_ret
  exact ⟨rfl, B7.out⟩

set_option maxHeartbeats 1000000 in
theorem walk (w : World) (p : Nat) (hp : p < 18446744073709551616) (v : Value) (f : List Nat) (hv : Nums w v f) (v2 : Value) (g : List Nat) (hv2 : Nums w v2 g) (k : Nat) (hk : k < 18446744073709551616) :
    Calls Try.prog 4 #[.int .u64 p, .agg #[v, v2], .int .u64 k] w fun e w' => e = .returned (.bool true) ∧ Below w.heap.size w w' := by
  by_cases h : M.chk p f 201 = 0
  · by_cases hc : k < p
    · by_cases hg : M.rgt p [f, g] = 0
      · exact ok_11 w p hp v f hv v2 g hv2 k hk h hc hg
      · exact ok_10 w p hp v f hv v2 g hv2 k hk h hc hg
    · by_cases hg : M.rgt p [f, g] = 0
      · exact ok_01 w p hp v f hv v2 g hv2 k hk h hc hg
      · exact ok_00 w p hp v f hv v2 g hv2 k hk h hc hg
  · exact fbad w p hp v f hv v2 g hv2 k hk h
end Go.Proofs.Ytafoonhmfieikaa.polySumsW
