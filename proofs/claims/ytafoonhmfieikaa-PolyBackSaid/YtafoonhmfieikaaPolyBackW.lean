/-
  The walk of the law PolyBack.
-/
import Derived.Test.YtafoonhmfieikaaLawLib2
import Derived.Test.YtafoonhmfieikaaRef2f
import Derived.Test.YtafoonhmfieikaaRef2h
import Derived.Deep.AppendLies
namespace Go.Proofs.Ytafoonhmfieikaa.polyBackW
open Go.RowKit
set_option linter.unusedVariables false

/-- the rows of two slices lie in different blocks -/
def Sep (a b : Value) : Prop := ∀ r, a.ownBlock = some r → b.ownBlock ≠ some r
theorem Sep.kept {a b : Value} (h : Sep a b) : b.ownBlock = none ∨ b.ownBlock ≠ a.ownBlock := by
  cases hb : b.ownBlock with
  | none => exact .inl rfl
  | some r => exact .inr fun e => h r e.symm hb

set_option maxHeartbeats 1000000 in
theorem bad (w : World) (p : Nat) (hp : p < 18446744073709551616) (v : Value) (f : List Nat) (hv : Nums w v f) (v2 : Value) (xs : List Nat) (hv2 : Nums w v2 xs) (t : Nat) (ht : t < 18446744073709551616) (h : M.chk p f 201 ≠ 0) :
    Calls Try.prog 14 #[.int .u64 p, .agg #[v, v2], .int .u64 t] w fun e w' => e = .returned (.bool true) ∧ Below w.heap.size w w' := by
  have HV := Lib.hid hv
  have HV2 := Lib.hid hv2
  have h1 := fun W (h1 : Nums W v f) => right_one p v f W hp h1
  obtain ⟨c, ec⟩ : ∃ c, c = M.chk p f 201 := ⟨_, rfl⟩
  rw [← ec] at h h1
  have hb : (c != 0) = true := by rw [bne_iff_ne]; exact h
  clear ec
  have H1 := Lib.hid h1
  have hud : ∀ b : Bool, undef ≠ Value.bool b := fun b h => by cases h
  obtain ⟨A, cap, rfl⟩ := nums_slice' hv
  obtain ⟨A2, cap2, rfl⟩ := nums_slice' hv2
  clear h hv hv2 h1
  go_enter Try.func14, Try.ntmps14
  go_wp2_with fail
  go_quiet (fail)
  obtain ⟨w0, hw0⟩ : ∃ w0, (w.alloc (.cells #[.slice A f.length cap, .slice A2 xs.length cap2] 37)).drewN nq = w0 := ⟨_, rfl⟩
  have B0 := Lib.hid (show Below w.heap.size w w0 by rw [← hw0]; exact below_drewN (balloc w _) nq)
  rw [hw0]
  clear hw0
  go_wp2_with fail
  refine (H1.out _ (HV.out.below B0.out)).mono ?_
  rintro e w1 ⟨rfl, hb1⟩
  have B1 := Lib.hid (bnext B0.out hb1)
  clear hb1
  go_wp2_with fail
  refine (alive_any _).mono ?_
  rintro e w2 ⟨rfl, hb2⟩
  have B2 := Lib.hid (bnext B1.out hb2)
  clear hb2
  go_wp2_with fail
  go_ret
  exact ⟨rfl, B2.out⟩

set_option maxHeartbeats 1000000 in
theorem out (w : World) (p : Nat) (hp : p < 18446744073709551616) (v : Value) (f : List Nat) (hv : Nums w v f) (v2 : Value) (xs : List Nat) (hv2 : Nums w v2 xs) (t : Nat) (ht : t < 18446744073709551616) (h : M.chk p f 201 = 0) (hwx : M.within p xs = false) :
    Calls Try.prog 14 #[.int .u64 p, .agg #[v, v2], .int .u64 t] w fun e w' => e = .returned (.bool true) ∧ Below w.heap.size w w' := by
  have HV := Lib.hid hv
  have HV2 := Lib.hid hv2
  have h1 := fun W (h1 : Nums W v f) => right_one p v f W hp h1
  rw [h] at h1
  have H1 := Lib.hid h1
  have hwi := fun W (h1 : Nums W v2 xs) => within_any p v2 xs W h1 rfl
  rw [M.err_f hwx] at hwi
  have HWI := Lib.hid hwi
  have hud : ∀ b : Bool, undef ≠ Value.bool b := fun b h => by cases h
  obtain ⟨A, cap, rfl⟩ := nums_slice' hv
  obtain ⟨A2, cap2, rfl⟩ := nums_slice' hv2
  clear h hv hv2 h1 hwi hwx
  go_enter Try.func14, Try.ntmps14
  go_wp2_with fail
  go_quiet (fail)
  obtain ⟨w0, hw0⟩ : ∃ w0, (w.alloc (.cells #[.slice A f.length cap, .slice A2 xs.length cap2] 37)).drewN nq = w0 := ⟨_, rfl⟩
  have B0 := Lib.hid (show Below w.heap.size w w0 by rw [← hw0]; exact below_drewN (balloc w _) nq)
  rw [hw0]
  clear hw0
  go_wp2_with fail
  refine (H1.out _ (HV.out.below B0.out)).mono ?_
  rintro e w1 ⟨rfl, hb1⟩
  have B1 := Lib.hid (bnext B0.out hb1)
  clear hb1
  go_wp2_with fail
  refine (HWI.out _ (HV2.out.below B1.out)).mono ?_
  rintro e w' ⟨rfl, rfl⟩
  go_wp2_with fail
  refine (alive_any _).mono ?_
  rintro e w2 ⟨rfl, hb2⟩
  have B2 := Lib.hid (bnext B1.out hb2)
  clear hb2
  go_wp2_with fail
  go_ret
  exact ⟨rfl, B2.out⟩

set_option maxHeartbeats 1000000 in
theorem arg (w : World) (p : Nat) (hp : p < 18446744073709551616) (v : Value) (f : List Nat) (hv : Nums w v f) (v2 : Value) (xs : List Nat) (hv2 : Nums w v2 xs) (t : Nat) (ht : t < 18446744073709551616) (h : M.chk p f 201 = 0) (hwx : M.within p xs = true) (hc : p ≤ t) :
    Calls Try.prog 14 #[.int .u64 p, .agg #[v, v2], .int .u64 t] w fun e w' => e = .returned (.bool true) ∧ Below w.heap.size w w' := by
  have HV := Lib.hid hv
  have HV2 := Lib.hid hv2
  have h1 := fun W (h1 : Nums W v f) => right_one p v f W hp h1
  rw [h] at h1
  have H1 := Lib.hid h1
  have hwi := fun W (h1 : Nums W v2 xs) => within_any p v2 xs W h1 rfl
  rw [M.err_t hwx] at hwi
  have HWI := Lib.hid hwi
  have hud : ∀ b : Bool, undef ≠ Value.bool b := fun b h => by cases h
  obtain ⟨A, cap, rfl⟩ := nums_slice' hv
  obtain ⟨A2, cap2, rfl⟩ := nums_slice' hv2
  clear h hv hv2 h1 hwi hwx
  go_enter Try.func14, Try.ntmps14
  go_wp2_with fail
  go_quiet (fail)
  obtain ⟨w0, hw0⟩ : ∃ w0, (w.alloc (.cells #[.slice A f.length cap, .slice A2 xs.length cap2] 37)).drewN nq = w0 := ⟨_, rfl⟩
  have B0 := Lib.hid (show Below w.heap.size w w0 by rw [← hw0]; exact below_drewN (balloc w _) nq)
  rw [hw0]
  clear hw0
  go_wp2_with fail
  refine (H1.out _ (HV.out.below B0.out)).mono ?_
  rintro e w1 ⟨rfl, hb1⟩
  have B1 := Lib.hid (bnext B0.out hb1)
  clear hb1
  go_wp2_with fail
  refine (HWI.out _ (HV2.out.below B1.out)).mono ?_
  rintro e w' ⟨rfl, rfl⟩
  go_wp2_with fail
  refine (alive_any _).mono ?_
  rintro e w2 ⟨rfl, hb2⟩
  have B2 := Lib.hid (bnext B1.out hb2)
  clear hb2
  go_wp2_with fail
  go_ret
  exact ⟨rfl, B2.out⟩

set_option maxHeartbeats 1000000 in
theorem twice (w : World) (p : Nat) (hp : p < 18446744073709551616) (v : Value) (f : List Nat) (hv : Nums w v f) (v2 : Value) (xs : List Nat) (hv2 : Nums w v2 xs) (t : Nat) (ht : t < 18446744073709551616) (h : M.chk p f 201 = 0) (hwx : M.within p xs = true) (hc : ¬ p ≤ t) (hn : ¬ xs.Nodup) :
    Calls Try.prog 14 #[.int .u64 p, .agg #[v, v2], .int .u64 t] w fun e w' => e = .returned (.bool true) ∧ Below w.heap.size w w' := by
  have HV := Lib.hid hv
  have HV2 := Lib.hid hv2
  have h1 := fun W (h1 : Nums W v f) => right_one p v f W hp h1
  rw [h] at h1
  have H1 := Lib.hid h1
  have hwi := fun W (h1 : Nums W v2 xs) => within_any p v2 xs W h1 rfl
  rw [M.err_t hwx] at hwi
  have HWI := Lib.hid hwi
  have htw := fun W (h1 : Nums W v2 xs) => twice_any v2 xs W h1
  rw [← M.twice_yes hn] at htw
  have HTW := Lib.hid htw
  have hud : ∀ b : Bool, undef ≠ Value.bool b := fun b h => by cases h
  obtain ⟨A, cap, rfl⟩ := nums_slice' hv
  obtain ⟨A2, cap2, rfl⟩ := nums_slice' hv2
  clear h hv hv2 h1 hwi hwx htw hn
  go_enter Try.func14, Try.ntmps14
  go_wp2_with fail
  go_quiet (fail)
  obtain ⟨w0, hw0⟩ : ∃ w0, (w.alloc (.cells #[.slice A f.length cap, .slice A2 xs.length cap2] 37)).drewN nq = w0 := ⟨_, rfl⟩
  have B0 := Lib.hid (show Below w.heap.size w w0 by rw [← hw0]; exact below_drewN (balloc w _) nq)
  rw [hw0]
  clear hw0
  go_wp2_with fail
  refine (H1.out _ (HV.out.below B0.out)).mono ?_
  rintro e w1 ⟨rfl, hb1⟩
  have B1 := Lib.hid (bnext B0.out hb1)
  clear hb1
  go_wp2_with fail
  refine (HWI.out _ (HV2.out.below B1.out)).mono ?_
  rintro e w' ⟨rfl, rfl⟩
  go_wp2_with fail
  refine (HTW.out _ (HV2.out.below B1.out)).mono ?_
  rintro e w2 ⟨rfl, hb2⟩
  have B2 := Lib.hid (bnext B1.out hb2)
  clear hb2
  go_wp2_with fail
  refine (alive_any _).mono ?_
  rintro e w3 ⟨rfl, hb3⟩
  have B3 := Lib.hid (bnext B2.out hb3)
  clear hb3
  go_wp2_with fail
  go_ret
  exact ⟨rfl, B3.out⟩

set_option maxHeartbeats 1000000 in
theorem long (w : World) (p : Nat) (hp : p < 18446744073709551616) (v : Value) (f : List Nat) (hv : Nums w v f) (v2 : Value) (xs : List Nat) (hv2 : Nums w v2 xs) (t : Nat) (ht : t < 18446744073709551616) (h : M.chk p f 201 = 0) (hwx : M.within p xs = true) (hc : ¬ p ≤ t) (hn : xs.Nodup) (hl : 201 < xs.length) :
    Calls Try.prog 14 #[.int .u64 p, .agg #[v, v2], .int .u64 t] w fun e w' => e = .returned (.bool true) ∧ Below w.heap.size w w' := by
  have HV := Lib.hid hv
  have HV2 := Lib.hid hv2
  have h1 := fun W (h1 : Nums W v f) => right_one p v f W hp h1
  rw [h] at h1
  have H1 := Lib.hid h1
  have hwi := fun W (h1 : Nums W v2 xs) => within_any p v2 xs W h1 rfl
  rw [M.err_t hwx] at hwi
  have HWI := Lib.hid hwi
  have htw := fun W (h1 : Nums W v2 xs) => twice_any v2 xs W h1
  rw [← M.twice_no hn] at htw
  have HTW := Lib.hid htw
  have hud : ∀ b : Bool, undef ≠ Value.bool b := fun b h => by cases h
  obtain ⟨A, cap, rfl⟩ := nums_slice' hv
  obtain ⟨A2, cap2, rfl⟩ := nums_slice' hv2
  clear h hv hv2 h1 hwi hwx htw hn
  go_enter Try.func14, Try.ntmps14
  go_wp2_with fail
  go_quiet (fail)
  obtain ⟨w0, hw0⟩ : ∃ w0, (w.alloc (.cells #[.slice A f.length cap, .slice A2 xs.length cap2] 37)).drewN nq = w0 := ⟨_, rfl⟩
  have B0 := Lib.hid (show Below w.heap.size w w0 by rw [← hw0]; exact below_drewN (balloc w _) nq)
  rw [hw0]
  clear hw0
  go_wp2_with fail
  refine (H1.out _ (HV.out.below B0.out)).mono ?_
  rintro e w1 ⟨rfl, hb1⟩
  have B1 := Lib.hid (bnext B0.out hb1)
  clear hb1
  go_wp2_with fail
  refine (HWI.out _ (HV2.out.below B1.out)).mono ?_
  rintro e w' ⟨rfl, rfl⟩
  go_wp2_with fail
  refine (HTW.out _ (HV2.out.below B1.out)).mono ?_
  rintro e w2 ⟨rfl, hb2⟩
  have B2 := Lib.hid (bnext B1.out hb2)
  clear hb2
  go_wp2_with fail
  refine (alive_any _).mono ?_
  rintro e w3 ⟨rfl, hb3⟩
  have B3 := Lib.hid (bnext B2.out hb3)
  clear hb3
  go_wp2_with fail
  go_ret
  exact ⟨rfl, B3.out⟩

set_option maxHeartbeats 1000000 in
theorem short (w : World) (p : Nat) (hp : p < 18446744073709551616) (v : Value) (f : List Nat) (hv : Nums w v f) (v2 : Value) (xs : List Nat) (hv2 : Nums w v2 xs) (t : Nat) (ht : t < 18446744073709551616) (h : M.chk p f 201 = 0) (hwx : M.within p xs = true) (hc : ¬ p ≤ t) (hn : xs.Nodup) (hl : ¬ 201 < xs.length) (hg : xs.length < (M.trim f).length) :
    Calls Try.prog 14 #[.int .u64 p, .agg #[v, v2], .int .u64 t] w fun e w' => e = .returned (.bool true) ∧ Below w.heap.size w w' := by
  have HV := Lib.hid hv
  have HV2 := Lib.hid hv2
  have h1 := fun W (h1 : Nums W v f) => right_one p v f W hp h1
  rw [h] at h1
  have H1 := Lib.hid h1
  have hwi := fun W (h1 : Nums W v2 xs) => within_any p v2 xs W h1 rfl
  rw [M.err_t hwx] at hwi
  have HWI := Lib.hid hwi
  have htw := fun W (h1 : Nums W v2 xs) => twice_any v2 xs W h1
  rw [← M.twice_no hn] at htw
  have HTW := Lib.hid htw
  have hT := fun W (h1 : Nums W v f) => rtrim_any v f W h1
  obtain ⟨g, eg⟩ : ∃ g, g = M.trim f := ⟨_, rfl⟩
  rw [← eg] at hT hg
  have HT := Lib.hid hT
  have hud : ∀ b : Bool, undef ≠ Value.bool b := fun b h => by cases h
  obtain ⟨A, cap, rfl⟩ := nums_slice' hv
  obtain ⟨A2, cap2, rfl⟩ := nums_slice' hv2
  clear h hv hv2 h1 hwi hwx htw hn hT eg
  go_enter Try.func14, Try.ntmps14
  go_wp2_with fail
  go_quiet (fail)
  obtain ⟨w0, hw0⟩ : ∃ w0, (w.alloc (.cells #[.slice A f.length cap, .slice A2 xs.length cap2] 37)).drewN nq = w0 := ⟨_, rfl⟩
  have B0 := Lib.hid (show Below w.heap.size w w0 by rw [← hw0]; exact below_drewN (balloc w _) nq)
  rw [hw0]
  clear hw0
  go_wp2_with fail
  refine (H1.out _ (HV.out.below B0.out)).mono ?_
  rintro e w1 ⟨rfl, hb1⟩
  have B1 := Lib.hid (bnext B0.out hb1)
  clear hb1
  go_wp2_with fail
  refine (HWI.out _ (HV2.out.below B1.out)).mono ?_
  rintro e w' ⟨rfl, rfl⟩
  go_wp2_with fail
  refine (HTW.out _ (HV2.out.below B1.out)).mono ?_
  rintro e w2 ⟨rfl, hb2⟩
  have B2 := Lib.hid (bnext B1.out hb2)
  clear hb2
  go_wp2_with fail
  refine (HT.out _ (HV.out.below B2.out)).mono ?_
  rintro e w3 ⟨v3, rfl, hNT, hb3⟩
  have B3 := Lib.hid (bnext B2.out hb3)
  have NT := Lib.hid hNT
  clear hb3 hNT
  obtain ⟨aT, cT, rfl⟩ := nums_slice' NT.out
  go_wp2_with fail
  refine (alive_any _).mono ?_
  rintro e w4 ⟨rfl, hb4⟩
  have B4 := Lib.hid (bnext B3.out hb4)
  have NT_4 := Lib.hid (NT.out.below hb4)
  clear hb4
  go_wp2_with fail
  go_ret
  exact ⟨rfl, B4.out⟩

set_option maxRecDepth 100000 in
set_option maxHeartbeats 4000000 in
theorem good (w : World) (p : Nat) (hp : p < 18446744073709551616) (v : Value) (f : List Nat) (hv : Nums w v f) (v2 : Value) (xs : List Nat) (hv2 : Nums w v2 xs) (t : Nat) (ht : t < 18446744073709551616) (h : M.chk p f 201 = 0) (hwx : M.within p xs = true) (hc : ¬ p ≤ t) (hn : xs.Nodup) (hl : ¬ 201 < xs.length) (hg : ¬ xs.length < (M.trim f).length) :
    Calls Try.prog 14 #[.int .u64 p, .agg #[v, v2], .int .u64 t] w fun e w' => e = .returned (.bool true) ∧ Below w.heap.size w w' := by
  obtain ⟨hi, hlf, hwf⟩ := M.chk_ok h
  obtain ⟨h3, hp'⟩ := M.pos_of hi
  have hpos : 0 < p := by omega
  have hct : t < p := by omega
  have hxl : xs.length ≤ 201 := by omega
  have hgl0 : (M.trim f).length ≤ xs.length := by omega
  have HV := Lib.hid hv
  have HV2 := Lib.hid hv2
  have h1 := fun W (h1 : Nums W v f) => right_one p v f W hp h1
  rw [h] at h1
  have hwi := fun W (h1 : Nums W v2 xs) => within_any p v2 xs W h1 rfl
  rw [M.err_t hwx] at hwi
  have htw := fun W (h1 : Nums W v2 xs) => twice_any v2 xs W h1
  rw [← M.twice_no hn] at htw
  have hT := fun W (h1 : Nums W v f) => rtrim_any v f W h1
  have he := fun x W (hx : x < p) (h1 : Nums W v f) => eval_ok p x v f W hx h1 h
  have het := fun W (h1 : Nums W v f) => eval_ok p t v f W hct h1 h
  have hYl : (xs.map (M.pev p f)).length = xs.length := by simp
  have hYw := M.within_map_pev hpos f xs
  have hYg := fun k (hk : k < xs.length) => M.map_pev_get p f xs hk
  have hthru := fun F (hF : M.Thru p xs (xs.map (M.pev p f)) F) => M.Thru.unique hi hn hwx hF (M.thru_back hwf hgl0)
  have hbe := M.back_eq hi hwf hgl0 hwx hn hct
  have hWw : M.within p (M.weights p xs t) = true := M.within_of fun i hi' => by
    have hi2 : i < xs.length := by simpa [M.weights, M.tabM] using hi'
    rw [M.weights_get (by omega) xs hi2]; exact M.unitAt_lt (by omega) _ _ _
  have hWl : (M.weights p xs t).length = xs.length := by simp [M.weights, M.tabM]
  obtain ⟨Y, eY⟩ : ∃ Y, Y = xs.map (M.pev p f) := ⟨_, rfl⟩
  obtain ⟨g, eg⟩ : ∃ g, g = M.trim f := ⟨_, rfl⟩
  obtain ⟨z, ez⟩ : ∃ z, z = M.pev p f t := ⟨_, rfl⟩
  rw [← eY] at hYl hYw hYg hthru hbe
  rw [← eg] at hT hthru hgl0 hg
  rw [← ez] at het hbe
  have hth := fun W V (hP : Pts W V xs Y) => (through_any p V xs Y W hP (M.chkP_of hi (by omega) ⟨hwx, hYw⟩).symm).mono fun e w' (hh : ThruEnd W p xs Y e w') => show (Gives2 W g) e w' by
    rcases hh with ⟨hb, ⟨_, v', F, he, hN, hA⟩ | ⟨hn', he⟩⟩
    · exact ⟨v', he, by rw [← hthru F hA]; exact hN, hb⟩
    · exact absurd hn hn'
  have hwe := fun W (hP : Nums W v2 xs) => (weights_any p t v2 xs W hct hP (M.chk_of hi hxl hwx)).mono fun e w' (hh : WeightsEnd W p xs t e w') => show (Gives2 W (M.weights p xs t)) e w' by
    rcases hh with ⟨hb, ⟨_, v', he, hN⟩ | ⟨hn', he⟩⟩
    · exact ⟨v', he, hN, hb⟩
    · exact absurd hn hn'
  have hdo := fun W V V2 (hP : Nums W V (M.weights p xs t)) (hP2 : Nums W V2 Y) => rdot_any p V V2 (M.weights p xs t) Y W hi hWw hYw (by omega) (by omega) hP hP2
  rw [hWl, hbe] at hdo
  obtain ⟨Wt, eW⟩ : ∃ Wt, Wt = M.weights p xs t := ⟨_, rfl⟩
  rw [← eW] at hwe hdo hWl
  have hYu : ∀ y ∈ Y, y < 18446744073709551616 := fun y hy => by
    have := List.all_eq_true.1 hYw y hy
    simp at this; omega
  have hXu : ∀ y ∈ xs, y < 18446744073709551616 := fun y hy => by
    have := List.all_eq_true.1 hwx y hy
    simp at this; omega
  have H1 := Lib.hid h1
  have HWI := Lib.hid hwi
  have HTW := Lib.hid htw
  have HT := Lib.hid hT
  have HE := Lib.hid he
  have HET := Lib.hid het
  have HTH := Lib.hid hth
  have HWE := Lib.hid hwe
  have HDO := Lib.hid hdo
  have HYL := Lib.hid hYl
  have HYG := Lib.hid hYg
  have HWL := Lib.hid hWl
  have HYU := Lib.hid hYu
  have HXU := Lib.hid hXu
  have HWX := Lib.hid hwx
  obtain ⟨i0, hi0, hz0, hz1, hz2⟩ := info_parts infoU64
  obtain ⟨j0, hj0, jz0, jz1, jz2⟩ := info_parts infoPt
  obtain ⟨A, cap, rfl⟩ := nums_slice' hv
  obtain ⟨A2, cap2, rfl, _, _, hC⟩ := nums_view hv2
  have HX := Lib.hid hC
  have hzz : ((z : Int) == (z : Int)) = true := by simp
  have hll : ((Wt.length : Int) == (Y.length : Int)) = true := by rw [hWl, hYl]; simp
  have hud : ∀ b : Bool, undef ≠ Value.bool b := fun b h => by cases h
  clear h hv hv2 h1 hwi htw hT he het hth hwe hdo hYl hYg hYw hthru hbe hWw hWl hYu hXu hwx hC eY eg ez eW hi hwf hn
  go_enter Try.func14, Try.ntmps14
  go_wp2_with fail
  go_quiet (fail)
  obtain ⟨w0, hw0⟩ : ∃ w0, (w.alloc (.cells #[.slice A f.length cap, .slice A2 xs.length cap2] 37)).drewN nq = w0 := ⟨_, rfl⟩
  have B0 := Lib.hid (show Below w.heap.size w w0 by rw [← hw0]; exact below_drewN (balloc w _) nq)
  rw [hw0]
  clear hw0
  go_wp2_with fail
  refine (H1.out _ (HV.out.below B0.out)).mono ?_
  rintro e w1 ⟨rfl, hb1⟩
  have B1 := Lib.hid (bnext B0.out hb1)
  clear hb1
  go_wp2_with fail
  refine (HWI.out _ (HV2.out.below B1.out)).mono ?_
  rintro e w' ⟨rfl, rfl⟩
  go_wp2_with fail
  refine (HTW.out _ (HV2.out.below B1.out)).mono ?_
  rintro e w2 ⟨rfl, hb2⟩
  have B2 := Lib.hid (bnext B1.out hb2)
  clear hb2
  go_wp2_with fail
  refine (HT.out _ (HV.out.below B2.out)).mono ?_
  rintro e w3 ⟨v3, rfl, hNT, hb3⟩
  have B3 := Lib.hid (bnext B2.out hb3)
  have NT := Lib.hid hNT
  clear hb3 hNT
  obtain ⟨aT, cT, rfl⟩ := nums_slice' NT.out
  go_wp2_with fail
  go_loopw [9, 10, 61] (fun t9 t10 t wr => ∃ k : Nat, k ≤ xs.length ∧ t = .int .i64 k ∧ wr.ownsRow w3.heap.size 61 2 t9 k (ptRow xs Y k) ∧ wr.ownsRow w3.heap.size 22 1 t10 k (vals (Y.take k)) ∧ Sep t9 t10 ∧ Below w3.heap.size w3 wr) (fun _ _ t _ => xs.length - (intOf t).toNat)
  case atStart => exact ⟨0, by omega, rfl, World.ownsRow_nil _ _ _ _, World.ownsRow_nil _ _ _ _, (fun b h => by cases h), Below.refl _ _⟩
  case round =>
    obtain ⟨k, hk, rfl, hown, hown2, hsep, hB⟩ := hrel
    have HO := Lib.hid hown
    have HO2 := Lib.hid hown2
    have HSP := Lib.hid hsep
    have HB := Lib.hid hB
    have HBW := Lib.hid (bnext B3.out hB)
    clear hown hown2 hsep hB
    by_cases hlt : k < xs.length
    · obtain ⟨b, off, rfl, hb, hcell⟩ := HX.out (by omega)
      have hc1 := (HBW.out.cell (p := ⟨b, off + k, none⟩) hb).trans (hcell k hlt)
      have hx := M.within_mem HWX.out hlt
      have hyg := HYG.out k hlt
      have hsn := vals_take_snoc (xs := Y) (k := k) (by have := HYL.out; omega)
      have hpr : ptRow xs Y (k + 1) = ptRow xs Y k ++ [.int .u64 (xs.getD k 0 : Nat), .int .u64 (Y.getD k 0 : Nat)] := rfl
      obtain ⟨x, ex⟩ : ∃ x, x = xs.getD k 0 := ⟨_, rfl⟩
      obtain ⟨y, ey⟩ : ∃ y, y = Y.getD k 0 := ⟨_, rfl⟩
      rw [← ex] at hc1 hx hyg hpr
      rw [← ey] at hyg hsn hpr
      have hev := HE.out x wr hx (HV.out.below HBW.out)
      rw [← hyg] at hev
      have HEV := Lib.hid hev
      have HSN := Lib.hid hsn
      have HPR := Lib.hid hpr
      clear hev hsn hpr hyg ex ey hx hcell
      go_wp2_with fail
      refine HEV.out.mono ?_
      rintro e w4 ⟨rfl, hb4⟩
      have HO4 := Lib.hid (own_below HO.out hb4)
      have HO24 := Lib.hid (own_below HO2.out hb4)
      have HB4 := Lib.hid (HB.out.trans (hb4.mono HB.out.size))
      clear hb4
      go_wp2_with (at_builtin; refine wpList_append_lies _ rfl _ _ 51 rfl w3.heap.size 61 j0 (.agg #[.int .u64 0, .int .u64 0]) 2 16 Try.underlying51 hj0 jz0 jz1 jz2 rfl (by decide) _ _ _ rfl (HO4.out.alloc _) ⟨w4.heap.size, 0, none⟩ 1 1 [.int .u64 (x : Nat), .int .u64 (y : Nat)] rfl rfl ?c1 ?c2 ?c0 ?c3 ?c4 ?c5 (w4.heap.size + 1) ?c6 ?_)
      case c1 =>
        intro j u hu
        rw [Addr.add_lit]
        match j, hu with
        | 0, hu => simpa using hu
        | 1, hu => simpa using hu
      case c2 => intro u hu; simp at hu; rcases hu with rfl | rfl <;> rfl
      case c0 => omega
      case c3 => unfold maxLen; omega
      case c4 => omega
      case c5 => have := HB4.out.size; simp; omega
      case c6 => simp
      intro gg cp w5 hown' hgrow hat hgl
      rw [← HPR.out] at hown'
      have hb5 := (HB4.out.alloc HB4.out.size (.cells #[.int .u64 (x : Nat), .int .u64 (y : Nat)] 61)).grown hgrow (by have := HB4.out.size; simp; omega) (fun r hr => (HO4.out.lt r hr).1)
      have hk5 := (HO24.out.alloc (.cells #[.int .u64 (x : Nat), .int .u64 (y : Nat)] 61)).kept hgrow (HSP.out.kept)
      have hs5 : Sep (.slice (some ⟨gg, 0, none⟩) (k + 1) cp) u10 := by
        intro r hr
        have hr' : gg = r := by simpa [Value.ownBlock] using hr
        subst hr'
        rcases hat with h1 | h1
        · exact HSP.out _ h1
        · intro h2
          have := (HO24.out.lt _ h2).2
          omega
      have HO5 := Lib.hid hown'
      have HO25 := Lib.hid hk5
      have HS5 := Lib.hid hs5
      have HB5 := Lib.hid hb5
      have HGL := Lib.hid hgl
      clear hown' hgrow hat hgl hb5 hk5 hs5
      go_wp2_with (at_builtin; refine wpList_append_lies _ rfl _ _ 23 rfl w3.heap.size 22 i0 (.int .u64 0) 1 8 Try.underlying23 hi0 hz0 hz1 hz2 rfl (by decide) _ _ _ rfl (HO25.out.alloc _) ⟨w5.heap.size, 0, none⟩ 1 1 [.int .u64 (y : Nat)] rfl rfl ?d1 ?d2 ?d0 ?d3 ?d4 ?d5 (w5.heap.size + 1) ?d6 ?_)
      case d1 =>
        intro j u hu
        rw [Addr.add_lit]
        match j, hu with
        | 0, hu => simpa using hu
      case d2 => intro u hu; simp at hu; subst hu; rfl
      case d0 => omega
      case d3 => unfold maxLen; omega
      case d4 => omega
      case d5 => have := HB5.out.size; simp; omega
      case d6 => simp
      intro g2 cp2 w6 hown' hgrow hat hgl2
      rw [← HSN.out] at hown'
      have hb6 := (HB5.out.alloc HB5.out.size (.cells #[.int .u64 (y : Nat)] 22)).grown hgrow (by have := HB5.out.size; simp; omega) (fun r hr => (HO25.out.lt r hr).1)
      have hk6 := (HO5.out.alloc (.cells #[.int .u64 (y : Nat)] 22)).kept hgrow (.inr fun h => HS5.out gg rfl h.symm)
      have hs6 : Sep (.slice (some ⟨gg, 0, none⟩) (k + 1) cp) (.slice (some ⟨g2, 0, none⟩) (k + 1) cp2) := by
        intro r hr
        have hr' : gg = r := by simpa [Value.ownBlock] using hr
        subst hr'
        intro h2
        have h2' : g2 = gg := by simpa [Value.ownBlock] using h2
        subst h2'
        rcases hat with h1 | h1
        · exact HS5.out _ rfl h1
        · have := HGL.out; omega
      have HO6 := Lib.hid hk6
      have HO26 := Lib.hid hown'
      have HS6 := Lib.hid hs6
      have HB6 := Lib.hid hb6
      clear hown' hgrow hat hgl2 hb6 hk6 hs6
      go_wp2_with fail
      go_roundw
      case rel => exact ⟨k + 1, by omega, by go_num, HO6.out, HO26.out, HS6.out, HB6.out⟩
      case measure => simp [intOf]; omega
    · obtain rfl : k = xs.length := by omega
      have hP := pts_of_row HYL.out HXU.out HYU.out (by omega) HO.out
      have hy := HO2.out
      rw [show Y.take xs.length = Y by rw [← HYL.out, List.take_length]] at hy
      have hNY := nums_of_owns hy HYU.out (by have := HYL.out; omega)
      have HP := Lib.hid hP
      have NY := Lib.hid hNY
      obtain ⟨-, -, -, -, A9, cap9, rfl, -, -⟩ := hP
      obtain ⟨A10, cap10, rfl⟩ := nums_slice' hNY
      clear hy
      skip
      clear hNY
      go_wp2_with fail
      refine (HTH.out _ _ HP.out).mono ?_
      rintro e w7 ⟨v7, rfl, hNG, hb7⟩
      have B7 := Lib.hid (bnext HBW.out hb7)
      have NY_7 := Lib.hid (NY.out.below hb7)
      have NG := Lib.hid hNG
      clear hb7 hNG
      go_wp2_with fail
      refine (HWE.out _ (HV2.out.below B7.out)).mono ?_
      rintro e w8 ⟨v8, rfl, hNW, hb8⟩
      have B8 := Lib.hid (bnext B7.out hb8)
      have NY_8 := Lib.hid (NY_7.out.below hb8)
      have NG_8 := Lib.hid (NG.out.below hb8)
      have NW := Lib.hid hNW
      clear hb8 hNW
      go_wp2_with fail
      refine (HET.out _ (HV.out.below B8.out)).mono ?_
      rintro e w9 ⟨rfl, hb9⟩
      have B9 := Lib.hid (bnext B8.out hb9)
      have NY_9 := Lib.hid (NY_8.out.below hb9)
      have NG_9 := Lib.hid (NG_8.out.below hb9)
      have NW_9 := Lib.hid (NW.out.below hb9)
      clear hb9
      go_wp2_with fail
      refine (HT.out _ (HV.out.below B9.out)).mono ?_
      rintro e w10 ⟨v10, rfl, hNT2, hb10⟩
      have B10 := Lib.hid (bnext B9.out hb10)
      have NY_10 := Lib.hid (NY_9.out.below hb10)
      have NG_10 := Lib.hid (NG_9.out.below hb10)
      have NW_10 := Lib.hid (NW_9.out.below hb10)
      have NT2 := Lib.hid hNT2
      clear hb10 hNT2
      go_wp2_with fail
      refine (same_any _ _ _ _ NG_10.out NT2.out).mono ?_
      rintro e w11 ⟨rfl, hb11⟩
      have B11 := Lib.hid (bnext B10.out hb11)
      have NY_11 := Lib.hid (NY_10.out.below hb11)
      have NG_11 := Lib.hid (NG_10.out.below hb11)
      have NW_11 := Lib.hid (NW_10.out.below hb11)
      have NT2_11 := Lib.hid (NT2.out.below hb11)
      clear hb11
      obtain ⟨aW, cW, hWs⟩ := nums_slice' NW_11.out
      subst hWs
      go_wp2_with fail
      refine (HDO.out _ _ _ NW_11.out NY_11.out).mono ?_
      rintro e w12 ⟨rfl, hb12⟩
      have B12 := Lib.hid (bnext B11.out hb12)
      have NY_12 := Lib.hid (NY_11.out.below hb12)
      have NG_12 := Lib.hid (NG_11.out.below hb12)
      have NW_12 := Lib.hid (NW_11.out.below hb12)
      have NT2_12 := Lib.hid (NT2_11.out.below hb12)
      clear hb12
      go_wp2_with fail
      refine (alive_any _).mono ?_
      rintro e w13 ⟨rfl, hb13⟩
      have B13 := Lib.hid (bnext B12.out hb13)
      have NY_13 := Lib.hid (NY_12.out.below hb13)
      have NG_13 := Lib.hid (NG_12.out.below hb13)
      have NW_13 := Lib.hid (NW_12.out.below hb13)
      have NT2_13 := Lib.hid (NT2_12.out.below hb13)
      clear hb13
      go_wp2_with fail
      go_ret
      exact ⟨rfl, B13.out⟩

set_option maxHeartbeats 1000000 in
theorem walk (w : World) (p : Nat) (hp : p < 18446744073709551616) (v : Value) (f : List Nat) (hv : Nums w v f) (v2 : Value) (xs : List Nat) (hv2 : Nums w v2 xs) (t : Nat) (ht : t < 18446744073709551616) :
    Calls Try.prog 14 #[.int .u64 p, .agg #[v, v2], .int .u64 t] w fun e w' => e = .returned (.bool true) ∧ Below w.heap.size w w' := by
  by_cases h : M.chk p f 201 = 0
  · cases hwx : M.within p xs with
    | false => exact out w p hp v f hv v2 xs hv2 t ht h hwx
    | true =>
      by_cases hc : p ≤ t
      · exact arg w p hp v f hv v2 xs hv2 t ht h hwx hc
      · by_cases hn : xs.Nodup
        · by_cases hl : 201 < xs.length
          · exact long w p hp v f hv v2 xs hv2 t ht h hwx hc hn hl
          · by_cases hg : xs.length < (M.trim f).length
            · exact short w p hp v f hv v2 xs hv2 t ht h hwx hc hn hl hg
            · exact good w p hp v f hv v2 xs hv2 t ht h hwx hc hn hl hg
        · exact twice w p hp v f hv v2 xs hv2 t ht h hwx hc hn
  · exact bad w p hp v f hv v2 xs hv2 t ht h
end Go.Proofs.Ytafoonhmfieikaa.polyBackW
