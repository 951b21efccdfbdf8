/-
  The walk of the law PolyAway.
-/
import Derived.Test.YtafoonhmfieikaaLawLib2
import Derived.Test.YtafoonhmfieikaaRef2e
import Derived.Test.YtafoonhmfieikaaAwayM
namespace Go.Proofs.Ytafoonhmfieikaa.polyAwayW
open Go.RowKit
set_option linter.unusedVariables false

set_option maxHeartbeats 1000000 in
theorem no (w : World) (p : Nat) (hp : p < 18446744073709551616) (v : Value) (xs : List Nat) (hv : Nums w v xs) (h : M.isP p = false) :
    Calls Try.prog 10 #[.int .u64 p, v] w fun e w' => e = .returned (.bool true) ∧ Below w.heap.size w w' := by
  obtain ⟨A, cap, rfl, hcap, hlen, hC⟩ := nums_view hv
  have HX := Lib.hid hC
  have HV := Lib.hid hv
  have HM := Lib.hid (show Calls Try.prog 47 #[.int .u64 p, .slice A xs.length cap] w (fun e w' => e = .returned (.tuple #[.slice none 0 0, .int .i64 2]) ∧ w = w') by have := away_bad p _ xs w hp hv (by rw [← M.chk_no xs 200 h]; omega); rwa [← M.chk_no xs 200 h] at this)
  have h1 := fun W => right_none p W hp
  rw [M.rgt_nil_no h] at h1
  have H1 := Lib.hid h1
  have hs : ((0 : Int) == 0) = true := rfl
  have hud : ∀ b : Bool, undef ≠ Value.bool b := fun b h => by cases h
  clear hv h1 hC hcap h
  go_enter Try.func10, Try.ntmps10
  go_wp2_with fail
  refine (HM.out).mono ?_
  rintro e w' ⟨rfl, rfl⟩
  go_wp2_with fail
  refine (H1.out _).mono ?_
  rintro e w1 ⟨rfl, hb1⟩
  have B1 := Lib.hid hb1
  clear hb1
  go_wp2_with fail
  go_loop [7, 32] (fun t7 t => ∃ k : Nat, k ≤ xs.length ∧ t = .int .i64 k ∧ t7 = .int .i64 2) (fun _ t => xs.length - (intOf t).toNat)
  case atStart => exact ⟨0, by omega, rfl, rfl⟩
  case round =>
    obtain ⟨k, hk, rfl, rfl⟩ := hrel
    by_cases hlt : k < xs.length
    · obtain ⟨b, off, rfl, hb, hcell⟩ := HX.out (by omega)
      have hc1 := (B1.out.cell (p := ⟨b, off + k, none⟩) hb).trans (hcell k hlt)
      obtain ⟨x, ex⟩ : ∃ x, x = xs.getD k 0 := ⟨_, rfl⟩
      rw [← ex] at hc1
      clear ex hcell
      go_wp2_with fail
      go_round
      case rel => exact ⟨k + 1, by omega, by go_num, rfl⟩
      case measure => simp [intOf]; omega
    · obtain rfl : k = xs.length := by omega
      go_wp2_with fail
      refine (is_bad 2 _ _ (by omega)).mono ?_
      rintro e w' ⟨rfl, rfl⟩
      go_wp2_with fail
      refine (alive_any _).mono ?_
      rintro e w2 ⟨rfl, hb2⟩
      have B2 := Lib.hid (bnext B1.out hb2)
      clear hb2
      go_wp2_with fail
      go_ret
      exact ⟨rfl, B2.out⟩

set_option maxHeartbeats 1000000 in
theorem long (w : World) (p : Nat) (hp : p < 18446744073709551616) (v : Value) (xs : List Nat) (hv : Nums w v xs) (h : M.isP p = true) (hl : 200 < xs.length) :
    Calls Try.prog 10 #[.int .u64 p, v] w fun e w' => e = .returned (.bool true) ∧ Below w.heap.size w w' := by
  obtain ⟨A, cap, rfl, hcap, hlen, hC⟩ := nums_view hv
  have HX := Lib.hid hC
  have HV := Lib.hid hv
  have HM := Lib.hid (show Calls Try.prog 47 #[.int .u64 p, .slice A xs.length cap] w (fun e w' => e = .returned (.tuple #[.slice none 0 0, .int .i64 3]) ∧ w = w') by have := away_bad p _ xs w hp hv (by rw [← M.chk_long h hl]; omega); rwa [← M.chk_long h hl] at this)
  have h1 := fun W => right_none p W hp
  rw [M.rgt_nil h] at h1
  have H1 := Lib.hid h1
  have hs : ((0 : Int) == 0) = true := rfl
  have hud : ∀ b : Bool, undef ≠ Value.bool b := fun b h => by cases h
  clear hv h1 hC hcap h
  go_enter Try.func10, Try.ntmps10
  go_wp2_with fail
  refine (HM.out).mono ?_
  rintro e w' ⟨rfl, rfl⟩
  go_wp2_with fail
  refine (H1.out _).mono ?_
  rintro e w1 ⟨rfl, hb1⟩
  have B1 := Lib.hid hb1
  clear hb1
  go_wp2_with fail
  go_loop [7, 32] (fun t7 t => ∃ k : Nat, k ≤ xs.length ∧ t = .int .i64 k ∧ t7 = .int .i64 3) (fun _ t => xs.length - (intOf t).toNat)
  case atStart => exact ⟨0, by omega, rfl, rfl⟩
  case round =>
    obtain ⟨k, hk, rfl, rfl⟩ := hrel
    by_cases hlt : k < xs.length
    · obtain ⟨b, off, rfl, hb, hcell⟩ := HX.out (by omega)
      have hc1 := (B1.out.cell (p := ⟨b, off + k, none⟩) hb).trans (hcell k hlt)
      obtain ⟨x, ex⟩ : ∃ x, x = xs.getD k 0 := ⟨_, rfl⟩
      rw [← ex] at hc1
      clear ex hcell
      go_wp2_with fail
      go_round
      case rel => exact ⟨k + 1, by omega, by go_num, rfl⟩
      case measure => simp [intOf]; omega
    · obtain rfl : k = xs.length := by omega
      go_wp2_with fail
      refine (is_bad 3 _ _ (by omega)).mono ?_
      rintro e w' ⟨rfl, rfl⟩
      go_wp2_with fail
      refine (alive_any _).mono ?_
      rintro e w2 ⟨rfl, hb2⟩
      have B2 := Lib.hid (bnext B1.out hb2)
      clear hb2
      go_wp2_with fail
      go_ret
      exact ⟨rfl, B2.out⟩

set_option maxHeartbeats 1000000 in
theorem out (w : World) (p : Nat) (hp : p < 18446744073709551616) (v : Value) (xs : List Nat) (hv : Nums w v xs) (h : M.isP p = true) (hl : ¬ 200 < xs.length) (hw : M.within p xs = false) :
    Calls Try.prog 10 #[.int .u64 p, v] w fun e w' => e = .returned (.bool true) ∧ Below w.heap.size w w' := by
  obtain ⟨A, cap, rfl, hcap, hlen, hC⟩ := nums_view hv
  have HX := Lib.hid hC
  have HV := Lib.hid hv
  have HM := Lib.hid (show Calls Try.prog 47 #[.int .u64 p, .slice A xs.length cap] w (fun e w' => e = .returned (.tuple #[.slice none 0 0, .int .i64 2]) ∧ w = w') by have := away_bad p _ xs w hp hv (by rw [← M.chk_out h hl hw]; omega); rwa [← M.chk_out h hl hw] at this)
  have h1 := fun W => right_none p W hp
  rw [M.rgt_nil h] at h1
  have H1 := Lib.hid h1
  have hs : ((0 : Int) == 0) = true := rfl
  have hwi := fun W (h1 : Nums W (.slice A xs.length cap) xs) => within_any p _ xs W h1 rfl
  rw [M.err_f hw] at hwi
  have HWI := Lib.hid hwi
  have hud : ∀ b : Bool, undef ≠ Value.bool b := fun b h => by cases h
  clear hv h1 hC hcap h hwi hw
  go_enter Try.func10, Try.ntmps10
  go_wp2_with fail
  refine (HM.out).mono ?_
  rintro e w' ⟨rfl, rfl⟩
  go_wp2_with fail
  refine (H1.out _).mono ?_
  rintro e w1 ⟨rfl, hb1⟩
  have B1 := Lib.hid hb1
  clear hb1
  go_wp2_with fail
  refine (HWI.out _ (HV.out.below B1.out)).mono ?_
  rintro e w' ⟨rfl, rfl⟩
  go_wp2_with fail
  go_loop [7, 32] (fun t7 t => ∃ k : Nat, k ≤ xs.length ∧ t = .int .i64 k ∧ t7 = .int .i64 2) (fun _ t => xs.length - (intOf t).toNat)
  case atStart => exact ⟨0, by omega, rfl, rfl⟩
  case round =>
    obtain ⟨k, hk, rfl, rfl⟩ := hrel
    by_cases hlt : k < xs.length
    · obtain ⟨b, off, rfl, hb, hcell⟩ := HX.out (by omega)
      have hc1 := (B1.out.cell (p := ⟨b, off + k, none⟩) hb).trans (hcell k hlt)
      obtain ⟨x, ex⟩ : ∃ x, x = xs.getD k 0 := ⟨_, rfl⟩
      rw [← ex] at hc1
      clear ex hcell
      go_wp2_with fail
      go_round
      case rel => exact ⟨k + 1, by omega, by go_num, rfl⟩
      case measure => simp [intOf]; omega
    · obtain rfl : k = xs.length := by omega
      go_wp2_with fail
      refine (is_bad 2 _ _ (by omega)).mono ?_
      rintro e w' ⟨rfl, rfl⟩
      go_wp2_with fail
      refine (alive_any _).mono ?_
      rintro e w2 ⟨rfl, hb2⟩
      have B2 := Lib.hid (bnext B1.out hb2)
      clear hb2
      go_wp2_with fail
      go_ret
      exact ⟨rfl, B2.out⟩

set_option maxHeartbeats 1000000 in
theorem zero (w : World) (p : Nat) (hp : p < 18446744073709551616) (v : Value) (xs : List Nat) (hv : Nums w v xs) (h : M.chk p xs 200 = 0) (hz : ¬ M.NoZ xs) :
    Calls Try.prog 10 #[.int .u64 p, v] w fun e w' => e = .returned (.bool true) ∧ Below w.heap.size w w' := by
  obtain ⟨hi, hl, hw⟩ := M.chk_ok h
  obtain ⟨h3, hp'⟩ := M.pos_of hi
  
  obtain ⟨A, cap, rfl, hcap, hlen, hC⟩ := nums_view hv
  have HX := Lib.hid hC
  have HV := Lib.hid hv
  have HM := Lib.hid (show Calls Try.prog 47 #[.int .u64 p, .slice A xs.length cap] w (Fails2 w 7) from (away_any p _ xs w hv h).mono fun e w' hh => hh.2 hz)
  have h1 := fun W => right_none p W hp
  rw [M.rgt_nil hi] at h1
  have H1 := Lib.hid h1
  have hs : ((0 : Int) == 0) = true := rfl
  have hwi := fun W (h1 : Nums W (.slice A xs.length cap) xs) => within_any p _ xs W h1 rfl
  rw [M.err_t hw] at hwi
  have HWI := Lib.hid hwi
  have HZ := Lib.hid (M.zc_zero hz)
  have hud : ∀ b : Bool, undef ≠ Value.bool b := fun b h => by cases h
  clear hv h1 hC hcap h hwi hw hi hz
  go_enter Try.func10, Try.ntmps10
  go_wp2_with fail
  refine (HM.out).mono ?_
  rintro e w1 ⟨rfl, hb1⟩
  have B1 := Lib.hid hb1
  clear hb1
  go_wp2_with fail
  refine (H1.out _).mono ?_
  rintro e w2 ⟨rfl, hb2⟩
  have B2 := Lib.hid (bnext B1.out hb2)
  clear hb2
  go_wp2_with fail
  refine (HWI.out _ (HV.out.below B2.out)).mono ?_
  rintro e w' ⟨rfl, rfl⟩
  go_wp2_with fail
  go_loop [7, 32] (fun t7 t => ∃ k : Nat, k ≤ xs.length ∧ t = .int .i64 k ∧ t7 = .int .i64 (M.zc xs k)) (fun _ t => xs.length - (intOf t).toNat)
  case atStart => exact ⟨0, by omega, rfl, rfl⟩
  case round =>
    obtain ⟨k, hk, rfl, rfl⟩ := hrel
    by_cases hlt : k < xs.length
    · obtain ⟨b, off, rfl, hb, hcell⟩ := HX.out (by omega)
      have hc1 := (B2.out.cell (p := ⟨b, off + k, none⟩) hb).trans (hcell k hlt)
      have hst := M.zc_succ hlt
      rcases M.zc_or xs k with hz | hz
      · rw [hz] at hst
        rw [hz]
        by_cases hx0 : xs.getD k 0 = 0
        · rw [hx0] at hc1
          have HST := Lib.hid (hst.1 hx0)
          clear hst hcell hz hx0
          go_wp2_with fail
          go_round
          case rel => exact ⟨k + 1, by omega, by go_num, by rw [HST.out]⟩
          case measure => simp [intOf]; omega
        · have HST := Lib.hid (hst.2 hx0)
          obtain ⟨x, ex⟩ : ∃ x, x = xs.getD k 0 := ⟨_, rfl⟩
          rw [← ex] at hc1 hx0
          have hxb : ((x : Int) == 0) = false := by rw [beq_eq_false_iff_ne]; omega
          clear ex hcell hx0 hst hz
          go_wp2_with fail
          go_round
          case rel => exact ⟨k + 1, by omega, by go_num, by rw [HST.out]⟩
          case measure => simp [intOf]; omega
      · rw [hz] at hst
        rw [hz]
        have HST := Lib.hid (show M.zc xs (k + 1) = 7 by by_cases hx0 : xs.getD k 0 = 0; exact hst.1 hx0; exact hst.2 hx0)
        obtain ⟨x, ex⟩ : ∃ x, x = xs.getD k 0 := ⟨_, rfl⟩
        rw [← ex] at hc1
        clear ex hcell hst hz
        go_wp2_with fail
        go_round
        case rel => exact ⟨k + 1, by omega, by go_num, by rw [HST.out]⟩
        case measure => simp [intOf]; omega
    · obtain rfl : k = xs.length := by omega
      rw [HZ.out]
      go_wp2_with fail
      refine (is_bad 7 _ _ (by omega)).mono ?_
      rintro e w' ⟨rfl, rfl⟩
      go_wp2_with fail
      refine (alive_any _).mono ?_
      rintro e w3 ⟨rfl, hb3⟩
      have B3 := Lib.hid (bnext B2.out hb3)
      clear hb3
      go_wp2_with fail
      go_ret
      exact ⟨rfl, B3.out⟩

set_option maxHeartbeats 1000000 in
theorem twice (w : World) (p : Nat) (hp : p < 18446744073709551616) (v : Value) (xs : List Nat) (hv : Nums w v xs) (h : M.chk p xs 200 = 0) (hz : M.NoZ xs) (hn : ¬ xs.Nodup) :
    Calls Try.prog 10 #[.int .u64 p, v] w fun e w' => e = .returned (.bool true) ∧ Below w.heap.size w w' := by
  obtain ⟨hi, hl, hw⟩ := M.chk_ok h
  obtain ⟨h3, hp'⟩ := M.pos_of hi
  
  obtain ⟨A, cap, rfl, hcap, hlen, hC⟩ := nums_view hv
  have HX := Lib.hid hC
  have HV := Lib.hid hv
  have HM := Lib.hid (show Calls Try.prog 47 #[.int .u64 p, .slice A xs.length cap] w (Fails2 w 6) from (away_any p _ xs w hv h).mono fun e w' hh => by
    rcases hh.1 hz with ⟨hb, ⟨hn', _⟩ | ⟨_, he⟩⟩
    · exact absurd hn' hn
    · exact ⟨he, hb⟩)
  have h1 := fun W => right_none p W hp
  rw [M.rgt_nil hi] at h1
  have H1 := Lib.hid h1
  have hs : ((0 : Int) == 0) = true := rfl
  have hwi := fun W (h1 : Nums W (.slice A xs.length cap) xs) => within_any p _ xs W h1 rfl
  rw [M.err_t hw] at hwi
  have HWI := Lib.hid hwi
  have htw := fun W (h1 : Nums W (.slice A xs.length cap) xs) => twice_any _ xs W h1
  rw [← M.twice_yes hn] at htw
  have HTW := Lib.hid htw
  have HNZ := Lib.hid (show ∀ k, k < xs.length → xs.getD k 0 ≠ 0 from fun k hk => hz _ (by rw [M.getD_lt hk]; exact List.getElem_mem hk))
  have hud : ∀ b : Bool, undef ≠ Value.bool b := fun b h => by cases h
  clear hv h1 hC hcap h hwi hw hi hz htw hn
  go_enter Try.func10, Try.ntmps10
  go_wp2_with fail
  refine (HM.out).mono ?_
  rintro e w1 ⟨rfl, hb1⟩
  have B1 := Lib.hid hb1
  clear hb1
  go_wp2_with fail
  refine (H1.out _).mono ?_
  rintro e w2 ⟨rfl, hb2⟩
  have B2 := Lib.hid (bnext B1.out hb2)
  clear hb2
  go_wp2_with fail
  refine (HWI.out _ (HV.out.below B2.out)).mono ?_
  rintro e w' ⟨rfl, rfl⟩
  go_wp2_with fail
  go_loop [7, 32] (fun t7 t => ∃ k : Nat, k ≤ xs.length ∧ t = .int .i64 k ∧ t7 = .int .i64 0) (fun _ t => xs.length - (intOf t).toNat)
  case atStart => exact ⟨0, by omega, rfl, rfl⟩
  case round =>
    obtain ⟨k, hk, rfl, rfl⟩ := hrel
    by_cases hlt : k < xs.length
    · obtain ⟨b, off, rfl, hb, hcell⟩ := HX.out (by omega)
      have hc1 := (B2.out.cell (p := ⟨b, off + k, none⟩) hb).trans (hcell k hlt)
      have hx0 := HNZ.out k hlt
      obtain ⟨x, ex⟩ : ∃ x, x = xs.getD k 0 := ⟨_, rfl⟩
      rw [← ex] at hc1 hx0
      have hxb : ((x : Int) == 0) = false := by rw [beq_eq_false_iff_ne]; omega
      clear ex hcell hx0
      go_wp2_with fail
      go_round
      case rel => exact ⟨k + 1, by omega, by go_num, rfl⟩
      case measure => simp [intOf]; omega
    · obtain rfl : k = xs.length := by omega
      go_wp2_with fail
      refine (HTW.out _ (HV.out.below B2.out)).mono ?_
      rintro e w3 ⟨rfl, hb3⟩
      have B3 := Lib.hid (bnext B2.out hb3)
      clear hb3
      go_wp2_with fail
      refine (is_bad 6 _ _ (by omega)).mono ?_
      rintro e w' ⟨rfl, rfl⟩
      go_wp2_with fail
      refine (alive_any _).mono ?_
      rintro e w4 ⟨rfl, hb4⟩
      have B4 := Lib.hid (bnext B3.out hb4)
      clear hb4
      go_wp2_with fail
      go_ret
      exact ⟨rfl, B4.out⟩

set_option maxHeartbeats 1000000 in
theorem good (w : World) (p : Nat) (hp : p < 18446744073709551616) (v : Value) (xs : List Nat) (hv : Nums w v xs) (h : M.chk p xs 200 = 0) (hz : M.NoZ xs) (hn : xs.Nodup) :
    Calls Try.prog 10 #[.int .u64 p, v] w fun e w' => e = .returned (.bool true) ∧ Below w.heap.size w w' := by
  obtain ⟨hi, hl, hw⟩ := M.chk_ok h
  obtain ⟨h3, hp'⟩ := M.pos_of hi
  
  obtain ⟨F, hF⟩ := M.away_one hi hl hw hz hn
  obtain ⟨A, cap, rfl, hcap, hlen, hC⟩ := nums_view hv
  have HX := Lib.hid hC
  have HV := Lib.hid hv
  have HM := Lib.hid (show Calls Try.prog 47 #[.int .u64 p, .slice A xs.length cap] w (Gives2 w F) from (away_any p _ xs w hv h).mono fun e w' hh => by
    rcases hh.1 hz with ⟨hb, ⟨_, v', f, he, hN, hA⟩ | ⟨hn', he⟩⟩
    · exact ⟨v', he, by rw [← hF f hA]; exact hN, hb⟩
    · exact absurd hn hn')
  have h1 := fun W => right_none p W hp
  rw [M.rgt_nil hi] at h1
  have H1 := Lib.hid h1
  have hs : ((0 : Int) == 0) = true := rfl
  have hwi := fun W (h1 : Nums W (.slice A xs.length cap) xs) => within_any p _ xs W h1 rfl
  rw [M.err_t hw] at hwi
  have HWI := Lib.hid hwi
  have htw := fun W (h1 : Nums W (.slice A xs.length cap) xs) => twice_any _ xs W h1
  rw [← M.twice_no hn] at htw
  have HTW := Lib.hid htw
  have HNZ := Lib.hid (show ∀ k, k < xs.length → xs.getD k 0 ≠ 0 from fun k hk => hz _ (by rw [M.getD_lt hk]; exact List.getElem_mem hk))
  have hr := fun W (h1 : Nums W (.slice A xs.length cap) xs) => (raway_any p _ xs W hi hw hl hz h1).mono (fun e w' (hh : ∃ v' f, e = .returned v' ∧ Nums w' v' f ∧ M.AwayOf p xs f ∧ Below W.heap.size W w') => show (Gives W F) e w' by
    obtain ⟨v', f, he, hN, hA, hb⟩ := hh
    exact ⟨v', he, by rw [← hF f hA]; exact hN, hb⟩)
  have HR := Lib.hid hr
  have hud : ∀ b : Bool, undef ≠ Value.bool b := fun b h => by cases h
  clear hv h1 hC hcap h hwi hw hi hz htw hn hr hF
  go_enter Try.func10, Try.ntmps10
  go_wp2_with fail
  refine (HM.out).mono ?_
  rintro e w1 ⟨v1, rfl, hNM, hb1⟩
  have B1 := Lib.hid hb1
  have NM := Lib.hid hNM
  clear hb1 hNM
  go_wp2_with fail
  refine (H1.out _).mono ?_
  rintro e w2 ⟨rfl, hb2⟩
  have B2 := Lib.hid (bnext B1.out hb2)
  have NM_2 := Lib.hid (NM.out.below hb2)
  clear hb2
  go_wp2_with fail
  refine (HWI.out _ (HV.out.below B2.out)).mono ?_
  rintro e w' ⟨rfl, rfl⟩
  go_wp2_with fail
  go_loop [7, 32] (fun t7 t => ∃ k : Nat, k ≤ xs.length ∧ t = .int .i64 k ∧ t7 = .int .i64 0) (fun _ t => xs.length - (intOf t).toNat)
  case atStart => exact ⟨0, by omega, rfl, rfl⟩
  case round =>
    obtain ⟨k, hk, rfl, rfl⟩ := hrel
    by_cases hlt : k < xs.length
    · obtain ⟨b, off, rfl, hb, hcell⟩ := HX.out (by omega)
      have hc1 := (B2.out.cell (p := ⟨b, off + k, none⟩) hb).trans (hcell k hlt)
      have hx0 := HNZ.out k hlt
      obtain ⟨x, ex⟩ : ∃ x, x = xs.getD k 0 := ⟨_, rfl⟩
      rw [← ex] at hc1 hx0
      have hxb : ((x : Int) == 0) = false := by rw [beq_eq_false_iff_ne]; omega
      clear ex hcell hx0
      go_wp2_with fail
      go_round
      case rel => exact ⟨k + 1, by omega, by go_num, rfl⟩
      case measure => simp [intOf]; omega
    · obtain rfl : k = xs.length := by omega
      go_wp2_with fail
      refine (HTW.out _ (HV.out.below B2.out)).mono ?_
      rintro e w3 ⟨rfl, hb3⟩
      have B3 := Lib.hid (bnext B2.out hb3)
      have NM_3 := Lib.hid (NM_2.out.below hb3)
      clear hb3
      go_wp2_with fail
      refine (HR.out _ (HV.out.below B3.out)).mono ?_
      rintro e w4 ⟨v4, rfl, hNR, hb4⟩
      have B4 := Lib.hid (bnext B3.out hb4)
      have NM_4 := Lib.hid (NM_3.out.below hb4)
      have NR := Lib.hid hNR
      clear hb4 hNR
      go_wp2_with fail
      refine (is_good _ _ _ _ NM_4.out NR.out).mono ?_
      rintro e w5 ⟨rfl, hb5⟩
      have B5 := Lib.hid (bnext B4.out hb5)
      have NM_5 := Lib.hid (NM_4.out.below hb5)
      have NR_5 := Lib.hid (NR.out.below hb5)
      clear hb5
      go_wp2_with fail
      go_ret
      exact ⟨rfl, B5.out⟩

set_option maxHeartbeats 1000000 in
theorem walk (w : World) (p : Nat) (hp : p < 18446744073709551616) (v : Value) (xs : List Nat) (hv : Nums w v xs) :
    Calls Try.prog 10 #[.int .u64 p, v] w fun e w' => e = .returned (.bool true) ∧ Below w.heap.size w w' := by
  by_cases h : M.chk p xs 200 = 0
  · by_cases hz : M.NoZ xs
    · by_cases hn : xs.Nodup
      · exact good w p hp v xs hv h hz hn
      · exact twice w p hp v xs hv h hz hn
    · exact zero w p hp v xs hv h hz
  · cases hi : M.isP p with
    | false => exact no w p hp v xs hv hi
    | true =>
      by_cases hl : 200 < xs.length
      · exact long w p hp v xs hv hi hl
      · cases hw : M.within p xs with
        | false => exact out w p hp v xs hv hi hl hw
        | true => exact absurd (M.chk_of hi (by omega) hw) h
end Go.Proofs.Ytafoonhmfieikaa.polyAwayW
