/-
  Package pair of the program: what every function checks first.
-/
import Derived.Test.YtglehjcohdjhoaaPr2
namespace Go.Proofs.Ytglehjcohdjhoaa
open Go.RowKit
set_option linter.unusedVariables false
set_option maxRecDepth 100000

set_option maxHeartbeats 400000 in
theorem isThr_any (t : Int) (w : World) {r : Bool} (hr : decide (0 ≤ t ∧ t ≤ 3) = r) :
    Calls Try.prog 51 #[.int .i64 t] w fun e w' => e = .returned (.bool r) ∧ w = w' := by
  have hud : ∀ b : Bool, undef ≠ Value.bool b := fun b h => by cases h
  have HR := Lib.hid hr
  clear hr
  by_cases h1 : 0 ≤ t
  · by_cases h2 : t ≤ 3
    · have hb1 : decide (t ≥ 0) = true := by simpa using h1
      have hb2 : decide (t ≤ 3) = true := by simpa using h2
      go_enter Try.func51, Try.ntmps51
      go_wp2_with fail
      go_ret
      exact ⟨ret_bool (by rw [← HR.out]; simp <;> omega), rfl⟩
    · have hb1 : decide (t ≥ 0) = true := by simpa using h1
      have hb2 : decide (t ≤ 3) = false := by simpa using h2
      go_enter Try.func51, Try.ntmps51
      go_wp2_with fail
      go_ret
      exact ⟨ret_bool (by rw [← HR.out]; simp <;> omega), rfl⟩
  · have hb1 : decide (t ≥ 0) = false := by simpa using h1
    go_enter Try.func51, Try.ntmps51
    go_wp2_with fail
    go_ret
    exact ⟨ret_bool (by rw [← HR.out]; simp <;> omega), rfl⟩

set_option maxHeartbeats 400000 in
theorem psize_any (t : Int) (w : World) (h1 : -9223372036854775808 ≤ t) (h2 : t ≤ 9223372036854775807) :
    Calls Try.prog 17 #[.int .i64 t] w fun e w' => e = .returned (.int .i64 (M.psize t)) ∧ w = w' := by
  by_cases h : 0 ≤ t ∧ t ≤ 3
  · have HT := Lib.hid fun (w : World) => isThr_any t w (r := true) (by simpa using h)
    have e1 : M.psize t = (t + 1) * (t + 2) / 2 - 1 := by unfold M.psize; rw [if_neg (by omega)]
    obtain ⟨ha, hb⟩ := h
    have HE := Lib.hid e1
    obtain ⟨T, rfl⟩ : ∃ T : Nat, t = T := ⟨t.toNat, by omega⟩
    have hT : T = 0 ∨ T = 1 ∨ T = 2 ∨ T = 3 := by omega
    clear e1
    rcases hT with rfl | rfl | rfl | rfl
    all_goals
      go_enter Try.func17, Try.ntmps17
      go_wp2_with fail
      refine (HT.out _).mono ?_
      rintro e w' ⟨rfl, rfl⟩
      go_wp2_with fail
      go_ret
      exact ⟨ret1 (by rw [HE.out]; decide), rfl⟩
  · have HT := Lib.hid fun (w : World) => isThr_any t w (r := false) (by simpa using h)
    have HE := Lib.hid (show M.psize t = 0 by unfold M.psize; rw [if_pos (by omega)])
    clear h
    go_enter Try.func17, Try.ntmps17
    go_wp2_with fail
    refine (HT.out _).mono ?_
    rintro e w' ⟨rfl, rfl⟩
    go_wp2_with fail
    go_ret
    exact ⟨ret1 (by rw [HE.out]), rfl⟩

set_option maxHeartbeats 400000 in
theorem pgeq_any (x p b : Nat) (w : World) (hb : w.cell? ⟨b, 0, none⟩ = some (.int .u64 (p : Nat))) {r : Bool} (hr : decide (p ≤ x) = r) :
    Calls Try.prog 82 #[.int .u64 x, .pointer (some ⟨b, 0, none⟩)] w fun e w' => e = .returned (.bool r) ∧ w = w' := by
  have HR := Lib.hid hr
  clear hr
  go_enter Try.func82, Try.ntmps82
  go_wp2_with fail
  go_ret
  exact ⟨ret_bool (by rw [← HR.out, Bool.eq_iff_iff]), rfl⟩

set_option maxHeartbeats 1000000 in
theorem pidxGe_any (p b : Nat) (v : Value) (zs : List Nat) (w : World) (hv : Nums w v zs) (hb : w.cell? ⟨b, 0, none⟩ = some (.int .u64 (p : Nat))) :
    Calls Try.prog 98 #[v, .func (.func 82) #[] #[.pointer (some ⟨b, 0, none⟩)]] w fun e w' => (∃ x : Int, e = .returned (.int .i64 x) ∧ decide (x ≥ 0) = !M.within p zs) ∧ w = w' := by
  obtain ⟨A, cap, rfl, hcap, hlen, hC⟩ := nums_view hv
  have HV := Lib.hid hC
  clear hv hC hcap
  go_enter Try.func98, Try.ntmps98
  go_wp2_with fail
  go_loop [8] (fun t => ∃ k : Nat, k ≤ zs.length ∧ t = .int .i64 k ∧ M.within p (zs.take k) = true) (fun t => zs.length - (intOf t).toNat)
  case atStart => exact ⟨0, by omega, rfl, by simp [M.within]⟩
  case round =>
    obtain ⟨k, hk, rfl, hw⟩ := hrel
    have HW := Lib.hid hw
    clear hw
    by_cases hlt : k < zs.length
    · obtain ⟨bb, off, rfl, hbb, hcell⟩ := HV.out (by omega)
      have hc := hcell k hlt
      obtain ⟨x, hx⟩ : ∃ x, x = zs.getD k 0 := ⟨_, rfl⟩
      rw [← hx] at hc
      have HX := Lib.hid hx
      clear hx hcell
      by_cases hpx : p ≤ x
      · have HG := Lib.hid (pgeq_any x p b w hb (r := true) (by simp [hpx]))
        go_wp2_with fail
        refine HG.out.mono ?_
        rintro e w' ⟨rfl, rfl⟩
        go_wp2_with fail
        go_ret
        exact ⟨⟨_, rfl, by rw [M.within_not hlt (by rw [← HX.out]; exact hpx)]; simp⟩, rfl⟩
      · have HG := Lib.hid (pgeq_any x p b w hb (r := false) (by simp; omega))
        have hxp : x < p := by omega
        go_wp2_with fail
        refine HG.out.mono ?_
        rintro e w' ⟨rfl, rfl⟩
        go_wp2_with fail
        go_round
        case rel => exact ⟨k + 1, by omega, by go_num, M.within_take hlt HW.out (by rw [← HX.out]; exact hxp)⟩
        case measure => simp [intOf]; omega
    · go_wp2_with fail
      go_ret
      have hk' : k = zs.length := by omega
      have h := HW.out
      rw [hk', List.take_length] at h
      exact ⟨⟨_, rfl, by rw [h]; rfl⟩, rfl⟩

set_option maxHeartbeats 400000 in
theorem panyGe_any (p b : Nat) (v : Value) (zs : List Nat) (w : World) (hv : Nums w v zs) (hb : w.cell? ⟨b, 0, none⟩ = some (.int .u64 (p : Nat))) :
    Calls Try.prog 81 #[v, .func (.func 82) #[] #[.pointer (some ⟨b, 0, none⟩)]] w fun e w' => e = .returned (.bool (!M.within p zs)) ∧ w = w' := by
  have HI := Lib.hid (pidxGe_any p b v zs w hv hb)
  obtain ⟨A, cap, rfl⟩ := nums_slice' hv
  clear hv
  go_enter Try.func81, Try.ntmps81
  go_wp2_with fail
  refine HI.out.mono ?_
  rintro e w' ⟨⟨x, rfl, hx⟩, rfl⟩
  have HX := Lib.hid hx
  clear hx
  go_wp2_with fail
  go_ret
  exact ⟨ret_bool HX.out, rfl⟩

set_option maxHeartbeats 400000 in
theorem pbelow_any (p : Nat) (v : Value) (zs : List Nat) (w : World) (hv : Nums w v zs) :
    Calls Try.prog 53 #[.int .u64 p, v] w fun e w' => e = .returned (.bool (M.within p zs)) ∧ Below w.heap.size w w' := by
  have HA := Lib.hid (panyGe_any p w.heap.size v zs (w.alloc (.cells #[.int .u64 (p : Nat)] 22)) (hv.below (balloc w _)) (by simp))
  have HB := Lib.hid (balloc w (.cells #[.int .u64 (p : Nat)] 22))
  obtain ⟨A, cap, rfl⟩ := nums_slice' hv
  clear hv
  go_enter Try.func53, Try.ntmps53
  go_wp2_with fail
  refine HA.out.mono ?_
  rintro e w' ⟨rfl, rfl⟩
  go_wp2_with fail
  go_ret
  exact ⟨ret_bool (by simp), HB.out⟩
set_option maxHeartbeats 400000 in
theorem lenNe_any (A : Option Addr) (l cap n b : Nat) (w : World) (hb : w.cell? ⟨b, 0, none⟩ = some (.int .i64 (n : Nat))) {r : Bool} (hr : (l != n) = r) :
    Calls Try.prog 80 #[.slice A l cap, .pointer (some ⟨b, 0, none⟩)] w fun e w' => e = .returned (.bool r) ∧ w = w' := by
  have HR := Lib.hid (show ((l : Int) != (n : Int)) = r by rw [← hr, Bool.eq_iff_iff]; simp only [bne_iff_ne, ne_eq, Int.ofNat_inj]; try omega)
  clear hr
  go_enter Try.func80, Try.ntmps80
  go_wp2_with fail
  go_ret
  exact ⟨ret_bool HR.out, rfl⟩

set_option maxHeartbeats 1000000 in
theorem idxLen_any (n b : Nat) (v : Value) (m : List (List Nat)) (w : World) (hv : Mat w v m) (hb : w.cell? ⟨b, 0, none⟩ = some (.int .i64 (n : Nat))) :
    Calls Try.prog 97 #[v, .func (.func 80) #[] #[.pointer (some ⟨b, 0, none⟩)]] w fun e w' => (∃ x : Int, e = .returned (.int .i64 x) ∧ decide (x ≥ 0) = !(m.all fun r => r.length == n)) ∧ w = w' := by
  obtain ⟨A, cap, rfl, hcap, hlen, hC⟩ := mat_view6 hv
  have HV := Lib.hid hC
  clear hv hC hcap
  go_enter Try.func97, Try.ntmps97
  go_wp2_with fail
  go_loop [8] (fun t => ∃ k : Nat, k ≤ m.length ∧ t = .int .i64 k ∧ ∀ i, i < k → (m.getD i []).length = n) (fun t => m.length - (intOf t).toNat)
  case atStart => exact ⟨0, by omega, rfl, fun i hi => absurd hi (by omega)⟩
  case round =>
    obtain ⟨k, hk, rfl, hw⟩ := hrel
    have HW := Lib.hid hw
    clear hw
    by_cases hlt : k < m.length
    · obtain ⟨bb, off, rfl, hbb, hcell⟩ := HV.out (by omega)
      obtain ⟨Au, cu, hc, _⟩ := hcell k hlt
      obtain ⟨x, hx⟩ : ∃ x, x = (m.getD k []).length := ⟨_, rfl⟩
      rw [← hx] at hc
      have HX := Lib.hid hx
      clear hx hcell
      by_cases hpx : x = n
      · have HG := Lib.hid (lenNe_any Au x cu n b w hb (r := false) (by simp [hpx]))
        have HPX := Lib.hid hpx
        clear hpx
        go_wp2_with fail
        refine HG.out.mono ?_
        rintro e w' ⟨rfl, rfl⟩
        go_wp2_with fail
        go_round
        case rel =>
          refine ⟨k + 1, by omega, by go_num, fun i hi => ?_⟩
          rcases (show i < k ∨ i = k by omega) with h | rfl
          · exact HW.out i h
          · rw [← HX.out]; exact HPX.out
        case measure => simp [intOf]; omega
      · have HG := Lib.hid (lenNe_any Au x cu n b w hb (r := true) (by simpa using hpx))
        have HPX := Lib.hid hpx
        clear hpx
        go_wp2_with fail
        refine HG.out.mono ?_
        rintro e w' ⟨rfl, rfl⟩
        go_wp2_with fail
        go_ret
        exact ⟨⟨_, rfl, by rw [M.all_rows_no hlt (by rw [← HX.out]; simpa using HPX.out)]; simp⟩, rfl⟩
    · go_wp2_with fail
      go_ret
      obtain rfl : k = m.length := by omega
      exact ⟨⟨_, rfl, by rw [M.all_rows.2 fun i hi => by simpa using HW.out i hi]; rfl⟩, rfl⟩

set_option maxHeartbeats 400000 in
theorem anyLen_any (n b : Nat) (v : Value) (m : List (List Nat)) (w : World) (hv : Mat w v m) (hb : w.cell? ⟨b, 0, none⟩ = some (.int .i64 (n : Nat))) :
    Calls Try.prog 79 #[v, .func (.func 80) #[] #[.pointer (some ⟨b, 0, none⟩)]] w fun e w' => e = .returned (.bool (!(m.all fun r => r.length == n))) ∧ w = w' := by
  have HI := Lib.hid (idxLen_any n b v m w hv hb)
  obtain ⟨A, cap, rfl, _⟩ := mat_view6 hv
  clear hv
  go_enter Try.func79, Try.ntmps79
  go_wp2_with fail
  refine HI.out.mono ?_
  rintro e w' ⟨⟨x, rfl, hx⟩, rfl⟩
  have HX := Lib.hid hx
  clear hx
  go_wp2_with fail
  go_ret
  exact ⟨ret_bool HX.out, rfl⟩

set_option maxHeartbeats 400000 in
theorem isSquare_any (n : Nat) (v : Value) (m : List (List Nat)) (w : World) (hv : Mat w v m) :
    Calls Try.prog 52 #[v, .int .i64 n] w fun e w' => e = .returned (.bool (m.length == n && m.all fun r => r.length == n)) ∧ Below w.heap.size w w' := by
  have hud : ∀ b : Bool, undef ≠ Value.bool b := fun b h => by cases h
  have HA := Lib.hid (anyLen_any n w.heap.size v m (w.alloc (.cells #[.int .i64 (n : Nat)] 3)) (hv.below (balloc w _)) (by simp))
  have HB := Lib.hid (balloc w (.cells #[.int .i64 (n : Nat)] 3))
  obtain ⟨A, cap, rfl, _⟩ := mat_view6 hv
  clear hv
  by_cases hl : m.length = n
  · have hb1 : ((m.length : Int) == (n : Int)) = true := by rw [beq_iff_eq]; omega
    have HL := Lib.hid hl
    clear hl
    go_enter Try.func52, Try.ntmps52
    go_wp2_with fail
    refine HA.out.mono ?_
    rintro e w' ⟨rfl, rfl⟩
    go_wp2_with fail
    go_ret
    exact ⟨ret_bool (by simp [HL.out]), HB.out⟩
  · have hb1 : ((m.length : Int) == (n : Int)) = false := by rw [beq_eq_false_iff_ne]; omega
    have HL := Lib.hid hl
    clear hl
    go_enter Try.func52, Try.ntmps52
    go_wp2_with fail
    go_ret
    exact ⟨ret_bool (by simp [HL.out]), HB.out⟩

end Go.Proofs.Ytglehjcohdjhoaa
