/-
  Package twice of the program: numbers below p, lists of a mask; Size, Check.
-/
import Derived.Test.YtfkepkdfpjaniaaTr1
namespace Go.Proofs.Ytfkepkdfpjaniaa
open Go.RowKit
set_option linter.unusedVariables false
set_option maxRecDepth 100000

set_option maxHeartbeats 400000 in
theorem tgeq_any (x p b : Nat) (w : World) (hb : w.cell? ⟨b, 0, none⟩ = some (.int .u64 (p : Nat))) {r : Bool} (hr : decide (p ≤ x) = r) :
    Calls Try.prog 79 #[.int .u64 x, .pointer (some ⟨b, 0, none⟩)] w fun e w' => e = .returned (.bool r) ∧ w = w' := by
  have HR := Lib.hid hr
  clear hr
  go_enter Try.func79, Try.ntmps79
  go_wp2_with fail
  go_ret
  exact ⟨ret_bool (by rw [← HR.out, Bool.eq_iff_iff]), rfl⟩

set_option maxHeartbeats 1000000 in
theorem tidxGe_any (p b : Nat) (v : Value) (zs : List Nat) (w : World) (hv : Nums w v zs) (hb : w.cell? ⟨b, 0, none⟩ = some (.int .u64 (p : Nat))) :
    Calls Try.prog 100 #[v, .func (.func 79) #[] #[.pointer (some ⟨b, 0, none⟩)]] w fun e w' => (∃ x : Int, e = .returned (.int .i64 x) ∧ decide (x ≥ 0) = !M.within p zs) ∧ w = w' := by
  obtain ⟨A, cap, rfl, hcap, hlen, hC⟩ := nums_view hv
  have HV := Lib.hid hC
  clear hv hC hcap
  go_enter Try.func100, Try.ntmps100
  go_wp2_with fail
  go_loop [8] (fun t => ∃ k : Nat, k ≤ zs.length ∧ t = .int .i64 k ∧ M.within p (zs.take k) = true) (fun t => zs.length - (intOf t).toNat)
  case atStart => exact ⟨0, by omega, rfl, by simp [M.within]⟩
  case round =>
    obtain ⟨k, hk, rfl, hw⟩ := hrel
    have HW := Lib.hid hw
    clear hw
    by_cases hlt : k < zs.length
    · obtain ⟨bb, off, rfl, hbb, hcell⟩ := HV.out (by omega)
      have hc := hcell k hlt
      obtain ⟨x, hx⟩ : ∃ x, x = zs.getD k 0 := ⟨_, rfl⟩
      rw [← hx] at hc
      have HX := Lib.hid hx
      clear hx hcell
      by_cases hpx : p ≤ x
      · have HG := Lib.hid (tgeq_any x p b w hb (r := true) (by simp [hpx]))
        go_wp2_with fail
        refine HG.out.mono ?_
        rintro e w' ⟨rfl, rfl⟩
        go_wp2_with fail
        go_ret
        exact ⟨⟨_, rfl, by rw [M.within_not hlt (by rw [← HX.out]; exact hpx)]; simp⟩, rfl⟩
      · have HG := Lib.hid (tgeq_any x p b w hb (r := false) (by simp; omega))
        have hxp : x < p := by omega
        go_wp2_with fail
        refine HG.out.mono ?_
        rintro e w' ⟨rfl, rfl⟩
        go_wp2_with fail
        go_round
        case rel => exact ⟨k + 1, by omega, by go_num, M.within_take hlt HW.out (by rw [← HX.out]; exact hxp)⟩
        case measure => simp [intOf]; omega
    · go_wp2_with fail
      go_ret
      have hk' : k = zs.length := by omega
      have h := HW.out
      rw [hk', List.take_length] at h
      exact ⟨⟨_, rfl, by rw [h]; rfl⟩, rfl⟩

set_option maxHeartbeats 400000 in
theorem tanyGe_any (p b : Nat) (v : Value) (zs : List Nat) (w : World) (hv : Nums w v zs) (hb : w.cell? ⟨b, 0, none⟩ = some (.int .u64 (p : Nat))) :
    Calls Try.prog 78 #[v, .func (.func 79) #[] #[.pointer (some ⟨b, 0, none⟩)]] w fun e w' => e = .returned (.bool (!M.within p zs)) ∧ w = w' := by
  have HI := Lib.hid (tidxGe_any p b v zs w hv hb)
  obtain ⟨A, cap, rfl⟩ := nums_slice' hv
  clear hv
  go_enter Try.func78, Try.ntmps78
  go_wp2_with fail
  refine HI.out.mono ?_
  rintro e w' ⟨⟨x, rfl, hx⟩, rfl⟩
  have HX := Lib.hid hx
  clear hx
  go_wp2_with fail
  go_ret
  exact ⟨ret_bool HX.out, rfl⟩

set_option maxHeartbeats 400000 in
theorem tbelow_any (p : Nat) (v : Value) (zs : List Nat) (w : World) (hv : Nums w v zs) :
    Calls Try.prog 49 #[.int .u64 p, v] w fun e w' => e = .returned (.bool (M.within p zs)) ∧ Below w.heap.size w w' := by
  have HA := Lib.hid (tanyGe_any p w.heap.size v zs (w.alloc (.cells #[.int .u64 (p : Nat)] 22)) (hv.below (balloc w _)) (by simp))
  have HB := Lib.hid (balloc w (.cells #[.int .u64 (p : Nat)] 22))
  obtain ⟨A, cap, rfl⟩ := nums_slice' hv
  clear hv
  go_enter Try.func49, Try.ntmps49
  go_wp2_with fail
  refine HA.out.mono ?_
  rintro e w' ⟨rfl, rfl⟩
  go_wp2_with fail
  go_ret
  exact ⟨ret_bool (by simp), HB.out⟩
set_option maxHeartbeats 400000 in
theorem lenGt_any (A : Option Addr) (l cap n b : Nat) (w : World) (hb : w.cell? ⟨b, 0, none⟩ = some (.int .i64 (n : Nat))) {r : Bool} (hr : decide (n < l) = r) :
    Calls Try.prog 77 #[.slice A l cap, .pointer (some ⟨b, 0, none⟩)] w fun e w' => e = .returned (.bool r) ∧ w = w' := by
  have HR := Lib.hid hr
  clear hr
  go_enter Try.func77, Try.ntmps77
  go_wp2_with fail
  go_ret
  exact ⟨ret_bool HR.out, rfl⟩

set_option maxHeartbeats 1000000 in
theorem idxLen7_any (n b : Nat) (v : Value) (m : List (List Nat)) (w : World) (hv : Mat w v m) (hb : w.cell? ⟨b, 0, none⟩ = some (.int .i64 (n : Nat))) :
    Calls Try.prog 99 #[v, .func (.func 77) #[] #[.pointer (some ⟨b, 0, none⟩)]] w fun e w' => (∃ x : Int, e = .returned (.int .i64 x) ∧ decide (x ≥ 0) = !(m.all fun r => decide (r.length ≤ n))) ∧ w = w' := by
  obtain ⟨A, cap, rfl, hcap, hlen, hC⟩ := mat_view6 hv
  have HV := Lib.hid hC
  clear hv hC hcap
  go_enter Try.func99, Try.ntmps99
  go_wp2_with fail
  go_loop [8] (fun t => ∃ k : Nat, k ≤ m.length ∧ t = .int .i64 k ∧ ∀ i, i < k → (m.getD i []).length ≤ n) (fun t => m.length - (intOf t).toNat)
  case atStart => exact ⟨0, by omega, rfl, fun i hi => absurd hi (by omega)⟩
  case round =>
    obtain ⟨k, hk, rfl, hw⟩ := hrel
    have HW := Lib.hid hw
    clear hw
    by_cases hlt : k < m.length
    · obtain ⟨bb, off, rfl, hbb, hcell⟩ := HV.out (by omega)
      obtain ⟨Au, cu, hc, _⟩ := hcell k hlt
      obtain ⟨x, hx⟩ : ∃ x, x = (m.getD k []).length := ⟨_, rfl⟩
      rw [← hx] at hc
      have HX := Lib.hid hx
      clear hx hcell
      by_cases hpx : x ≤ n
      · have HG := Lib.hid (lenGt_any Au x cu n b w hb (r := false) (by simpa using hpx))
        have HPX := Lib.hid hpx
        clear hpx
        go_wp2_with fail
        refine HG.out.mono ?_
        rintro e w' ⟨rfl, rfl⟩
        go_wp2_with fail
        go_round
        case rel =>
          refine ⟨k + 1, by omega, by go_num, fun i hi => ?_⟩
          rcases (show i < k ∨ i = k by omega) with h | rfl
          · exact HW.out i h
          · rw [← HX.out]; exact HPX.out
        case measure => simp [intOf]; omega
      · have HG := Lib.hid (lenGt_any Au x cu n b w hb (r := true) (by simpa using hpx))
        have HPX := Lib.hid hpx
        clear hpx
        go_wp2_with fail
        refine HG.out.mono ?_
        rintro e w' ⟨rfl, rfl⟩
        go_wp2_with fail
        go_ret
        exact ⟨⟨_, rfl, by rw [M.all_rows_no hlt (by rw [← HX.out]; simpa using HPX.out)]; simp⟩, rfl⟩
    · go_wp2_with fail
      go_ret
      obtain rfl : k = m.length := by omega
      exact ⟨⟨_, rfl, by rw [M.all_rows.2 fun i hi => by simpa using HW.out i hi]; rfl⟩, rfl⟩

set_option maxHeartbeats 400000 in
theorem anyLen7_any (n b : Nat) (v : Value) (m : List (List Nat)) (w : World) (hv : Mat w v m) (hb : w.cell? ⟨b, 0, none⟩ = some (.int .i64 (n : Nat))) :
    Calls Try.prog 76 #[v, .func (.func 77) #[] #[.pointer (some ⟨b, 0, none⟩)]] w fun e w' => e = .returned (.bool (!(m.all fun r => decide (r.length ≤ n)))) ∧ w = w' := by
  have HI := Lib.hid (idxLen7_any n b v m w hv hb)
  obtain ⟨A, cap, rfl, _⟩ := mat_view6 hv
  clear hv
  go_enter Try.func76, Try.ntmps76
  go_wp2_with fail
  refine HI.out.mono ?_
  rintro e w' ⟨⟨x, rfl, hx⟩, rfl⟩
  have HX := Lib.hid hx
  clear hx
  go_wp2_with fail
  go_ret
  exact ⟨ret_bool HX.out, rfl⟩

set_option maxHeartbeats 400000 in
theorem hasForm_any (n : Nat) (v : Value) (m : List (List Nat)) (w : World) (hv : Mat w v m) :
    Calls Try.prog 48 #[v, .int .i64 n] w fun e w' => e = .returned (.bool (m.length == n && m.all fun r => decide (r.length ≤ n))) ∧ Below w.heap.size w w' := by
  have hud : ∀ b : Bool, undef ≠ Value.bool b := fun b h => by cases h
  have HA := Lib.hid (anyLen7_any n w.heap.size v m (w.alloc (.cells #[.int .i64 (n : Nat)] 3)) (hv.below (balloc w _)) (by simp))
  have HB := Lib.hid (balloc w (.cells #[.int .i64 (n : Nat)] 3))
  obtain ⟨A, cap, rfl, _⟩ := mat_view6 hv
  clear hv
  by_cases hl : m.length = n
  · have hb1 : ((m.length : Int) == (n : Int)) = true := by rw [beq_iff_eq]; omega
    have HL := Lib.hid hl
    clear hl
    go_enter Try.func48, Try.ntmps48
    go_wp2_with fail
    refine HA.out.mono ?_
    rintro e w' ⟨rfl, rfl⟩
    go_wp2_with fail
    go_ret
    exact ⟨ret_bool (by simp [HL.out]), HB.out⟩
  · have hb1 : ((m.length : Int) == (n : Int)) = false := by rw [beq_eq_false_iff_ne]; omega
    have HL := Lib.hid hl
    clear hl
    go_enter Try.func48, Try.ntmps48
    go_wp2_with fail
    go_ret
    exact ⟨ret_bool (by simp [HL.out]), HB.out⟩

set_option maxHeartbeats 400000 in
theorem tsize_any (t : Int) (w : World) (h1 : -9223372036854775808 ≤ t) (h2 : t ≤ 9223372036854775807) :
    Calls Try.prog 14 #[.int .i64 t] w fun e w' => e = .returned (.int .i64 (M.tsize t)) ∧ w = w' := by
  have hud : ∀ b : Bool, undef ≠ Value.bool b := fun b h => by cases h
  by_cases h : t < 0
  · go_enter Try.func14, Try.ntmps14
    go_wp2
    go_ret
    exact ⟨ret1 (by unfold M.tsize; rw [if_pos (.inl h)]), rfl⟩
  · by_cases h3 : 3 < t
    · go_enter Try.func14, Try.ntmps14
      go_wp2
      go_ret
      exact ⟨ret1 (by unfold M.tsize; rw [if_pos (.inr h3)]), rfl⟩
    · obtain ⟨T, rfl⟩ := Int.eq_ofNat_of_zero_le (Int.not_lt.1 h)
      have hT : T ≤ 3 := by omega
      rcases (by omega : T = 0 ∨ T = 1 ∨ T = 2 ∨ T = 3) with rfl | rfl | rfl | rfl
      all_goals
        go_enter Try.func14, Try.ntmps14
        go_wp2
        go_ret
        exact ⟨rfl, rfl⟩
end Go.Proofs.Ytfkepkdfpjaniaa
namespace Go.Proofs.Ytfkepkdfpjaniaa
open Go.RowKit
set_option linter.unusedVariables false
set_option maxRecDepth 100000

set_option maxHeartbeats 4000000 in
theorem tcheck_any (p : Nat) (n0 t : Int) (v : Value) (m : List (List Nat)) (w : World) (hp : p < 18446744073709551616) (hn1 : -9223372036854775808 ≤ n0) (hn2 : n0 ≤ 9223372036854775807) (ht1 : -9223372036854775808 ≤ t) (ht2 : t ≤ 9223372036854775807) (hv : Mat w v m) :
    Calls Try.prog 12 #[suV p n0 t, v] w fun e w' => e = .returned (.int .i64 (M.tchk p n0 t m)) ∧ Below w.heap.size w w' := by
  have hud : ∀ b : Bool, undef ≠ Value.bool b := fun b h => by cases h
  have hs := fun W => setup_any p n0 t W hp hn1 hn2 ht1 ht2
  have HV := Lib.hid hv
  obtain ⟨A, cap, rfl, _⟩ := mat_view6 hv
  have hml := hv.1
  cases hok : M.okS p n0 t with
  | false =>
    rw [show M.errS p n0 t = 2 by unfold M.errS; rw [hok]; rfl] at hs
    have HS := Lib.hid hs
    have HK := Lib.hid (M.tchk_no (m := m) hok)
    unfold suV at HS ⊢
    clear hs hv hok
    go_enter Try.func12, Try.ntmps12
    go_wp2_with fail
    (with_reducible refine (HS.out _).mono ?_)
    rintro e w1 ⟨rfl, hb1⟩
    have B1 := Lib.hid (bnext (balloc w _) hb1)
    clear hb1
    go_wp2_with fail
    go_ret
    exact ⟨ret1 (by rw [HK.out]), B1.out⟩
  | true =>
    rw [show M.errS p n0 t = 0 by unfold M.errS; rw [hok]; rfl] at hs
    obtain ⟨N, T, rfl, rfl, hi, hN1, hN2, hNT, hNp⟩ := M.okS_nat hok
    rw [M.tchk_of hok]
    have hT : T ≤ 3 := by omega
    have HS := Lib.hid hs
    obtain ⟨n, en⟩ : ∃ n, T + 1 = n := ⟨_, rfl⟩
    have hw1 : IntKind.i64.wrap ((T : Int) + 1) = (n : Nat) := by rw [IntKind.wrap_i64]; omega
    rw [en]
    have HRW := Lib.hid (mat_row hv).2
    have HSQ := Lib.hid fun (W : World) (b : Below w.heap.size w W) => hasForm_any n _ m W (hv.below b)
    have hn4 : n ≤ 4 := by omega
    unfold suV at HS ⊢
    clear hv hs hok hi hN1 hN2 hNT hNp en
    have hb : (m.length == n && m.all fun r => decide (r.length ≤ n)) = true ∨ (m.length == n && m.all fun r => decide (r.length ≤ n)) = false := by cases (m.length == n && m.all fun r => decide (r.length ≤ n)) <;> simp
    rcases hb with hsq | hsq
    case inr =>
      rw [hsq] at HSQ
      have HE := Lib.hid (show M.mform p n m = 4 by
        by_cases hl : m.length = n
        · unfold M.mform
          rw [if_neg (by simp [hl]), if_pos (by simpa [hl] using hsq)]
        · exact M.mform_len hl)
      clear hsq
      go_enter Try.func12, Try.ntmps12
      go_wp2_with fail
      (with_reducible refine (HS.out _).mono ?_)
      rintro e w1 ⟨rfl, hb1⟩
      have c2 := (hb1.cell (p := ⟨w.heap.size, 2, none⟩) (by simp)).trans (show (w.alloc (.cells #[.int .u64 p, .int .i64 (N : Nat), .int .i64 (T : Nat)] 24)).cell? ⟨w.heap.size, 2, none⟩ = some (.int .i64 (T : Nat)) by simp)
      have hB1 := bnext (balloc w _) hb1
      have B1 := Lib.hid hB1
      have HQ := Lib.hid (HSQ.out _ hB1)
      clear hb1 hB1
      go_wp2_with fail
      refine HQ.out.mono ?_
      rintro e w2 ⟨rfl, hb⟩
      have B2 := Lib.hid (bnext B1.out hb)
      clear hb
      go_wp2_with fail
      go_ret
      exact ⟨ret1 HE.out.symm, B2.out⟩
    rw [hsq] at HSQ
    rw [Bool.and_eq_true, beq_iff_eq] at hsq
    have HL := Lib.hid hsq.1
    have HR := Lib.hid fun i (hi : i < m.length) => (by simpa using M.all_rows.1 hsq.2 i hi : (m.getD i []).length ≤ n)
    clear hsq
    go_enter Try.func12, Try.ntmps12
    go_wp2_with fail
    (with_reducible refine (HS.out _).mono ?_)
    rintro e w1 ⟨rfl, hb1⟩
    have c2 := (hb1.cell (p := ⟨w.heap.size, 2, none⟩) (by simp)).trans (show (w.alloc (.cells #[.int .u64 p, .int .i64 (N : Nat), .int .i64 (T : Nat)] 24)).cell? ⟨w.heap.size, 2, none⟩ = some (.int .i64 (T : Nat)) by simp)
    have c0 := (hb1.cell (p := ⟨w.heap.size, 0, none⟩) (by simp)).trans (show (w.alloc (.cells #[.int .u64 p, .int .i64 (N : Nat), .int .i64 (T : Nat)] 24)).cell? ⟨w.heap.size, 0, none⟩ = some (.int .u64 (p : Nat)) by simp)
    have hB1 := bnext (balloc w _) hb1
    have B1 := Lib.hid hB1
    have HQ := Lib.hid (HSQ.out _ hB1)
    have hz1 : w.heap.size < w1.heap.size := by have := hb1.size; simp at this; omega
    clear hb1 hB1
    go_wp2_with fail
    refine HQ.out.mono ?_
    rintro e w2 ⟨rfl, hb⟩
    have B2 := Lib.hid (bnext B1.out hb)
    have c3 := (hb.cell (p := ⟨w.heap.size, 0, none⟩) hz1).trans c0
    have hz2 : w.heap.size < w2.heap.size := by have := hb.size; omega
    clear hb
    go_wp2_with fail
    go_loopw [21] (fun t wr => ∃ k : Nat, k ≤ m.length ∧ t = .int .i64 k ∧ (∀ i, i < k → M.within p (m.getD i []) = true) ∧ Below w2.heap.size w2 wr) (fun t _ => m.length - (intOf t).toNat)
    case atStart => exact ⟨0, by omega, rfl, fun i hi => absurd hi (by omega), Below.refl _ _⟩
    case round =>
      obtain ⟨k, hk, rfl, hz, hB⟩ := hrel
      have HZ2 := Lib.hid hz
      have HB := Lib.hid hB
      clear hz hB
      by_cases hlt : k < m.length
      · obtain ⟨b, off, rfl, hbl, hcells⟩ := HRW.out (by omega)
        obtain ⟨Au, cu, ck, hN, _⟩ := hcells k hlt
        obtain ⟨L, eL⟩ : ∃ L, (m.getD k []).length = L := ⟨_, rfl⟩
        rw [eL] at ck hN
        clear eL hcells
        have hBt := bnext B2.out HB.out
        have ck2 := (hBt.cell (p := ⟨b, off + k, none⟩) hbl).trans ck
        have c4 := (HB.out.cell (p := ⟨w.heap.size, 0, none⟩) hz2).trans c3
        have HAB := Lib.hid (tbelow_any p _ _ wr (hN.below hBt))
        clear ck hN hBt
        cases hw : M.within p (m.getD k []) with
        | true =>
          rw [hw] at HAB
          have HWI := Lib.hid hw
          clear hw
          go_wp2_with fail
          refine HAB.out.mono ?_
          rintro e w3 ⟨rfl, hb2⟩
          have HB2 := Lib.hid (bnext HB.out hb2)
          clear hb2
          go_wp2_with fail
          go_roundw
          case rel => exact ⟨k + 1, by omega, by go_num, fun i hi => by
            by_cases e : i = k
            · rw [e]; exact HWI.out
            · exact HZ2.out i (by omega), HB2.out⟩
          case measure => simp [intOf]; omega
        | false =>
          rw [hw] at HAB
          have HWI := Lib.hid hw
          clear hw
          go_wp2_with fail
          refine HAB.out.mono ?_
          rintro e w3 ⟨rfl, hb2⟩
          have HB2 := Lib.hid (bnext HB.out hb2)
          clear hb2
          go_wp2_with fail
          go_ret
          exact ⟨ret1 (M.mform_lt HL.out HR.out hlt HWI.out).symm, bnext B2.out HB2.out⟩
      · obtain rfl : k = m.length := by omega
        go_wp2_with fail
        go_ret
        exact ⟨ret1 (M.mform_ok ⟨HL.out, fun i hi => HR.out i (by rw [HL.out]; exact hi), fun i hi => HZ2.out i (by rw [HL.out]; exact hi)⟩).symm, bnext B2.out HB.out⟩
end Go.Proofs.Ytfkepkdfpjaniaa
