/-
  Package share: all of its calls, and the law's example (merged).
-/
import Derived.Test.YtgoognipljknjaaIntsZ
import Derived.Test.YtgoognipljknjaaApp2
import Derived.Lib.AppendZerosOnto
import Derived.Test.YtgoognipljknjaaRow
import Derived.Test.YtgoognipljknjaaApi1
import Derived.Test.YtgoognipljknjaaP10
import Derived.Deep.RegionHeld3
import Derived.Deep.RegionWith
namespace Go.Proofs.Ytgoognipljknjaa
open Go.RowKit
set_option linter.unusedVariables false
set_option maxRecDepth 100000

namespace M
/-- a valid setup -/
def okS (p : Nat) (n t : Int) : Bool := isP p && decide (1 ≤ n) && decide (n ≤ 13) && decide (0 ≤ t) && decide (4 * t + 1 ≤ n) && decide (n < (p : Int))
def errS (p : Nat) (n t : Int) : Int := if okS p n t = true then 0 else 2
theorem okS_iff {p : Nat} {n t : Int} : okS p n t = true ↔ isP p = true ∧ 1 ≤ n ∧ n ≤ 13 ∧ 0 ≤ t ∧ 4 * t + 1 ≤ n ∧ n < (p : Int) := by
  simp only [okS, Bool.and_eq_true, decide_eq_true_eq]
  constructor
  · rintro ⟨⟨⟨⟨⟨h1, h2⟩, h3⟩, h4⟩, h5⟩, h6⟩; exact ⟨h1, h2, h3, h4, h5, h6⟩
  · rintro ⟨h1, h2, h3, h4, h5, h6⟩; exact ⟨⟨⟨⟨⟨h1, h2⟩, h3⟩, h4⟩, h5⟩, h6⟩
theorem errS_ok {p : Nat} {n t : Int} (h : okS p n t = true) : 0 = errS p n t := by simp [errS, h]
theorem errS_of {p : Nat} {n t : Int} (h1 : isP p = true) (h2 : 1 ≤ n) (h3 : n ≤ 13) (h4 : 0 ≤ t) (h5 : 4 * t + 1 ≤ n) (h6 : n < (p : Int)) : 0 = errS p n t := errS_ok (okS_iff.2 ⟨h1, h2, h3, h4, h5, h6⟩)
theorem errS_no {p : Nat} {n t : Int} (h : ¬ (isP p = true ∧ 1 ≤ n ∧ n ≤ 13 ∧ 0 ≤ t ∧ 4 * t + 1 ≤ n ∧ n < (p : Int))) : 2 = errS p n t := by
  unfold errS; rw [if_neg (fun h2 => h (okS_iff.1 h2))]
theorem okS_nat {p : Nat} {n t : Int} (h : okS p n t = true) : ∃ N T : Nat, n = (N : Int) ∧ t = (T : Int) ∧ isP p = true ∧ 1 ≤ N ∧ N ≤ 13 ∧ 4 * T + 1 ≤ N ∧ N < p := by
  obtain ⟨h1, h2, h3, h4, h5, h6⟩ := okS_iff.1 h
  exact ⟨n.toNat, t.toNat, by omega, by omega, h1, by omega, by omega, by omega, by omega⟩
end M

set_option maxHeartbeats 1000000 in
theorem setup_any (p : Nat) (n t : Int) (w : World) (hp : p < 18446744073709551616) (hn1 : -9223372036854775808 ≤ n) (hn2 : n ≤ 9223372036854775807) (ht1 : -9223372036854775808 ≤ t) (ht2 : t ≤ 9223372036854775807) :
    Calls Try.prog 26 #[suV p n t] w fun e w' => e = .returned (.int .i64 (M.errS p n t)) ∧ Below w.heap.size w w' := by
  have HC := Lib.hid fun W => is_any p W hp
  have HB := Lib.hid (balloc w (Obj.cells #[Value.int IntKind.u64 p, Value.int IntKind.i64 n, Value.int IntKind.i64 t] 40))
  have hud : ∀ b : Bool, undef ≠ Value.bool b := fun b h => by cases h
  unfold suV
  by_cases h1 : n < 1
  · go_enter Try.func26, Try.ntmps26
    go_wp2_with fail
    go_ret
    exact ⟨ret1 (M.errS_no (by omega)), HB.out⟩
  by_cases h2 : n > 13
  · go_enter Try.func26, Try.ntmps26
    go_wp2_with fail
    go_ret
    exact ⟨ret1 (M.errS_no (by omega)), HB.out⟩
  obtain ⟨N, rfl⟩ := Int.eq_ofNat_of_zero_le (show 0 ≤ n by omega)
  cases hi : M.isP p with
  | false =>
    rw [hi] at HC
    go_enter Try.func26, Try.ntmps26
    go_wp2_with (go_at_call 68; refine (HC.out _).mono ?_; rintro e w' ⟨rfl, rfl⟩)
    go_ret
    exact ⟨ret1 (M.errS_no (by simp [hi])), HB.out⟩
  | true =>
    rw [hi] at HC
    by_cases h3 : p ≤ N
    · go_enter Try.func26, Try.ntmps26
      go_wp2_with (go_at_call 68; refine (HC.out _).mono ?_; rintro e w' ⟨rfl, rfl⟩)
      go_ret
      exact ⟨ret1 (M.errS_no (by omega)), HB.out⟩
    · by_cases h4 : t < 0
      · go_enter Try.func26, Try.ntmps26
        go_wp2_with (go_at_call 68; refine (HC.out _).mono ?_; rintro e w' ⟨rfl, rfl⟩)
        go_ret
        exact ⟨ret1 (M.errS_no (by omega)), HB.out⟩
      · by_cases h5 : t > ((N : Int) - 1) / 4
        · go_enter Try.func26, Try.ntmps26
          go_wp2_with (go_at_call 68; refine (HC.out _).mono ?_; rintro e w' ⟨rfl, rfl⟩)
          go_ret
          exact ⟨ret1 (M.errS_no (by omega)), HB.out⟩
        · go_enter Try.func26, Try.ntmps26
          go_wp2_with (go_at_call 68; refine (HC.out _).mono ?_; rintro e w' ⟨rfl, rfl⟩)
          go_ret
          exact ⟨ret1 (M.errS_of hi (by omega) (by omega) (by omega) (by omega) (by omega)), HB.out⟩

set_option maxHeartbeats 1000000 in
theorem rsetup_any (p : Nat) (n t : Int) (w : World) (hp : p < 18446744073709551616) (hn1 : -9223372036854775808 ≤ n) (hn2 : n ≤ 9223372036854775807) (ht1 : -9223372036854775808 ≤ t) (ht2 : t ≤ 9223372036854775807) :
    Calls Try.prog 27 #[suV p n t] w fun e w' => e = .returned (.int .i64 (M.errS p n t)) ∧ Below w.heap.size w w' := by
  have HC := Lib.hid fun W => refIs_any p W hp
  have HB := Lib.hid (balloc w (Obj.cells #[Value.int IntKind.u64 p, Value.int IntKind.i64 n, Value.int IntKind.i64 t] 40))
  have hud : ∀ b : Bool, undef ≠ Value.bool b := fun b h => by cases h
  unfold suV
  cases hi : M.isP p with
  | false =>
    rw [hi] at HC
    go_enter Try.func27, Try.ntmps27
    go_wp2_with (go_at_call 38; refine (HC.out _).mono ?_; rintro e w' ⟨rfl, rfl⟩)
    go_ret
    exact ⟨ret1 (M.errS_no (by simp [hi])), HB.out⟩
  | true =>
    rw [hi] at HC
    by_cases h1 : n < 1
    · go_enter Try.func27, Try.ntmps27
      go_wp2_with (go_at_call 38; refine (HC.out _).mono ?_; rintro e w' ⟨rfl, rfl⟩)
      go_ret
      exact ⟨ret1 (M.errS_no (by omega)), HB.out⟩
    by_cases h2 : n > 13
    · go_enter Try.func27, Try.ntmps27
      go_wp2_with (go_at_call 38; refine (HC.out _).mono ?_; rintro e w' ⟨rfl, rfl⟩)
      go_ret
      exact ⟨ret1 (M.errS_no (by omega)), HB.out⟩
    obtain ⟨N, rfl⟩ := Int.eq_ofNat_of_zero_le (show 0 ≤ n by omega)
    by_cases h4 : t < 0
    · go_enter Try.func27, Try.ntmps27
      go_wp2_with (go_at_call 38; refine (HC.out _).mono ?_; rintro e w' ⟨rfl, rfl⟩)
      go_ret
      exact ⟨ret1 (M.errS_no (by omega)), HB.out⟩
    by_cases h5 : t > 13
    · go_enter Try.func27, Try.ntmps27
      go_wp2_with (go_at_call 38; refine (HC.out _).mono ?_; rintro e w' ⟨rfl, rfl⟩)
      go_ret
      exact ⟨ret1 (M.errS_no (by omega)), HB.out⟩
    by_cases h6 : (N : Int) < 4 * t + 1
    · go_enter Try.func27, Try.ntmps27
      go_wp2_with (go_at_call 38; refine (HC.out _).mono ?_; rintro e w' ⟨rfl, rfl⟩)
      go_ret
      exact ⟨ret1 (M.errS_no (by omega)), HB.out⟩
    by_cases h3 : p ≤ N
    · go_enter Try.func27, Try.ntmps27
      go_wp2_with (go_at_call 38; refine (HC.out _).mono ?_; rintro e w' ⟨rfl, rfl⟩)
      go_ret
      exact ⟨ret1 (M.errS_no (by omega)), HB.out⟩
    · go_enter Try.func27, Try.ntmps27
      go_wp2_with (go_at_call 38; refine (HC.out _).mono ?_; rintro e w' ⟨rfl, rfl⟩)
      go_ret
      exact ⟨ret1 (M.errS_of hi (by omega) (by omega) (by omega) (by omega) (by omega)), HB.out⟩
end Go.Proofs.Ytgoognipljknjaa
namespace Go.Proofs.Ytgoognipljknjaa
open Go.RowKit
set_option linter.unusedVariables false
set_option maxRecDepth 100000

namespace M
def prev (l : List Int) (i : Nat) : Int := if i = 0 then 0 else l.getD (i - 1) 0
/-- the first k of l rise from 1 to n -/
def RisesTo (n : Int) (l : List Int) (k : Nat) : Prop := ∀ i, i < k → prev l i < l.getD i 0 ∧ l.getD i 0 ≤ n
def rising (n : Int) (l : List Int) : Bool := (List.range l.length).all fun i => decide (prev l i < l.getD i 0) && decide (l.getD i 0 ≤ n)
theorem rising_iff {n : Int} {l : List Int} : rising n l = true ↔ RisesTo n l l.length := by
  simp only [rising, List.all_eq_true, List.mem_range, Bool.and_eq_true, decide_eq_true_eq, RisesTo]
theorem rises_zero (n : Int) (l : List Int) : RisesTo n l 0 := fun i hi => absurd hi (by omega)
theorem rises_succ {n : Int} {l : List Int} {k : Nat} (h : RisesTo n l k) (h1 : prev l k < l.getD k 0) (h2 : l.getD k 0 ≤ n) : RisesTo n l (k + 1) := by
  intro i hi
  by_cases hk : i = k
  · subst hk; exact ⟨h1, h2⟩
  · exact h i (by omega)
theorem rising_not {n : Int} {l : List Int} {k : Nat} (hk : k < l.length) (h : l.getD k 0 ≤ prev l k ∨ n < l.getD k 0) : false = rising n l := by
  cases hr : rising n l with
  | false => rfl
  | true =>
    have := rising_iff.1 hr k hk
    omega
theorem rises_pos {n : Int} {l : List Int} {k : Nat} (h : RisesTo n l k) : ∀ i, i < k → 1 ≤ l.getD i 0
  | 0, hi => by have := (h 0 hi).1; simp only [prev, if_true] at this; omega
  | i + 1, hi => by
    have h1 := (h (i + 1) hi).1
    have h2 := rises_pos h i (by omega)
    simp only [prev, Nat.add_sub_cancel] at h1
    rw [if_neg (by omega)] at h1
    omega
theorem prev_nonneg {n : Int} {l : List Int} {k : Nat} (h : RisesTo n l k) : 0 ≤ prev l k := by
  unfold prev; split
  · omega
  · have := rises_pos h (k - 1) (by omega); omega
theorem prev_succ (l : List Int) (k : Nat) : prev l (k + 1) = l.getD k 0 := by simp [prev]
def errC (p : Nat) (n t : Int) (l : List Int) : Int := if okS p n t = true ∧ (l.length : Int) ≤ t ∧ rising n l = true then 0 else 2
theorem errC_no {p : Nat} {n t : Int} {l : List Int} (h : okS p n t = false) : 2 = errC p n t l := by simp [errC, h]
theorem errC_long {p : Nat} {n t : Int} {l : List Int} (h : ¬ (l.length : Int) ≤ t) : 2 = errC p n t l := by simp [errC, h]
theorem errC_fall {p : Nat} {n t : Int} {l : List Int} (h : false = rising n l) : 2 = errC p n t l := by simp [errC, ← h]
theorem errC_ok {p : Nat} {n t : Int} {l : List Int} (h : okS p n t = true) (h1 : (l.length : Int) ≤ t) (h2 : RisesTo n l l.length) : 0 = errC p n t l := by
  unfold errC; rw [if_pos ⟨h, h1, rising_iff.2 h2⟩]
theorem errC_zero {p : Nat} {n t : Int} {l : List Int} (h : errC p n t l = 0) : okS p n t = true ∧ (l.length : Int) ≤ t ∧ RisesTo n l l.length := by
  unfold errC at h
  split at h
  · rename_i hh; exact ⟨hh.1, hh.2.1, rising_iff.1 hh.2.2⟩
  · cases h
end M

set_option maxHeartbeats 1000000 in
theorem corrupted_any (p : Nat) (n t : Int) (v : Value) (l : List Int) (w : World) (hp : p < 18446744073709551616) (hn1 : -9223372036854775808 ≤ n) (hn2 : n ≤ 9223372036854775807) (ht1 : -9223372036854775808 ≤ t) (ht2 : t ≤ 9223372036854775807) (hv : IntsZ w v l) :
    Calls Try.prog 28 #[suV p n t, v] w fun e w' => e = .returned (.int .i64 (M.errC p n t l)) ∧ Below w.heap.size w w' := by
  have HC := Lib.hid fun W => setup_any p n t W hp hn1 hn2 ht1 ht2
  have HB := Lib.hid (balloc w (Obj.cells #[Value.int IntKind.u64 p, Value.int IntKind.i64 n, Value.int IntKind.i64 t] 40))
  have hud : ∀ b : Bool, undef ≠ Value.bool b := fun b h => by cases h
  obtain ⟨hz, hl, A, cap, rfl, hcap, hcell⟩ := hv
  have HV := Lib.hid hcell
  have HZ := Lib.hid hz
  unfold suV at HC ⊢
  clear hcell hz
  cases hs : M.okS p n t with
  | false =>
    have e2 : M.errS p n t = 2 := by simp [M.errS, hs]
    rw [e2] at HC
    go_enter Try.func28, Try.ntmps28
    go_wp2_with fail
    refine (HC.out _).mono ?_
    rintro e w1 ⟨rfl, hb1⟩
    have B1 := Lib.hid (bnext HB.out hb1)
    clear hb1
    go_wp2_with fail
    go_ret
    exact ⟨ret1 (M.errC_no hs), B1.out⟩
  | true =>
    have e2 : M.errS p n t = 0 := by simp [M.errS, hs]
    rw [e2] at HC
    go_enter Try.func28, Try.ntmps28
    go_wp2_with fail
    refine (HC.out _).mono ?_
    rintro e w1 ⟨rfl, hb1⟩
    have B1 := Lib.hid (bnext HB.out hb1)
    have c1 : w1.cell? ⟨w.heap.size, 1, none⟩ = some (.int .i64 n) := by
      refine (hb1.cell (p := ⟨w.heap.size, 1, none⟩) (by simp)).trans (by simp)
    have c2 : w1.cell? ⟨w.heap.size, 2, none⟩ = some (.int .i64 t) := by
      refine (hb1.cell (p := ⟨w.heap.size, 2, none⟩) (by simp)).trans (by simp)
    clear hb1
    by_cases hL : (l.length : Int) ≤ t
    · have H1 := Lib.hid c1
      go_wp2_with fail
      go_loop [6, 21] (fun tb ti => ∃ k : Nat, k ≤ l.length ∧ ti = .int .i64 k ∧ tb = .int .i64 (M.prev l k) ∧ M.RisesTo n l k) (fun _ ti => l.length - (intOf ti).toNat)
      case atStart => exact ⟨0, by omega, rfl, rfl, M.rises_zero n l⟩
      case round =>
        obtain ⟨k, hk, rfl, rfl, hr⟩ := hrel
        have HR := Lib.hid hr
        clear hr
        by_cases hlt : k < l.length
        · obtain ⟨b, off, rfl, hb, hcell⟩ := HV.out (by omega)
          have hc := (B1.out.cell (p := ⟨b, off + k, none⟩) hb).trans (hcell k hlt)
          have hzk := HZ.out (l.getD k 0) (by rw [List.getD_eq_getElem?_getD, List.getElem?_eq_getElem hlt]; exact List.getElem_mem hlt)
          have hps := M.prev_succ l k
          have hnot := M.rising_not (n := n) hlt
          have hsucc := M.rises_succ HR.out
          obtain ⟨x, ex⟩ : ∃ x, x = l.getD k 0 := ⟨_, rfl⟩
          obtain ⟨y, ey⟩ : ∃ y, y = M.prev l k := ⟨_, rfl⟩
          rw [← ex] at hc hzk hps hnot hsucc
          rw [← ey] at hnot hsucc ⊢
          have HP := Lib.hid hps
          have HN := Lib.hid hnot
          have HS := Lib.hid hsucc
          clear hps hnot hsucc ex ey hcell
          have hkl : (k : Int) < (l.length : Nat) := by omega
          by_cases hx : x ≤ y
          · go_wp2_with fail
            go_ret
            exact ⟨ret1 (M.errC_fall (HN.out (.inl hx))), B1.out⟩
          by_cases hx2 : n < x
          · go_wp2_with fail
            go_ret
            exact ⟨ret1 (M.errC_fall (HN.out (.inr hx2))), B1.out⟩
          go_wp2_with fail
          go_round
          case rel => exact ⟨k + 1, by omega, by go_num, by rw [HP.out], HS.out (by omega) (by omega)⟩
          case measure => simp [intOf]; omega
        · obtain rfl : k = l.length := by omega
          go_wp2_with fail
          go_ret
          exact ⟨ret1 (M.errC_ok hs hL HR.out), B1.out⟩
    · go_wp2_with fail
      go_ret
      exact ⟨ret1 (M.errC_long (by omega)), B1.out⟩

set_option maxHeartbeats 1000000 in
theorem rrising_any (n : Int) (v : Value) (l : List Int) (w : World) (hn1 : -9223372036854775808 ≤ n) (hn2 : n ≤ 9223372036854775807) (hv : IntsZ w v l) :
    Calls Try.prog 51 #[.int .i64 n, v] w fun e w' => e = .returned (.bool (M.rising n l)) ∧ w = w' := by
  have hud : ∀ b : Bool, undef ≠ Value.bool b := fun b h => by cases h
  obtain ⟨hz, hl, A, cap, rfl, hcap, hcell⟩ := hv
  have HV := Lib.hid hcell
  have HZ := Lib.hid hz
  clear hcell hz
  go_enter Try.func51, Try.ntmps51
  go_wp2_with fail
  go_loop [9] (fun ti => ∃ k : Nat, k ≤ l.length ∧ ti = .int .i64 k ∧ M.RisesTo n l k) (fun ti => l.length - (intOf ti).toNat)
  case atStart => exact ⟨0, by omega, rfl, M.rises_zero n l⟩
  case round =>
    obtain ⟨k, hk, rfl, hr⟩ := hrel
    have HR := Lib.hid hr
    clear hr
    by_cases hlt : k < l.length
    · obtain ⟨b, off, rfl, hb, hcell⟩ := HV.out (by omega)
      have hc := hcell k hlt
      have hzk := HZ.out (l.getD k 0) (by rw [List.getD_eq_getElem?_getD, List.getElem?_eq_getElem hlt]; exact List.getElem_mem hlt)
      have hnot := M.rising_not (n := n) hlt
      have hsucc := M.rises_succ HR.out
      obtain ⟨x, ex⟩ : ∃ x, x = l.getD k 0 := ⟨_, rfl⟩
      rw [← ex] at hc hzk hnot hsucc
      have hpn := M.prev_nonneg HR.out
      have hkl : (k : Int) < (l.length : Nat) := by omega
      by_cases hx : x < 1
      · have HN := Lib.hid (hnot (.inl (by omega)))
        clear hnot hsucc ex hcell hpn
        go_wp2_with fail
        go_ret
        exact ⟨ret_bool HN.out, rfl⟩
      by_cases hx2 : n < x
      · have HN := Lib.hid (hnot (.inr hx2))
        clear hnot hsucc ex hcell hpn
        go_wp2_with fail
        go_ret
        exact ⟨ret_bool HN.out, rfl⟩
      by_cases hk0 : k = 0
      · subst hk0
        have HS := Lib.hid (hsucc (by simp only [M.prev, if_true]; omega) (by omega))
        rw [Nat.add_zero] at hc
        clear hnot hsucc ex hcell hpn
        go_wp2_with fail
        go_round
        case rel => exact ⟨1, by omega, rfl, HS.out⟩
        case measure => simp [intOf]; omega
      · have hcp := hcell (k - 1) (by omega)
        have hzp := HZ.out (l.getD (k - 1) 0) (by rw [List.getD_eq_getElem?_getD, List.getElem?_eq_getElem (by omega)]; exact List.getElem_mem (by omega))
        have ep : M.prev l k = l.getD (k - 1) 0 := by unfold M.prev; rw [if_neg hk0]
        rw [ep] at hnot hsucc
        obtain ⟨y, ey⟩ : ∃ y, y = l.getD (k - 1) 0 := ⟨_, rfl⟩
        rw [← ey] at hcp hzp hnot hsucc
        obtain ⟨j, rfl⟩ : ∃ j, k = j + 1 := ⟨k - 1, by omega⟩
        rw [Nat.add_sub_cancel] at hcp
        by_cases hxy : x ≤ y
        · have HN := Lib.hid (hnot (.inl hxy))
          clear hnot hsucc ex ey ep hcell hpn
          go_wp2_with fail
          go_ret
          exact ⟨ret_bool HN.out, rfl⟩
        · have HS := Lib.hid (hsucc (by omega) (by omega))
          clear hnot hsucc ex ey ep hcell hpn
          go_wp2_with fail
          go_round
          case rel => exact ⟨j + 1 + 1, by omega, by go_num, HS.out⟩
          case measure => simp [intOf]; omega
    · obtain rfl : k = l.length := by omega
      go_wp2_with fail
      go_ret
      exact ⟨ret_bool (M.rising_iff.2 HR.out).symm, rfl⟩

set_option maxHeartbeats 1000000 in
theorem rcorrupted_any (p : Nat) (n t : Int) (v : Value) (l : List Int) (w : World) (hp : p < 18446744073709551616) (hn1 : -9223372036854775808 ≤ n) (hn2 : n ≤ 9223372036854775807) (ht1 : -9223372036854775808 ≤ t) (ht2 : t ≤ 9223372036854775807) (hv : IntsZ w v l) :
    Calls Try.prog 29 #[suV p n t, v] w fun e w' => e = .returned (.int .i64 (M.errC p n t l)) ∧ Below w.heap.size w w' := by
  have HC := Lib.hid fun W => rsetup_any p n t W hp hn1 hn2 ht1 ht2
  have HB := Lib.hid (balloc w (Obj.cells #[Value.int IntKind.u64 p, Value.int IntKind.i64 n, Value.int IntKind.i64 t] 40))
  have hud : ∀ b : Bool, undef ≠ Value.bool b := fun b h => by cases h
  have HRI := Lib.hid fun W (hW : IntsZ W v l) => rrising_any n v l W hn1 hn2 hW
  have HV := Lib.hid hv
  obtain ⟨_, hl, A, cap, rfl, hcap, _⟩ := hv
  unfold suV at HC ⊢
  cases hs : M.okS p n t with
  | false =>
    have e2 : M.errS p n t = 2 := by simp [M.errS, hs]
    rw [e2] at HC
    go_enter Try.func29, Try.ntmps29
    go_wp2_with fail
    refine (HC.out _).mono ?_
    rintro e w1 ⟨rfl, hb1⟩
    have B1 := Lib.hid (bnext HB.out hb1)
    clear hb1
    go_wp2_with fail
    go_ret
    exact ⟨ret1 (M.errC_no hs), B1.out⟩
  | true =>
    have e2 : M.errS p n t = 0 := by simp [M.errS, hs]
    rw [e2] at HC
    go_enter Try.func29, Try.ntmps29
    go_wp2_with fail
    refine (HC.out _).mono ?_
    rintro e w1 ⟨rfl, hb1⟩
    have B1 := Lib.hid (bnext HB.out hb1)
    have c1 : w1.cell? ⟨w.heap.size, 1, none⟩ = some (.int .i64 n) := by
      refine (hb1.cell (p := ⟨w.heap.size, 1, none⟩) (by simp)).trans (by simp)
    have c2 : w1.cell? ⟨w.heap.size, 2, none⟩ = some (.int .i64 t) := by
      refine (hb1.cell (p := ⟨w.heap.size, 2, none⟩) (by simp)).trans (by simp)
    clear hb1
    by_cases hL : (l.length : Int) ≤ t
    · cases hr : M.rising n l with
      | false =>
        rw [hr] at HRI
        go_wp2_with (go_at_call 51; refine (HRI.out _ (HV.out.below B1.out)).mono ?_; rintro e w' ⟨rfl, rfl⟩)
        go_ret
        exact ⟨ret1 (M.errC_fall hr.symm), B1.out⟩
      | true =>
        rw [hr] at HRI
        go_wp2_with (go_at_call 51; refine (HRI.out _ (HV.out.below B1.out)).mono ?_; rintro e w' ⟨rfl, rfl⟩)
        go_ret
        exact ⟨ret1 (M.errC_ok hs hL (M.rising_iff.1 hr)), B1.out⟩
    · go_wp2_with fail
      go_ret
      exact ⟨ret1 (M.errC_long (by omega)), B1.out⟩
end Go.Proofs.Ytgoognipljknjaa
namespace Go.Proofs.Ytgoognipljknjaa
open Go.RowKit
set_option linter.unusedVariables false
set_option maxRecDepth 100000

set_option maxHeartbeats 1000000 in
theorem grow_nil (n : Nat) (w : World) (h0 : 0 < n) (hn : n ≤ 2000) :
    Calls Try.prog 111 #[.slice none 0 0, .int .i64 n] w fun e w' => ∃ v, e = .returned v ∧ w'.ownsRow w.heap.size 22 1 v 0 [] ∧ Below w.heap.size w w' := by
  obtain ⟨i0, hi0, hz0, hz1, hz2⟩ := info_parts infoU64
  have hrz : ∀ ty, (Builtin.append_ #[24, 3] ty #[.slice none 0 0, .int .i64 (n : Nat)]).run Try.prog w =
      .ok (.slice (some ⟨w.heap.size, 0, none⟩) n (grownCap w n 0 22)) (w.drew.alloc (.cells (#[] ++ Builtin.zeroCells (Value.int .u64 0).cells n ++ Builtin.zeroCells (Value.int .u64 0).cells (grownCap w n 0 22 - n)) 22)) := fun ty => by
    have h := Lib.run_append_grow_zeros (P := Try.prog) w 24 3 ty 22 i0 (.int .u64 0) .i64 .i64 Try.underlying24 Try.underlying3 hi0 hz0 none 0 0 [] (run_firstCells_none w.drew i0.size 0 0 0) n h0 (by omega) (by omega) (by omega) (by rw [hz2]; omega)
      (by rw [hz2]; unfold Builtin.nextslicecap; rw [if_pos (by omega)]; omega)
    simpa using h
  have hge := grownCap_ge w n 0 22
  have hle := grownCap_le_maxLen w n 0 22 (by unfold maxLen; omega)
  obtain ⟨c, ec⟩ : ∃ c, c = grownCap w n 0 22 := ⟨_, rfl⟩
  rw [← ec] at hrz hge hle
  obtain ⟨cs, ecs⟩ : ∃ cs, cs = (#[] ++ Builtin.zeroCells (Value.int .u64 0).cells n ++ Builtin.zeroCells (Value.int .u64 0).cells (c - n)) := ⟨_, rfl⟩
  have hsz : cs.size = c * 1 := by rw [ecs]; simp [size_zeroCells, Value.cells]; omega
  rw [← ecs] at hrz
  have HSZ := Lib.hid hsz
  have HLE := Lib.hid hle
  have hle2 : c ≤ 9223372036854775807 := by unfold maxLen at hle; omega
  clear ec ecs hsz hle
  go_enter Try.func111, Try.ntmps111
  go_wp2_with (at_builtin; refine Lib.wpList_append_run _ rfl _ _ _ _ rfl _ _ rfl rfl _ _ (hrz _) ?_)
  all_goals
    go_ret
    refine ⟨_, rfl, ?_, (Below.refl _ _).drew.alloc (Nat.le_refl _) _⟩
    exact World.ownsRow_made w.drew cs c (Nat.le_refl _) HLE.out HSZ.out

/-- the first k of two numbers' sum; the first k of two lists, one behind the other -/
def two (a b : Nat) : Nat → Nat
  | 0 => 0
  | 1 => a
  | _ => a + b
def twoL (zs ys : List Nat) : Nat → List Nat
  | 0 => []
  | 1 => zs
  | _ => zs ++ ys
theorem twoL_len (zs ys : List Nat) (k : Nat) : (twoL zs ys k).length = two zs.length ys.length k := by
  match k with
  | 0 => rfl
  | 1 => rfl
  | k + 2 => simp [twoL, two]
theorem two_le (a b k : Nat) : two a b k ≤ a + b := by
  match k with
  | 0 => simp [two]
  | 1 => simp [two]
  | k + 2 => simp [two]

set_option maxHeartbeats 2000000 in
theorem concat_any (b : Nat) (v1 v2 : Value) (zs ys : List Nat) (w : World) (hz0 : 0 < zs.length) (hl : zs.length + ys.length ≤ 2000) (h1 : Nums w v1 zs) (h2 : Nums w v2 ys)
    (hc : w.heap[b]? = some (.cells #[v1, v2] 24 (0, 0))) :
    Calls Try.prog 71 #[.slice (some ⟨b, 0, none⟩) 2 2] w (Gives w (zs ++ ys)) := by
  have c1 : w.cell? ⟨b, 0, none⟩ = some v1 := by rw [cell_of_row w b 0 _ _ (0, 0) hc]; rfl
  have c2 : w.cell? ⟨b, 1, none⟩ = some v2 := by rw [cell_of_row w b 1 _ _ (0, 0) hc]; rfl
  have HB := Lib.hid (lt_of_block hc)
  have H1 := Lib.hid h1
  have H2 := Lib.hid h2
  obtain ⟨a1, p1, rfl⟩ := nums_slice' h1
  obtain ⟨a2, p2, rfl⟩ := nums_slice' h2
  clear h1 h2 hc
  have C1 := Lib.hid c1
  have C2 := Lib.hid c2
  go_enter Try.func71, Try.ntmps71
  go_wp2_with fail
  go_loop [11, 3] (fun ti ts => ∃ k : Nat, k ≤ 2 ∧ ti = .int .i64 k ∧ ts = .int .i64 (two zs.length ys.length k)) (fun ti _ => 2 - (intOf ti).toNat)
  case atStart => exact ⟨0, by omega, rfl, rfl⟩
  case round =>
    obtain ⟨k, hk, rfl, rfl⟩ := hrel
    have ht := two_le zs.length ys.length k
    match k, hk with
    | 0, _ =>
      clear ht
      simp only [two]
      go_wp2_with fail
      go_round
      case rel => exact ⟨1, by omega, by go_num, by simp⟩
      case measure => simp [intOf]
    | 1, _ =>
      clear ht
      simp only [two]
      go_wp2_with fail
      go_round
      case rel => exact ⟨2, by omega, by go_num, by simp⟩
      case measure => simp [intOf]
    | 2, _ =>
      clear ht
      simp only [two]
      have hgr := Lib.hid (grow_nil (zs.length + ys.length) w (by omega) (by omega))
      have ecast : ((zs.length + ys.length : Nat) : Int) = (zs.length : Int) + ys.length := by omega
      rw [ecast] at hgr ⊢
      clear ecast
      go_wp2_with fail
      refine hgr.out.mono ?_
      rintro e w1 ⟨v, rfl, hown, hb⟩
      have HO := Lib.hid hown
      have HW := Lib.hid hb
      clear hown hb hgr
      go_wp2_with fail
      go_loopw [27, 6] (fun ti tv wr => ∃ k : Nat, k ≤ 2 ∧ ti = .int .i64 k ∧ wr.ownsRow w.heap.size 22 1 tv (twoL zs ys k).length (vals (twoL zs ys k)) ∧ Below w.heap.size w wr) (fun ti _ _ => 2 - (intOf ti).toNat)
      case atStart => exact ⟨0, by omega, rfl, HO.out, HW.out⟩
      case round =>
        obtain ⟨k, hk, rfl, hown, hB⟩ := hrel
        have HO2 := Lib.hid hown
        have HW2 := Lib.hid hB
        have d1 := (hB.cell (p := ⟨b, 0, none⟩) HB.out).trans C1.out
        have d2 := (hB.cell (p := ⟨b, 1, none⟩) HB.out).trans C2.out
        clear hown hB c1 c2 HO HW
        match k, hk with
        | 0, _ =>
          go_wp2_with (at_builtin; refine wpList_append_nums (by rfl) _ _ (by rfl) w.heap.size _ _ _ (by rfl) HO2.out _ zs (by rfl) (H1.out.below HW2.out) (by simp [twoL]; omega) (by have := HW2.out.size; omega) ?_)
          intro v' w' hown' hb'
          have HO3 := Lib.hid hown'
          have HW3 := Lib.hid (HW2.out.trans hb')
          clear hown' hb'
          go_wp2_with fail
          go_roundw
          case rel => exact ⟨1, by omega, by go_num, by simpa [twoL, vals] using HO3.out, HW3.out⟩
          case measure => simp [intOf]
        | 1, _ =>
          go_wp2_with (at_builtin; refine wpList_append_nums (by rfl) _ _ (by rfl) w.heap.size _ _ _ (by rfl) HO2.out _ ys (by rfl) (H2.out.below HW2.out) (by simp [twoL]; omega) (by have := HW2.out.size; omega) ?_)
          intro v' w' hown' hb'
          have HO3 := Lib.hid hown'
          have HW3 := Lib.hid (HW2.out.trans hb')
          clear hown' hb'
          go_wp2_with fail
          go_roundw
          case rel => exact ⟨2, by omega, by go_num, by simpa [twoL, vals] using HO3.out, HW3.out⟩
          case measure => simp [intOf]
        | 2, _ =>
          go_wp2_with fail
          go_ret
          refine ⟨_, rfl, nums_of_owns HO2.out ?_ ?_, HW2.out⟩
          · intro x hx
            have hx' : x ∈ zs ++ ys := hx
            rcases List.mem_append.1 hx' with hx | hx
            · exact H1.out.1 x hx
            · exact H2.out.1 x hx
          · show (zs ++ ys).length ≤ _
            simp; omega
end Go.Proofs.Ytgoognipljknjaa
namespace Go.Proofs.Ytgoognipljknjaa
open Go.RowKit
set_option linter.unusedVariables false
set_option maxRecDepth 100000

set_option maxHeartbeats 400000 in
theorem draw_bad (p : Nat) (v : Value) (n : Int) (w : World) (hp : p < 18446744073709551616) (h : M.isP p = false ∨ n < 0 ∨ 65536 < n) (a : Option Addr) (len cap : Nat) (hv : v = .slice a len cap) :
    Calls Try.prog 69 #[.int .u64 p, v, .int .i64 n] w fun e w' => e = .returned (.tuple #[.slice none 0 0, .slice none 0 0, .int .i64 2]) ∧ w = w' := by
  subst hv
  have HC := Lib.hid (valid0 p w hp rfl)
  have H := Lib.hid h
  clear hp h
  cases hi : M.isP p with
  | false =>
    rw [hi] at HC
    clear hi
    go_enter Try.func69, Try.ntmps69
    go_wp2_with (go_at_call 108; refine HC.out.mono ?_; rintro e w' ⟨rfl, rfl⟩)
    go_ret3
    exact ⟨rfl, rfl⟩
  | true =>
    rw [hi] at HC
    have hn : n < 0 ∨ 65536 < n := by rcases H.out with h | h; (· rw [hi] at h; cases h); exact h
    clear hi
    rcases hn with hn | hn
    · go_enter Try.func69, Try.ntmps69
      go_wp2_with (go_at_call 108; refine HC.out.mono ?_; rintro e w' ⟨rfl, rfl⟩)
      go_ret3
      exact ⟨rfl, rfl⟩
    · have hn0 : ¬ n < 0 := by omega
      go_enter Try.func69, Try.ntmps69
      go_wp2_with (go_at_call 108; refine HC.out.mono ?_; rintro e w' ⟨rfl, rfl⟩)
      go_ret3
      exact ⟨rfl, rfl⟩

/-- what Draw hands back -/
def Drew (w : World) (p : Nat) (zs : List Nat) (n : Nat) (e : Ending) (w' : World) : Prop :=
  ∃ v1 v2, e = .returned (.tuple #[v1, v2, .int .i64 0]) ∧ Nums w' v1 ((List.range n).map fun i => zs.getD i 0 % p) ∧ Nums w' v2 (zs.drop n) ∧ Below w.heap.size w w'

/-- what is in the made row after k rounds -/
def part (p : Nat) (zs : List Nat) (n k : Nat) : List Nat := (List.range n).map fun i => if i < k then zs.getD i 0 % p else 0
theorem part_zero (p : Nat) (zs : List Nat) (n : Nat) : vals (part p zs n 0) = List.replicate n (.int .u64 0) := by
  apply List.ext_getElem?
  intro i
  by_cases h : i < n
  · simp [vals, part, h]
  · simp [vals, part, h]
theorem part_len (p : Nat) (zs : List Nat) (n k : Nat) : (part p zs n k).length = n := by simp [part]
theorem part_get (p : Nat) (zs : List Nat) (n k i : Nat) (h : i < n) : (vals (part p zs n k))[i]? = some (.int .u64 ((if i < k then zs.getD i 0 % p else 0 : Nat) : Int)) := by
  simp [vals, part, h]
theorem part_set (p : Nat) (zs : List Nat) (n k : Nat) (h : k < n) : (vals (part p zs n k)).set k (.int .u64 ((zs.getD k 0 % p : Nat) : Int)) = vals (part p zs n (k + 1)) := by
  apply List.ext_getElem?
  intro i
  rw [List.getElem?_set]
  by_cases hi : i < n
  · rw [part_get _ _ _ _ _ hi, part_get _ _ _ _ _ hi]
    by_cases hk : k = i
    · subst hk
      have : k < (vals (part p zs n k)).length := by simp [vals, part_len]; exact h
      rw [if_pos rfl, if_pos this, if_pos (by omega)]
    · rw [if_neg hk]
      by_cases h2 : i < k
      · rw [if_pos h2, if_pos (by omega)]
      · rw [if_neg h2, if_neg (by omega)]
  · have e1 : (vals (part p zs n k)).length = n := by simp [vals, part_len]
    have e2 : (vals (part p zs n (k + 1))).length = n := by simp [vals, part_len]
    rw [if_neg (by omega), List.getElem?_eq_none (by omega), List.getElem?_eq_none (by omega)]
def drawn (p : Nat) (zs : List Nat) (n : Nat) : List Nat := (List.range n).map fun i => zs.getD i 0 % p
theorem part_full (p : Nat) (zs : List Nat) (n k : Nat) (hk : n ≤ k ∨ zs.length ≤ k) : part p zs n k = drawn p zs n := by
  unfold part drawn
  apply List.map_congr_left
  intro i hi
  have hi' := List.mem_range.1 hi
  by_cases h : i < k
  · rw [if_pos h]
  · rw [if_neg h, List.getD_eq_getElem?_getD, List.getElem?_eq_none (by omega)]; simp
theorem drawn_lt (p : Nat) (zs : List Nat) (n : Nat) (hp : 0 < p) (hp2 : p < 18446744073709551616) : ∀ x ∈ drawn p zs n, x < 18446744073709551616 := by
  intro x hx
  obtain ⟨i, _, rfl⟩ := List.mem_map.1 hx
  have := Nat.mod_lt (zs.getD i 0) hp
  omega


set_option maxHeartbeats 1000000 in
theorem draw_a (p n cap : Nat) (zs : List Nat) (b off : Nat) (w : World) (hi : M.isP p = true) (hn : n ≤ 65536) (hl : zs.length ≤ 17592186043904) (hb : b < w.heap.size) (hnl : n ≤ zs.length) (hcl : zs.length ≤ cap) (hcn : n < cap)
    (h1 : ∀ i, i < zs.length → w.cell? ⟨b, off + i, none⟩ = some (.int .u64 (zs.getD i 0))) (hz : ∀ n ∈ zs, n < 18446744073709551616) :
    Calls Try.prog 69 #[.int .u64 p, .slice (some ⟨b, off, none⟩) zs.length cap, .int .i64 n] w (Drew w p zs n) := by
  obtain ⟨h3, hp⟩ := M.pos_of hi
  have HC := Lib.hid (valid0 p w (by omega) hi)
  have H1 := Lib.hid h1
  have HZ := Lib.hid hz
  obtain ⟨i0, hi0, hz0, hz1, hz2⟩ := info_parts infoU64
  clear h1 hi hz
  go_enter Try.func69, Try.ntmps69
  go_wp2_with (first | (go_at_call 108; refine HC.out.mono ?_; rintro e w' ⟨rfl, rfl⟩) | (refine wpList_make_full _ rfl _ _ 24 rfl w.heap.size 22 i0 (.int .u64 0) 1 Try.underlying24 hi0 hz0 hz1 .i64 .i64 _ _ n rfl rfl rfl rfl ?c1 ?c2 ?c3 ?_))
  case c1 => rw [hz2]; omega
  case c2 => unfold maxLen; omega
  case c3 => exact Nat.le_refl _
  intro w1 hown hgrow
  rw [toList_madeCells_one, ← part_zero p zs n] at hown
  have HB := Lib.hid ((Below.refl w.heap.size w).grown hgrow (Nat.le_refl _) (by simp))
  have HO := Lib.hid hown
  clear hown hgrow
  go_wp2
  go_loopw [34] (fun t wr => ∃ k : Nat, k ≤ n ∧ t = .int .i64 k ∧ wr.ownsRow w.heap.size 22 1 (.slice (some ⟨w.heap.size, 0, none⟩) n n) n (vals (part p zs n k)) ∧ Below w.heap.size w wr) (fun t _ => n - (intOf t).toNat)
  case atStart => exact ⟨0, by omega, rfl, HO.out, HB.out⟩
  case round =>
    obtain ⟨k, hk, rfl, hown, hbw⟩ := hrel
    have HB2 := Lib.hid hbw
    have HO2 := Lib.hid hown
    clear hown hbw
    by_cases hlt : k < n
    · have c1 : wr.cell? ⟨b, off + k, none⟩ = some (.int .u64 (zs.getD k 0)) := (HB2.out.cell (p := ⟨b, off + k, none⟩) hb).trans (H1.out k (by omega))
      have hx64 : zs.getD k 0 < 18446744073709551616 := by
        rw [List.getD_eq_getElem?_getD, List.getElem?_eq_getElem (by omega)]
        exact HZ.out _ (List.getElem_mem (by omega))
      have hst := HO2.out.stored k (.int .u64 ((zs.getD k 0 % p : Nat) : Int))
      rw [part_set p zs n k (by omega)] at hst
      obtain ⟨x, hx⟩ : ∃ x, x = zs.getD k 0 := ⟨_, rfl⟩
      rw [← hx] at c1 hx64 hst
      clear hx
      rw [Int.natCast_emod] at hst
      have HS := Lib.hid hst
      have c2 : wr.cell? ⟨w.heap.size, k, none⟩ = some (.int .u64 ((if k < k then zs.getD k 0 % p else 0 : Nat) : Int)) := (HO2.out.cellAt k (by omega)).trans (part_get p zs n k k (by omega))
      rw [if_neg (by omega)] at c2
      have c3 : wr.frozen? ⟨w.heap.size, k, none⟩ = false := HO2.out.frozenAt k
      have hkn : (k : Int) < (n : Nat) := by omega
      clear hst
      go_wp2
      go_roundw
      case rel => exact ⟨k + 1, by omega, by go_num, HS.out.1, HB2.out.setCell (by simp) _⟩
      case measure => simp [intOf]; omega
    · have hkU : k = n := by omega
      subst hkU
      have hd : Nums wr (.slice (some ⟨b, off + k, none⟩) (zs.length - k) (cap - k)) (zs.drop k) := by
        refine ⟨fun x hx => HZ.out x (List.mem_of_mem_drop hx), by simp; omega, ?_⟩
        by_cases he : zs.length = k
        · left; exact ⟨_, _, by rw [he, Nat.sub_self], List.drop_eq_nil_of_le (by omega), by simp⟩
        · right
          refine ⟨b, off + k, cap - k, by simp, by simp; omega, Nat.lt_of_lt_of_le hb HB2.out.size, fun i hi => ?_⟩
          have hi' : k + i < zs.length := by simp at hi; omega
          have := (HB2.out.cell (p := ⟨b, off + (k + i), none⟩) hb).trans (H1.out (k + i) hi')
          rw [Nat.add_assoc, this]
          simp [List.getD_eq_getElem?_getD]
      have HD := Lib.hid hd
      have hN : Nums wr (.slice (some ⟨w.heap.size, 0, none⟩) k k) (drawn p zs k) := by
        have h := HO2.out
        rw [part_full p zs k _ (.inl (by omega))] at h
        exact nums_of_owns h (drawn_lt p zs k (by omega) (by omega)) (by simp [drawn]; omega)
      have HN := Lib.hid hN
      clear hd hN
      go_wp2_with (go_at_call 109; refine (clone_any _ _ _ HD.out).mono ?_; rintro e w' ⟨v2, rfl, hv2, hb2⟩)
      go_ret3
      exact ⟨_, v2, rfl, HN.out.below (by assumption), by assumption, HB2.out.trans (Below.mono (by assumption) HB2.out.size)⟩

set_option maxHeartbeats 1000000 in
theorem draw_b (p : Nat) (zs : List Nat) (b off : Nat) (w : World) (hi : M.isP p = true) (hn : zs.length ≤ 65536) (hl : zs.length ≤ 17592186043904) (hb : b < w.heap.size) 
    (h1 : ∀ i, i < zs.length → w.cell? ⟨b, off + i, none⟩ = some (.int .u64 (zs.getD i 0))) (hz : ∀ n ∈ zs, n < 18446744073709551616) :
    Calls Try.prog 69 #[.int .u64 p, .slice (some ⟨b, off, none⟩) zs.length zs.length, .int .i64 zs.length] w (Drew w p zs zs.length) := by
  obtain ⟨h3, hp⟩ := M.pos_of hi
  have HC := Lib.hid (valid0 p w (by omega) hi)
  have H1 := Lib.hid h1
  have HZ := Lib.hid hz
  obtain ⟨i0, hi0, hz0, hz1, hz2⟩ := info_parts infoU64
  clear h1 hi hz
  go_enter Try.func69, Try.ntmps69
  go_wp2_with (first | (go_at_call 108; refine HC.out.mono ?_; rintro e w' ⟨rfl, rfl⟩) | (refine wpList_make_full _ rfl _ _ 24 rfl w.heap.size 22 i0 (.int .u64 0) 1 Try.underlying24 hi0 hz0 hz1 .i64 .i64 _ _ zs.length rfl rfl rfl rfl ?c1 ?c2 ?c3 ?_))
  case c1 => rw [hz2]; omega
  case c2 => unfold maxLen; omega
  case c3 => exact Nat.le_refl _
  intro w1 hown hgrow
  rw [toList_madeCells_one, ← part_zero p zs zs.length] at hown
  have HB := Lib.hid ((Below.refl w.heap.size w).grown hgrow (Nat.le_refl _) (by simp))
  have HO := Lib.hid hown
  clear hown hgrow
  go_wp2
  go_loopw [34] (fun t wr => ∃ k : Nat, k ≤ zs.length ∧ t = .int .i64 k ∧ wr.ownsRow w.heap.size 22 1 (.slice (some ⟨w.heap.size, 0, none⟩) zs.length zs.length) zs.length (vals (part p zs zs.length k)) ∧ Below w.heap.size w wr) (fun t _ => zs.length - (intOf t).toNat)
  case atStart => exact ⟨0, by omega, rfl, HO.out, HB.out⟩
  case round =>
    obtain ⟨k, hk, rfl, hown, hbw⟩ := hrel
    have HB2 := Lib.hid hbw
    have HO2 := Lib.hid hown
    clear hown hbw
    by_cases hlt : k < zs.length
    · have c1 : wr.cell? ⟨b, off + k, none⟩ = some (.int .u64 (zs.getD k 0)) := (HB2.out.cell (p := ⟨b, off + k, none⟩) hb).trans (H1.out k (by omega))
      have hx64 : zs.getD k 0 < 18446744073709551616 := by
        rw [List.getD_eq_getElem?_getD, List.getElem?_eq_getElem (by omega)]
        exact HZ.out _ (List.getElem_mem (by omega))
      have hst := HO2.out.stored k (.int .u64 ((zs.getD k 0 % p : Nat) : Int))
      rw [part_set p zs zs.length k (by omega)] at hst
      obtain ⟨x, hx⟩ : ∃ x, x = zs.getD k 0 := ⟨_, rfl⟩
      rw [← hx] at c1 hx64 hst
      clear hx
      rw [Int.natCast_emod] at hst
      have HS := Lib.hid hst
      have c2 : wr.cell? ⟨w.heap.size, k, none⟩ = some (.int .u64 ((if k < k then zs.getD k 0 % p else 0 : Nat) : Int)) := (HO2.out.cellAt k (by omega)).trans (part_get p zs zs.length k k (by omega))
      rw [if_neg (by omega)] at c2
      have c3 : wr.frozen? ⟨w.heap.size, k, none⟩ = false := HO2.out.frozenAt k
      have hkn : (k : Int) < (zs.length : Nat) := by omega
      clear hst
      go_wp2
      go_roundw
      case rel => exact ⟨k + 1, by omega, by go_num, HS.out.1, HB2.out.setCell (by simp) _⟩
      case measure => simp [intOf]; omega
    · have hkU : k = zs.length := by omega
      subst hkU
      have hd : Nums wr (.slice (some ⟨b, off, none⟩) 0 0) (zs.drop zs.length) := by
        refine ⟨fun x hx => HZ.out x (List.mem_of_mem_drop hx), by simp, ?_⟩
        left
        exact ⟨_, _, rfl, List.drop_eq_nil_of_le (by omega), by simp⟩
      have HD := Lib.hid hd
      have hN : Nums wr (.slice (some ⟨w.heap.size, 0, none⟩) zs.length zs.length) (drawn p zs zs.length) := by
        have h := HO2.out
        rw [part_full p zs zs.length _ (.inl (by omega))] at h
        exact nums_of_owns h (drawn_lt p zs zs.length (by omega) (by omega)) (by simp [drawn]; omega)
      have HN := Lib.hid hN
      clear hd hN
      go_wp2_with (go_at_call 109; refine (clone_any _ _ _ HD.out).mono ?_; rintro e w' ⟨v2, rfl, hv2, hb2⟩)
      go_ret3
      exact ⟨_, v2, rfl, HN.out.below (by assumption), by assumption, HB2.out.trans (Below.mono (by assumption) HB2.out.size)⟩

set_option maxHeartbeats 1000000 in
theorem draw_c (p n cap : Nat) (zs : List Nat) (b off : Nat) (w : World) (hi : M.isP p = true) (hn : n ≤ 65536) (hl : zs.length ≤ 17592186043904) (hb : b < w.heap.size) (hnl : zs.length < n) (hcl : zs.length < cap)
    (h1 : ∀ i, i < zs.length → w.cell? ⟨b, off + i, none⟩ = some (.int .u64 (zs.getD i 0))) (hz : ∀ n ∈ zs, n < 18446744073709551616) :
    Calls Try.prog 69 #[.int .u64 p, .slice (some ⟨b, off, none⟩) zs.length cap, .int .i64 n] w (Drew w p zs n) := by
  obtain ⟨h3, hp⟩ := M.pos_of hi
  have HC := Lib.hid (valid0 p w (by omega) hi)
  have H1 := Lib.hid h1
  have HZ := Lib.hid hz
  obtain ⟨i0, hi0, hz0, hz1, hz2⟩ := info_parts infoU64
  clear h1 hi hz
  go_enter Try.func69, Try.ntmps69
  go_wp2_with (first | (go_at_call 108; refine HC.out.mono ?_; rintro e w' ⟨rfl, rfl⟩) | (refine wpList_make_full _ rfl _ _ 24 rfl w.heap.size 22 i0 (.int .u64 0) 1 Try.underlying24 hi0 hz0 hz1 .i64 .i64 _ _ n rfl rfl rfl rfl ?c1 ?c2 ?c3 ?_))
  case c1 => rw [hz2]; omega
  case c2 => unfold maxLen; omega
  case c3 => exact Nat.le_refl _
  intro w1 hown hgrow
  rw [toList_madeCells_one, ← part_zero p zs n] at hown
  have HB := Lib.hid ((Below.refl w.heap.size w).grown hgrow (Nat.le_refl _) (by simp))
  have HO := Lib.hid hown
  clear hown hgrow
  go_wp2
  go_loopw [34] (fun t wr => ∃ k : Nat, k ≤ zs.length ∧ t = .int .i64 k ∧ wr.ownsRow w.heap.size 22 1 (.slice (some ⟨w.heap.size, 0, none⟩) n n) n (vals (part p zs n k)) ∧ Below w.heap.size w wr) (fun t _ => zs.length - (intOf t).toNat)
  case atStart => exact ⟨0, by omega, rfl, HO.out, HB.out⟩
  case round =>
    obtain ⟨k, hk, rfl, hown, hbw⟩ := hrel
    have HB2 := Lib.hid hbw
    have HO2 := Lib.hid hown
    clear hown hbw
    by_cases hlt : k < zs.length
    · have c1 : wr.cell? ⟨b, off + k, none⟩ = some (.int .u64 (zs.getD k 0)) := (HB2.out.cell (p := ⟨b, off + k, none⟩) hb).trans (H1.out k (by omega))
      have hx64 : zs.getD k 0 < 18446744073709551616 := by
        rw [List.getD_eq_getElem?_getD, List.getElem?_eq_getElem (by omega)]
        exact HZ.out _ (List.getElem_mem (by omega))
      have hst := HO2.out.stored k (.int .u64 ((zs.getD k 0 % p : Nat) : Int))
      rw [part_set p zs n k (by omega)] at hst
      obtain ⟨x, hx⟩ : ∃ x, x = zs.getD k 0 := ⟨_, rfl⟩
      rw [← hx] at c1 hx64 hst
      clear hx
      rw [Int.natCast_emod] at hst
      have HS := Lib.hid hst
      have c2 : wr.cell? ⟨w.heap.size, k, none⟩ = some (.int .u64 ((if k < k then zs.getD k 0 % p else 0 : Nat) : Int)) := (HO2.out.cellAt k (by omega)).trans (part_get p zs n k k (by omega))
      rw [if_neg (by omega)] at c2
      have c3 : wr.frozen? ⟨w.heap.size, k, none⟩ = false := HO2.out.frozenAt k
      have hkn : (k : Int) < (n : Nat) := by omega
      clear hst
      go_wp2
      go_roundw
      case rel => exact ⟨k + 1, by omega, by go_num, HS.out.1, HB2.out.setCell (by simp) _⟩
      case measure => simp [intOf]; omega
    · have hkU : k = zs.length := by omega
      subst hkU
      have hd : Nums wr (.slice (some ⟨b, off + zs.length, none⟩) 0 (cap - zs.length)) (zs.drop n) := by
        refine ⟨fun x hx => HZ.out x (List.mem_of_mem_drop hx), by simp; omega, ?_⟩
        left
        exact ⟨_, _, rfl, List.drop_eq_nil_of_le (by omega), by simp⟩
      have HD := Lib.hid hd
      have hN : Nums wr (.slice (some ⟨w.heap.size, 0, none⟩) n n) (drawn p zs n) := by
        have h := HO2.out
        rw [part_full p zs n _ (.inr (by omega))] at h
        exact nums_of_owns h (drawn_lt p zs n (by omega) (by omega)) (by simp [drawn]; omega)
      have HN := Lib.hid hN
      clear hd hN
      go_wp2_with (go_at_call 109; refine (clone_any _ _ _ HD.out).mono ?_; rintro e w' ⟨v2, rfl, hv2, hb2⟩)
      go_ret3
      exact ⟨_, v2, rfl, HN.out.below (by assumption), by assumption, HB2.out.trans (Below.mono (by assumption) HB2.out.size)⟩

set_option maxHeartbeats 1000000 in
theorem draw_d (p n : Nat) (zs : List Nat) (b off : Nat) (w : World) (hi : M.isP p = true) (hn : n ≤ 65536) (hl : zs.length ≤ 17592186043904) (hb : b < w.heap.size) (hnl : zs.length < n)
    (h1 : ∀ i, i < zs.length → w.cell? ⟨b, off + i, none⟩ = some (.int .u64 (zs.getD i 0))) (hz : ∀ n ∈ zs, n < 18446744073709551616) :
    Calls Try.prog 69 #[.int .u64 p, .slice (some ⟨b, off, none⟩) zs.length zs.length, .int .i64 n] w (Drew w p zs n) := by
  obtain ⟨h3, hp⟩ := M.pos_of hi
  have HC := Lib.hid (valid0 p w (by omega) hi)
  have H1 := Lib.hid h1
  have HZ := Lib.hid hz
  obtain ⟨i0, hi0, hz0, hz1, hz2⟩ := info_parts infoU64
  clear h1 hi hz
  go_enter Try.func69, Try.ntmps69
  go_wp2_with (first | (go_at_call 108; refine HC.out.mono ?_; rintro e w' ⟨rfl, rfl⟩) | (refine wpList_make_full _ rfl _ _ 24 rfl w.heap.size 22 i0 (.int .u64 0) 1 Try.underlying24 hi0 hz0 hz1 .i64 .i64 _ _ n rfl rfl rfl rfl ?c1 ?c2 ?c3 ?_))
  case c1 => rw [hz2]; omega
  case c2 => unfold maxLen; omega
  case c3 => exact Nat.le_refl _
  intro w1 hown hgrow
  rw [toList_madeCells_one, ← part_zero p zs n] at hown
  have HB := Lib.hid ((Below.refl w.heap.size w).grown hgrow (Nat.le_refl _) (by simp))
  have HO := Lib.hid hown
  clear hown hgrow
  go_wp2
  go_loopw [34] (fun t wr => ∃ k : Nat, k ≤ zs.length ∧ t = .int .i64 k ∧ wr.ownsRow w.heap.size 22 1 (.slice (some ⟨w.heap.size, 0, none⟩) n n) n (vals (part p zs n k)) ∧ Below w.heap.size w wr) (fun t _ => zs.length - (intOf t).toNat)
  case atStart => exact ⟨0, by omega, rfl, HO.out, HB.out⟩
  case round =>
    obtain ⟨k, hk, rfl, hown, hbw⟩ := hrel
    have HB2 := Lib.hid hbw
    have HO2 := Lib.hid hown
    clear hown hbw
    by_cases hlt : k < zs.length
    · have c1 : wr.cell? ⟨b, off + k, none⟩ = some (.int .u64 (zs.getD k 0)) := (HB2.out.cell (p := ⟨b, off + k, none⟩) hb).trans (H1.out k (by omega))
      have hx64 : zs.getD k 0 < 18446744073709551616 := by
        rw [List.getD_eq_getElem?_getD, List.getElem?_eq_getElem (by omega)]
        exact HZ.out _ (List.getElem_mem (by omega))
      have hst := HO2.out.stored k (.int .u64 ((zs.getD k 0 % p : Nat) : Int))
      rw [part_set p zs n k (by omega)] at hst
      obtain ⟨x, hx⟩ : ∃ x, x = zs.getD k 0 := ⟨_, rfl⟩
      rw [← hx] at c1 hx64 hst
      clear hx
      rw [Int.natCast_emod] at hst
      have HS := Lib.hid hst
      have c2 : wr.cell? ⟨w.heap.size, k, none⟩ = some (.int .u64 ((if k < k then zs.getD k 0 % p else 0 : Nat) : Int)) := (HO2.out.cellAt k (by omega)).trans (part_get p zs n k k (by omega))
      rw [if_neg (by omega)] at c2
      have c3 : wr.frozen? ⟨w.heap.size, k, none⟩ = false := HO2.out.frozenAt k
      have hkn : (k : Int) < (n : Nat) := by omega
      clear hst
      go_wp2
      go_roundw
      case rel => exact ⟨k + 1, by omega, by go_num, HS.out.1, HB2.out.setCell (by simp) _⟩
      case measure => simp [intOf]; omega
    · have hkU : k = zs.length := by omega
      subst hkU
      have hd : Nums wr (.slice (some ⟨b, off, none⟩) 0 0) (zs.drop n) := by
        refine ⟨fun x hx => HZ.out x (List.mem_of_mem_drop hx), by simp; omega, ?_⟩
        left
        exact ⟨_, _, rfl, List.drop_eq_nil_of_le (by omega), by simp⟩
      have HD := Lib.hid hd
      have hN : Nums wr (.slice (some ⟨w.heap.size, 0, none⟩) n n) (drawn p zs n) := by
        have h := HO2.out
        rw [part_full p zs n _ (.inr (by omega))] at h
        exact nums_of_owns h (drawn_lt p zs n (by omega) (by omega)) (by simp [drawn]; omega)
      have HN := Lib.hid hN
      clear hd hN
      go_wp2_with (go_at_call 109; refine (clone_any _ _ _ HD.out).mono ?_; rintro e w' ⟨v2, rfl, hv2, hb2⟩)
      go_ret3
      exact ⟨_, v2, rfl, HN.out.below (by assumption), by assumption, HB2.out.trans (Below.mono (by assumption) HB2.out.size)⟩

set_option maxHeartbeats 1000000 in
theorem draw_e (p n : Nat) (a : Option Addr) (cap : Nat) (w : World) (hi : M.isP p = true) (hn : n ≤ 65536) (h0 : 0 < n) (hnn : a = none → cap = 0) :
    Calls Try.prog 69 #[.int .u64 p, .slice a 0 cap, .int .i64 n] w (Drew w p [] n) := by
  obtain ⟨h3, hp⟩ := M.pos_of hi
  have HC := Lib.hid (valid0 p w (by omega) hi)
  obtain ⟨i0, hi0, hz0, hz1, hz2⟩ := info_parts infoU64
  have HNN := Lib.hid hnn
  clear hi hnn
  go_enter Try.func69, Try.ntmps69
  go_wp2_with (first | (go_at_call 108; refine HC.out.mono ?_; rintro e w' ⟨rfl, rfl⟩) | (refine wpList_make_full _ rfl _ _ 24 rfl w.heap.size 22 i0 (.int .u64 0) 1 Try.underlying24 hi0 hz0 hz1 .i64 .i64 _ _ n rfl rfl rfl rfl ?c1 ?c2 ?c3 ?_))
  case c1 => rw [hz2]; omega
  case c2 => unfold maxLen; omega
  case c3 => exact Nat.le_refl _
  intro w1 hown hgrow
  rw [toList_madeCells_one, ← part_zero p [] n] at hown
  have HB := Lib.hid ((Below.refl w.heap.size w).grown hgrow (Nat.le_refl _) (by simp))
  have HO := Lib.hid hown
  clear hown hgrow
  go_wp2
  go_loopw [34] (fun t wr => t = .int .i64 0 ∧ wr.ownsRow w.heap.size 22 1 (.slice (some ⟨w.heap.size, 0, none⟩) n n) n (vals (part p [] n 0)) ∧ Below w.heap.size w wr) (fun _ _ => 0)
  case atStart => exact ⟨rfl, HO.out, HB.out⟩
  case round =>
    obtain ⟨rfl, hown, hbw⟩ := hrel
    have HB2 := Lib.hid hbw
    have hd : Nums wr (.slice a 0 cap) [] := ⟨by simp, by simp, .inl ⟨a, cap, rfl, rfl, HNN.out⟩⟩
    have HD := Lib.hid hd
    have hN : Nums wr (.slice (some ⟨w.heap.size, 0, none⟩) n n) (drawn p [] n) := by
      rw [part_full p [] n _ (.inr (by simp))] at hown
      exact nums_of_owns hown (drawn_lt p [] n (by omega) (by omega)) (by simp [drawn]; try omega)
    have HN := Lib.hid hN
    clear hd hN hown hbw
    go_wp2_with (go_at_call 109; refine (clone_any _ _ _ HD.out).mono ?_; rintro e w' ⟨v2, rfl, hv2, hb2⟩)
    go_ret3
    exact ⟨_, v2, rfl, HN.out.below (by assumption), by rw [List.drop_nil]; assumption, HB2.out.trans (Below.mono (by assumption) HB2.out.size)⟩

set_option maxHeartbeats 1000000 in
theorem draw_f (p : Nat) (a : Option Addr) (cap : Nat) (w : World) (hi : M.isP p = true) (hnn : a = none → cap = 0) :
    Calls Try.prog 69 #[.int .u64 p, .slice a 0 cap, .int .i64 0] w (Drew w p [] 0) := by
  obtain ⟨h3, hp⟩ := M.pos_of hi
  have HC := Lib.hid (valid0 p w (by omega) hi)
  obtain ⟨i0, hi0, hz0, hz1, hz2⟩ := info_parts infoU64
  have HNN := Lib.hid hnn
  clear hi hnn
  go_enter Try.func69, Try.ntmps69
  go_wp2_with (first | (go_at_call 108; refine HC.out.mono ?_; rintro e w' ⟨rfl, rfl⟩) | (refine wpList_make_full _ rfl _ _ 24 rfl w.heap.size 22 i0 (.int .u64 0) 1 Try.underlying24 hi0 hz0 hz1 .i64 .i64 _ _ 0 rfl rfl rfl rfl ?c1 ?c2 ?c3 ?_))
  case c1 => rw [hz2]; omega
  case c2 => unfold maxLen; omega
  case c3 => exact Nat.le_refl _
  intro w1 hown hgrow
  rw [toList_madeCells_one, ← part_zero p [] 0] at hown
  have HB := Lib.hid ((Below.refl w.heap.size w).grown hgrow (Nat.le_refl _) (by simp))
  have HO := Lib.hid hown
  clear hown hgrow
  go_wp2
  go_loopw [34] (fun t wr => t = .int .i64 0 ∧ wr.ownsRow w.heap.size 22 1 (.slice (some ⟨w.heap.size, 0, none⟩) 0 0) 0 (vals (part p [] 0 0)) ∧ Below w.heap.size w wr) (fun _ _ => 0)
  case atStart => exact ⟨rfl, HO.out, HB.out⟩
  case round =>
    obtain ⟨rfl, hown, hbw⟩ := hrel
    have HB2 := Lib.hid hbw
    have hd : Nums wr (.slice a 0 cap) [] := ⟨by simp, by simp, .inl ⟨a, cap, rfl, rfl, HNN.out⟩⟩
    have HD := Lib.hid hd
    have hN : Nums wr (.slice (some ⟨w.heap.size, 0, none⟩) 0 0) (drawn p [] 0) := by
      rw [part_full p [] 0 _ (.inr (by simp))] at hown
      exact nums_of_owns hown (drawn_lt p [] 0 (by omega) (by omega)) (by simp [drawn]; try omega)
    have HN := Lib.hid hN
    clear hd hN hown hbw
    go_wp2_with (go_at_call 109; refine (clone_any _ _ _ HD.out).mono ?_; rintro e w' ⟨v2, rfl, hv2, hb2⟩)
    go_ret3
    exact ⟨_, v2, rfl, HN.out.below (by assumption), by rw [List.drop_nil]; assumption, HB2.out.trans (Below.mono (by assumption) HB2.out.size)⟩

theorem draw_any (p n : Nat) (v : Value) (zs : List Nat) (w : World) (hi : M.isP p = true) (hn : n ≤ 65536) (hv : Nums w v zs) :
    Calls Try.prog 69 #[.int .u64 p, v, .int .i64 n] w (Drew w p zs n) := by
  obtain ⟨h1, h2, h3⟩ := hv
  rcases h3 with ⟨a, cap, rfl, rfl, hnn⟩ | ⟨b, off, cap, rfl, hc, hb, hcell⟩
  · by_cases h0 : n = 0
    · subst h0; exact draw_f p a cap w hi hnn
    · exact draw_e p n a cap w hi hn (by omega) hnn
  · by_cases hle : n ≤ zs.length
    · by_cases hcn : n < cap
      · exact draw_a p n cap zs b off w hi hn h2 hb hle hc hcn hcell h1
      · obtain rfl : n = zs.length := by omega
        obtain rfl : cap = zs.length := by omega
        exact draw_b p zs b off w hi hn h2 hb hcell h1
    · by_cases hcl : zs.length < cap
      · exact draw_c p n cap zs b off w hi hn h2 hb (by omega) hcl hcell h1
      · obtain rfl : cap = zs.length := by omega
        exact draw_d p n zs b off w hi hn h2 hb (by omega) hcell h1
end Go.Proofs.Ytgoognipljknjaa
namespace Go.Proofs.Ytgoognipljknjaa
open Go.RowKit
set_option linter.unusedVariables false
set_option maxRecDepth 100000

namespace M
/-- the polynomial that Make makes -/
def mk (p a d : Nat) (zs : List Nat) : List Nat := trim (a :: drawn p zs d)
theorem drawn_len (p : Nat) (zs : List Nat) (d : Nat) : (drawn p zs d).length = d := by simp [drawn]
theorem drawn_within {p : Nat} (hp : 0 < p) (zs : List Nat) (d : Nat) : within p (drawn p zs d) = true := by
  simp only [within, drawn, List.all_map, List.all_eq_true, Function.comp, decide_eq_true_eq]
  exact fun i _ => Nat.mod_lt _ hp
theorem mkL_within {p a : Nat} (ha : a < p) (zs : List Nat) (d : Nat) : within p (a :: drawn p zs d) = true := by
  have := drawn_within (p := p) (by omega) zs d
  simp only [within, List.all_cons, Bool.and_eq_true, decide_eq_true_eq] at this ⊢
  exact ⟨ha, this⟩
end M

set_option maxHeartbeats 1000000 in
theorem make_bad (p a : Nat) (n t d : Int) (v : Value) (zs : List Nat) (w : World) (hp : p < 18446744073709551616) (ha : a < 18446744073709551616) (hn1 : -9223372036854775808 ≤ n) (hn2 : n ≤ 9223372036854775807) (ht1 : -9223372036854775808 ≤ t) (ht2 : t ≤ 9223372036854775807) (hd1 : -9223372036854775808 ≤ d) (hd2 : d ≤ 9223372036854775807)
    (hv : Nums w v zs) (h : M.okS p n t = false ∨ p ≤ a ∨ d < 0 ∨ n - 1 < d) :
    Calls Try.prog 31 #[suV p n t, .int .u64 a, .int .i64 d, v] w fun e w' => e = .returned (.tuple #[.slice none 0 0, .slice none 0 0, .int .i64 2]) ∧ Below w.heap.size w w' := by
  have HC := Lib.hid fun W => setup_any p n t W hp hn1 hn2 ht1 ht2
  have HB := Lib.hid (balloc w (Obj.cells #[Value.int IntKind.u64 p, Value.int IntKind.i64 n, Value.int IntKind.i64 t] 40))
  have hud : ∀ b : Bool, undef ≠ Value.bool b := fun b h => by cases h
  obtain ⟨A, cap, rfl⟩ := nums_slice' hv
  unfold suV at HC ⊢
  cases hs : M.okS p n t with
  | false =>
    have e2 : M.errS p n t = 2 := by simp [M.errS, hs]
    rw [e2] at HC
    clear h
    go_enter Try.func31, Try.ntmps31
    go_wp2_with fail
    refine (HC.out _).mono ?_
    rintro e w1 ⟨rfl, hb1⟩
    have B1 := Lib.hid (bnext HB.out hb1)
    clear hb1
    go_wp2_with fail
    go_ret3
    exact ⟨rfl, B1.out⟩
  | true =>
    have e2 : M.errS p n t = 0 := by simp [M.errS, hs]
    rw [e2] at HC
    have h' := h.resolve_left (by simp [hs])
    clear h
    go_enter Try.func31, Try.ntmps31
    go_wp2_with fail
    refine (HC.out _).mono ?_
    rintro e w1 ⟨rfl, hb1⟩
    have B1 := Lib.hid (bnext HB.out hb1)
    have c0 : w1.cell? ⟨w.heap.size, 0, none⟩ = some (.int .u64 p) := by
      refine (hb1.cell (p := ⟨w.heap.size, 0, none⟩) (by simp)).trans (by simp)
    have c1 : w1.cell? ⟨w.heap.size, 1, none⟩ = some (.int .i64 n) := by
      refine (hb1.cell (p := ⟨w.heap.size, 1, none⟩) (by simp)).trans (by simp)
    clear hb1
    by_cases h1 : p ≤ a
    · go_wp2_with fail
      go_ret3
      exact ⟨rfl, B1.out⟩
    by_cases h2 : d < 0
    · go_wp2_with fail
      go_ret3
      exact ⟨rfl, B1.out⟩
    have h3 : n ≤ d := by omega
    go_wp2_with fail
    go_ret3
    exact ⟨rfl, B1.out⟩

set_option maxHeartbeats 1000000 in
theorem make_ok (p a d : Nat) (n t : Int) (v : Value) (zs : List Nat) (w : World) (hok : M.okS p n t = true) (ha : a < p) (hd : (d : Int) < n) (hv : Nums w v zs) :
    Calls Try.prog 31 #[suV p n t, .int .u64 a, .int .i64 d, v] w fun e w' => ∃ v1 v2, e = .returned (.tuple #[v1, v2, .int .i64 0]) ∧ Nums w' v1 (M.mk p a d zs) ∧ Nums w' v2 (zs.drop d) ∧ Below w.heap.size w w' := by
  obtain ⟨hi, hn1, hn2, ht1, ht2, hnp⟩ := M.okS_iff.1 hok
  obtain ⟨h3, hp⟩ := M.pos_of hi
  have hC := fun W => setup_any p n t W (by omega) (by omega) (by omega) (by omega) (by omega)
  rw [← M.errS_ok hok] at hC
  have HC := Lib.hid hC
  have HB := Lib.hid (balloc w (Obj.cells #[Value.int IntKind.u64 p, Value.int IntKind.i64 n, Value.int IntKind.i64 t] 40))
  have HD := Lib.hid fun W (hW : Nums W v zs) => draw_any p d v zs W hi (by omega) hW
  have hud : ∀ b : Bool, undef ≠ Value.bool b := fun b h => by cases h
  have HV := Lib.hid hv
  have HWI := Lib.hid (M.mkL_within ha zs d)
  have HI := Lib.hid hi
  obtain ⟨A, cap, rfl⟩ := nums_slice' hv
  unfold suV at HC ⊢
  clear hC hv hi
  go_enter Try.func31, Try.ntmps31
  go_wp2_with fail
  refine (HC.out _).mono ?_
  rintro e w1 ⟨rfl, hb1⟩
  have B1 := Lib.hid (bnext HB.out hb1)
  have S1 := hb1.size
  have c0 : w1.cell? ⟨w.heap.size, 0, none⟩ = some (.int .u64 p) := by
    refine (hb1.cell (p := ⟨w.heap.size, 0, none⟩) (by simp)).trans (by simp)
  have c1 : w1.cell? ⟨w.heap.size, 1, none⟩ = some (.int .i64 n) := by
    refine (hb1.cell (p := ⟨w.heap.size, 1, none⟩) (by simp)).trans (by simp)
  clear hb1
  go_wp2_with fail
  refine (HD.out _ (HV.out.below B1.out)).mono ?_
  rintro e w2 ⟨v1, v2, rfl, hn1', hn2', hb2⟩
  have B2 := Lib.hid (bnext B1.out hb2)
  have N1 := Lib.hid hn1'
  have N2 := Lib.hid hn2'
  have hsz1 := hb2.size
  have hsz0 : w.heap.size < w1.heap.size := by simp at S1; omega
  have hcell0 : w2.cell? ⟨w.heap.size, 0, none⟩ = some (.int .u64 p) := (hb2.cell (p := ⟨w.heap.size, 0, none⟩) hsz0).trans c0
  have hlt2 : w.heap.size < w2.heap.size := by omega
  obtain ⟨A1, cap1, rfl⟩ := nums_slice' hn1'
  rw [show ((List.range d).map fun i => zs.getD i 0 % p).length = d by simp] at N1 ⊢
  have hW : Below w2.heap.size w2 ((w2.alloc (.cells #[.int .u64 (a : Nat)] 22)).alloc (.cells #[.slice (some ⟨w2.heap.size, 0, none⟩) 1 1, .slice A1 d cap1] 24)).drew := (bnext (balloc w2 _) (balloc _ _)).drew
  have hcon : Calls Try.prog 71 #[.slice (some ⟨w2.heap.size + 1, 0, none⟩) 2 2]
      ((w2.alloc (.cells #[.int .u64 (a : Nat)] 22)).alloc (.cells #[.slice (some ⟨w2.heap.size, 0, none⟩) 1 1, .slice A1 d cap1] 24)).drew fun e w' => ∃ v', e = .returned v' ∧ Nums w' v' (a :: drawn p zs d) ∧ Below w2.heap.size w2 w' := by
    have hn := concat_any (w2.heap.size + 1) (.slice (some ⟨w2.heap.size, 0, none⟩) 1 1) (.slice A1 d cap1) [a] (drawn p zs d) ((w2.alloc (.cells #[.int .u64 (a : Nat)] 22)).alloc (.cells #[.slice (some ⟨w2.heap.size, 0, none⟩) 1 1, .slice A1 d cap1] 24)).drew
      (by simp) (by rw [M.drawn_len]; simp; omega) (((nums1 w2 a (by omega)).below (balloc _ _)).below (Below.refl _ _).drew) (N1.out.below hW) (by
        have := heap_alloc_new (w2.alloc (.cells #[.int .u64 (a : Nat)] 22)) (.cells #[.slice (some ⟨w2.heap.size, 0, none⟩) 1 1, .slice A1 d cap1] 24)
        simpa [World.drew] using this)
    refine hn.mono ?_
    rintro e w' ⟨v', rfl, hN, hB⟩
    exact ⟨v', rfl, hN, bnext hW hB⟩
  have HCON := Lib.hid hcon
  have htr := fun W v' (hv' : Nums W v' (a :: drawn p zs d)) => trim2_ok p v' (a :: drawn p zs d) W hv' (M.chk_of HI.out (by simp [M.drawn_len]; omega) HWI.out)
  have HTR := Lib.hid htr
  clear hn1' hn2' hb2 hsz1 hsz0 c0 c1 hW hcon htr
  go_wp2_with fail
  go_region_with (first
    | (go_at_call 71; refine HCON.out.mono ?_; rintro e w3 ⟨v3, rfl, hn3, hb3⟩; have cp3 : w3.cell? ⟨w.heap.size, 0, none⟩ = some (.int .u64 p) := (hb3.cell (p := ⟨w.heap.size, 0, none⟩) hlt2).trans hcell0; have hlt3 : w.heap.size < w3.heap.size := (by have := hb3.size; omega))
    | (go_at_call 70; refine (HTR.out _ _ (by assumption)).mono ?_; rintro e w4 ⟨v4, rfl, hn4, hb4⟩))
  all_goals
    have B4 := Lib.hid (bnext (bnext B2.out hb3) hb4)
    have N4 := Lib.hid hn4
    have R4 := Lib.hid ((N2.out.below hb3).below hb4)
    clear hn3 hb3 cp3 hlt3 hn4 hb4
    go_wp2_with fail
    go_ret3
    exact ⟨_, _, rfl, N4.out, R4.out, B4.out⟩
end Go.Proofs.Ytgoognipljknjaa
namespace Go.Proofs.Ytgoognipljknjaa
open Go.RowKit
set_option linter.unusedVariables false
set_option maxRecDepth 100000

/-- every block that was there stands as it stood, but for block g -/
def Keeps (g : Nat) (w w' : World) : Prop := w.heap.size ≤ w'.heap.size ∧ ∀ B, B < w.heap.size → B ≠ g → w'.heap[B]? = w.heap[B]?
theorem Keeps.of_below {w w' : World} (h : Below w.heap.size w w') (g : Nat) : Keeps g w w' := ⟨h.size, fun B hB _ => h.block B hB⟩
theorem Rw.keeps {w w' : World} {B n g : Nat} {F : Nat → Nat} (h : Rw w B n F) (hk : Keeps g w w') (hB : B < w.heap.size) (hg : B ≠ g) : Rw w' B n F := fun i hi =>
  ⟨(World.cell?_of_block (w := w) (a := ⟨B, i, none⟩) (hk.2 B hB hg)).trans (h i hi).1, (World.frozen?_of_block (w := w) (a := ⟨B, i, none⟩) (hk.2 B hB hg)).trans (h i hi).2⟩
theorem own_lt {w : World} {base B n cap : Nat} {l : List Value} (h : w.ownsRow base 22 1 (.slice (some ⟨B, 0, none⟩) n cap) n l) : base ≤ B ∧ B < w.heap.size := h.lt B rfl

/-- what forParties hands back: F told for every party, or the first party's error -/
def Parties (p N : Nat) (F : Nat → Nat) (E : Nat → Int) (b0 : Nat) (w : World) (e : Ending) (w' : World) : Prop :=
  (∃ v, e = .returned (.tuple #[v, .int .i64 0]) ∧ Nums w' v (M.tabM N F) ∧ (∀ k, k < N → E k = 0) ∧ Below b0 w w') ∨
  (∃ k, k < N ∧ E k ≠ 0 ∧ (∀ j, j < k → E j = 0) ∧ e = .returned (.tuple #[.slice none 0 0, .int .i64 (E k)]) ∧ Below b0 w w')

set_option maxHeartbeats 2000000 in
theorem forParties_shares (p N : Nat) (t : Int) (a0 a1 : Addr) (F : Nat → Nat) (E : Nat → Int) (J : World → Prop) (b0 g : Nat) (w : World) (hok : M.okS p (N : Int) t = true) (hb0 : b0 ≤ w.heap.size) (hg : g < w.heap.size) (hJ : J w)
    (hJk : ∀ W W', J W → Below w.heap.size W W' → J W') (hF : ∀ k, k < N → F k < 18446744073709551616)
    (hop : ∀ W (k : Nat), k < N → J W → w.heap.size ≤ W.heap.size → Calls Try.prog 74 #[.int .i64 ((k : Int) + 1), .pointer (some a0), .pointer (some a1)] W fun e W' => e = .returned (.tuple #[.int .u64 (F k : Nat), .int .i64 (E k)]) ∧ J W' ∧ Below b0 W W' ∧ Keeps g W W') :
    Calls Try.prog 73 #[suV p (N : Int) t, .func (.func 74) #[] #[.pointer (some a0), .pointer (some a1)]] w fun e w' => Parties p N F E b0 w e w' := by
  obtain ⟨hi, hn1, hn2, ht1, ht2, hnp⟩ := M.okS_iff.1 hok
  obtain ⟨h3, hp⟩ := M.pos_of hi
  have hC := fun W => setup_any p (N : Int) t W (by omega) (by omega) (by omega) (by omega) (by omega)
  rw [← M.errS_ok hok] at hC
  have HC := Lib.hid hC
  have HB := Lib.hid (balloc w (Obj.cells #[Value.int IntKind.u64 p, Value.int IntKind.i64 N, Value.int IntKind.i64 t] 40))
  have HOP := Lib.hid hop
  have HJ := Lib.hid hJ
  have HJK := Lib.hid hJk
  have HF := Lib.hid hF
  have hud : ∀ b : Bool, undef ≠ Value.bool b := fun b h => by cases h
  obtain ⟨i0, hi0, hz0, hz1, hz2⟩ := info_parts infoU64
  unfold suV at HC ⊢
  clear hC hi hop hJ hJk hF hok
  go_enter Try.func73, Try.ntmps73
  go_wp2_with fail
  refine (HC.out _).mono ?_
  rintro e w1 ⟨rfl, hb1⟩
  have B1 := Lib.hid (bnext HB.out hb1)
  have S1 := B1.out.size
  have c1 : w1.cell? ⟨w.heap.size, 1, none⟩ = some (.int .i64 N) := by
    refine (hb1.cell (p := ⟨w.heap.size, 1, none⟩) (by simp)).trans (by simp)
  clear hb1
  go_wp2_with (refine wpList_make_full _ rfl _ _ 24 rfl w1.heap.size 22 i0 (.int .u64 0) 1 Try.underlying24 hi0 hz0 hz1 .i64 .i64 _ _ N rfl rfl rfl rfl ?c1 ?c2 ?c3 ?_)
  case c1 => rw [hz2]; omega
  case c2 => unfold maxLen; omega
  case c3 => exact Nat.le_refl _
  intro w2 hown hgrow
  rw [toList_madeCells_one] at hown
  have S2 := Lib.hid ((Below.refl w1.heap.size w1).grown hgrow (Nat.le_refl _) (by simp))
  have HB2 := Lib.hid (B1.out.trans (S2.out.mono S1))
  have hr2 := Rw.start hown rfl
  have HR2 := Lib.hid hr2
  have L2 := (own_lt hown).2
  have HJ2 := Lib.hid (HJK.out _ _ HJ.out HB2.out)
  obtain ⟨B, eB⟩ : ∃ B, w1.heap.size = B := ⟨_, rfl⟩
  rw [eB] at HR2 L2 S1 ⊢
  clear hown hgrow hr2 eB S2 c1
  go_wp2_with fail
  go_loopw [21] (fun ti wr => ∃ k : Nat, k ≤ N ∧ ti = .int .i64 k ∧ J wr ∧ B < wr.heap.size ∧ Below b0 w wr ∧ Rw wr B N (fun i => if i < k then F i else 0) ∧ ∀ j, j < k → E j = 0) (fun ti _ => N - (intOf ti).toNat)
  case atStart => exact ⟨0, by omega, rfl, HJ2.out, L2, HB2.out.mono hb0, HR2.out.congr (fun i hi => by simp), fun j hj => absurd hj (by omega)⟩
  case round =>
    obtain ⟨k, hk, rfl, hj, hlt2, hB, hr, he⟩ := hrel
    have HJr := Lib.hid hj
    have HBr := Lib.hid hB
    have HRr := Lib.hid hr
    have HE := Lib.hid he
    clear hj hB hr he
    by_cases hlt : k < N
    · have hwr : w.heap.size ≤ wr.heap.size := by omega
      have HO := Lib.hid (HOP.out wr k hlt HJr.out hwr)
      by_cases hek : E k = 0
      · have hek' := HE.out
        rw [hek] at HO
        obtain ⟨x, ex⟩ : ∃ x, x = F k := ⟨_, rfl⟩
        rw [← ex] at HO
        have hx64 := HF.out k hlt
        rw [← ex] at hx64
        have HX := Lib.hid ex
        have HEK := Lib.hid hek
        have hkn : (k : Int) < (N : Nat) := by omega
        clear ex hek hek'
        go_wp2_with fail
        refine HO.out.mono ?_
        rintro e w3 ⟨rfl, hj3, hb3, hk3⟩
        have hrr : Rw w3 B N (fun i => if i < k then F i else 0) := HRr.out.keeps hk3 hlt2 (by omega)
        have HR3 := Lib.hid hrr
        have c3 := (hrr k hlt).1
        have f3 := (hrr k hlt).2
        have HS := Lib.hid (hrr.set hlt x)
        have HB3 := Lib.hid (HBr.out.trans hb3)
        have HJ3 := Lib.hid (HJK.out _ _ hj3 ((Below.refl w.heap.size w3).setCell (p := ⟨B, k, none⟩) S1 (.int .u64 (x : Nat))))
        have hl3 : B < w3.heap.size := by have := hk3.1; omega
        clear hj3 hb3 hk3 hrr HO
        go_wp2_with fail
        go_roundw
        case rel =>
          refine ⟨k + 1, by omega, by go_num, HJ3.out, by simp; omega, HB3.out.setCell (p := ⟨B, k, none⟩) (by simp; omega) _, HS.out.congr (fun i hi => ?_), fun j hj => ?_⟩
          · by_cases h : i = k
            · subst h; rw [if_pos rfl, if_pos (by omega)]; exact HX.out
            · rw [if_neg h]
              by_cases h2 : i < k
              · rw [if_pos h2, if_pos (by omega)]
              · rw [if_neg h2, if_neg (by omega)]
          · by_cases h : j = k
            · subst h; exact HEK.out
            · exact HE.out j (by omega)
        case measure => simp [intOf]; omega
      · obtain ⟨c, ec⟩ : ∃ c, c = E k := ⟨_, rfl⟩
        have hb : (c != 0) = true := by rw [bne_iff_ne, ec]; exact hek
        rw [← ec] at HO
        have HEC := Lib.hid ec
        have hkn : (k : Int) < (N : Nat) := by omega
        have HEK := Lib.hid hek
        clear ec hek
        go_wp2_with fail
        refine HO.out.mono ?_
        rintro e w3 ⟨rfl, hj3, hb3, hk3⟩
        have HB3 := Lib.hid (HBr.out.trans hb3)
        clear hj3 hb3 hk3 HO
        go_wp2_with fail
        go_ret2
        exact .inr ⟨k, hlt, HEK.out, HE.out, by rw [← HEC.out]; rfl, HB3.out⟩
    · obtain rfl : k = N := by omega
      go_wp2_with fail
      go_ret2
      refine .inl ⟨_, rfl, ?_, HE.out, HBr.out⟩
      have := HRr.out.nums hlt2 (by omega) (fun i hi => by rw [if_pos hi]; exact HF.out i hi)
      rw [tab_congr (G := F) (fun i hi => by rw [if_pos hi])] at this
      exact this

set_option maxHeartbeats 2000000 in
theorem forParties_sum (p N : Nat) (t : Int) (a0 a1 a2 : Addr) (F : Nat → Nat) (E : Nat → Int) (J : World → Prop) (b0 g : Nat) (w : World) (hok : M.okS p (N : Int) t = true) (hb0 : b0 ≤ w.heap.size) (hg : g < w.heap.size) (hJ : J w)
    (hJk : ∀ W W', J W → Below w.heap.size W W' → J W') (hF : ∀ k, k < N → F k < 18446744073709551616)
    (hop : ∀ W (k : Nat), k < N → J W → w.heap.size ≤ W.heap.size → Calls Try.prog 78 #[.int .i64 ((k : Int) + 1), .pointer (some a0), .pointer (some a1), .pointer (some a2)] W fun e W' => e = .returned (.tuple #[.int .u64 (F k : Nat), .int .i64 (E k)]) ∧ J W' ∧ Below b0 W W' ∧ Keeps g W W') :
    Calls Try.prog 73 #[suV p (N : Int) t, .func (.func 78) #[] #[.pointer (some a0), .pointer (some a1), .pointer (some a2)]] w fun e w' => Parties p N F E b0 w e w' := by
  obtain ⟨hi, hn1, hn2, ht1, ht2, hnp⟩ := M.okS_iff.1 hok
  obtain ⟨h3, hp⟩ := M.pos_of hi
  have hC := fun W => setup_any p (N : Int) t W (by omega) (by omega) (by omega) (by omega) (by omega)
  rw [← M.errS_ok hok] at hC
  have HC := Lib.hid hC
  have HB := Lib.hid (balloc w (Obj.cells #[Value.int IntKind.u64 p, Value.int IntKind.i64 N, Value.int IntKind.i64 t] 40))
  have HOP := Lib.hid hop
  have HJ := Lib.hid hJ
  have HJK := Lib.hid hJk
  have HF := Lib.hid hF
  have hud : ∀ b : Bool, undef ≠ Value.bool b := fun b h => by cases h
  obtain ⟨i0, hi0, hz0, hz1, hz2⟩ := info_parts infoU64
  unfold suV at HC ⊢
  clear hC hi hop hJ hJk hF hok
  go_enter Try.func73, Try.ntmps73
  go_wp2_with fail
  refine (HC.out _).mono ?_
  rintro e w1 ⟨rfl, hb1⟩
  have B1 := Lib.hid (bnext HB.out hb1)
  have S1 := B1.out.size
  have c1 : w1.cell? ⟨w.heap.size, 1, none⟩ = some (.int .i64 N) := by
    refine (hb1.cell (p := ⟨w.heap.size, 1, none⟩) (by simp)).trans (by simp)
  clear hb1
  go_wp2_with (refine wpList_make_full _ rfl _ _ 24 rfl w1.heap.size 22 i0 (.int .u64 0) 1 Try.underlying24 hi0 hz0 hz1 .i64 .i64 _ _ N rfl rfl rfl rfl ?c1 ?c2 ?c3 ?_)
  case c1 => rw [hz2]; omega
  case c2 => unfold maxLen; omega
  case c3 => exact Nat.le_refl _
  intro w2 hown hgrow
  rw [toList_madeCells_one] at hown
  have S2 := Lib.hid ((Below.refl w1.heap.size w1).grown hgrow (Nat.le_refl _) (by simp))
  have HB2 := Lib.hid (B1.out.trans (S2.out.mono S1))
  have hr2 := Rw.start hown rfl
  have HR2 := Lib.hid hr2
  have L2 := (own_lt hown).2
  have HJ2 := Lib.hid (HJK.out _ _ HJ.out HB2.out)
  obtain ⟨B, eB⟩ : ∃ B, w1.heap.size = B := ⟨_, rfl⟩
  rw [eB] at HR2 L2 S1 ⊢
  clear hown hgrow hr2 eB S2 c1
  go_wp2_with fail
  go_loopw [21] (fun ti wr => ∃ k : Nat, k ≤ N ∧ ti = .int .i64 k ∧ J wr ∧ B < wr.heap.size ∧ Below b0 w wr ∧ Rw wr B N (fun i => if i < k then F i else 0) ∧ ∀ j, j < k → E j = 0) (fun ti _ => N - (intOf ti).toNat)
  case atStart => exact ⟨0, by omega, rfl, HJ2.out, L2, HB2.out.mono hb0, HR2.out.congr (fun i hi => by simp), fun j hj => absurd hj (by omega)⟩
  case round =>
    obtain ⟨k, hk, rfl, hj, hlt2, hB, hr, he⟩ := hrel
    have HJr := Lib.hid hj
    have HBr := Lib.hid hB
    have HRr := Lib.hid hr
    have HE := Lib.hid he
    clear hj hB hr he
    by_cases hlt : k < N
    · have hwr : w.heap.size ≤ wr.heap.size := by omega
      have HO := Lib.hid (HOP.out wr k hlt HJr.out hwr)
      by_cases hek : E k = 0
      · have hek' := HE.out
        rw [hek] at HO
        obtain ⟨x, ex⟩ : ∃ x, x = F k := ⟨_, rfl⟩
        rw [← ex] at HO
        have hx64 := HF.out k hlt
        rw [← ex] at hx64
        have HX := Lib.hid ex
        have HEK := Lib.hid hek
        have hkn : (k : Int) < (N : Nat) := by omega
        clear ex hek hek'
        go_wp2_with fail
        refine HO.out.mono ?_
        rintro e w3 ⟨rfl, hj3, hb3, hk3⟩
        have hrr : Rw w3 B N (fun i => if i < k then F i else 0) := HRr.out.keeps hk3 hlt2 (by omega)
        have HR3 := Lib.hid hrr
        have c3 := (hrr k hlt).1
        have f3 := (hrr k hlt).2
        have HS := Lib.hid (hrr.set hlt x)
        have HB3 := Lib.hid (HBr.out.trans hb3)
        have HJ3 := Lib.hid (HJK.out _ _ hj3 ((Below.refl w.heap.size w3).setCell (p := ⟨B, k, none⟩) S1 (.int .u64 (x : Nat))))
        have hl3 : B < w3.heap.size := by have := hk3.1; omega
        clear hj3 hb3 hk3 hrr HO
        go_wp2_with fail
        go_roundw
        case rel =>
          refine ⟨k + 1, by omega, by go_num, HJ3.out, by simp; omega, HB3.out.setCell (p := ⟨B, k, none⟩) (by simp; omega) _, HS.out.congr (fun i hi => ?_), fun j hj => ?_⟩
          · by_cases h : i = k
            · subst h; rw [if_pos rfl, if_pos (by omega)]; exact HX.out
            · rw [if_neg h]
              by_cases h2 : i < k
              · rw [if_pos h2, if_pos (by omega)]
              · rw [if_neg h2, if_neg (by omega)]
          · by_cases h : j = k
            · subst h; exact HEK.out
            · exact HE.out j (by omega)
        case measure => simp [intOf]; omega
      · obtain ⟨c, ec⟩ : ∃ c, c = E k := ⟨_, rfl⟩
        have hb : (c != 0) = true := by rw [bne_iff_ne, ec]; exact hek
        rw [← ec] at HO
        have HEC := Lib.hid ec
        have hkn : (k : Int) < (N : Nat) := by omega
        have HEK := Lib.hid hek
        clear ec hek
        go_wp2_with fail
        refine HO.out.mono ?_
        rintro e w3 ⟨rfl, hj3, hb3, hk3⟩
        have HB3 := Lib.hid (HBr.out.trans hb3)
        clear hj3 hb3 hk3 HO
        go_wp2_with fail
        go_ret2
        exact .inr ⟨k, hlt, HEK.out, HE.out, by rw [← HEC.out]; rfl, HB3.out⟩
    · obtain rfl : k = N := by omega
      go_wp2_with fail
      go_ret2
      refine .inl ⟨_, rfl, ?_, HE.out, HBr.out⟩
      have := HRr.out.nums hlt2 (by omega) (fun i hi => by rw [if_pos hi]; exact HF.out i hi)
      rw [tab_congr (G := F) (fun i hi => by rw [if_pos hi])] at this
      exact this

set_option maxHeartbeats 2000000 in
theorem forParties_scale (p N : Nat) (t : Int) (a0 a1 a2 : Addr) (F : Nat → Nat) (E : Nat → Int) (J : World → Prop) (b0 g : Nat) (w : World) (hok : M.okS p (N : Int) t = true) (hb0 : b0 ≤ w.heap.size) (hg : g < w.heap.size) (hJ : J w)
    (hJk : ∀ W W', J W → Below w.heap.size W W' → J W') (hF : ∀ k, k < N → F k < 18446744073709551616)
    (hop : ∀ W (k : Nat), k < N → J W → w.heap.size ≤ W.heap.size → Calls Try.prog 80 #[.int .i64 ((k : Int) + 1), .pointer (some a0), .pointer (some a1), .pointer (some a2)] W fun e W' => e = .returned (.tuple #[.int .u64 (F k : Nat), .int .i64 (E k)]) ∧ J W' ∧ Below b0 W W' ∧ Keeps g W W') :
    Calls Try.prog 73 #[suV p (N : Int) t, .func (.func 80) #[] #[.pointer (some a0), .pointer (some a1), .pointer (some a2)]] w fun e w' => Parties p N F E b0 w e w' := by
  obtain ⟨hi, hn1, hn2, ht1, ht2, hnp⟩ := M.okS_iff.1 hok
  obtain ⟨h3, hp⟩ := M.pos_of hi
  have hC := fun W => setup_any p (N : Int) t W (by omega) (by omega) (by omega) (by omega) (by omega)
  rw [← M.errS_ok hok] at hC
  have HC := Lib.hid hC
  have HB := Lib.hid (balloc w (Obj.cells #[Value.int IntKind.u64 p, Value.int IntKind.i64 N, Value.int IntKind.i64 t] 40))
  have HOP := Lib.hid hop
  have HJ := Lib.hid hJ
  have HJK := Lib.hid hJk
  have HF := Lib.hid hF
  have hud : ∀ b : Bool, undef ≠ Value.bool b := fun b h => by cases h
  obtain ⟨i0, hi0, hz0, hz1, hz2⟩ := info_parts infoU64
  unfold suV at HC ⊢
  clear hC hi hop hJ hJk hF hok
  go_enter Try.func73, Try.ntmps73
  go_wp2_with fail
  refine (HC.out _).mono ?_
  rintro e w1 ⟨rfl, hb1⟩
  have B1 := Lib.hid (bnext HB.out hb1)
  have S1 := B1.out.size
  have c1 : w1.cell? ⟨w.heap.size, 1, none⟩ = some (.int .i64 N) := by
    refine (hb1.cell (p := ⟨w.heap.size, 1, none⟩) (by simp)).trans (by simp)
  clear hb1
  go_wp2_with (refine wpList_make_full _ rfl _ _ 24 rfl w1.heap.size 22 i0 (.int .u64 0) 1 Try.underlying24 hi0 hz0 hz1 .i64 .i64 _ _ N rfl rfl rfl rfl ?c1 ?c2 ?c3 ?_)
  case c1 => rw [hz2]; omega
  case c2 => unfold maxLen; omega
  case c3 => exact Nat.le_refl _
  intro w2 hown hgrow
  rw [toList_madeCells_one] at hown
  have S2 := Lib.hid ((Below.refl w1.heap.size w1).grown hgrow (Nat.le_refl _) (by simp))
  have HB2 := Lib.hid (B1.out.trans (S2.out.mono S1))
  have hr2 := Rw.start hown rfl
  have HR2 := Lib.hid hr2
  have L2 := (own_lt hown).2
  have HJ2 := Lib.hid (HJK.out _ _ HJ.out HB2.out)
  obtain ⟨B, eB⟩ : ∃ B, w1.heap.size = B := ⟨_, rfl⟩
  rw [eB] at HR2 L2 S1 ⊢
  clear hown hgrow hr2 eB S2 c1
  go_wp2_with fail
  go_loopw [21] (fun ti wr => ∃ k : Nat, k ≤ N ∧ ti = .int .i64 k ∧ J wr ∧ B < wr.heap.size ∧ Below b0 w wr ∧ Rw wr B N (fun i => if i < k then F i else 0) ∧ ∀ j, j < k → E j = 0) (fun ti _ => N - (intOf ti).toNat)
  case atStart => exact ⟨0, by omega, rfl, HJ2.out, L2, HB2.out.mono hb0, HR2.out.congr (fun i hi => by simp), fun j hj => absurd hj (by omega)⟩
  case round =>
    obtain ⟨k, hk, rfl, hj, hlt2, hB, hr, he⟩ := hrel
    have HJr := Lib.hid hj
    have HBr := Lib.hid hB
    have HRr := Lib.hid hr
    have HE := Lib.hid he
    clear hj hB hr he
    by_cases hlt : k < N
    · have hwr : w.heap.size ≤ wr.heap.size := by omega
      have HO := Lib.hid (HOP.out wr k hlt HJr.out hwr)
      by_cases hek : E k = 0
      · have hek' := HE.out
        rw [hek] at HO
        obtain ⟨x, ex⟩ : ∃ x, x = F k := ⟨_, rfl⟩
        rw [← ex] at HO
        have hx64 := HF.out k hlt
        rw [← ex] at hx64
        have HX := Lib.hid ex
        have HEK := Lib.hid hek
        have hkn : (k : Int) < (N : Nat) := by omega
        clear ex hek hek'
        go_wp2_with fail
        refine HO.out.mono ?_
        rintro e w3 ⟨rfl, hj3, hb3, hk3⟩
        have hrr : Rw w3 B N (fun i => if i < k then F i else 0) := HRr.out.keeps hk3 hlt2 (by omega)
        have HR3 := Lib.hid hrr
        have c3 := (hrr k hlt).1
        have f3 := (hrr k hlt).2
        have HS := Lib.hid (hrr.set hlt x)
        have HB3 := Lib.hid (HBr.out.trans hb3)
        have HJ3 := Lib.hid (HJK.out _ _ hj3 ((Below.refl w.heap.size w3).setCell (p := ⟨B, k, none⟩) S1 (.int .u64 (x : Nat))))
        have hl3 : B < w3.heap.size := by have := hk3.1; omega
        clear hj3 hb3 hk3 hrr HO
        go_wp2_with fail
        go_roundw
        case rel =>
          refine ⟨k + 1, by omega, by go_num, HJ3.out, by simp; omega, HB3.out.setCell (p := ⟨B, k, none⟩) (by simp; omega) _, HS.out.congr (fun i hi => ?_), fun j hj => ?_⟩
          · by_cases h : i = k
            · subst h; rw [if_pos rfl, if_pos (by omega)]; exact HX.out
            · rw [if_neg h]
              by_cases h2 : i < k
              · rw [if_pos h2, if_pos (by omega)]
              · rw [if_neg h2, if_neg (by omega)]
          · by_cases h : j = k
            · subst h; exact HEK.out
            · exact HE.out j (by omega)
        case measure => simp [intOf]; omega
      · obtain ⟨c, ec⟩ : ∃ c, c = E k := ⟨_, rfl⟩
        have hb : (c != 0) = true := by rw [bne_iff_ne, ec]; exact hek
        rw [← ec] at HO
        have HEC := Lib.hid ec
        have hkn : (k : Int) < (N : Nat) := by omega
        have HEK := Lib.hid hek
        clear ec hek
        go_wp2_with fail
        refine HO.out.mono ?_
        rintro e w3 ⟨rfl, hj3, hb3, hk3⟩
        have HB3 := Lib.hid (HBr.out.trans hb3)
        clear hj3 hb3 hk3 HO
        go_wp2_with fail
        go_ret2
        exact .inr ⟨k, hlt, HEK.out, HE.out, by rw [← HEC.out]; rfl, HB3.out⟩
    · obtain rfl : k = N := by omega
      go_wp2_with fail
      go_ret2
      refine .inl ⟨_, rfl, ?_, HE.out, HBr.out⟩
      have := HRr.out.nums hlt2 (by omega) (fun i hi => by rw [if_pos hi]; exact HF.out i hi)
      rw [tab_congr (G := F) (fun i hi => by rw [if_pos hi])] at this
      exact this
end Go.Proofs.Ytgoognipljknjaa
namespace Go.Proofs.Ytgoognipljknjaa
open Go.RowKit
set_option linter.unusedVariables false
set_option maxRecDepth 100000

theorem shares1_ok (p k : Nat) (v : Value) (f : List Nat) (a0 a1 : Nat) (w : World) (hk : k < p) (hv : Nums w v f) (h : M.chk p f 201 = 0)
    (c0 : w.cell? ⟨a0, 0, none⟩ = some (.int .u64 p)) (c1 : w.cell? ⟨a1, 0, none⟩ = some v) :
    Calls Try.prog 74 #[.int .i64 (k : Nat), .pointer (some ⟨a0, 0, none⟩), .pointer (some ⟨a1, 0, none⟩)] w fun e w' => e = .returned (.tuple #[.int .u64 (M.pev p f k : Nat), .int .i64 0]) ∧ Below w.heap.size w w' := by
  obtain ⟨hi, _, _⟩ := M.chk_ok h
  obtain ⟨h3, hp⟩ := M.pos_of hi
  have HE := Lib.hid fun W (hW : Nums W v f) => eval_ok p k v f W hk hW h
  have HV := Lib.hid hv
  clear hv h hi
  go_enter Try.func74, Try.ntmps74
  go_wp2_with fail
  refine (HE.out _ HV.out).mono ?_
  rintro e w1 ⟨rfl, hb1⟩
  have B1 := Lib.hid hb1
  clear hb1
  go_wp2_with fail
  go_ret2
  exact ⟨rfl, B1.out⟩

theorem shares1_bad (p k : Nat) (v : Value) (f : List Nat) (a0 a1 : Nat) (w : World) (hp : p < 18446744073709551616) (hk : k < 18446744073709551616) (hv : Nums w v f) (h : M.chk p f 201 ≠ 0)
    (c0 : w.cell? ⟨a0, 0, none⟩ = some (.int .u64 p)) (c1 : w.cell? ⟨a1, 0, none⟩ = some v) :
    Calls Try.prog 74 #[.int .i64 (k : Nat), .pointer (some ⟨a0, 0, none⟩), .pointer (some ⟨a1, 0, none⟩)] w fun e w' => e = .returned (.tuple #[.int .u64 (0 : Nat), .int .i64 (M.chk p f 201)]) ∧ Below w.heap.size w w' := by
  have HE := Lib.hid fun W (hW : Nums W v f) => eval_bad p k v f W hp hW h
  have HV := Lib.hid hv
  obtain ⟨c, ec⟩ : ∃ c, c = M.chk p f 201 := ⟨_, rfl⟩
  rw [← ec] at HE ⊢
  clear hv h ec
  go_enter Try.func74, Try.ntmps74
  go_wp2_with fail
  refine (HE.out _ HV.out).mono ?_
  rintro e w1 ⟨rfl, rfl⟩
  go_wp2_with fail
  go_ret2
  exact ⟨rfl, Below.refl _ _⟩

set_option maxHeartbeats 400000 in
theorem forParties_no (p : Nat) (n t : Int) (cv : Value) (w : World) (hp : p < 18446744073709551616) (hn1 : -9223372036854775808 ≤ n) (hn2 : n ≤ 9223372036854775807) (ht1 : -9223372036854775808 ≤ t) (ht2 : t ≤ 9223372036854775807) (hs : M.okS p n t = false) :
    Calls Try.prog 73 #[suV p n t, cv] w (Fails2 w 2) := by
  have hC := fun W => setup_any p n t W hp hn1 hn2 ht1 ht2
  have e2 : M.errS p n t = 2 := by simp [M.errS, hs]
  rw [e2] at hC
  have HC := Lib.hid hC
  have HB := Lib.hid (balloc w (Obj.cells #[Value.int IntKind.u64 p, Value.int IntKind.i64 n, Value.int IntKind.i64 t] 40))
  unfold suV at HC ⊢
  clear hC hs e2
  go_enter Try.func73, Try.ntmps73
  go_wp2_with fail
  refine (HC.out _).mono ?_
  rintro e w1 ⟨rfl, hb1⟩
  have B1 := Lib.hid (bnext HB.out hb1)
  clear hb1
  go_wp2_with fail
  go_ret2
  exact ⟨rfl, B1.out⟩

namespace M
/-- the values of f at the points of N parties -/
def shs (p N : Nat) (f : List Nat) : List Nat := tabM N fun i => pev p f (i + 1)
end M

set_option maxHeartbeats 400000 in
theorem shares_no (p : Nat) (n t : Int) (v : Value) (f : List Nat) (w : World) (hv : Nums w v f) (hp : p < 18446744073709551616) (hn1 : -9223372036854775808 ≤ n) (hn2 : n ≤ 9223372036854775807) (ht1 : -9223372036854775808 ≤ t) (ht2 : t ≤ 9223372036854775807) (hs : M.okS p n t = false) :
    Calls Try.prog 34 #[suV p n t, v] w (Fails2 w 2) := by
  obtain ⟨A, cap, rfl⟩ := nums_slice' hv
  have HC := Lib.hid fun cv W => forParties_no p n t cv W hp hn1 hn2 ht1 ht2 hs
  have HB := Lib.hid fun o1 o2 => bnext (balloc w o1) (balloc (w.alloc o1) o2)
  unfold suV at HC ⊢
  clear hs hv
  go_enter Try.func34, Try.ntmps34
  go_wp2_with fail
  refine (HC.out _ _).mono ?_
  rintro e w1 ⟨rfl, hb1⟩
  have B1 := Lib.hid (bnext (HB.out _ _) hb1)
  clear hb1
  go_wp2_with fail
  go_ret2
  exact ⟨rfl, B1.out⟩

/-- the two boxes of Shares -/
def ShBox (p : Nat) (v : Value) (f : List Nat) (a : Nat) (W : World) : Prop :=
  W.cell? ⟨a, 0, none⟩ = some (.int .u64 p) ∧ W.cell? ⟨a + 1, 0, none⟩ = some v ∧ Nums W v f ∧ a + 1 < W.heap.size
theorem ShBox.at {p : Nat} {v : Value} {f : List Nat} {a B : Nat} {W W' w0 : World} (h : ShBox p v f a W) (hb : Below B W W') (ha : a + 1 < B) (h0 : Nums w0 v f) (h1 : Below w0.heap.size w0 W') : ShBox p v f a W' :=
  ⟨(hb.cell (p := ⟨a, 0, none⟩) (show a < B by omega)).trans h.1, (hb.cell (p := ⟨a + 1, 0, none⟩) ha).trans h.2.1, h0.below h1, by have := hb.size; have := h.2.2.2; omega⟩

set_option maxHeartbeats 1000000 in
theorem shares_run (p N : Nat) (t : Int) (v : Value) (f : List Nat) (w : World) (hok : M.okS p (N : Int) t = true) (hv : Nums w v f) (E : Nat → Int)
    (hop : ∀ W (k : Nat), k < N → ShBox p v f w.heap.size W → Calls Try.prog 74 #[.int .i64 ((k : Int) + 1), .pointer (some ⟨w.heap.size, 0, none⟩), .pointer (some ⟨w.heap.size + 1, 0, none⟩)] W fun e W' => e = .returned (.tuple #[.int .u64 (if E k = 0 then M.pev p f (k + 1) else 0 : Nat), .int .i64 (E k)]) ∧ Below W.heap.size W W') :
    Calls Try.prog 34 #[suV p (N : Int) t, v] w fun e w' => Parties p N (fun k => if E k = 0 then M.pev p f (k + 1) else 0) E w.heap.size w e w' := by
  obtain ⟨hi, hn1, hn2, ht1, ht2, hnp⟩ := M.okS_iff.1 hok
  obtain ⟨h3, hp⟩ := M.pos_of hi
  obtain ⟨A, cap, rfl⟩ := nums_slice' hv
  have hW := bnext (balloc w (Obj.cells #[Value.int IntKind.u64 p, Value.int IntKind.i64 N, Value.int IntKind.i64 t] 40)) (balloc (w.alloc (Obj.cells #[Value.int IntKind.u64 p, Value.int IntKind.i64 N, Value.int IntKind.i64 t] 40)) (Obj.cells #[Value.slice A f.length cap] 24))
  have hbox : ShBox p (Value.slice A f.length cap) f w.heap.size ((w.alloc (Obj.cells #[Value.int IntKind.u64 p, Value.int IntKind.i64 N, Value.int IntKind.i64 t] 40)).alloc (Obj.cells #[Value.slice A f.length cap] 24)) := by
    refine ⟨by simp, by simp, hv.below hW, by simp⟩
  have hc := forParties_shares p N t ⟨w.heap.size, 0, none⟩ ⟨w.heap.size + 1, 0, none⟩ (fun k => if E k = 0 then M.pev p f (k + 1) else 0) E
    (fun W => ShBox p (Value.slice A f.length cap) f w.heap.size W ∧ Below w.heap.size w W) w.heap.size w.heap.size ((w.alloc (Obj.cells #[Value.int IntKind.u64 p, Value.int IntKind.i64 N, Value.int IntKind.i64 t] 40)).alloc (Obj.cells #[Value.slice A f.length cap] 24)) hok (by simp; omega) (by simp; omega)
    ⟨hbox, hW⟩ (fun W W' h hb => ?_) (fun k hk => ?_) (fun W k hk hJ hs => ?_)
  · have HC := Lib.hid hc
    have HW := Lib.hid hW
    unfold suV at HC ⊢
    clear hc hop hbox hW hok hi
    go_enter Try.func34, Try.ntmps34
    go_wp2_with fail
    refine HC.out.mono ?_
    rintro e w1 (⟨v1, rfl, hN, hE, hb⟩ | ⟨k, hk, hE, hj, rfl, hb⟩)
    · have N1 := Lib.hid hN
      have E1 := Lib.hid hE
      have B1 := Lib.hid (HW.out.trans hb)
      clear hN hE hb
      go_wp2_with fail
      go_ret2
      exact .inl ⟨_, rfl, N1.out, E1.out, B1.out⟩
    · have E1 := Lib.hid hE
      have J1 := Lib.hid hj
      have B1 := Lib.hid (HW.out.trans hb)
      obtain ⟨c, ec⟩ : ∃ c, c = E k := ⟨_, rfl⟩
      rw [← ec]
      have EC := Lib.hid ec
      clear hE hj hb ec
      go_wp2_with fail
      go_ret2
      exact .inr ⟨k, hk, E1.out, J1.out, by rw [← EC.out]; rfl, B1.out⟩
  · have hb' := h.2.trans (hb.mono (by simp; omega))
    exact ⟨h.1.at hb (by simp) hv hb', hb'⟩
  · show (if E k = 0 then M.pev p f (k + 1) else 0) < _
    split
    · have := M.pev_lt (p := p) f (k + 1) (by omega); omega
    · omega
  · refine (hop W k hk hJ.1).mono ?_
    rintro e W' ⟨rfl, hb⟩
    have hsz : w.heap.size + 1 < W.heap.size := hJ.1.2.2.2
    have hb' := hJ.2.trans (hb.mono (show w.heap.size ≤ _ by omega))
    exact ⟨rfl, ⟨hJ.1.at hb hsz hv hb', hb'⟩, hb.mono (by omega), Keeps.of_below hb _⟩

theorem shares_ok (p N : Nat) (t : Int) (v : Value) (f : List Nat) (w : World) (hok : M.okS p (N : Int) t = true) (hv : Nums w v f) (h : M.chk p f 201 = 0) :
    Calls Try.prog 34 #[suV p (N : Int) t, v] w (Gives2 w (M.shs p N f)) := by
  obtain ⟨hi, hn1, hn2, ht1, ht2, hnp⟩ := M.okS_iff.1 hok
  refine (shares_run p N t v f w hok hv (fun _ => 0) (fun W k hk hb => ?_)).mono ?_
  · have := shares1_ok p (k + 1) v f w.heap.size (w.heap.size + 1) W (by omega) hb.2.2.1 h hb.1 hb.2.1
    rw [show ((k + 1 : Nat) : Int) = (k : Int) + 1 by omega] at this
    exact this
  · rintro e w' (⟨v', rfl, hN, _, hb⟩ | ⟨k, _, hE, _⟩)
    · exact ⟨v', rfl, hN, hb⟩
    · exact absurd rfl hE
theorem shares_bad (p N : Nat) (t : Int) (v : Value) (f : List Nat) (w : World) (hok : M.okS p (N : Int) t = true) (hv : Nums w v f) (h : M.chk p f 201 ≠ 0) :
    Calls Try.prog 34 #[suV p (N : Int) t, v] w (Fails2 w (M.chk p f 201)) := by
  obtain ⟨hi, hn1, hn2, ht1, ht2, hnp⟩ := M.okS_iff.1 hok
  obtain ⟨h3, hp⟩ := M.pos_of hi
  refine (shares_run p N t v f w hok hv (fun _ => M.chk p f 201) (fun W k hk hb => ?_)).mono ?_
  · have := shares1_bad p (k + 1) v f w.heap.size (w.heap.size + 1) W (by omega) (by omega) hb.2.2.1 h hb.1 hb.2.1
    rw [show ((k + 1 : Nat) : Int) = (k : Int) + 1 by omega] at this
    rw [if_neg h]
    exact this
  · rintro e w' (⟨v', rfl, hN, hE, hb⟩ | ⟨k, _, hE, _, rfl, hb⟩)
    · exact absurd (hE 0 (by omega)) h
    · exact ⟨rfl, hb⟩
end Go.Proofs.Ytgoognipljknjaa
namespace Go.Proofs.Ytgoognipljknjaa.M
open Go.RowKit
set_option linter.unusedVariables false

/-- the points of parties -/
def pts (l : List Int) : List Nat := l.map Int.toNat
theorem pts_len (l : List Int) : (pts l).length = l.length := by simp [pts]
theorem pts_get (l : List Int) (i : Nat) : (pts l).getD i 0 = (l.getD i 0).toNat := by
  unfold pts
  by_cases h : i < l.length
  · simp [List.getD_eq_getElem?_getD, h]
  · rw [List.getD_eq_getElem?_getD, List.getElem?_eq_none (by simp; omega), List.getD_eq_getElem?_getD, List.getElem?_eq_none (by omega)]; rfl
theorem rises_lt {n : Int} {l : List Int} (h : RisesTo n l l.length) : ∀ j i, i < j → j < l.length → l.getD i 0 < l.getD j 0
  | 0, i, hi, _ => absurd hi (by omega)
  | j + 1, i, hi, hj => by
    have h1 := (h (j + 1) hj).1
    rw [prev_succ] at h1
    by_cases e : i = j
    · subst e; exact h1
    · have := rises_lt h j i (by omega) (by omega)
      omega
theorem rises_range {n : Int} {l : List Int} (h : RisesTo n l l.length) {i : Nat} (hi : i < l.length) : 1 ≤ l.getD i 0 ∧ l.getD i 0 ≤ n := ⟨rises_pos h i hi, (h i hi).2⟩
theorem nodup_of_getD : ∀ {l : List Nat}, (∀ i j, i < j → j < l.length → l.getD i 0 ≠ l.getD j 0) → l.Nodup
  | [], _ => by simp
  | a :: t, h => by
    rw [List.nodup_cons]
    refine ⟨fun hm => ?_, nodup_of_getD (l := t) fun i j hij hj => ?_⟩
    · obtain ⟨i, hi, e⟩ := List.getElem_of_mem hm
      have := h 0 (i + 1) (by omega) (by simp; omega)
      simp only [List.getD_cons_zero, List.getD_cons_succ] at this
      rw [getD_lt hi] at this
      exact this e.symm
    · have := h (i + 1) (j + 1) (by omega) (by simp; omega)
      simpa only [List.getD_cons_succ] using this
theorem pts_nodup {n : Int} {l : List Int} (h : RisesTo n l l.length) : (pts l).Nodup := by
  refine nodup_of_getD fun i j hij hj => ?_
  rw [pts_len] at hj
  rw [pts_get, pts_get]
  have h1 := rises_lt h j i hij hj
  have h2 := rises_range h (i := i) (by omega)
  omega
theorem pts_noz {n : Int} {l : List Int} (h : RisesTo n l l.length) : NoZ (pts l) := by
  intro x hx
  obtain ⟨i, hi, rfl⟩ := List.getElem_of_mem hx
  rw [← getD_lt hi, pts_get]
  have := rises_range h (i := i) (by rw [pts_len] at hi; exact hi)
  omega
theorem pts_within {p : Nat} {n : Int} {l : List Int} (h : RisesTo n l l.length) (hn : n < (p : Int)) : within p (pts l) = true := by
  refine within_of fun i hi => ?_
  rw [pts_len] at hi
  rw [pts_get]
  have := rises_range h hi
  omega

/-- the change of the secret, times the polynomial that is 1 at 0 -/
def mvBy (p : Nat) (f : List Nat) (s : Nat) : Nat := (s + p - pev p f 0) % p
def Moved (p : Nat) (f : List Nat) (l : List Int) (s : Nat) (g : List Nat) : Prop := ∃ A, AwayOf p (pts l) A ∧ g = padd p f (pscale p A (mvBy p f s))
theorem away_within {p : Nat} {xs A : List Nat} (h : AwayOf p xs A) : within p A = true ∧ A.length ≤ xs.length + 1 := by
  refine ⟨h.1, ?_⟩
  have := h.2.2.1
  simpa using this
theorem pscale_within {p : Nat} (hp : 0 < p) (f : List Nat) (k : Nat) : within p (pscale p f k) = true ∧ (pscale p f k).length ≤ f.length := ⟨poly_within hp _ _, poly_len _ _ _⟩
theorem Moved.unique {p : Nat} {n : Int} {f : List Nat} {l : List Int} {s : Nat} {g g' : List Nat} (hi : isP p = true) (hl : RisesTo n l l.length) (hn : n < (p : Int)) (h : Moved p f l s g) (h' : Moved p f l s g') : g = g' := by
  obtain ⟨A, hA, rfl⟩ := h
  obtain ⟨A', hA', rfl⟩ := h'
  have hz := pts_noz hl
  have hw := pts_within hl hn
  have h3 := pos_of hi
  have hw2 : within p (pts l ++ [0]) = true := by
    unfold within at hw ⊢
    rw [List.all_append, hw]
    simp; omega
  rw [Thru.unique hi ((nodup_snoc hz).2 (pts_nodup hl)) hw2 hA hA']
end Go.Proofs.Ytgoognipljknjaa.M
namespace Go.Proofs.Ytgoognipljknjaa
open Go.RowKit
set_option linter.unusedVariables false
set_option maxRecDepth 100000

set_option maxHeartbeats 1000000 in
theorem pointsOf_any (v : Value) (l : List Int) (w : World) (hl : l.length ≤ 1000) (hpos : ∀ i, i < l.length → 0 ≤ l.getD i 0) (hv : IntsZ w v l) :
    Calls Try.prog 84 #[v] w (Gives w (M.pts l)) := by
  obtain ⟨hz, _, A, cap, rfl, hcap, hcell⟩ := hv
  have HV := Lib.hid hcell
  have HZ := Lib.hid hz
  have HP := Lib.hid hpos
  obtain ⟨i0, hi0, hz0, hz1, hz2⟩ := info_parts infoU64
  clear hcell hz hpos
  go_enter Try.func84, Try.ntmps84
  go_wp2_with (refine wpList_make_full _ rfl _ _ 24 rfl w.heap.size 22 i0 (.int .u64 0) 1 Try.underlying24 hi0 hz0 hz1 .i64 .i64 _ _ l.length rfl rfl rfl rfl ?c1 ?c2 ?c3 ?_)
  case c1 => rw [hz2]; omega
  case c2 => unfold maxLen; omega
  case c3 => exact Nat.le_refl _
  intro w2 hown hgrow
  rw [toList_madeCells_one] at hown
  have HB2 := Lib.hid ((Below.refl w.heap.size w).grown hgrow (Nat.le_refl _) (by simp))
  have HR2 := Lib.hid (Rw.start hown rfl)
  have L2 := (own_lt hown).2
  clear hown hgrow
  go_wp2_with fail
  go_loopw [11] (fun ti wr => ∃ k : Nat, k ≤ l.length ∧ ti = .int .i64 k ∧ w.heap.size < wr.heap.size ∧ Below w.heap.size w wr ∧ Rw wr w.heap.size l.length (fun i => if i < k then (l.getD i 0).toNat else 0)) (fun ti _ => l.length - (intOf ti).toNat)
  case atStart => exact ⟨0, by omega, rfl, L2, HB2.out, HR2.out.congr (fun i hi => by simp)⟩
  case round =>
    obtain ⟨k, hk, rfl, hlt2, hB, hr⟩ := hrel
    have HBr := Lib.hid hB
    have HRr := Lib.hid hr
    clear hB hr
    by_cases hlt : k < l.length
    · obtain ⟨b, off, rfl, hb, hcell⟩ := HV.out (by omega)
      have hc := (HBr.out.cell (p := ⟨b, off + k, none⟩) hb).trans (hcell k hlt)
      have hzk := HZ.out (l.getD k 0) (by rw [List.getD_eq_getElem?_getD, List.getElem?_eq_getElem hlt]; exact List.getElem_mem hlt)
      obtain ⟨x, hx⟩ := Int.eq_ofNat_of_zero_le (HP.out k hlt)
      rw [hx] at hc hzk
      have c3 := (HRr.out k hlt).1
      have f3 := (HRr.out k hlt).2
      have HS := Lib.hid (HRr.out.set hlt x)
      have HX := Lib.hid hx
      have hkn : (k : Int) < (l.length : Nat) := by omega
      clear hx hcell
      go_wp2_with fail
      go_roundw
      case rel =>
        refine ⟨k + 1, by omega, by go_num, by simp; omega, HBr.out.setCell (p := ⟨w.heap.size, k, none⟩) (Nat.le_refl _) _, HS.out.congr (fun i hi => ?_)⟩
        by_cases h : i = k
        · subst h; rw [if_pos rfl, if_pos (by omega), HX.out]; rfl
        · rw [if_neg h]
          by_cases h2 : i < k
          · rw [if_pos h2, if_pos (by omega)]
          · rw [if_neg h2, if_neg (by omega)]
      case measure => simp [intOf]; omega
    · obtain rfl : k = l.length := by omega
      go_wp2_with fail
      go_ret
      have hN := HRr.out.nums hlt2 (by omega) (fun i hi => by rw [if_pos hi]; have := HZ.out (l.getD i 0) (by rw [List.getD_eq_getElem?_getD, List.getElem?_eq_getElem hi]; exact List.getElem_mem hi); omega)
      refine ⟨_, rfl, ?_, HBr.out⟩
      have e : M.tabM l.length (fun i => if i < l.length then (l.getD i 0).toNat else 0) = M.pts l := by
        refine M.ext_getD (by rw [tab_len, M.pts_len]) fun i => ?_
        rw [M.tabM_get, M.pts_get]
        by_cases h : i < l.length
        · rw [if_pos h, if_pos h]
        · rw [if_neg h, List.getD_eq_getElem?_getD, List.getElem?_eq_none (by omega)]; rfl
      rw [e] at hN
      exact hN

set_option maxHeartbeats 1000000 in
theorem move_no (p s : Nat) (n t : Int) (vf vl : Value) (f : List Nat) (l : List Int) (w : World) (hp : p < 18446744073709551616) (hn1 : -9223372036854775808 ≤ n) (hn2 : n ≤ 9223372036854775807) (ht1 : -9223372036854775808 ≤ t) (ht2 : t ≤ 9223372036854775807) (hvf : Nums w vf f) (hvl : IntsZ w vl l)
    (h : M.errC p n t l ≠ 0) :
    Calls Try.prog 49 #[suV p n t, vf, vl, .int .u64 s] w (Fails2 w 2) := by
  have h2 : M.errC p n t l = 2 := by unfold M.errC at h ⊢; split; (rename_i hh; rw [if_pos hh] at h; exact absurd rfl h); rfl
  have HC := Lib.hid fun W (hW : IntsZ W vl l) => corrupted_any p n t vl l W hp hn1 hn2 ht1 ht2 hW
  have HB := Lib.hid (balloc w (Obj.cells #[Value.int IntKind.u64 p, Value.int IntKind.i64 n, Value.int IntKind.i64 t] 40))
  rw [h2] at HC
  have HL := Lib.hid hvl
  obtain ⟨Af, capf, rfl⟩ := nums_slice' hvf
  obtain ⟨_, _, Al, capl, rfl, _⟩ := hvl
  unfold suV at HC ⊢
  clear h h2
  go_enter Try.func49, Try.ntmps49
  go_wp2_with fail
  refine (HC.out _ (HL.out.below HB.out)).mono ?_
  rintro e w1 ⟨rfl, hb1⟩
  have B1 := Lib.hid (bnext HB.out hb1)
  clear hb1
  go_wp2_with fail
  go_ret2
  exact ⟨rfl, B1.out⟩

/-- Move's argument checks behind the corrupted parties -/
theorem M.errC_nat {p : Nat} {n t : Int} {l : List Int} (h : M.errC p n t l = 0) : ∃ N : Nat, n = (N : Int) ∧ M.isP p = true ∧ 3 ≤ p ∧ p ≤ 65537 ∧ 1 ≤ N ∧ N ≤ 13 ∧ N < p ∧ l.length ≤ 3 ∧ (0 ≤ t ∧ t ≤ 13) ∧ M.RisesTo n l l.length := by
  obtain ⟨hok, hl, hr⟩ := M.errC_zero h
  obtain ⟨N, T, rfl, rfl, hi, h1, h2, h3, h4⟩ := M.okS_nat hok
  obtain ⟨h5, h6⟩ := M.pos_of hi
  exact ⟨N, rfl, hi, h5, h6, h1, h2, h4, by omega, by omega, hr⟩

set_option maxHeartbeats 1000000 in
theorem move_bad (p s : Nat) (n t : Int) (vf vl : Value) (f : List Nat) (l : List Int) (w : World) (hs64 : s < 18446744073709551616) (hvf : Nums w vf f) (hvl : IntsZ w vl l)
    (h : M.errC p n t l = 0) (hc : M.chk p f 201 ≠ 0) :
    Calls Try.prog 49 #[suV p n t, vf, vl, .int .u64 s] w (Fails2 w (M.chk p f 201)) := by
  obtain ⟨N, rfl, hi, h3, hp, h1, h2, h4, hl3, ht, hr⟩ := M.errC_nat h
  have hC := fun W (hW : IntsZ W vl l) => corrupted_any p (N : Int) t vl l W (by omega) (by omega) (by omega) (by omega) (by omega) hW
  rw [h] at hC
  have HC := Lib.hid hC
  have HB := Lib.hid (balloc w (Obj.cells #[Value.int IntKind.u64 p, Value.int IntKind.i64 N, Value.int IntKind.i64 t] 40))
  have HE := Lib.hid fun W (hW : Nums W vf f) => eval_bad p 0 vf f W (by omega) hW hc
  have HL := Lib.hid hvl
  have HV := Lib.hid hvf
  obtain ⟨c, ec⟩ : ∃ c, c = M.chk p f 201 := ⟨_, rfl⟩
  rw [← ec] at HE hc ⊢
  have hb : (c != 0) = true := by rw [bne_iff_ne]; exact hc
  obtain ⟨Af, capf, rfl⟩ := nums_slice' hvf
  obtain ⟨_, _, Al, capl, rfl, _⟩ := hvl
  unfold suV at HC ⊢
  clear h hC hvf hi hr ec hc
  go_enter Try.func49, Try.ntmps49
  go_wp2_with fail
  refine (HC.out _ (HL.out.below HB.out)).mono ?_
  rintro e w1 ⟨rfl, hb1⟩
  have B1 := Lib.hid (bnext HB.out hb1)
  have c0 : w1.cell? ⟨w.heap.size, 0, none⟩ = some (.int .u64 p) := by
    refine (hb1.cell (p := ⟨w.heap.size, 0, none⟩) (by simp)).trans (by simp)
  clear hb1
  go_wp2_with fail
  refine (HE.out _ (HV.out.below B1.out)).mono ?_
  rintro e w2 ⟨rfl, rfl⟩
  go_wp2_with fail
  go_ret2
  exact ⟨rfl, B1.out⟩

set_option maxHeartbeats 1000000 in
theorem move_arg (p s : Nat) (n t : Int) (vf vl : Value) (f : List Nat) (l : List Int) (w : World) (hs64 : s < 18446744073709551616) (hvf : Nums w vf f) (hvl : IntsZ w vl l)
    (h : M.errC p n t l = 0) (hc : M.chk p f 201 = 0) (hs : p ≤ s) :
    Calls Try.prog 49 #[suV p n t, vf, vl, .int .u64 s] w (Fails2 w 2) := by
  obtain ⟨N, rfl, hi, h3, hp, h1, h2, h4, hl3, ht, hr⟩ := M.errC_nat h
  have hC := fun W (hW : IntsZ W vl l) => corrupted_any p (N : Int) t vl l W (by omega) (by omega) (by omega) (by omega) (by omega) hW
  rw [h] at hC
  have HC := Lib.hid hC
  have HB := Lib.hid (balloc w (Obj.cells #[Value.int IntKind.u64 p, Value.int IntKind.i64 N, Value.int IntKind.i64 t] 40))
  have HE := Lib.hid fun W (hW : Nums W vf f) => eval_ok p 0 vf f W (by omega) hW hc
  have hev := M.pev_lt (p := p) f 0 (by omega)
  have HS := Lib.hid fun W => sub_bad p s (M.pev p f 0) W (by omega) hs64 (by omega) (by simp [M.validB, M.within]; omega)
  have HL := Lib.hid hvl
  have HV := Lib.hid hvf
  obtain ⟨y, ey⟩ : ∃ y, y = M.pev p f 0 := ⟨_, rfl⟩
  rw [← ey] at HE HS hev
  obtain ⟨Af, capf, rfl⟩ := nums_slice' hvf
  obtain ⟨_, _, Al, capl, rfl, _⟩ := hvl
  unfold suV at HC ⊢
  clear h hC hvf hi hr ey hc
  go_enter Try.func49, Try.ntmps49
  go_wp2_with fail
  refine (HC.out _ (HL.out.below HB.out)).mono ?_
  rintro e w1 ⟨rfl, hb1⟩
  have B1 := Lib.hid (bnext HB.out hb1)
  have c0 : w1.cell? ⟨w.heap.size, 0, none⟩ = some (.int .u64 p) := by
    refine (hb1.cell (p := ⟨w.heap.size, 0, none⟩) (by simp)).trans (by simp)
  have hlt1 : w.heap.size < w1.heap.size := by have := hb1.size; simp at this; omega
  clear hb1
  go_wp2_with fail
  refine (HE.out _ (HV.out.below B1.out)).mono ?_
  rintro e w2 ⟨rfl, hb2⟩
  have B2 := Lib.hid (bnext B1.out hb2)
  have c2 : w2.cell? ⟨w.heap.size, 0, none⟩ = some (.int .u64 p) := (hb2.cell (p := ⟨w.heap.size, 0, none⟩) hlt1).trans c0
  clear hb2 c0
  go_wp2_with fail
  refine (HS.out _).mono ?_
  rintro e w3 ⟨rfl, hb3⟩
  have B3 := Lib.hid (bnext B2.out hb3)
  clear hb3
  go_wp2_with fail
  go_ret2
  exact ⟨rfl, B3.out⟩

set_option maxHeartbeats 2000000 in
theorem move_ok (p s : Nat) (n t : Int) (vf vl : Value) (f : List Nat) (l : List Int) (w : World) (hvf : Nums w vf f) (hvl : IntsZ w vl l)
    (h : M.errC p n t l = 0) (hc : M.chk p f 201 = 0) (hs : s < p) :
    Calls Try.prog 49 #[suV p n t, vf, vl, .int .u64 s] w fun e w' => ∃ g, M.Moved p f l s g ∧ Gives2 w g e w' := by
  obtain ⟨N, rfl, hi, h3, hp, h1, h2, h4, hl3, ht, hr⟩ := M.errC_nat h
  have hC := fun W (hW : IntsZ W vl l) => corrupted_any p (N : Int) t vl l W (by omega) (by omega) (by omega) (by omega) (by omega) hW
  rw [h] at hC
  have HC := Lib.hid hC
  have HB := Lib.hid (balloc w (Obj.cells #[Value.int IntKind.u64 p, Value.int IntKind.i64 N, Value.int IntKind.i64 t] 40))
  have HE := Lib.hid fun W (hW : Nums W vf f) => eval_ok p 0 vf f W (by omega) hW hc
  have hev := M.pev_lt (p := p) f 0 (by omega)
  have HS := Lib.hid fun W => sub_ok p s (M.pev p f 0) W (M.valid2_iff.2 ⟨hi, hs, hev⟩)
  have hby : M.mvBy p f s < p := Nat.mod_lt _ (by omega)
  have hpw := M.pts_within hr (p := p) (by omega)
  have hpl := M.pts_len l
  have HPT := Lib.hid fun W (hW : IntsZ W vl l) => pointsOf_any vl l W (by omega) (fun i hi => by have := M.rises_range hr hi; omega) hW
  have HAW := Lib.hid fun W v (hW : Nums W v (M.pts l)) => away_any p v (M.pts l) W hW (M.chk_of hi (by omega) hpw)
  have HNZ := Lib.hid (M.pts_noz hr)
  have HND := Lib.hid (M.pts_nodup hr)
  have HSC := Lib.hid fun W v A (hW : Nums W v A) (hA : M.AwayOf p (M.pts l) A) => scale_ok p (M.mvBy p f s) v A W hby hW (M.chk_of hi (by have := (M.away_within hA).2; omega) (M.away_within hA).1)
  have HAD := Lib.hid fun W v A (hf : Nums W vf f) (hW : Nums W v (M.pscale p A (M.mvBy p f s))) (hA : M.AwayOf p (M.pts l) A) => add2_ok p vf v f (M.pscale p A (M.mvBy p f s)) W hf hW (by
    rw [M.rgt_two, if_pos hc]
    have := M.pscale_within (p := p) (by omega) A (M.mvBy p f s)
    exact M.chk_of hi (by have := (M.away_within hA).2; omega) this.1)
  have HM : Hid (∀ A, M.AwayOf p (M.pts l) A → M.Moved p f l s (M.padd p f (M.pscale p A (M.mvBy p f s)))) := Lib.hid fun A hA => ⟨A, hA, rfl⟩
  have HL := Lib.hid hvl
  have HV := Lib.hid hvf
  unfold M.mvBy at hby HSC HAD HM
  obtain ⟨y, ey⟩ : ∃ y, y = M.pev p f 0 := ⟨_, rfl⟩
  rw [← ey] at HE HS hev hby HSC HAD HM
  obtain ⟨x, ex⟩ : ∃ x, x = (s + p - y) % p := ⟨_, rfl⟩
  rw [← ex] at HS hby HSC HAD HM
  obtain ⟨Af, capf, rfl⟩ := nums_slice' hvf
  obtain ⟨_, _, Al, capl, rfl, _⟩ := hvl
  unfold suV at HC ⊢
  clear h hC hvf hi hr ey ex hc hpw hpl
  go_enter Try.func49, Try.ntmps49
  go_wp2_with fail
  refine (HC.out _ (HL.out.below HB.out)).mono ?_
  rintro e w1 ⟨rfl, hb1⟩
  have B1 := Lib.hid (bnext HB.out hb1)
  have c0 : w1.cell? ⟨w.heap.size, 0, none⟩ = some (.int .u64 p) := by
    refine (hb1.cell (p := ⟨w.heap.size, 0, none⟩) (by simp)).trans (by simp)
  have hlt1 : w.heap.size < w1.heap.size := by have := hb1.size; simp at this; omega
  clear hb1
  go_wp2_with fail
  refine (HE.out _ (HV.out.below B1.out)).mono ?_
  rintro e w2 ⟨rfl, hb2⟩
  have B2 := Lib.hid (bnext B1.out hb2)
  have c2 : w2.cell? ⟨w.heap.size, 0, none⟩ = some (.int .u64 p) := (hb2.cell (p := ⟨w.heap.size, 0, none⟩) hlt1).trans c0
  have hlt2 : w.heap.size < w2.heap.size := by have := hb2.size; omega
  clear hb2 c0 hlt1
  go_wp2_with fail
  refine (HS.out _).mono ?_
  rintro e w3 ⟨rfl, hb3⟩
  have B3 := Lib.hid (bnext B2.out hb3)
  have c3 : w3.cell? ⟨w.heap.size, 0, none⟩ = some (.int .u64 p) := (hb3.cell (p := ⟨w.heap.size, 0, none⟩) hlt2).trans c2
  have hlt3 : w.heap.size < w3.heap.size := by have := hb3.size; omega
  clear hb3 c2 hlt2
  go_wp2_with fail
  go_region_with (first
    | (go_at_call 84; refine (HPT.out _ (HL.out.below B3.out.drew)).mono ?_; rintro e w4 ⟨v4, rfl, hn4, hb4⟩; have c4 : w4.cell? ⟨w.heap.size, 0, none⟩ = some (.int .u64 p) := (hb4.cell (p := ⟨w.heap.size, 0, none⟩) hlt3).trans c3; have hlt4 : w.heap.size < w4.heap.size := (by have := hb4.size; simp at this; omega))
    | (go_at_call 83; refine (HAW.out _ _ (by assumption)).mono ?_; rintro e w5 ⟨hh, _⟩; obtain ⟨hb5, ⟨_, v5, A, rfl, hn5, hA⟩ | ⟨hnd, _⟩⟩ := hh HNZ.out; case inr => exact absurd HND.out hnd))
  all_goals
    have B4 := Lib.hid (B3.out.drew.trans (hb4.mono B3.out.size))
    have B5 := Lib.hid (bnext B4.out hb5)
    have c5 : w5.cell? ⟨w.heap.size, 0, none⟩ = some (.int .u64 p) := (hb5.cell (p := ⟨w.heap.size, 0, none⟩) hlt4).trans c4
    have hlt5 : w.heap.size < w5.heap.size := by have := hb5.size; omega
    have N5 := Lib.hid hn5
    have HA := Lib.hid hA
    have HSA := Lib.hid (HSC.out w5 _ _ hn5 hA)
    clear hb4 hb5 hn4 hn5 hA hh c3 c4 hlt3 hlt4
    go_wp2_with fail
    refine HSA.out.mono ?_
    rintro e w6 ⟨v6, rfl, hn6, hb6⟩
    have B6 := Lib.hid (bnext B5.out hb6)
    have c6 : w6.cell? ⟨w.heap.size, 0, none⟩ = some (.int .u64 p) := (hb6.cell (p := ⟨w.heap.size, 0, none⟩) hlt5).trans c5
    have HADD := Lib.hid (HAD.out w6 _ _ (HV.out.below B6.out) hn6 HA.out)
    clear hb6 hn6 c5 hlt5 HSA
    go_wp2_with fail
    refine HADD.out.mono ?_
    rintro e w7 ⟨v7, rfl, hn7, hb7⟩
    have B7 := Lib.hid (bnext B6.out hb7)
    have N7 := Lib.hid hn7
    clear hb7 hn7 HADD
    go_wp2_with fail
    go_ret2
    exact ⟨_, HM.out _ HA.out, _, rfl, N7.out, B7.out⟩
end Go.Proofs.Ytgoognipljknjaa
namespace Go.Proofs.Ytgoognipljknjaa
open Go.RowKit
set_option linter.unusedVariables false
set_option maxRecDepth 100000

theorem nums5 (w : World) (a b c d e : Nat) (ha : a < 18446744073709551616) (hb : b < 18446744073709551616) (hc : c < 18446744073709551616) (hd : d < 18446744073709551616) (he : e < 18446744073709551616) :
    Nums (w.alloc (.cells #[.int .u64 a, .int .u64 b, .int .u64 c, .int .u64 d, .int .u64 e] 22)) (.slice (some ⟨w.heap.size, 0, none⟩) 5 5) [a, b, c, d, e] := by
  refine ⟨by simp; omega, by simp, .inr ⟨_, _, _, rfl, by simp, by simp, ?_⟩⟩
  intro i hi
  match i, hi with
  | 0, _ => simp
  | 1, _ => simp
  | 2, _ => simp
  | 3, _ => simp
  | 4, _ => simp
theorem intsZ1 (w : World) (a : Int) (h1 : -9223372036854775808 ≤ a) (h2 : a ≤ 9223372036854775807) :
    IntsZ (w.alloc (.cells #[.int .i64 a] 3)) (.slice (some ⟨w.heap.size, 0, none⟩) 1 1) [a] := by
  refine ⟨by simp; omega, by simp, _, _, rfl, by simp, fun _ => ⟨_, _, rfl, by simp, ?_⟩⟩
  intro i hi
  match i, hi with
  | 0, _ => simp

set_option maxHeartbeats 2000000 in
theorem alive_any (w : World) : Calls Try.prog 30 #[] w fun e w' => e = .returned (.bool true) ∧ Below w.heap.size w w' := by
  have i11 : M.isP 11 = true := by decide +kernel
  have ok : M.okS 11 ((5 : Nat) : Int) 1 = true := by decide +kernel
  have k1 : M.mk 11 4 1 [3, 9] = [4, 3] := by decide +kernel
  have k2 : M.shs 11 5 [4, 3] = [7, 10, 2, 5, 8] := by decide +kernel
  have kc : M.errC 11 5 1 [2] = 0 := by decide +kernel
  have ck : M.chk 11 [4, 3] 201 = 0 := by decide +kernel
  have hr : M.RisesTo 5 [2] ([2] : List Int).length := (M.errC_zero kc).2.2
  have mv : M.Moved 11 [4, 3] [2] 6 [6, 2] := ⟨[1, 5], ⟨by decide, by decide, by decide, fun i hi => by
    match i, hi with
    | 0, _ => decide
    | 1, _ => decide⟩, by decide +kernel⟩
  have km : ∀ g, M.Moved 11 [4, 3] [2] 6 g → g = [6, 2] := fun g hg => M.Moved.unique i11 hr (by omega) hg mv
  have H1 := Lib.hid fun W v (h : Nums W v [3, 9]) => make_ok 11 4 1 5 1 v [3, 9] W ok (by omega) (by omega) h
  have H2 := Lib.hid fun W v (h : Nums W v [4, 3]) => shares_ok 11 5 1 v [4, 3] W ok h ck
  have H3 := Lib.hid fun W v vl (h : Nums W v [4, 3]) (hl : IntsZ W vl [2]) => move_ok 11 6 5 1 v vl [4, 3] [2] W h hl kc ck (by omega)
  rw [k1] at H1
  rw [k2] at H2
  have KM := Lib.hid km
  unfold suV at H1 H2 H3
  clear i11 ok k1 k2 kc ck hr mv km
  go_enter Try.func30, Try.ntmps30
  have hB0 := balloc w (Obj.cells #[Value.int IntKind.u64 11, Value.int IntKind.i64 5, Value.int IntKind.i64 1] 40)
  obtain ⟨w0, hw0⟩ : ∃ w0, w.alloc (Obj.cells #[Value.int IntKind.u64 11, Value.int IntKind.i64 5, Value.int IntKind.i64 1] 40) = w0 := ⟨_, rfl⟩
  have hs0 : w0.heap.size = w.heap.size + 1 := by rw [← hw0]; simp
  have c0_0 : w0.cell? ⟨w.heap.size, 0, none⟩ = some (.int .u64 11) := by rw [← hw0]; simp
  have c1_0 : w0.cell? ⟨w.heap.size, 1, none⟩ = some (.int .i64 5) := by rw [← hw0]; simp
  have c2_0 : w0.cell? ⟨w.heap.size, 2, none⟩ = some (.int .i64 1) := by rw [← hw0]; simp
  rw [hw0] at hB0
  have B0 := Lib.hid hB0
  have HW0 := Lib.hid hw0
  clear hB0 hw0
  go_wp2_with fail
  rw [HW0.out]
  rw [show w.heap.size + 1 = w0.heap.size from hs0.symm]
  refine (H1.out _ _ (nums2 w0 3 9 (by omega) (by omega))).mono ?_
  rintro e w1 ⟨v1, v2, rfl, hn1, hn2, hb1'⟩
  have hb1 := bnext (balloc w0 _) hb1'
  have hlt0 : w.heap.size < w0.heap.size := by omega
  have B1 := Lib.hid (bnext B0.out hb1)
  have c0_1 : w1.cell? ⟨w.heap.size, 0, none⟩ = some (.int .u64 11) := (hb1.cell (p := ⟨w.heap.size, 0, none⟩) hlt0).trans c0_0
  have c1_1 : w1.cell? ⟨w.heap.size, 1, none⟩ = some (.int .i64 5) := (hb1.cell (p := ⟨w.heap.size, 1, none⟩) hlt0).trans c1_0
  have c2_1 : w1.cell? ⟨w.heap.size, 2, none⟩ = some (.int .i64 1) := (hb1.cell (p := ⟨w.heap.size, 2, none⟩) hlt0).trans c2_0
  have hlt1 : w.heap.size < w1.heap.size := by have := hb1.size; omega
  have V1 := Lib.hid hn1
  have R1 : Hid (Nums w1 v2 [9]) := Lib.hid hn2
  clear hb1 hb1' hn1 hn2 c0_0 c1_0 c2_0 hlt0 hs0
  go_wp2_with fail
  refine (H2.out _ _ V1.out).mono ?_
  rintro e w2 ⟨v3, rfl, hn3, hb2⟩
  have B2 := Lib.hid (bnext B1.out hb2)
  have c0_2 : w2.cell? ⟨w.heap.size, 0, none⟩ = some (.int .u64 11) := (hb2.cell (p := ⟨w.heap.size, 0, none⟩) hlt1).trans c0_1
  have c1_2 : w2.cell? ⟨w.heap.size, 1, none⟩ = some (.int .i64 5) := (hb2.cell (p := ⟨w.heap.size, 1, none⟩) hlt1).trans c1_1
  have c2_2 : w2.cell? ⟨w.heap.size, 2, none⟩ = some (.int .i64 1) := (hb2.cell (p := ⟨w.heap.size, 2, none⟩) hlt1).trans c2_1
  have hlt2 : w.heap.size < w2.heap.size := by have := hb2.size; omega
  have V2 := Lib.hid (V1.out.below hb2)
  have R2 := Lib.hid (R1.out.below hb2)
  have S2 := Lib.hid hn3
  clear hb2 hn3 c0_1 c1_1 c2_1 hlt1
  go_wp2_with fail
  refine (H3.out _ _ _ (V2.out.below (balloc w2 _)) (intsZ1 w2 2 (by omega) (by omega))).mono ?_
  rintro e w3 ⟨g, hg, v4, rfl, hn4, hb3'⟩
  obtain rfl := KM.out g hg
  have hb3 := bnext (balloc w2 _) hb3'
  have B3 := Lib.hid (bnext B2.out hb3)
  have V3 := Lib.hid (V2.out.below hb3)
  have R3 := Lib.hid (R2.out.below hb3)
  have S3 := Lib.hid (S2.out.below hb3)
  have M3 := Lib.hid hn4
  clear hb3 hb3' hn4 hg c0_2 c1_2 c2_2 hlt2
  go_wp2_with fail
  refine (same_any _ _ [4, 3] _ (V3.out.below (balloc w3 _)) (nums2 w3 4 3 (by omega) (by omega))).mono ?_
  rintro e w4 ⟨rfl, hb4⟩
  have B4 := Lib.hid (bnext (bnext B3.out (balloc w3 _)) hb4)
  have R4 := Lib.hid ((R3.out.below (balloc w3 _)).below hb4)
  have S4 := Lib.hid ((S3.out.below (balloc w3 _)).below hb4)
  have M4 := Lib.hid ((M3.out.below (balloc w3 _)).below hb4)
  clear hb4
  go_wp2_with fail
  refine (same_any _ _ [9] _ (R4.out.below (balloc w4 _)) (nums1 w4 9 (by omega))).mono ?_
  rintro e w5 ⟨rfl, hb5⟩
  have B5 := Lib.hid (bnext (bnext B4.out (balloc w4 _)) hb5)
  have S5 := Lib.hid ((S4.out.below (balloc w4 _)).below hb5)
  have M5 := Lib.hid ((M4.out.below (balloc w4 _)).below hb5)
  clear hb5
  go_wp2_with fail
  refine (same_any _ _ [7, 10, 2, 5, 8] _ (S5.out.below (balloc w5 _)) (nums5 w5 7 10 2 5 8 (by omega) (by omega) (by omega) (by omega) (by omega))).mono ?_
  rintro e w6 ⟨rfl, hb6⟩
  have B6 := Lib.hid (bnext (bnext B5.out (balloc w5 _)) hb6)
  have M6 := Lib.hid ((M5.out.below (balloc w5 _)).below hb6)
  clear hb6
  go_wp2_with fail
  refine (same_any _ _ [6, 2] _ (M6.out.below (balloc w6 _)) (nums2 w6 6 2 (by omega) (by omega))).mono ?_
  rintro e w7 ⟨rfl, hb7⟩
  have B7 := Lib.hid (bnext (bnext B6.out (balloc w6 _)) hb7)
  clear hb7
  go_wp2_with fail
  go_ret
  exact ⟨rfl, B7.out⟩
end Go.Proofs.Ytgoognipljknjaa
namespace Go.Proofs.Ytgoognipljknjaa
open Go.RowKit
set_option linter.unusedVariables false

/-- the box at a holds a setup -/
def Su (a p : Nat) (n t : Int) (W : World) : Prop :=
  a < W.heap.size ∧ W.cell? ⟨a, 0, none⟩ = some (.int .u64 p) ∧ W.cell? ⟨a, 1, none⟩ = some (.int .i64 n) ∧ W.cell? ⟨a, 2, none⟩ = some (.int .i64 t)
theorem Su.new (w : World) (p : Nat) (n t : Int) : Su w.heap.size p n t (w.alloc (.cells #[.int .u64 p, .int .i64 n, .int .i64 t] 40)) := by
  refine ⟨by simp, by simp, by simp, by simp⟩
theorem Su.below {a p : Nat} {n t : Int} {W W' : World} (h : Su a p n t W) (hb : Below W.heap.size W W') : Su a p n t W' :=
  ⟨Nat.lt_of_lt_of_le h.1 hb.size, (hb.cell (p := ⟨a, 0, none⟩) h.1).trans h.2.1, (hb.cell (p := ⟨a, 1, none⟩) h.1).trans h.2.2.1, (hb.cell (p := ⟨a, 2, none⟩) h.1).trans h.2.2.2⟩
theorem Su.drew {a p : Nat} {n t : Int} {W : World} (h : Su a p n t W) : Su a p n t W.drew := h
theorem below_of_drew {W W' : World} (h : Below W.heap.size W.drew W') : Below W.heap.size W W' := (Below.refl _ W).drew.trans h
end Go.Proofs.Ytgoognipljknjaa
