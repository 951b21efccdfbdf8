/-
  Package share: Corrupted, and the reference's Rising and Corrupted.
-/
import Derived.Test.YtgjkinmfgejjaaaS1
namespace Go.Proofs.Ytgjkinmfgejjaaa
open Go.RowKit
set_option linter.unusedVariables false
set_option maxRecDepth 100000

namespace M
def prev (l : List Int) (i : Nat) : Int := if i = 0 then 0 else l.getD (i - 1) 0
/-- the first k of l rise from 1 to n -/
def RisesTo (n : Int) (l : List Int) (k : Nat) : Prop := ∀ i, i < k → prev l i < l.getD i 0 ∧ l.getD i 0 ≤ n
def rising (n : Int) (l : List Int) : Bool := (List.range l.length).all fun i => decide (prev l i < l.getD i 0) && decide (l.getD i 0 ≤ n)
theorem rising_iff {n : Int} {l : List Int} : rising n l = true ↔ RisesTo n l l.length := by
  simp only [rising, List.all_eq_true, List.mem_range, Bool.and_eq_true, decide_eq_true_eq, RisesTo]
theorem rises_zero (n : Int) (l : List Int) : RisesTo n l 0 := fun i hi => absurd hi (by omega)
theorem rises_succ {n : Int} {l : List Int} {k : Nat} (h : RisesTo n l k) (h1 : prev l k < l.getD k 0) (h2 : l.getD k 0 ≤ n) : RisesTo n l (k + 1) := by
  intro i hi
  by_cases hk : i = k
  · subst hk; exact ⟨h1, h2⟩
  · exact h i (by omega)
theorem rising_not {n : Int} {l : List Int} {k : Nat} (hk : k < l.length) (h : l.getD k 0 ≤ prev l k ∨ n < l.getD k 0) : false = rising n l := by
  cases hr : rising n l with
  | false => rfl
  | true =>
    have := rising_iff.1 hr k hk
    omega
theorem rises_pos {n : Int} {l : List Int} {k : Nat} (h : RisesTo n l k) : ∀ i, i < k → 1 ≤ l.getD i 0
  | 0, hi => by have := (h 0 hi).1; simp only [prev, if_true] at this; omega
  | i + 1, hi => by
    have h1 := (h (i + 1) hi).1
    have h2 := rises_pos h i (by omega)
    simp only [prev, Nat.add_sub_cancel] at h1
    rw [if_neg (by omega)] at h1
    omega
theorem prev_nonneg {n : Int} {l : List Int} {k : Nat} (h : RisesTo n l k) : 0 ≤ prev l k := by
  unfold prev; split
  · omega
  · have := rises_pos h (k - 1) (by omega); omega
theorem prev_succ (l : List Int) (k : Nat) : prev l (k + 1) = l.getD k 0 := by simp [prev]
def errC (p : Nat) (n t : Int) (l : List Int) : Int := if okS p n t = true ∧ (l.length : Int) ≤ t ∧ rising n l = true then 0 else 2
theorem errC_no {p : Nat} {n t : Int} {l : List Int} (h : okS p n t = false) : 2 = errC p n t l := by simp [errC, h]
theorem errC_long {p : Nat} {n t : Int} {l : List Int} (h : ¬ (l.length : Int) ≤ t) : 2 = errC p n t l := by simp [errC, h]
theorem errC_fall {p : Nat} {n t : Int} {l : List Int} (h : false = rising n l) : 2 = errC p n t l := by simp [errC, ← h]
theorem errC_ok {p : Nat} {n t : Int} {l : List Int} (h : okS p n t = true) (h1 : (l.length : Int) ≤ t) (h2 : RisesTo n l l.length) : 0 = errC p n t l := by
  unfold errC; rw [if_pos ⟨h, h1, rising_iff.2 h2⟩]
theorem errC_zero {p : Nat} {n t : Int} {l : List Int} (h : errC p n t l = 0) : okS p n t = true ∧ (l.length : Int) ≤ t ∧ RisesTo n l l.length := by
  unfold errC at h
  split at h
  · rename_i hh; exact ⟨hh.1, hh.2.1, rising_iff.1 hh.2.2⟩
  · cases h
end M

set_option maxHeartbeats 1000000 in
theorem corrupted_any (p : Nat) (n t : Int) (v : Value) (l : List Int) (w : World) (hp : p < 18446744073709551616) (hn1 : -9223372036854775808 ≤ n) (hn2 : n ≤ 9223372036854775807) (ht1 : -9223372036854775808 ≤ t) (ht2 : t ≤ 9223372036854775807) (hv : IntsZ w v l) :
    Calls Try.prog 17 #[suV p n t, v] w fun e w' => e = .returned (.int .i64 (M.errC p n t l)) ∧ Below w.heap.size w w' := by
  have HC := Lib.hid fun W => setup_any p n t W hp hn1 hn2 ht1 ht2
  have HB := Lib.hid (balloc w (Obj.cells #[Value.int IntKind.u64 p, Value.int IntKind.i64 n, Value.int IntKind.i64 t] 24))
  have hud : ∀ b : Bool, undef ≠ Value.bool b := fun b h => by cases h
  obtain ⟨hz, hl, A, cap, rfl, hcap, hcell⟩ := hv
  have HV := Lib.hid hcell
  have HZ := Lib.hid hz
  unfold suV at HC ⊢
  clear hcell hz
  cases hs : M.okS p n t with
  | false =>
    have e2 : M.errS p n t = 2 := by simp [M.errS, hs]
    rw [e2] at HC
    go_enter Try.func17, Try.ntmps17
    go_wp2_with fail
    refine (HC.out _).mono ?_
    rintro e w1 ⟨rfl, hb1⟩
    have B1 := Lib.hid (bnext HB.out hb1)
    clear hb1
    go_wp2_with fail
    go_ret
    exact ⟨ret1 (M.errC_no hs), B1.out⟩
  | true =>
    have e2 : M.errS p n t = 0 := by simp [M.errS, hs]
    rw [e2] at HC
    go_enter Try.func17, Try.ntmps17
    go_wp2_with fail
    refine (HC.out _).mono ?_
    rintro e w1 ⟨rfl, hb1⟩
    have B1 := Lib.hid (bnext HB.out hb1)
    have c1 : w1.cell? ⟨w.heap.size, 1, none⟩ = some (.int .i64 n) := by
      refine (hb1.cell (p := ⟨w.heap.size, 1, none⟩) (by simp)).trans (by simp)
    have c2 : w1.cell? ⟨w.heap.size, 2, none⟩ = some (.int .i64 t) := by
      refine (hb1.cell (p := ⟨w.heap.size, 2, none⟩) (by simp)).trans (by simp)
    clear hb1
    by_cases hL : (l.length : Int) ≤ t
    · have H1 := Lib.hid c1
      go_wp2_with fail
      go_loop [6, 21] (fun tb ti => ∃ k : Nat, k ≤ l.length ∧ ti = .int .i64 k ∧ tb = .int .i64 (M.prev l k) ∧ M.RisesTo n l k) (fun _ ti => l.length - (intOf ti).toNat)
      case atStart => exact ⟨0, by omega, rfl, rfl, M.rises_zero n l⟩
      case round =>
        obtain ⟨k, hk, rfl, rfl, hr⟩ := hrel
        have HR := Lib.hid hr
        clear hr
        by_cases hlt : k < l.length
        · obtain ⟨b, off, rfl, hb, hcell⟩ := HV.out (by omega)
          have hc := (B1.out.cell (p := ⟨b, off + k, none⟩) hb).trans (hcell k hlt)
          have hzk := HZ.out (l.getD k 0) (by rw [List.getD_eq_getElem?_getD, List.getElem?_eq_getElem hlt]; exact List.getElem_mem hlt)
          have hps := M.prev_succ l k
          have hnot := M.rising_not (n := n) hlt
          have hsucc := M.rises_succ HR.out
          obtain ⟨x, ex⟩ : ∃ x, x = l.getD k 0 := ⟨_, rfl⟩
          obtain ⟨y, ey⟩ : ∃ y, y = M.prev l k := ⟨_, rfl⟩
          rw [← ex] at hc hzk hps hnot hsucc
          rw [← ey] at hnot hsucc ⊢
          have HP := Lib.hid hps
          have HN := Lib.hid hnot
          have HS := Lib.hid hsucc
          clear hps hnot hsucc ex ey hcell
          have hkl : (k : Int) < (l.length : Nat) := by omega
          by_cases hx : x ≤ y
          · go_wp2_with fail
            go_ret
            exact ⟨ret1 (M.errC_fall (HN.out (.inl hx))), B1.out⟩
          by_cases hx2 : n < x
          · go_wp2_with fail
            go_ret
            exact ⟨ret1 (M.errC_fall (HN.out (.inr hx2))), B1.out⟩
          go_wp2_with fail
          go_round
          case rel => exact ⟨k + 1, by omega, by go_num, by rw [HP.out], HS.out (by omega) (by omega)⟩
          case measure => simp [intOf]; omega
        · obtain rfl : k = l.length := by omega
          go_wp2_with fail
          go_ret
          exact ⟨ret1 (M.errC_ok hs hL HR.out), B1.out⟩
    · go_wp2_with fail
      go_ret
      exact ⟨ret1 (M.errC_long (by omega)), B1.out⟩

set_option maxHeartbeats 1000000 in
theorem rrising_any (n : Int) (v : Value) (l : List Int) (w : World) (hn1 : -9223372036854775808 ≤ n) (hn2 : n ≤ 9223372036854775807) (hv : IntsZ w v l) :
    Calls Try.prog 43 #[.int .i64 n, v] w fun e w' => e = .returned (.bool (M.rising n l)) ∧ w = w' := by
  have hud : ∀ b : Bool, undef ≠ Value.bool b := fun b h => by cases h
  obtain ⟨hz, hl, A, cap, rfl, hcap, hcell⟩ := hv
  have HV := Lib.hid hcell
  have HZ := Lib.hid hz
  clear hcell hz
  go_enter Try.func43, Try.ntmps43
  go_wp2_with fail
  go_loop [9] (fun ti => ∃ k : Nat, k ≤ l.length ∧ ti = .int .i64 k ∧ M.RisesTo n l k) (fun ti => l.length - (intOf ti).toNat)
  case atStart => exact ⟨0, by omega, rfl, M.rises_zero n l⟩
  case round =>
    obtain ⟨k, hk, rfl, hr⟩ := hrel
    have HR := Lib.hid hr
    clear hr
    by_cases hlt : k < l.length
    · obtain ⟨b, off, rfl, hb, hcell⟩ := HV.out (by omega)
      have hc := hcell k hlt
      have hzk := HZ.out (l.getD k 0) (by rw [List.getD_eq_getElem?_getD, List.getElem?_eq_getElem hlt]; exact List.getElem_mem hlt)
      have hnot := M.rising_not (n := n) hlt
      have hsucc := M.rises_succ HR.out
      obtain ⟨x, ex⟩ : ∃ x, x = l.getD k 0 := ⟨_, rfl⟩
      rw [← ex] at hc hzk hnot hsucc
      have hpn := M.prev_nonneg HR.out
      have hkl : (k : Int) < (l.length : Nat) := by omega
      by_cases hx : x < 1
      · have HN := Lib.hid (hnot (.inl (by omega)))
        clear hnot hsucc ex hcell hpn
        go_wp2_with fail
        go_ret
        exact ⟨ret_bool HN.out, rfl⟩
      by_cases hx2 : n < x
      · have HN := Lib.hid (hnot (.inr hx2))
        clear hnot hsucc ex hcell hpn
        go_wp2_with fail
        go_ret
        exact ⟨ret_bool HN.out, rfl⟩
      by_cases hk0 : k = 0
      · subst hk0
        have HS := Lib.hid (hsucc (by simp only [M.prev, if_true]; omega) (by omega))
        rw [Nat.add_zero] at hc
        clear hnot hsucc ex hcell hpn
        go_wp2_with fail
        go_round
        case rel => exact ⟨1, by omega, rfl, HS.out⟩
        case measure => simp [intOf]; omega
      · have hcp := hcell (k - 1) (by omega)
        have hzp := HZ.out (l.getD (k - 1) 0) (by rw [List.getD_eq_getElem?_getD, List.getElem?_eq_getElem (by omega)]; exact List.getElem_mem (by omega))
        have ep : M.prev l k = l.getD (k - 1) 0 := by unfold M.prev; rw [if_neg hk0]
        rw [ep] at hnot hsucc
        obtain ⟨y, ey⟩ : ∃ y, y = l.getD (k - 1) 0 := ⟨_, rfl⟩
        rw [← ey] at hcp hzp hnot hsucc
        obtain ⟨j, rfl⟩ : ∃ j, k = j + 1 := ⟨k - 1, by omega⟩
        rw [Nat.add_sub_cancel] at hcp
        by_cases hxy : x ≤ y
        · have HN := Lib.hid (hnot (.inl hxy))
          clear hnot hsucc ex ey ep hcell hpn
          go_wp2_with fail
          go_ret
          exact ⟨ret_bool HN.out, rfl⟩
        · have HS := Lib.hid (hsucc (by omega) (by omega))
          clear hnot hsucc ex ey ep hcell hpn
          go_wp2_with fail
          go_round
          case rel => exact ⟨j + 1 + 1, by omega, by go_num, HS.out⟩
          case measure => simp [intOf]; omega
    · obtain rfl : k = l.length := by omega
      go_wp2_with fail
      go_ret
      exact ⟨ret_bool (M.rising_iff.2 HR.out).symm, rfl⟩

set_option maxHeartbeats 1000000 in
theorem rcorrupted_any (p : Nat) (n t : Int) (v : Value) (l : List Int) (w : World) (hp : p < 18446744073709551616) (hn1 : -9223372036854775808 ≤ n) (hn2 : n ≤ 9223372036854775807) (ht1 : -9223372036854775808 ≤ t) (ht2 : t ≤ 9223372036854775807) (hv : IntsZ w v l) :
    Calls Try.prog 18 #[suV p n t, v] w fun e w' => e = .returned (.int .i64 (M.errC p n t l)) ∧ Below w.heap.size w w' := by
  have HC := Lib.hid fun W => rsetup_any p n t W hp hn1 hn2 ht1 ht2
  have HB := Lib.hid (balloc w (Obj.cells #[Value.int IntKind.u64 p, Value.int IntKind.i64 n, Value.int IntKind.i64 t] 24))
  have hud : ∀ b : Bool, undef ≠ Value.bool b := fun b h => by cases h
  have HRI := Lib.hid fun W (hW : IntsZ W v l) => rrising_any n v l W hn1 hn2 hW
  have HV := Lib.hid hv
  obtain ⟨_, hl, A, cap, rfl, hcap, _⟩ := hv
  unfold suV at HC ⊢
  cases hs : M.okS p n t with
  | false =>
    have e2 : M.errS p n t = 2 := by simp [M.errS, hs]
    rw [e2] at HC
    go_enter Try.func18, Try.ntmps18
    go_wp2_with fail
    refine (HC.out _).mono ?_
    rintro e w1 ⟨rfl, hb1⟩
    have B1 := Lib.hid (bnext HB.out hb1)
    clear hb1
    go_wp2_with fail
    go_ret
    exact ⟨ret1 (M.errC_no hs), B1.out⟩
  | true =>
    have e2 : M.errS p n t = 0 := by simp [M.errS, hs]
    rw [e2] at HC
    go_enter Try.func18, Try.ntmps18
    go_wp2_with fail
    refine (HC.out _).mono ?_
    rintro e w1 ⟨rfl, hb1⟩
    have B1 := Lib.hid (bnext HB.out hb1)
    have c1 : w1.cell? ⟨w.heap.size, 1, none⟩ = some (.int .i64 n) := by
      refine (hb1.cell (p := ⟨w.heap.size, 1, none⟩) (by simp)).trans (by simp)
    have c2 : w1.cell? ⟨w.heap.size, 2, none⟩ = some (.int .i64 t) := by
      refine (hb1.cell (p := ⟨w.heap.size, 2, none⟩) (by simp)).trans (by simp)
    clear hb1
    by_cases hL : (l.length : Int) ≤ t
    · cases hr : M.rising n l with
      | false =>
        rw [hr] at HRI
        go_wp2_with (go_at_call 43; refine (HRI.out _ (HV.out.below B1.out)).mono ?_; rintro e w' ⟨rfl, rfl⟩)
        go_ret
        exact ⟨ret1 (M.errC_fall hr.symm), B1.out⟩
      | true =>
        rw [hr] at HRI
        go_wp2_with (go_at_call 43; refine (HRI.out _ (HV.out.below B1.out)).mono ?_; rintro e w' ⟨rfl, rfl⟩)
        go_ret
        exact ⟨ret1 (M.errC_ok hs hL (M.rising_iff.1 hr)), B1.out⟩
    · go_wp2_with fail
      go_ret
      exact ⟨ret1 (M.errC_long (by omega)), B1.out⟩
end Go.Proofs.Ytgjkinmfgejjaaa
