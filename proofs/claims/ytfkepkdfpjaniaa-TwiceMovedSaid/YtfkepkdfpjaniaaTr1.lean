/-
  The reference of package twice: Check, Size.
-/
import Derived.Test.YtfkepkdfpjaniaaP7b
import Derived.Test.YtfkepkdfpjaniaaP7m
import Derived.Test.YtfkepkdfpjaniaaP7s
import Derived.BigQuiet
namespace Go.Proofs.Ytfkepkdfpjaniaa
open Go.RowKit
set_option linter.unusedVariables false
set_option maxRecDepth 100000

namespace M
/-- how many numbers are drawn -/
def tsize (t : Int) : Int := if t < 0 ∨ 3 < t then 0 else t + t * (t + 1)
theorem mform_len {p n : Nat} {m : List (List Nat)} (h : m.length ≠ n) : mform p n m = 4 := by unfold mform; rw [if_pos h]
theorem mform_rows {p n : Nat} {m : List (List Nat)} (h : m.length = n) {i : Nat} (hi : i < m.length) (hr : ¬ (m.getD i []).length ≤ n) : mform p n m = 4 := by
  unfold mform
  rw [if_neg (by simp [h]), if_pos (all_rows_no hi (by simpa using hr))]
theorem mform_lt {p n : Nat} {m : List (List Nat)} (h : m.length = n) (hr : ∀ i, i < m.length → (m.getD i []).length ≤ n) {i : Nat} (hi : i < m.length) (hw : within p (m.getD i []) = false) : mform p n m = 2 := by
  unfold mform
  rw [if_neg (by simp [h]), if_neg (by rw [all_rows.2 fun i hi => by simpa using hr i hi]; simp), if_pos (all_rows_no hi hw)]
theorem mform_ok {p n : Nat} {m : List (List Nat)} (h : TOk p n m) : mform p n m = 0 := by
  unfold mform
  rw [if_neg (by simp [h.len]), if_neg (by rw [all_rows.2 fun i hi => by simpa using h.rows i (by rw [← h.len]; exact hi)]; simp), if_neg (by rw [all_rows.2 fun i hi => h.lt i (by rw [← h.len]; exact hi)]; simp)]
theorem mform_zero {p n : Nat} {m : List (List Nat)} (h : mform p n m = 0) : TOk p n m := by
  unfold mform at h
  split at h
  · cases h
  · rename_i h1
    have h1 : m.length = n := by simpa using h1
    split at h
    · cases h
    · rename_i h2
      split at h
      · cases h
      · rename_i h3
        simp only [Bool.not_eq_false] at h2 h3
        exact ⟨h1, fun i hi => by simpa using all_rows.1 h2 i (by omega), fun i hi => all_rows.1 h3 i (by omega)⟩
/-- the error of a setup and a mask -/
def tchk (p : Nat) (n t : Int) (m : List (List Nat)) : Int := if okS p n t = true then mform p (t.toNat + 1) m else 2
theorem tchk_no {p : Nat} {n t : Int} {m : List (List Nat)} (h : okS p n t = false) : tchk p n t m = 2 := by unfold tchk; rw [h]; rfl
theorem tchk_of {p : Nat} {n : Int} {T : Nat} {m : List (List Nat)} (h : okS p n T = true) : tchk p n T m = mform p (T + 1) m := by unfold tchk; rw [if_pos h]; rfl
end M

theorem rtsize_any (t : Int) (w : World) (h1 : -9223372036854775808 ≤ t) (h2 : t ≤ 9223372036854775807) :
    Calls Try.prog 15 #[.int .i64 t] w fun e w' => e = .returned (.int .i64 (M.tsize t)) ∧ w = w' := by
  have hud : ∀ b : Bool, undef ≠ Value.bool b := fun b h => by cases h
  by_cases h : t < 0
  · go_enter Try.func15, Try.ntmps15
    go_wp2
    go_ret
    exact ⟨ret1 (by unfold M.tsize; rw [if_pos (.inl h)]), rfl⟩
  · by_cases h3 : 3 < t
    · go_enter Try.func15, Try.ntmps15
      go_wp2
      go_ret
      exact ⟨ret1 (by unfold M.tsize; rw [if_pos (.inr h3)]), rfl⟩
    · obtain ⟨T, rfl⟩ := Int.eq_ofNat_of_zero_le (Int.not_lt.1 h)
      have hT : T ≤ 3 := by omega
      rcases (by omega : T = 0 ∨ T = 1 ∨ T = 2 ∨ T = 3) with rfl | rfl | rfl | rfl
      all_goals
        go_enter Try.func15, Try.ntmps15
        go_wp2
        go_ret
        exact ⟨rfl, rfl⟩


set_option maxHeartbeats 4000000 in
theorem rtcheck_any (p : Nat) (n0 t : Int) (v : Value) (m : List (List Nat)) (w : World) (hp : p < 18446744073709551616) (hn1 : -9223372036854775808 ≤ n0) (hn2 : n0 ≤ 9223372036854775807) (ht1 : -9223372036854775808 ≤ t) (ht2 : t ≤ 9223372036854775807) (hv : Mat w v m) :
    Calls Try.prog 13 #[suV p n0 t, v] w fun e w' => e = .returned (.int .i64 (M.tchk p n0 t m)) ∧ Below w.heap.size w w' := by
  have hud : ∀ b : Bool, undef ≠ Value.bool b := fun b h => by cases h
  have hs := fun W => rsetup_any p n0 t W hp hn1 hn2 ht1 ht2
  obtain ⟨A, cap, rfl, _⟩ := mat_view6 hv
  have hml := hv.1
  cases hok : M.okS p n0 t with
  | false =>
    rw [show M.errS p n0 t = 2 by unfold M.errS; rw [hok]; rfl] at hs
    have HS := Lib.hid hs
    have HK := Lib.hid (M.tchk_no (m := m) hok)
    unfold suV at HS ⊢
    clear hs hv hok
    go_enter Try.func13, Try.ntmps13
    go_wp2_with fail
    (with_reducible refine (HS.out _).mono ?_)
    rintro e w1 ⟨rfl, hb1⟩
    have B1 := Lib.hid (bnext (balloc w _) hb1)
    clear hb1
    go_wp2_with fail
    go_ret
    exact ⟨ret1 (by rw [HK.out]), B1.out⟩
  | true =>
    rw [show M.errS p n0 t = 0 by unfold M.errS; rw [hok]; rfl] at hs
    obtain ⟨N, T, rfl, rfl, hi, hN1, hN2, hNT, hNp⟩ := M.okS_nat hok
    rw [M.tchk_of hok]
    have hT : T ≤ 3 := by omega
    have HS := Lib.hid hs
    have HM := Lib.hid (mat_row hv).2
    have HMAT := Lib.hid hv
    have hw1 : IntKind.i64.wrap ((T : Int) + 1) = (T : Int) + 1 := by rw [IntKind.wrap_i64]; omega
    unfold suV at HS ⊢
    clear hv hs hok
    by_cases hR : m.length = T + 1
    case neg =>
      have hb : ((m.length : Int) != (T : Int) + 1) = true := by rw [bne_iff_ne]; omega
      have HR := Lib.hid hR
      clear hR
      go_enter Try.func13, Try.ntmps13
      go_wp2_with fail
      (with_reducible refine (HS.out _).mono ?_)
      rintro e w1 ⟨rfl, hb1⟩
      have hcell := fun (i : Nat) (x : Value) (h : (w.alloc (.cells #[.int .u64 p, .int .i64 (N : Nat), .int .i64 (T : Nat)] 24)).cell? ⟨w.heap.size, i, none⟩ = some x) => (hb1.cell (p := ⟨w.heap.size, i, none⟩) (by simp)).trans h
      have c2 := hcell 2 (.int .i64 (T : Nat)) (by simp)
      have B1 := Lib.hid (bnext (balloc w _) hb1)
      clear hb1 hcell
      go_wp2_with fail
      go_ret
      exact ⟨ret1 (M.mform_len HR.out).symm, B1.out⟩
    have hb : ((m.length : Int) != (T : Int) + 1) = false := by rw [bne_eq_false_iff_eq]; omega
    have HR := Lib.hid hR
    obtain ⟨n, en⟩ : ∃ n, n = T + 1 := ⟨_, rfl⟩
    have hn4 : n ≤ 4 := by omega
    have hn0 : 0 < n := by omega
    have hnT : (n : Int) = (T : Int) + 1 := by omega
    obtain ⟨b, off, rfl, hbl, hcells⟩ := HM.out (by omega)
    have HC := Lib.hid hcells
    rw [← en] at HR ⊢
    have HNT := Lib.hid hnT
    clear hcells HM hR en hnT
    go_enter Try.func13, Try.ntmps13
    go_wp2_with fail
    (with_reducible refine (HS.out _).mono ?_)
    rintro e w1 ⟨rfl, hb1⟩
    have c2 := (hb1.cell (p := ⟨w.heap.size, 2, none⟩) (by simp)).trans (show (w.alloc (.cells #[.int .u64 p, .int .i64 (N : Nat), .int .i64 (T : Nat)] 24)).cell? ⟨w.heap.size, 2, none⟩ = some (.int .i64 (T : Nat)) by simp)
    have c0 := (hb1.cell (p := ⟨w.heap.size, 0, none⟩) (by simp)).trans (show (w.alloc (.cells #[.int .u64 p, .int .i64 (N : Nat), .int .i64 (T : Nat)] 24)).cell? ⟨w.heap.size, 0, none⟩ = some (.int .u64 (p : Nat)) by simp)
    have hB1 := bnext (balloc w _) hb1
    have B1 := Lib.hid hB1
    have HC1 := Lib.hid fun k (hk : k < m.length) => by
      obtain ⟨Au, cu, ck, hnk, _⟩ := HC.out k hk
      exact (⟨Au, cu, (hB1.cell (p := ⟨b, off + k, none⟩) hbl).trans ck, hnk.below hB1⟩ : ∃ Au cu, w1.cell? ⟨b, off + k, none⟩ = some (.slice Au (m.getD k []).length cu) ∧ Nums w1 (.slice Au (m.getD k []).length cu) (m.getD k []))
    clear hb1 hB1 HC
    go_wp2_with fail
    go_loop [24] (fun t => ∃ k : Nat, k ≤ m.length ∧ t = .int .i64 k ∧ ∀ i, i < k → (m.getD i []).length ≤ n) (fun t => m.length - (intOf t).toNat)
    case atStart => exact ⟨0, by omega, rfl, fun i hi => absurd hi (by omega)⟩
    case round =>
      obtain ⟨k, hk, rfl, hz⟩ := hrel
      have HZ := Lib.hid hz
      clear hz
      by_cases hlt : k < m.length
      · obtain ⟨Au, cu, ck, _⟩ := HC1.out k hlt
        obtain ⟨L, eL⟩ : ∃ L, L = (m.getD k []).length := ⟨_, rfl⟩
        rw [← eL] at ck
        have EL := Lib.hid eL
        clear eL
        by_cases hLK : L ≤ n
        · have hb5 : decide ((L : Int) > (T : Int) + 1) = false := by rw [decide_eq_false_iff_not, ← HNT.out]; omega
          have HLK := Lib.hid hLK
          clear hLK
          go_wp2_with fail
          go_round
          case rel => exact ⟨k + 1, by omega, by go_num, fun i hi => by
            by_cases e : i = k
            · rw [e, ← EL.out]; exact HLK.out
            · exact HZ.out i (by omega)⟩
          case measure => simp [intOf]; omega
        · have hb5 : decide ((L : Int) > (T : Int) + 1) = true := by rw [decide_eq_true_eq, ← HNT.out]; omega
          have HLK := Lib.hid hLK
          clear hLK
          go_wp2_with fail
          go_ret
          exact ⟨ret1 (M.mform_rows HR.out hlt (by rw [← EL.out]; exact HLK.out)).symm, B1.out⟩
      · obtain rfl : k = m.length := by omega
        go_wp2_with fail
        have HALL := Lib.hid HZ.out
        clear HZ
        go_loop [37] (fun t => ∃ k : Nat, k ≤ m.length ∧ t = .int .i64 k ∧ ∀ i, i < k → M.within p (m.getD i []) = true) (fun t => m.length - (intOf t).toNat)
        case atStart => exact ⟨0, by omega, rfl, fun i hi => absurd hi (by omega)⟩
        case round =>
          obtain ⟨k, hk, rfl, hz⟩ := hrel
          have HZ := Lib.hid hz
          clear hz
          by_cases hlt : k < m.length
          · obtain ⟨Au, cu, ck, hnk⟩ := HC1.out k hlt
            have hwi := fun c hc => within_any p _ (m.getD k []) w1 hnk (c := c) hc
            obtain ⟨L, eL⟩ : ∃ L, L = (m.getD k []).length := ⟨_, rfl⟩
            rw [← eL] at ck hwi
            cases hw : M.within p (m.getD k []) with
            | false =>
              have HW := Lib.hid (hwi 2 (by rw [hw]; rfl))
              have HWF := Lib.hid hw
              clear hwi hnk hw eL
              go_wp2_with fail
              refine HW.out.mono ?_
              rintro e w' ⟨rfl, rfl⟩
              go_wp2_with fail
              go_ret
              exact ⟨ret1 (M.mform_lt HR.out HALL.out hlt HWF.out).symm, B1.out⟩
            | true =>
              have HW := Lib.hid (hwi 0 (by rw [hw]; rfl))
              have HWF := Lib.hid hw
              clear hwi hnk hw eL
              go_wp2_with fail
              refine HW.out.mono ?_
              rintro e w' ⟨rfl, rfl⟩
              go_wp2_with fail
              go_round
              case rel => exact ⟨k + 1, by omega, by go_num, fun i hi => by
                by_cases e : i = k
                · rw [e]; exact HWF.out
                · exact HZ.out i (by omega)⟩
              case measure => simp [intOf]; omega
          · obtain rfl : k = m.length := by omega
            go_wp2_with fail
            go_ret
            exact ⟨ret1 (M.mform_ok ⟨HR.out, fun i hi => HALL.out i (by rw [HR.out]; exact hi), fun i hi => HZ.out i (by rw [HR.out]; exact hi)⟩).symm, B1.out⟩
end Go.Proofs.Ytfkepkdfpjaniaa
