/-
  The reference's Same decides whether two lists are equal.
-/
import Derived.Test.YtgoognipljknjaaLaw4a
namespace Go.Proofs.Ytgoognipljknjaa
open Go.RowKit
set_option linter.unusedVariables false

set_option maxHeartbeats 800000 in
theorem same_dec (va vb : Value) (zs ys : List Nat) (w : World) (ha : Nums w va zs) (hb : Nums w vb ys) :
    Calls Try.prog 22 #[va, vb] w fun e w' => e = .returned (.bool (decide (zs = ys))) ∧ Below w.heap.size w w' := by
  have hl1 := ha.2.1
  have hl2 := hb.2.1
  have HA := Lib.hid ha
  have HB := Lib.hid hb
  obtain ⟨A, cap, rfl⟩ := nums_slice' ha
  obtain ⟨A2, cap2, rfl⟩ := nums_slice' hb
  clear ha hb
  obtain ⟨r, er⟩ : ∃ r, r = decide (zs = ys) := ⟨_, rfl⟩
  rw [← er]
  by_cases hnm : zs.length = ys.length
  · have EQ := Lib.hid (show (∀ i, i < zs.length → zs.getD i 0 = ys.getD i 0) → r = true from fun h => by
      rw [er, decide_eq_true_eq]
      refine M.ext_getD hnm fun i => ?_
      by_cases hi : i < zs.length
      · exact h i hi
      · rw [M.getD_ge (by omega), M.getD_ge (by omega)])
    have NE := Lib.hid (show ∀ i, zs.getD i 0 ≠ ys.getD i 0 → r = false from fun i h => by
      rw [er, decide_eq_false_iff_not]
      intro e; rw [e] at h; exact h rfl)
    obtain ⟨n, en⟩ : ∃ n, ys.length = n := ⟨_, rfl⟩
    rw [en] at hnm hl2 ⊢
    rw [hnm] at hl1 EQ ⊢
    have HN1 := Lib.hid hnm
    have HN2 := Lib.hid en
    clear er en hnm
    go_enter Try.func22, Try.ntmps22
    go_wp2_with fail
    go_loopw [13] (fun t wr => ∃ k : Nat, k ≤ n ∧ t = .int .i64 k ∧ (∀ i, i < k → zs.getD i 0 = ys.getD i 0) ∧ Below w.heap.size w wr) (fun t _ => n - (intOf t).toNat)
    case atStart => exact ⟨0, by omega, rfl, fun i hi => absurd hi (by omega), Below.refl _ _⟩
    case round =>
      obtain ⟨k, hk, rfl, hsame, hbw⟩ := hrel
      by_cases hlt : k < n
      · obtain ⟨b, off, rfl, hb, hc0⟩ := nums_cell HA.out (i := k) (by rw [HN1.out]; exact hlt)
        obtain ⟨b2, off2, rfl, hb2, hc2⟩ := nums_cell HB.out (i := k) (by rw [HN2.out]; exact hlt)
        have c1 := (hbw.cell (p := ⟨b, off + k, none⟩) hb).trans hc0
        have c2 := (hbw.cell (p := ⟨b2, off2 + k, none⟩) hb2).trans hc2
        have NEk := Lib.hid (NE.out k)
        have SK := Lib.hid (show zs.getD k 0 = ys.getD k 0 → ∀ i, i < k + 1 → zs.getD i 0 = ys.getD i 0 from fun h i hi => by
          by_cases hik : i < k
          · exact hsame i hik
          · obtain rfl : i = k := by omega
            exact h)
        obtain ⟨x, hx⟩ : ∃ x, zs.getD k 0 = x := ⟨_, rfl⟩
        obtain ⟨y, hy⟩ : ∃ y, ys.getD k 0 = y := ⟨_, rfl⟩
        rw [hx] at c1 NEk
        rw [hy] at c2 NEk
        rw [hx, hy] at SK
        clear hx hy hc0 hc2 hsame
        have hi : (k : Int) < (n : Int) := by omega
        have HBW := Lib.hid hbw
        clear hbw
        by_cases hxy : x = y
        · subst hxy
          have hzb : ((x : Int) != x) = false := by simp
          have SK2 := Lib.hid (SK.out rfl)
          clear SK
          go_wp2_with fail
          go_quiet (fail)
          go_wp2_with fail
          go_roundw
          case rel => exact ⟨k + 1, by omega, by go_num, SK2.out, below_drewN HBW.out _⟩
          case measure => simp [intOf]; omega
        · have hzb : ((x : Int) != y) = true := by rw [bne_iff_ne]; omega
          obtain rfl := NEk.out hxy
          go_wp2_with fail
          go_quiet (fail)
          go_wp2_with fail
          go_ret
          exact ⟨rfl, below_drewN HBW.out _⟩
      · obtain rfl : k = n := by omega
        obtain rfl := EQ.out hsame
        go_wp2_with fail
        go_ret
        exact ⟨rfl, hbw⟩
  · obtain rfl : r = false := by
      rw [er, decide_eq_false_iff_not]; intro e; exact hnm (by rw [e])
    obtain ⟨n, en⟩ : ∃ n, ys.length = n := ⟨_, rfl⟩
    obtain ⟨m, em⟩ : ∃ m, zs.length = m := ⟨_, rfl⟩
    rw [en] at hnm hl2 ⊢
    rw [em] at hnm hl1 ⊢
    have hzb : ((m : Int) != n) = true := by rw [bne_iff_ne]; omega
    clear er en em HA HB
    go_enter Try.func22, Try.ntmps22
    go_wp2_with fail
    go_ret
    exact ⟨rfl, Below.refl _ _⟩
end Go.Proofs.Ytgoognipljknjaa
