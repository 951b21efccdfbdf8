/-
  Package poly: checkPoints; slices of points.
-/
import Derived.Test.YtgoognipljknjaaP6
namespace Go.Proofs.Ytgoognipljknjaa
open Go.RowKit
set_option linter.unusedVariables false

/-- the slice of points v reads as the places xs and the values ys -/
def Pts (w : World) (v : Value) (xs ys : List Nat) : Prop :=
  ys.length = xs.length ∧ xs.length ≤ 17592186043904 ∧ (∀ x ∈ xs, x < 18446744073709551616) ∧ (∀ y ∈ ys, y < 18446744073709551616) ∧ ∃ A cap, v = .slice A xs.length cap ∧ xs.length ≤ cap ∧
    (0 < xs.length → ∃ b off, A = some ⟨b, off, none⟩ ∧ b < w.heap.size ∧ ∀ i, i < xs.length → w.cell? ⟨b, off + i * 2, none⟩ = some (.int .u64 (xs.getD i 0 : Nat)) ∧ w.cell? ⟨b, off + i * 2 + 1, none⟩ = some (.int .u64 (ys.getD i 0 : Nat)))

namespace M
def chkP (p : Nat) (xs ys : List Nat) : Int := if isP p = false then 2 else if 201 < xs.length then 3 else if within p xs = true ∧ within p ys = true then 0 else 2
theorem chkP_no {p : Nat} (xs ys : List Nat) (h : isP p = false) : 2 = chkP p xs ys := by unfold chkP; rw [if_pos h]
theorem chkP_long {p : Nat} {xs ys : List Nat} (h : isP p = true) (hl : 201 < xs.length) : 3 = chkP p xs ys := by unfold chkP; rw [if_neg (by simp [h]), if_pos hl]
theorem chkP_out {p : Nat} {xs ys : List Nat} (h : isP p = true) (hl : ¬ 201 < xs.length) (hw : ¬ (within p xs = true ∧ within p ys = true)) : 2 = chkP p xs ys := by unfold chkP; rw [if_neg (by simp [h]), if_neg hl, if_neg hw]
theorem chkP_of {p : Nat} {xs ys : List Nat} (h : isP p = true) (hl : ¬ 201 < xs.length) (hw : within p xs = true ∧ within p ys = true) : 0 = chkP p xs ys := by unfold chkP; rw [if_neg (by simp [h]), if_neg hl, if_pos hw]
theorem chkP_ok {p : Nat} {xs ys : List Nat} (h : chkP p xs ys = 0) : isP p = true ∧ xs.length ≤ 201 ∧ within p xs = true ∧ within p ys = true := by
  unfold chkP at h
  split at h
  · cases h
  · split at h
    · cases h
    · split at h
      · rename_i h1 h2 h3; exact ⟨by simpa using h1, by omega, h3⟩
      · cases h
end M

set_option maxHeartbeats 1000000 in
theorem checkPoints_any (p : Nat) (v : Value) (xs ys : List Nat) (w : World) (hp : p < 18446744073709551616) (hv : Pts w v xs ys) :
    Calls Try.prog 114 #[.int .u64 p, v] w fun e w' => e = .returned (.int .i64 (M.chkP p xs ys)) ∧ Below w.heap.size w w' := by
  obtain ⟨hyl, hlen, hxu, hyu, A, cap, rfl, hcap, hC⟩ := hv
  have hc := is_any p w hp
  have HV := Lib.hid hC
  have HYL := Lib.hid hyl
  clear hC hcap hxu hyu hyl
  cases hi : M.isP p with
  | false =>
    rw [hi] at hc
    have HC := Lib.hid hc
    have HI := Lib.hid hi
    clear hi hc hp
    go_enter Try.func114, Try.ntmps114
    go_wp2_with (go_at_call 68; refine HC.out.mono ?_; rintro e w' ⟨rfl, rfl⟩)
    go_ret
    exact ⟨ret1 (M.chkP_no _ _ HI.out), Below.refl _ _⟩
  | true =>
    rw [hi] at hc
    have HC := Lib.hid hc
    have HI := Lib.hid hi
    clear hi hc
    by_cases hL : 201 < xs.length
    · go_enter Try.func114, Try.ntmps114
      go_wp2_with (go_at_call 68; refine HC.out.mono ?_; rintro e w' ⟨rfl, rfl⟩)
      go_ret
      exact ⟨ret1 (M.chkP_long HI.out hL), Below.refl _ _⟩
    · go_enter Try.func114, Try.ntmps114
      go_wp2_with (go_at_call 68; refine HC.out.mono ?_; rintro e w' ⟨rfl, rfl⟩)
      go_loopw [15] (fun t wr => ∃ k : Nat, k ≤ xs.length ∧ t = .int .i64 k ∧ M.within p (xs.take k) = true ∧ M.within p (ys.take k) = true ∧ Below w.heap.size w wr) (fun t _ => xs.length - (intOf t).toNat)
      case atStart => exact ⟨0, by omega, rfl, by simp [M.within], by simp [M.within], Below.refl _ _⟩
      case round =>
        obtain ⟨k, hk, rfl, hw1, hw2, hB⟩ := hrel
        have HW1 := Lib.hid hw1
        have HW2 := Lib.hid hw2
        have HB := Lib.hid hB
        clear hw1 hw2 hB
        by_cases hlt : k < xs.length
        · obtain ⟨b, off, rfl, hb, hcell⟩ := HV.out (by omega)
          have hc1 := (HB.out.cell (p := ⟨b, off + k * 2, none⟩) hb).trans (hcell k hlt).1
          have hc2 := (HB.out.cell (p := ⟨b, off + k * 2 + 1, none⟩) hb).trans (hcell k hlt).2
          obtain ⟨x, hx⟩ : ∃ x, x = xs.getD k 0 := ⟨_, rfl⟩
          obtain ⟨y, hy⟩ : ∃ y, y = ys.getD k 0 := ⟨_, rfl⟩
          rw [← hx] at hc1
          rw [← hy] at hc2
          have HX := Lib.hid hx
          have HY := Lib.hid hy
          have hud : ∀ b : Bool, undef ≠ Value.bool b := fun b h => by cases h
          clear hx hy hcell
          have hb1 : wr.heap.size ≠ b := by have := HB.out.size; omega
          by_cases hpx : p ≤ x
          · have g1 : decide ((p : Int) ≤ (x : Int)) = true := by simp; omega
            go_wp2
            go_ret
            refine ⟨ret1 (M.chkP_out HI.out hL (fun h => ?_)), HB.out.alloc HB.out.size _⟩
            have := M.within_mem h.1 hlt
            rw [← HX.out] at this
            omega
          · have g1 : decide ((p : Int) ≤ (x : Int)) = false := by simp; omega
            by_cases hpy : p ≤ y
            · have g2 : decide ((p : Int) ≤ (y : Int)) = true := by simp; omega
              go_wp2
              go_ret
              refine ⟨ret1 (M.chkP_out HI.out hL (fun h => ?_)), HB.out.alloc HB.out.size _⟩
              have := M.within_mem h.2 (show k < ys.length by have := HYL.out; omega)
              rw [← HY.out] at this
              omega
            · have g2 : decide ((p : Int) ≤ (y : Int)) = false := by simp; omega
              go_wp2
              go_roundw
              case rel => exact ⟨k + 1, by omega, by go_num, M.within_take hlt HW1.out (by rw [← HX.out]; omega), M.within_take (by have := HYL.out; omega) HW2.out (by rw [← HY.out]; omega), HB.out.alloc HB.out.size _⟩
              case measure => simp [intOf]; omega
        · go_wp2
          go_ret
          have hk' : k = xs.length := by omega
          have h := HW1.out
          have h2 := HW2.out
          rw [hk', List.take_length] at h
          rw [hk', ← HYL.out, List.take_length] at h2
          exact ⟨ret1 (M.chkP_of HI.out hL ⟨h, h2⟩), HB.out⟩
end Go.Proofs.Ytgoognipljknjaa
