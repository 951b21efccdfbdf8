/-
  The reference's One; layer 2's Twice.
-/
import Derived.Test.YtaaipcdipdkooaaUnlikeM
import Derived.Test.YtaaipcdipdkooaaRnull
import Derived.Test.YtaaipcdipdkooaaLagM
import Derived.Deep.RegionWith
import Derived.Deep.Quiet
import Derived.Deep.QuietTactic
namespace Go.Proofs.Ytaaipcdipdkooaa
open Go.RowKit
set_option linter.unusedVariables false

namespace M
def twice (xs : List Nat) : Bool := decide (¬ xs.Nodup)
theorem twice_yes {xs : List Nat} (h : ¬ xs.Nodup) : true = twice xs := by unfold twice; simp [h]
theorem twice_no {xs : List Nat} (h : xs.Nodup) : false = twice xs := by unfold twice; simp [h]
end M

set_option maxHeartbeats 1000000 in
theorem twice_any (v : Value) (xs : List Nat) (w : World) (hv : Nums w v xs) :
    Calls Try.prog 45 #[v] w fun e w' => e = .returned (.bool (M.twice xs)) ∧ Below w.heap.size w w' := by
  obtain ⟨A, cap, rfl, hcap, hlen, hC⟩ := nums_view hv
  have HV := Lib.hid hC
  clear hv hC hcap
  go_enter Try.func45, Try.ntmps45
  go_wp2_with fail
  go_loopw [7] (fun t wr => ∃ i : Nat, i ≤ xs.length ∧ t = .int .i64 i ∧ M.Diff xs i ∧ Below w.heap.size w wr) (fun t _ => xs.length - (intOf t).toNat)
  case atStart => exact ⟨0, by omega, rfl, fun a b h1 h2 => by omega, Below.refl _ _⟩
  case round =>
    obtain ⟨i, hi, rfl, hd, hB⟩ := hrel
    have HD := Lib.hid hd
    have HB := Lib.hid hB
    clear hd hB
    by_cases hlt : i < xs.length
    · obtain ⟨b, off, rfl, hb, hcell⟩ := HV.out (by omega)
      have HCELL := Lib.hid hcell
      obtain ⟨x, ex⟩ : ∃ x, x = xs.getD i 0 := ⟨_, rfl⟩
      have HX := Lib.hid ex
      clear ex hcell
      obtain ⟨wo, rfl⟩ : ∃ wo : World, wo = wr := ⟨_, rfl⟩
      go_wp2_with fail
      go_loopw [4] (fun t wr => ∃ k : Nat, k ≤ i ∧ t = .int .i64 k ∧ (∀ j, j < k → xs.getD j 0 ≠ xs.getD i 0) ∧ Below w.heap.size w wr) (fun t _ => i - (intOf t).toNat)
      case atStart => exact ⟨0, by omega, rfl, fun j hj => by omega, HB.out⟩
      case round =>
        obtain ⟨k, hk, rfl, hne, hB2⟩ := hrel
        have HNE := Lib.hid hne
        have HB2 := Lib.hid hB2
        clear hne hB2
        by_cases hki : k < i
        · have hci := (HB2.out.cell (p := ⟨b, off + i, none⟩) hb).trans (HCELL.out i hlt)
          have hck := (HB2.out.cell (p := ⟨b, off + k, none⟩) hb).trans (HCELL.out k (by omega))
          rw [← HX.out] at hci
          obtain ⟨y, ey⟩ : ∃ y, y = xs.getD k 0 := ⟨_, rfl⟩
          rw [← ey] at hck
          have HY := Lib.hid ey
          have hi1 : (i : Int) < (xs.length : Nat) := by omega
          have hi2 : (k : Int) < (xs.length : Nat) := by omega
          clear ey
          by_cases hxy : x = y
          · have hbq : ((x : Int) == (y : Int)) = true := by rw [beq_iff_eq]; omega
            have HXY := Lib.hid hxy
            clear hxy
            go_wp2_with fail
            go_quiet (fail)
            go_wp2_with fail
            go_ret
            refine ⟨ret_bool (M.twice_yes fun hn => ?_), below_drewN HB2.out _⟩
            have := M.getD_inj_of_nodup hn (i := i) (j := k) hlt (by omega) (by rw [← HX.out, ← HY.out, HXY.out])
            omega
          · have hbq : ((x : Int) == (y : Int)) = false := by rw [beq_eq_false_iff_ne]; omega
            have HXY := Lib.hid hxy
            clear hxy
            go_wp2_with fail
            go_quiet (fail)
            go_wp2_with fail
            go_roundw
            case rel =>
              refine ⟨k + 1, by omega, by go_num, fun j hj => ?_, below_drewN HB2.out _⟩
              by_cases he : j = k
              · subst he; rw [← HX.out, ← HY.out]; exact fun h => HXY.out h.symm
              · exact HNE.out j (by omega)
            case measure => simp [intOf]; omega
        · obtain rfl : k = i := by omega
          go_wp2_with fail
          go_roundw
          case rel =>
            refine ⟨k + 1, by omega, by go_num, fun a b h1 h2 => ?_, HB2.out⟩
            by_cases he : b = k
            · subst he; exact HNE.out a h1
            · exact HD.out a b h1 (by omega)
          case measure => simp [intOf]; omega
    · obtain rfl : i = xs.length := by omega
      go_wp2_with fail
      go_ret
      exact ⟨ret_bool (M.twice_no HD.out.nodup), HB.out⟩


set_option maxHeartbeats 4000000 in
set_option maxRecDepth 100000 in
theorem rone_any (n : Nat) (w : World) (h1 : 1 ≤ n) (h64 : n ≤ 64) :
    Calls Try.prog 33 #[.int .i64 n] w fun e w' => ∃ v', e = .returned v' ∧ Mat w' v' (M.tabMM n n fun i j => if j = i then 1 else 0) ∧ Below w.heap.size w w' := by
  obtain ⟨cs, hmk, hmrow⟩ := make_u64 n (by omega)
  have HMK := Lib.hid hmk
  have HMR := Lib.hid hmrow
  clear hmk hmrow
  go_enter Try.func33, Try.ntmps33
  go_wp2_with fail
  go_loopw [7, 3] (fun ti tl wr => ∃ i : Nat, i ≤ n ∧ ti = .int .i64 i ∧ (∃ G' Cp', MatA wr w.heap.size tl i n G' Cp' (fun i j => if j = i then 1 else 0)) ∧ Below w.heap.size w wr) (fun ti _ _ => n - (intOf ti).toNat)
  case atStart => exact ⟨0, by omega, rfl, ⟨_, _, MatA.start _ _ _ _⟩, Below.refl _ _⟩
  case round =>
    obtain ⟨i, hi, rfl, ⟨G', Cp', hA⟩, hB⟩ := hrel
    have HA := Lib.hid hA
    have HB := Lib.hid hB
    obtain ⟨Ao, co, hform⟩ := hA.form
    subst hform
    clear hA hB
    by_cases hin : i < n
    · have hmk := HMK.out
      have hq := HMR.out wr
      have z1 := hq.cell hin
      have z2 := hq.free i
      have hset5 := (hq.set hin 1)
      have e5 : (wr.alloc (.cells cs 22)).setCell ⟨wr.heap.size, i, none⟩ (.int .u64 (1 : Nat)) = wr.alloc (.cells (cs.setIfInBounds i (.int .u64 1)) 22) := World.setCell_alloc_new cs _ i _
      rw [e5] at hset5
      have hb5 := balloc wr (.cells (cs.setIfInBounds i (.int .u64 1)) 22)
      have HA2 := Lib.hid (HA.out.below hb5 (Nat.le_refl _))
      have HROW := Lib.hid (show Row (wr.alloc (.cells (cs.setIfInBounds i (.int .u64 1)) 22)) wr.heap.size n (fun j => if j = i then 1 else 0) from hset5.congr fun j hj => rfl)
      have HNE := Lib.hid (show ∀ j, j < i → G' j ≠ wr.heap.size from fun j hj => by have := (HA.out.row j hj).lt; omega)
      have hws := HB.out.size
      have hs3 := Nat.le_trans hws hb5.size
      have HSZ := Lib.hid (show (wr.alloc (.cells (cs.setIfInBounds i (.int .u64 1)) 22)).heap.size = wr.heap.size + 1 by simp)
      have hk2 : i ≤ 1000 := by omega
      have HB6 := Lib.hid (HB.out.trans (hb5.mono hws))
      clear hq hset5 e5 hb5
      go_wp2_with (at_builtin; refine wpList_append_row (k := i) (F := fun i j => if j = i then 1 else 0) rfl _ _ rfl rfl (by rw [HSZ.out]; rfl) HA2.out HROW.out hws (Nat.le_refl _) HNE.out hk2 hs3 ?_)
      intro v4 w5 hA5 hb5
      have HA5 := Lib.hid hA5
      have HB7 := Lib.hid (HB6.out.trans hb5)
      clear hA5 hb5
      go_wp2_with fail
      go_roundw
      case rel => exact ⟨i + 1, by omega, by go_num, ⟨_, _, HA5.out⟩, HB7.out⟩
      case measure => simp [intOf]; omega
    · obtain rfl : n = i := by omega
      go_wp2_with fail
      go_ret
      exact ⟨_, rfl, HA.out.mat (by omega) (by omega) (fun i hi j hj => by split <;> omega), HB.out⟩
end Go.Proofs.Ytaaipcdipdkooaa
