/-
  The reference of layer 2: Twice, unit.
-/
import Derived.Test.YtgoognipljknjaaRef2c
import Derived.Test.YtgoognipljknjaaLagM
import Derived.Deep.RegionWith
namespace Go.Proofs.Ytgoognipljknjaa
open Go.RowKit
set_option linter.unusedVariables false

namespace M
def twice (xs : List Nat) : Bool := decide (¬ xs.Nodup)
theorem twice_yes {xs : List Nat} (h : ¬ xs.Nodup) : true = twice xs := by unfold twice; simp [h]
theorem twice_no {xs : List Nat} (h : xs.Nodup) : false = twice xs := by unfold twice; simp [h]
end M

set_option maxHeartbeats 1000000 in
theorem twice_any (v : Value) (xs : List Nat) (w : World) (hv : Nums w v xs) :
    Calls Try.prog 77 #[v] w fun e w' => e = .returned (.bool (M.twice xs)) ∧ Below w.heap.size w w' := by
  obtain ⟨A, cap, rfl, hcap, hlen, hC⟩ := nums_view hv
  have HV := Lib.hid hC
  clear hv hC hcap
  go_enter Try.func77, Try.ntmps77
  go_wp2_with fail
  go_loopw [7] (fun t wr => ∃ i : Nat, i ≤ xs.length ∧ t = .int .i64 i ∧ M.Diff xs i ∧ Below w.heap.size w wr) (fun t _ => xs.length - (intOf t).toNat)
  case atStart => exact ⟨0, by omega, rfl, fun a b h1 h2 => by omega, Below.refl _ _⟩
  case round =>
    obtain ⟨i, hi, rfl, hd, hB⟩ := hrel
    have HD := Lib.hid hd
    have HB := Lib.hid hB
    clear hd hB
    by_cases hlt : i < xs.length
    · obtain ⟨b, off, rfl, hb, hcell⟩ := HV.out (by omega)
      have HCELL := Lib.hid hcell
      obtain ⟨x, ex⟩ : ∃ x, x = xs.getD i 0 := ⟨_, rfl⟩
      have HX := Lib.hid ex
      clear ex hcell
      obtain ⟨wo, rfl⟩ : ∃ wo : World, wo = wr := ⟨_, rfl⟩
      go_wp2_with fail
      go_loopw [4] (fun t wr => ∃ k : Nat, k ≤ i ∧ t = .int .i64 k ∧ (∀ j, j < k → xs.getD j 0 ≠ xs.getD i 0) ∧ Below w.heap.size w wr) (fun t _ => i - (intOf t).toNat)
      case atStart => exact ⟨0, by omega, rfl, fun j hj => by omega, HB.out⟩
      case round =>
        obtain ⟨k, hk, rfl, hne, hB2⟩ := hrel
        have HNE := Lib.hid hne
        have HB2 := Lib.hid hB2
        clear hne hB2
        by_cases hki : k < i
        · have hci := (HB2.out.cell (p := ⟨b, off + i, none⟩) hb).trans (HCELL.out i hlt)
          have hck := (HB2.out.cell (p := ⟨b, off + k, none⟩) hb).trans (HCELL.out k (by omega))
          rw [← HX.out] at hci
          obtain ⟨y, ey⟩ : ∃ y, y = xs.getD k 0 := ⟨_, rfl⟩
          rw [← ey] at hck
          have HY := Lib.hid ey
          have hi1 : (i : Int) < (xs.length : Nat) := by omega
          have hi2 : (k : Int) < (xs.length : Nat) := by omega
          clear ey
          by_cases hxy : x = y
          · have hbq : ((x : Int) == (y : Int)) = true := by rw [beq_iff_eq]; omega
            have HXY := Lib.hid hxy
            clear hxy
            go_wp2_with fail
            go_quiet (fail)
            go_wp2_with fail
            go_ret
            refine ⟨ret_bool (M.twice_yes fun hn => ?_), below_drewN HB2.out _⟩
            have := M.getD_inj_of_nodup hn (i := i) (j := k) hlt (by omega) (by rw [← HX.out, ← HY.out, HXY.out])
            omega
          · have hbq : ((x : Int) == (y : Int)) = false := by rw [beq_eq_false_iff_ne]; omega
            have HXY := Lib.hid hxy
            clear hxy
            go_wp2_with fail
            go_quiet (fail)
            go_wp2_with fail
            go_roundw
            case rel =>
              refine ⟨k + 1, by omega, by go_num, fun j hj => ?_, below_drewN HB2.out _⟩
              by_cases he : j = k
              · subst he; rw [← HX.out, ← HY.out]; exact fun h => HXY.out h.symm
              · exact HNE.out j (by omega)
            case measure => simp [intOf]; omega
        · obtain rfl : k = i := by omega
          go_wp2_with fail
          go_roundw
          case rel =>
            refine ⟨k + 1, by omega, by go_num, fun a b h1 h2 => ?_, HB2.out⟩
            by_cases he : b = k
            · subst he; exact HNE.out a h1
            · exact HD.out a b h1 (by omega)
          case measure => simp [intOf]; omega
    · obtain rfl : i = xs.length := by omega
      go_wp2_with fail
      go_ret
      exact ⟨ret_bool (M.twice_no HD.out.nodup), HB.out⟩

set_option maxRecDepth 100000 in
set_option maxHeartbeats 4000000 in
theorem unit_any (p i : Nat) (v : Value) (xs : List Nat) (w : World) (h3 : 3 ≤ p) (hp : p ≤ 65537) (hw : M.within p xs = true) (hxl : xs.length ≤ 201) (hil : i < xs.length) (hv : Nums w v xs) :
    Calls Try.prog 92 #[.int .u64 p, v, .int .i64 i] w fun e w' => ∃ v' u, e = .returned v' ∧ Nums w' v' u ∧ M.UnitK p xs i xs.length u ∧ Below w.heap.size w w' := by
  obtain ⟨A, cap, rfl, hcap, hlen, hC⟩ := nums_view hv
  obtain ⟨b, off, rfl, hb, hcell⟩ := hC (by omega)
  have HV := Lib.hid hcell
  have HW := Lib.hid hw
  clear hv hC hcap hw hcell
  go_enter Try.func92, Try.ntmps92
  go_wp2_with fail
  have hz0 := Lib.hid (nums1 w 1 (by omega))
  go_loopw [7, 13] (fun t7 t wr => ∃ (k : Nat) (u : List Nat), k ≤ xs.length ∧ t = .int .i64 k ∧ Nums wr t7 u ∧ M.UnitK p xs i k u ∧ Below w.heap.size w wr) (fun _ t _ => xs.length - (intOf t).toNat)
  case atStart => exact ⟨0, [1], by omega, rfl, hz0.out, M.UnitK.start (by omega) _ _, balloc w _⟩
  case round =>
    obtain ⟨k, u, hk, rfl, hN, hU, hB⟩ := hrel
    have HN := Lib.hid hN
    have HU := Lib.hid hU
    have HB := Lib.hid hB
    clear hN hU hB hz0
    by_cases hlt : k < xs.length
    · have hc1 := (HB.out.cell (p := ⟨b, off + k, none⟩) hb).trans (HV.out k hlt)
      have hx := M.within_mem HW.out hlt
      by_cases hki : k = i
      · have hbq : ((k : Int) != (i : Int)) = false := by rw [bne_eq_false_iff_eq]; omega
        have HKI := Lib.hid hki
        obtain ⟨x, ex⟩ : ∃ x, x = xs.getD k 0 := ⟨_, rfl⟩
        rw [← ex] at hc1
        clear hki ex hx
        go_wp2_with fail
        go_roundw
        case rel => exact ⟨k + 1, u, by omega, by go_num, HN.out, by have h1 := HU.out; have h2 := HKI.out; subst h2; exact h1.skip, HB.out⟩
        case measure => simp [intOf]; omega
      · have hbq : ((k : Int) != (i : Int)) = true := by rw [bne_iff_ne]; omega
        have hc2 := (HB.out.cell (p := ⟨b, off + i, none⟩) hb).trans (HV.out i hil)
        have hxi := M.within_mem HW.out hil
        have hst := M.UnitK.step (by omega) HW.out hlt hki HU.out
        have hul : u.length ≤ 202 := by have := HU.out.2.1; unfold M.cnt at this; split at this <;> omega
        obtain ⟨x, ex⟩ : ∃ x, x = xs.getD k 0 := ⟨_, rfl⟩
        obtain ⟨y, ey⟩ : ∃ y, y = xs.getD i 0 := ⟨_, rfl⟩
        rw [← ex] at hc1 hx hst
        rw [← ey] at hc2 hxi hst
        have s1 : ∀ W, Calls Try.prog 87 #[.int .u64 p, .int .u64 0, .int .u64 x] W fun e w' => e = .returned (.int .u64 ((0 + p - x) % p : Nat)) ∧ W = w' := fun W => refSub_any p 0 x W (by omega) hp (by omega) hx
        have s2 := fun W => refSub_any p y x W (by omega) hp hxi hx
        obtain ⟨a, ea⟩ : ∃ a, a = (0 + p - x) % p := ⟨_, rfl⟩
        obtain ⟨c, ec⟩ : ∃ c, c = (y + p - x) % p := ⟨_, rfl⟩
        have hal : a < p := by rw [ea]; exact Nat.mod_lt _ (by omega)
        have hcl : c < p := by rw [ec]; exact Nat.mod_lt _ (by omega)
        rw [← ea] at s1 hst
        rw [← ec] at s2 hst
        have s3 := fun W => refInv_any p c W h3 hp hcl
        obtain ⟨q, eq⟩ : ∃ q, q = M.pw p c (p - 2) := ⟨_, rfl⟩
        have hql : q < p := by rw [eq]; exact M.pw_lt _ _ (by omega)
        rw [← eq] at s3 hst
        have hwl : M.within p [a, 1] = true := by unfold M.within; simp; omega
        have m1 := fun W V V2 (h1 : Nums W V u) (h2 : Nums W V2 [a, 1]) => rmul_any p V V2 u [a, 1] W (by omega) hp HU.out.1 hwl (by omega) (by simp) h1 h2
        have hml : (M.pmul p u [a, 1]).length ≤ u.length + 2 := M.poly_len _ _ _
        have m2 := fun W V (h1 : Nums W V (M.pmul p u [a, 1])) => rscale_any p q V (M.pmul p u [a, 1]) W (by omega) hp hql (M.poly_within (by omega) _ _) (by omega) h1
        have S1 := Lib.hid s1
        have S2 := Lib.hid s2
        have S3 := Lib.hid s3
        have M1 := Lib.hid m1
        have M2 := Lib.hid m2
        have HST := Lib.hid hst
        have HND : Hid (Nums wr.drew u7 u) := Lib.hid HN.out
        have HC2D : Hid (wr.drew.cell? ⟨b, off + i, none⟩ = some (.int .u64 y)) := Lib.hid hc2
        have hbw : b < wr.heap.size := Nat.lt_of_lt_of_le hb HB.out.size
        have hau : a < 18446744073709551616 := by omega
        have hi1 : (i : Int) < (xs.length : Nat) := by omega
        clear s1 s2 s3 m1 m2 hst hwl hml ex ey ea ec eq hki
        go_wp2_with fail
        go_region_with (first
          | (go_at_call 87; first | ((with_reducible refine (S1.out _).mono ?_); rintro e w' ⟨rfl, rfl⟩) | ((with_reducible refine (S2.out _).mono ?_); rintro e w' ⟨rfl, rfl⟩))
          | (go_at_call 104; (with_reducible refine (S3.out _).mono ?_); rintro e w' ⟨rfl, rfl⟩)
          | (go_at_call 125; refine (M1.out _ _ _ ?_ ?_).mono ?_; exact HND.out.below (balloc wr.drew _); exact nums2 wr.drew a 1 hau (by omega); rintro e w3 ⟨v3, rfl, hn3, hb3⟩; have cy3 := (hb3.cell (p := ⟨b, off + i, none⟩) (by simp; omega)).trans (cellAl _ HC2D.out))
          | (go_at_call 89; refine (M2.out _ _ (by assumption)).mono ?_; rintro e w4 ⟨v4, rfl, hn4, hb4⟩))
        all_goals
          have hB3 := Below.trans (balloc wr (.cells #[.int .u64 (a : Nat), .int .u64 1] 22)).drew (Below.mono hb3 (by simp))
          have HB4 := Lib.hid (bnext (bnext HB.out hB3) hb4)
          have HN4 := Lib.hid hn4
          clear hb3 hb4 hn3 hn4 cy3 hB3
          go_wp2_with fail
          go_roundw
          case rel => exact ⟨k + 1, _, by omega, by go_num, HN4.out, HST.out, HB4.out⟩
          case measure => simp [intOf]; omega
    · obtain rfl : k = xs.length := by omega
      go_wp2_with fail
      go_ret
      exact ⟨_, u, rfl, HN.out, HU.out, HB.out⟩
end Go.Proofs.Ytgoognipljknjaa
