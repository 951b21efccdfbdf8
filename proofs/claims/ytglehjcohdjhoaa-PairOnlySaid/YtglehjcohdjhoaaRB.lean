/-
  Ref2c, Ref2d, Ref2f (joined).
-/
import Derived.Test.YtglehjcohdjhoaaRA
import Derived.Test.YtglehjcohdjhoaaMA
import Derived.Test.YtglehjcohdjhoaaLF
import Derived.Deep.RegionWith
namespace Go.Proofs.Ytglehjcohdjhoaa
open Go.RowKit
set_option linter.unusedVariables false

set_option maxRecDepth 100000 in
set_option maxHeartbeats 2000000 in
theorem rmul_any (p : Nat) (vf vg : Value) (f g : List Nat) (w : World) (h2 : 0 < p) (hp : p ≤ 65537) (hwf : M.within p f = true) (hwg : M.within p g = true) (hfl : f.length ≤ 1000) (hgl : g.length ≤ 1000) (hf : Nums w vf f) (hg : Nums w vg g) :
    Calls Try.prog 75 #[.int .u64 p, vf, vg] w (Gives w (M.pmul p f g)) := by
  obtain ⟨A, cap, rfl, _, hlf, hCf⟩ := nums_view hf
  obtain ⟨A2, cap2, rfl, _, hlg, hCg⟩ := nums_view hg
  have HF := Lib.hid hCf
  have HG := Lib.hid hCg
  have HWF := Lib.hid hwf
  have HWG := Lib.hid hwg
  obtain ⟨i0, hi0, hz0, hz1, hz2⟩ := info_parts infoU64
  obtain ⟨n, en⟩ : ∃ n, n = f.length + g.length := ⟨_, rfl⟩
  have en' : (f.length : Int) + g.length = (n : Nat) := by omega
  have EN := Lib.hid en'
  have ENN := Lib.hid en
  have hnl : n ≤ 2000 := by omega
  clear hf hg hCf hCg hwf hwg en en'
  go_enter Try.func75, Try.ntmps75
  go_wp2_with (refine wpList_make_rowL _ rfl _ _ 30 rfl 22 i0 (.int .u64 0) Try.underlying30 hi0 hz0 hz1 rfl .i64 .i64 _ _ n rfl rfl EN.out EN.out (by rw [hz2]; omega) (by omega) ?_; intro rep hrep; have HREP := Lib.hid hrep; clear hrep)
  have hr : Rw (w.alloc (.cells rep.toArray 22)) w.heap.size n (M.prodAt p f g 0 0) := by
    intro i hi
    have h1 := World.alloc_heap_new w (.cells rep.toArray 22)
    refine ⟨?_, frozen_of_row _ _ i _ _ h1⟩
    rw [cell_of_row _ _ i _ _ (0, 0) h1, HREP.out, M.prodAt_zero]
    simp [hi]
  have HR := Lib.hid hr
  clear hr
  go_wp2_with fail
  go_loopw [18] (fun t wr => ∃ k : Nat, k ≤ f.length ∧ t = .int .i64 k ∧ Rw wr w.heap.size n (M.prodAt p f g k 0) ∧ Below w.heap.size w wr ∧ w.heap.size < wr.heap.size) (fun t _ => f.length - (intOf t).toNat)
  case atStart => exact ⟨0, by omega, rfl, HR.out, balloc w _, by simp⟩
  case round =>
    obtain ⟨k, hk, rfl, hr, hB, hsz⟩ := hrel
    have HR2 := Lib.hid hr
    have HB2 := Lib.hid hB
    have HS2 := Lib.hid hsz
    clear hr hB hsz
    by_cases hlt : k < f.length
    · obtain ⟨b, off, rfl, hb, hcf⟩ := HF.out (by omega)
      have HCF := Lib.hid hcf
      clear hcf
      have hx := M.within_mem HWF.out hlt
      obtain ⟨x, ex⟩ : ∃ x, x = f.getD k 0 := ⟨_, rfl⟩
      rw [← ex] at hx
      have HX := Lib.hid ex
      clear ex
      obtain ⟨wo, rfl⟩ : ∃ wo : World, wo = wr := ⟨_, rfl⟩
      go_wp2_with fail
      go_loopw [23] (fun t wr => ∃ j : Nat, j ≤ g.length ∧ t = .int .i64 j ∧ Rw wr w.heap.size n (M.prodAt p f g k j) ∧ Below w.heap.size w wr ∧ w.heap.size < wr.heap.size) (fun t _ => g.length - (intOf t).toNat)
      case atStart => exact ⟨0, by omega, rfl, HR2.out, HB2.out, HS2.out⟩
      case round =>
        obtain ⟨j, hj, rfl, hr3, hB3, hs3⟩ := hrel
        by_cases hjl : j < g.length
        · obtain ⟨b2, off2, rfl, hb2, hcg⟩ := HG.out (by omega)
          have hc1 := (hB3.cell (p := ⟨b, off + k, none⟩) hb).trans (HCF.out k hlt)
          rw [← HX.out] at hc1
          have hc2 := (hB3.cell (p := ⟨b2, off2 + j, none⟩) hb2).trans (hcg j hjl)
          have hy := M.within_mem HWG.out hjl
          have hkj : k + j < n := by have := ENN.out; omega
          obtain ⟨c3, f3⟩ := hr3 (k + j) hkj
          have hlt3 := M.prodAt_lt h2 f g k j (k + j)
          have hr4 := fun W (hW : Rw W w.heap.size n (M.prodAt p f g k j)) => (hW.set hkj ((M.prodAt p f g k j (k + j) + f.getD k 0 * g.getD j 0) % p)).congr (fun i _ => M.prodAt_step p f g k j i)
          obtain ⟨y, ey⟩ : ∃ y, y = g.getD j 0 := ⟨_, rfl⟩
          obtain ⟨z, ez⟩ : ∃ z, z = M.prodAt p f g k j (k + j) := ⟨_, rfl⟩
          rw [← ey] at hc2 hy hr4
          rw [← HX.out] at hr4
          rw [← ez] at c3 hlt3 hr4
          have hm := fun W => refMul_any p x y W (by omega) hp hx hy
          have hml : x * y % p < p := Nat.mod_lt _ h2
          have e0 : (z + x * y) % p = (z + x * y % p) % p := by rw [Nat.add_mod_mod]
          rw [e0] at hr4
          obtain ⟨m, em⟩ : ∃ m, m = x * y % p := ⟨_, rfl⟩
          rw [← em] at hm hml hr4
          have ha := fun W => refAdd_any p z m W (by omega) hp hlt3 hml
          obtain ⟨q, eq⟩ : ∃ q, q = (z + m) % p := ⟨_, rfl⟩
          rw [← eq] at ha hr4
          have HM := Lib.hid hm
          have HA := Lib.hid ha
          have HR4 := Lib.hid hr4
          have HB3 := Lib.hid hB3
          have HS3 := Lib.hid hs3
          have HRR3 := Lib.hid hr3
          have hi1 : (k : Int) + j < (n : Nat) := by omega
          have hi2 : (j : Int) < (g.length : Nat) := by omega
          have hi3 : (k : Int) < (f.length : Nat) := by omega
          have i1 : IntKind.i64.wrap ((k : Int) + j) = (k : Int) + j := IntWalk.i64_in _ (by omega)
          have i2 : (0 : Int) ≤ (k : Int) + j := by omega
          have i3 : ((k : Int) + j).toNat = k + j := by omega
          clear hr3 hB3 hr4 ey ez em eq e0 hs3 hcg
          go_wp2_with fail
          refine wp_region_still_tail 23 (by kernel_rfl) (by kernel_rfl) ?_
          simp only [List.take_succ_cons, List.take_zero, List.drop_succ_cons, List.drop_zero]
          iterate 20 still_step
          still_call ((HM.out _).mono fun e w' ⟨h1, h2⟩ => ⟨h1, h2.symm⟩)
          still_call ((HA.out _).mono fun e w' ⟨h1, h2⟩ => ⟨h1, h2.symm⟩)
          iterate 1 still_step
          refine wpStill_nil ?_
          change wpList _ _ _ _ _ wr.drew
          obtain ⟨w2, hw2⟩ : ∃ w2, wr.drew = w2 := ⟨_, rfl⟩
          have hr5 : Rw w2 w.heap.size n (M.prodAt p f g k j) := by rw [← hw2]; exact HRR3.out
          have hB5 : Below w.heap.size w w2 := by rw [← hw2]; exact HB3.out.drew
          have hs5 : w.heap.size < w2.heap.size := by rw [← hw2]; exact HS3.out
          obtain ⟨c5, f5⟩ := hr5 (k + j) hkj
          have HR5 := Lib.hid (HR4.out w2 hr5)
          have HB5 := Lib.hid (hB5.setCell (p := ⟨w.heap.size, k + j, none⟩) (Nat.le_refl _) (.int .u64 (q : Nat)))
          have HS5 := Lib.hid hs5
          rw [hw2]
          clear hw2 hr5 hB5 hs5
          go_wp2_with fail
          go_roundw
          case rel => exact ⟨j + 1, by omega, by go_num, HR5.out, HB5.out, by simpa using HS5.out⟩
          case measure => simp [intOf]; omega
        · obtain rfl : j = g.length := by omega
          have HR3 := Lib.hid (hr3.congr (fun i _ => M.prodAt_next p f g hlt i))
          have HB3 := Lib.hid hB3
          have HS3 := Lib.hid hs3
          clear hr3 hB3 hs3
          go_wp2_with fail
          go_roundw
          case rel => exact ⟨k + 1, by omega, by go_num, HR3.out, HB3.out, HS3.out⟩
          case measure => simp [intOf]; omega
    · obtain rfl : k = f.length := by omega
      have hN5 := (HR2.out.congr (fun i _ => M.prodAt_end p f g i)).nums HS2.out (by omega) (fun i _ => by have := Nat.mod_lt (M.mulAt f (M.at_ g) i) h2; omega)
      have HT := Lib.hid (rtrim_any _ _ wr hN5)
      clear hN5
      go_wp2_with fail
      refine HT.out.mono ?_
      rintro e w2 ⟨v2, rfl, hn3, hb3⟩
      have B3 := Lib.hid (bnext HB2.out hb3)
      have N3 := Lib.hid hn3
      clear hn3 hb3
      go_wp2_with fail
      go_ret
      refine ⟨_, rfl, ?_, B3.out⟩
      unfold M.pmul M.poly
      rw [← ENN.out]
      exact N3.out
end Go.Proofs.Ytglehjcohdjhoaa
namespace Go.Proofs.Ytglehjcohdjhoaa
open Go.RowKit
set_option linter.unusedVariables false

namespace M
def twice (xs : List Nat) : Bool := decide (¬ xs.Nodup)
theorem twice_yes {xs : List Nat} (h : ¬ xs.Nodup) : true = twice xs := by unfold twice; simp [h]
theorem twice_no {xs : List Nat} (h : xs.Nodup) : false = twice xs := by unfold twice; simp [h]
end M

set_option maxHeartbeats 1000000 in
theorem twice_any (v : Value) (xs : List Nat) (w : World) (hv : Nums w v xs) :
    Calls Try.prog 47 #[v] w fun e w' => e = .returned (.bool (M.twice xs)) ∧ Below w.heap.size w w' := by
  obtain ⟨A, cap, rfl, hcap, hlen, hC⟩ := nums_view hv
  have HV := Lib.hid hC
  clear hv hC hcap
  go_enter Try.func47, Try.ntmps47
  go_wp2_with fail
  go_loopw [7] (fun t wr => ∃ i : Nat, i ≤ xs.length ∧ t = .int .i64 i ∧ M.Diff xs i ∧ Below w.heap.size w wr) (fun t _ => xs.length - (intOf t).toNat)
  case atStart => exact ⟨0, by omega, rfl, fun a b h1 h2 => by omega, Below.refl _ _⟩
  case round =>
    obtain ⟨i, hi, rfl, hd, hB⟩ := hrel
    have HD := Lib.hid hd
    have HB := Lib.hid hB
    clear hd hB
    by_cases hlt : i < xs.length
    · obtain ⟨b, off, rfl, hb, hcell⟩ := HV.out (by omega)
      have HCELL := Lib.hid hcell
      obtain ⟨x, ex⟩ : ∃ x, x = xs.getD i 0 := ⟨_, rfl⟩
      have HX := Lib.hid ex
      clear ex hcell
      obtain ⟨wo, rfl⟩ : ∃ wo : World, wo = wr := ⟨_, rfl⟩
      go_wp2_with fail
      go_loopw [4] (fun t wr => ∃ k : Nat, k ≤ i ∧ t = .int .i64 k ∧ (∀ j, j < k → xs.getD j 0 ≠ xs.getD i 0) ∧ Below w.heap.size w wr) (fun t _ => i - (intOf t).toNat)
      case atStart => exact ⟨0, by omega, rfl, fun j hj => by omega, HB.out⟩
      case round =>
        obtain ⟨k, hk, rfl, hne, hB2⟩ := hrel
        have HNE := Lib.hid hne
        have HB2 := Lib.hid hB2
        clear hne hB2
        by_cases hki : k < i
        · have hci := (HB2.out.cell (p := ⟨b, off + i, none⟩) hb).trans (HCELL.out i hlt)
          have hck := (HB2.out.cell (p := ⟨b, off + k, none⟩) hb).trans (HCELL.out k (by omega))
          rw [← HX.out] at hci
          obtain ⟨y, ey⟩ : ∃ y, y = xs.getD k 0 := ⟨_, rfl⟩
          rw [← ey] at hck
          have HY := Lib.hid ey
          have hi1 : (i : Int) < (xs.length : Nat) := by omega
          have hi2 : (k : Int) < (xs.length : Nat) := by omega
          clear ey
          by_cases hxy : x = y
          · have hbq : ((x : Int) == (y : Int)) = true := by rw [beq_iff_eq]; omega
            have HXY := Lib.hid hxy
            clear hxy
            go_wp2_with fail
            go_quiet (fail)
            go_wp2_with fail
            go_ret
            refine ⟨ret_bool (M.twice_yes fun hn => ?_), below_drewN HB2.out _⟩
            have := M.getD_inj_of_nodup hn (i := i) (j := k) hlt (by omega) (by rw [← HX.out, ← HY.out, HXY.out])
            omega
          · have hbq : ((x : Int) == (y : Int)) = false := by rw [beq_eq_false_iff_ne]; omega
            have HXY := Lib.hid hxy
            clear hxy
            go_wp2_with fail
            go_quiet (fail)
            go_wp2_with fail
            go_roundw
            case rel =>
              refine ⟨k + 1, by omega, by go_num, fun j hj => ?_, below_drewN HB2.out _⟩
              by_cases he : j = k
              · subst he; rw [← HX.out, ← HY.out]; exact fun h => HXY.out h.symm
              · exact HNE.out j (by omega)
            case measure => simp [intOf]; omega
        · obtain rfl : k = i := by omega
          go_wp2_with fail
          go_roundw
          case rel =>
            refine ⟨k + 1, by omega, by go_num, fun a b h1 h2 => ?_, HB2.out⟩
            by_cases he : b = k
            · subst he; exact HNE.out a h1
            · exact HD.out a b h1 (by omega)
          case measure => simp [intOf]; omega
    · obtain rfl : i = xs.length := by omega
      go_wp2_with fail
      go_ret
      exact ⟨ret_bool (M.twice_no HD.out.nodup), HB.out⟩

set_option maxRecDepth 100000 in
set_option maxHeartbeats 4000000 in
theorem unit_any (p i : Nat) (v : Value) (xs : List Nat) (w : World) (h3 : 3 ≤ p) (hp : p ≤ 65537) (hw : M.within p xs = true) (hxl : xs.length ≤ 201) (hil : i < xs.length) (hv : Nums w v xs) :
    Calls Try.prog 95 #[.int .u64 p, v, .int .i64 i] w fun e w' => ∃ v' u, e = .returned v' ∧ Nums w' v' u ∧ M.UnitK p xs i xs.length u ∧ Below w.heap.size w w' := by
  obtain ⟨A, cap, rfl, hcap, hlen, hC⟩ := nums_view hv
  obtain ⟨b, off, rfl, hb, hcell⟩ := hC (by omega)
  have HV := Lib.hid hcell
  have HW := Lib.hid hw
  clear hv hC hcap hw hcell
  go_enter Try.func95, Try.ntmps95
  go_wp2_with fail
  have hz0 := Lib.hid (nums1 w 1 (by omega))
  go_loopw [7, 13] (fun t7 t wr => ∃ (k : Nat) (u : List Nat), k ≤ xs.length ∧ t = .int .i64 k ∧ Nums wr t7 u ∧ M.UnitK p xs i k u ∧ Below w.heap.size w wr) (fun _ t _ => xs.length - (intOf t).toNat)
  case atStart => exact ⟨0, [1], by omega, rfl, hz0.out, M.UnitK.start (by omega) _ _, balloc w _⟩
  case round =>
    obtain ⟨k, u, hk, rfl, hN, hU, hB⟩ := hrel
    have HN := Lib.hid hN
    have HU := Lib.hid hU
    have HB := Lib.hid hB
    clear hN hU hB hz0
    by_cases hlt : k < xs.length
    · have hc1 := (HB.out.cell (p := ⟨b, off + k, none⟩) hb).trans (HV.out k hlt)
      have hx := M.within_mem HW.out hlt
      by_cases hki : k = i
      · have hbq : ((k : Int) != (i : Int)) = false := by rw [bne_eq_false_iff_eq]; omega
        have HKI := Lib.hid hki
        obtain ⟨x, ex⟩ : ∃ x, x = xs.getD k 0 := ⟨_, rfl⟩
        rw [← ex] at hc1
        clear hki ex hx
        go_wp2_with fail
        go_roundw
        case rel => exact ⟨k + 1, u, by omega, by go_num, HN.out, by have h1 := HU.out; have h2 := HKI.out; subst h2; exact h1.skip, HB.out⟩
        case measure => simp [intOf]; omega
      · have hbq : ((k : Int) != (i : Int)) = true := by rw [bne_iff_ne]; omega
        have hc2 := (HB.out.cell (p := ⟨b, off + i, none⟩) hb).trans (HV.out i hil)
        have hxi := M.within_mem HW.out hil
        have hst := M.UnitK.step (by omega) HW.out hlt hki HU.out
        have hul : u.length ≤ 202 := by have := HU.out.2.1; unfold M.cnt at this; split at this <;> omega
        obtain ⟨x, ex⟩ : ∃ x, x = xs.getD k 0 := ⟨_, rfl⟩
        obtain ⟨y, ey⟩ : ∃ y, y = xs.getD i 0 := ⟨_, rfl⟩
        rw [← ex] at hc1 hx hst
        rw [← ey] at hc2 hxi hst
        have s1 : ∀ W, Calls Try.prog 49 #[.int .u64 p, .int .u64 0, .int .u64 x] W fun e w' => e = .returned (.int .u64 ((0 + p - x) % p : Nat)) ∧ W = w' := fun W => refSub_any p 0 x W (by omega) hp (by omega) hx
        have s2 := fun W => refSub_any p y x W (by omega) hp hxi hx
        obtain ⟨a, ea⟩ : ∃ a, a = (0 + p - x) % p := ⟨_, rfl⟩
        obtain ⟨c, ec⟩ : ∃ c, c = (y + p - x) % p := ⟨_, rfl⟩
        have hal : a < p := by rw [ea]; exact Nat.mod_lt _ (by omega)
        have hcl : c < p := by rw [ec]; exact Nat.mod_lt _ (by omega)
        rw [← ea] at s1 hst
        rw [← ec] at s2 hst
        have s3 := fun W => refInv_any p c W h3 hp hcl
        obtain ⟨q, eq⟩ : ∃ q, q = M.pw p c (p - 2) := ⟨_, rfl⟩
        have hql : q < p := by rw [eq]; exact M.pw_lt _ _ (by omega)
        rw [← eq] at s3 hst
        have hwl : M.within p [a, 1] = true := by unfold M.within; simp; omega
        have m1 := fun W V V2 (h1 : Nums W V u) (h2 : Nums W V2 [a, 1]) => rmul_any p V V2 u [a, 1] W (by omega) hp HU.out.1 hwl (by omega) (by simp) h1 h2
        have hml : (M.pmul p u [a, 1]).length ≤ u.length + 2 := M.poly_len _ _ _
        have m2 := fun W V (h1 : Nums W V (M.pmul p u [a, 1])) => rscale_any p q V (M.pmul p u [a, 1]) W (by omega) hp hql (M.poly_within (by omega) _ _) (by omega) h1
        have S1 := Lib.hid s1
        have S2 := Lib.hid s2
        have S3 := Lib.hid s3
        have M1 := Lib.hid m1
        have M2 := Lib.hid m2
        have HST := Lib.hid hst
        have HND : Hid (Nums wr.drew u7 u) := Lib.hid HN.out
        have HC2D : Hid (wr.drew.cell? ⟨b, off + i, none⟩ = some (.int .u64 y)) := Lib.hid hc2
        have hbw : b < wr.heap.size := Nat.lt_of_lt_of_le hb HB.out.size
        have hau : a < 18446744073709551616 := by omega
        have hi1 : (i : Int) < (xs.length : Nat) := by omega
        clear s1 s2 s3 m1 m2 hst hwl hml ex ey ea ec eq hki
        go_wp2_with fail
        go_region_with (first
          | (go_at_call 49; first | ((with_reducible refine (S1.out _).mono ?_); rintro e w' ⟨rfl, rfl⟩) | ((with_reducible refine (S2.out _).mono ?_); rintro e w' ⟨rfl, rfl⟩))
          | (go_at_call 76; (with_reducible refine (S3.out _).mono ?_); rintro e w' ⟨rfl, rfl⟩)
          | (go_at_call 75; refine (M1.out _ _ _ ?_ ?_).mono ?_; exact HND.out.below (balloc wr.drew _); exact nums2 wr.drew a 1 hau (by omega); rintro e w3 ⟨v3, rfl, hn3, hb3⟩; have cy3 := (hb3.cell (p := ⟨b, off + i, none⟩) (by simp; omega)).trans (cellAl _ HC2D.out))
          | (go_at_call 94; refine (M2.out _ _ (by assumption)).mono ?_; rintro e w4 ⟨v4, rfl, hn4, hb4⟩))
        all_goals
          have hB3 := Below.trans (balloc wr (.cells #[.int .u64 (a : Nat), .int .u64 1] 22)).drew (Below.mono hb3 (by simp))
          have HB4 := Lib.hid (bnext (bnext HB.out hB3) hb4)
          have HN4 := Lib.hid hn4
          clear hb3 hb4 hn3 hn4 cy3 hB3
          go_wp2_with fail
          go_roundw
          case rel => exact ⟨k + 1, _, by omega, by go_num, HN4.out, HST.out, HB4.out⟩
          case measure => simp [intOf]; omega
    · obtain rfl : k = xs.length := by omega
      go_wp2_with fail
      go_ret
      exact ⟨_, u, rfl, HN.out, HU.out, HB.out⟩
end Go.Proofs.Ytglehjcohdjhoaa
namespace Go.Proofs.Ytglehjcohdjhoaa
open Go.RowKit
set_option linter.unusedVariables false

theorem Pts.below {w w' : World} {v : Value} {xs ys : List Nat} (h : Pts w v xs ys) (hb : Below w.heap.size w w') : Pts w' v xs ys := by
  obtain ⟨h1, h2, h3, h4, A, cap, h5, h6, h7⟩ := h
  refine ⟨h1, h2, h3, h4, A, cap, h5, h6, fun h0 => ?_⟩
  obtain ⟨b, off, h8, h9, h10⟩ := h7 h0
  exact ⟨b, off, h8, Nat.lt_of_lt_of_le h9 hb.size, fun i hi => ⟨(hb.cell (p := ⟨b, off + i * 2, none⟩) h9).trans (h10 i hi).1, (hb.cell (p := ⟨b, off + i * 2 + 1, none⟩) h9).trans (h10 i hi).2⟩⟩
theorem vals_take_snoc {xs : List Nat} {k : Nat} (h : k < xs.length) : vals (xs.take (k + 1)) = vals (xs.take k) ++ [.int .u64 (xs.getD k 0 : Nat)] := by
  rw [List.take_succ_eq_append_getElem h, vals_snoc, ← M.getD_lt h]

namespace M
/-- what the reference answers about points, the modulus being in order -/
def ptErr (p : Nat) (xs ys : List Nat) (L : Nat) : Int := if L < xs.length then 3 else if within p xs = true ∧ within p ys = true then (if xs.Nodup then 0 else 6) else 2
theorem ptErr_long {p : Nat} {xs ys : List Nat} {L : Nat} (h : L < xs.length) : 3 = ptErr p xs ys L := by unfold ptErr; rw [if_pos h]
theorem ptErr_out {p : Nat} {xs ys : List Nat} {L : Nat} (h : ¬ L < xs.length) (hw : ¬ (within p xs = true ∧ within p ys = true)) : 2 = ptErr p xs ys L := by unfold ptErr; rw [if_neg h, if_neg hw]
theorem ptErr_twice {p : Nat} {xs ys : List Nat} {L : Nat} (h : ¬ L < xs.length) (hw : within p xs = true ∧ within p ys = true) (hn : ¬ xs.Nodup) : 6 = ptErr p xs ys L := by unfold ptErr; rw [if_neg h, if_pos hw, if_neg hn]
theorem ptErr_ok {p : Nat} {xs ys : List Nat} {L : Nat} (h : ¬ L < xs.length) (hw : within p xs = true ∧ within p ys = true) (hn : xs.Nodup) : 0 = ptErr p xs ys L := by unfold ptErr; rw [if_neg h, if_pos hw, if_pos hn]
end M

set_option maxHeartbeats 2000000 in
theorem rplaces_any (v : Value) (xs ys : List Nat) (w : World) (hv : Pts w v xs ys) :
    Calls Try.prog 96 #[v] w (Gives w xs) := by
  obtain ⟨hyl, hlen, hxu, hyu, A, cap, rfl, hcap, hC⟩ := hv
  have HV := Lib.hid hC
  have HXU := Lib.hid hxu
  obtain ⟨i0, hi0, hz0, hz1, hz2⟩ := info_parts infoU64
  clear hC hcap hxu hyu hyl
  go_enter Try.func96, Try.ntmps96
  go_wp2_with fail
  go_loopw [3, 8] (fun t7 t wr => ∃ k : Nat, k ≤ xs.length ∧ t = .int .i64 k ∧ wr.ownsRow w.heap.size 22 1 t7 k (vals (xs.take k)) ∧ Below w.heap.size w wr) (fun _ t _ => xs.length - (intOf t).toNat)
  case atStart => exact ⟨0, by omega, rfl, World.ownsRow_nil _ _ _ _, Below.refl _ _⟩
  case round =>
    obtain ⟨k, hk, rfl, hown, hB⟩ := hrel
    have HO := Lib.hid hown
    have HB := Lib.hid hB
    clear hB hown
    by_cases hlt : k < xs.length
    · obtain ⟨b, off, rfl, hb, hcell⟩ := HV.out (by omega)
      have hc1 := (HB.out.cell (p := ⟨b, off + k * 2, none⟩) hb).trans (hcell k hlt).1
      have hc2 := (HB.out.cell (p := ⟨b, off + k * 2 + 1, none⟩) hb).trans (hcell k hlt).2
      have hsn := vals_take_snoc hlt
      obtain ⟨x, hx⟩ : ∃ x, x = xs.getD k 0 := ⟨_, rfl⟩
      obtain ⟨y, hy⟩ : ∃ y, y = ys.getD k 0 := ⟨_, rfl⟩
      rw [← hx] at hc1 hsn
      rw [← hy] at hc2
      have HSN := Lib.hid hsn
      clear hx hy hcell hsn
      have hb1 : wr.heap.size ≠ b := by have := HB.out.size; omega
      go_wp2_with (at_builtin; refine wpList_append_own _ rfl _ _ 30 rfl w.heap.size 22 i0 (.int .u64 0) 1 8 Try.underlying30 hi0 hz0 hz1 hz2 rfl (by decide) _ _ _ rfl ((HO.out.alloc (.cells #[.int .u64 x, .int .u64 y] 109)).alloc _) ⟨wr.heap.size + 1, 0, none⟩ 1 1 [.int .u64 (x : Nat)] rfl rfl ?c1 ?c2 ?c3 ?c4 ?c5 ?_)
      case c1 =>
        intro j u hu
        rw [Addr.add_lit]
        match j, hu with
        | 0, hu => simpa using hu
      case c2 => intro u hu; simp at hu; subst hu; rfl
      case c3 => unfold maxLen; omega
      case c4 => omega
      case c5 => have := HB.out.size; simp; omega
      intro v' w4 hown' hgrow _
      have hlt' := fun r hr => (HO.out.lt r hr).1
      have HB4 := Lib.hid (((HB.out.alloc HB.out.size _).alloc (Nat.le_trans HB.out.size (by simp)) _).grown hgrow (by have := HB.out.size; simp; omega) (fun r hr => hlt' r hr))
      rw [← HSN.out] at hown'
      have HOW := Lib.hid hown'
      clear hown' hgrow hlt'
      go_wp2_with fail
      go_roundw
      case rel => exact ⟨k + 1, by omega, by go_num, HOW.out, HB4.out⟩
      case measure => simp [intOf]; omega
    · obtain rfl : k = xs.length := by omega
      have h3 := HO.out
      rw [List.take_length] at h3
      have HN := Lib.hid (nums_of_owns h3 HXU.out hlen)
      clear h3
      go_wp2_with fail
      go_ret
      exact ⟨_, rfl, HN.out, HB.out⟩

set_option maxHeartbeats 4000000 in
theorem rthrough_any (p : Nat) (v : Value) (xs ys : List Nat) (w : World) (hi : M.isP p = true) (hxl : xs.length ≤ 201) (hwx : M.within p xs = true) (hwy : M.within p ys = true) (hn : xs.Nodup) (hv : Pts w v xs ys) :
    Calls Try.prog 74 #[.int .u64 p, v] w fun e w' => ∃ v' f, e = .returned v' ∧ Nums w' v' f ∧ M.Thru p xs ys f ∧ Below w.heap.size w w' := by
  obtain ⟨h3, hp⟩ := M.pos_of hi
  have HP := Lib.hid hv
  have hyl := hv.1
  obtain ⟨_, _, _, _, A, cap, rfl, _, hcells⟩ := hv
  have HI := Lib.hid hi
  have HWX := Lib.hid hwx
  have HWY := Lib.hid hwy
  have HYL := Lib.hid hyl
  have HN := Lib.hid hn
  have HV := Lib.hid hcells
  have PL := Lib.hid fun W (h : Pts W (.slice A xs.length cap) xs ys) => rplaces_any _ xs ys W h
  clear hi hwx hwy hyl hcells hn
  go_enter Try.func74, Try.ntmps74
  go_wp2_with fail
  go_loopw [5, 10] (fun t5 t wr => ∃ (k : Nat) (f : List Nat), k ≤ xs.length ∧ t = .int .i64 k ∧ Nums wr t5 f ∧ M.LagK p xs ys k f ∧ Below w.heap.size w wr) (fun _ t _ => xs.length - (intOf t).toNat)
  case atStart => exact ⟨0, [], by omega, rfl, ⟨by simp, by simp, .inl ⟨none, 0, rfl, rfl, fun _ => rfl⟩⟩, M.LagK.start _ _ _, Below.refl _ _⟩
  case round =>
    obtain ⟨k, f, hk, rfl, hf, hL, hB⟩ := hrel
    have HF := Lib.hid hf
    have HLK := Lib.hid hL
    have HB := Lib.hid hB
    clear hf hL hB
    by_cases hlt : k < xs.length
    · obtain ⟨b, off, rfl, hb, hcell⟩ := HV.out (by omega)
      have hc1 := (HB.out.cell (p := ⟨b, off + k * 2, none⟩) hb).trans (hcell k hlt).1
      have hc2 := (HB.out.cell (p := ⟨b, off + k * 2 + 1, none⟩) hb).trans (hcell k hlt).2
      have hy := M.within_mem HWY.out (show k < ys.length by have := HYL.out; omega)
      have hst := fun u (hu : M.UnitK p xs k xs.length u) => M.LagK.step HI.out HWX.out HWY.out HYL.out HN.out hlt HLK.out hu
      obtain ⟨x, ex⟩ : ∃ x, x = xs.getD k 0 := ⟨_, rfl⟩
      obtain ⟨y, ey⟩ : ∃ y, y = ys.getD k 0 := ⟨_, rfl⟩
      rw [← ex] at hc1
      rw [← ey] at hc2 hy hst
      have hb1 : wr.heap.size ≠ b := by have := HB.out.size; omega
      have hul : ∀ u, M.UnitK p xs k xs.length u → u.length ≤ 202 := fun u hu => by have := hu.2.1; unfold M.cnt at this; split at this <;> omega
      have hfl := HLK.out.2.2.1
      have u1 := fun W V (h1 : Nums W V xs) => unit_any p k V xs W h3 hp HWX.out hxl hlt h1
      have s1 := fun W V u (hu : M.UnitK p xs k xs.length u) (h1 : Nums W V u) => rscale_any p y V u W (by omega) hp hy hu.1 (by have := hul u hu; omega) h1
      have a1 := fun W V V2 u (hu : M.UnitK p xs k xs.length u) (h1 : Nums W V f) (h2 : Nums W V2 (M.pscale p u y)) => radd_any p V V2 f (M.pscale p u y) W (by omega) hp HLK.out.1 (M.poly_within (by omega) _ _) (by omega) (by have := hul u hu; have := M.poly_len p u.length (fun i => u.getD i 0 * y); unfold M.pscale; omega) h1 h2
      have U1 := Lib.hid u1
      have S1 := Lib.hid s1
      have A1 := Lib.hid a1
      have HST := Lib.hid hst
      have HPD : Hid (Pts (wr.alloc (.cells #[.int .u64 x, .int .u64 y] 109)).drew (.slice (some ⟨b, off, none⟩) xs.length cap) xs ys) := Lib.hid ((HP.out.below HB.out).below (balloc wr _).drew)
      have HFD : Hid (Nums (wr.alloc (.cells #[.int .u64 x, .int .u64 y] 109)).drew u5 f) := Lib.hid (HF.out.below (balloc wr _).drew)
      have cyD : Hid ((wr.alloc (.cells #[.int .u64 x, .int .u64 y] 109)).drew.cell? ⟨wr.heap.size, 1, none⟩ = some (.int .u64 y)) := Lib.hid (by simp)
      clear ex ey hcell u1 s1 a1 hst hul
      go_wp2_with fail
      go_region_with (first
        | (go_at_call 96; refine (PL.out _ HPD.out).mono ?_; rintro e w3 ⟨v3, rfl, hn3, hb3⟩; have cy3 := (hb3.cell (p := ⟨wr.heap.size, 1, none⟩) (by simp)).trans cyD.out)
        | (go_at_call 95; refine (U1.out _ _ (by assumption)).mono ?_; rintro e w4 ⟨v4, u, rfl, hn4, hu4, hb4⟩; have cy4 := (hb4.cell (p := ⟨wr.heap.size, 1, none⟩) (World.block_lt_of_cell? _ _ cy3)).trans cy3)
        | (go_at_call 94; refine (S1.out _ _ u hu4 (by assumption)).mono ?_; rintro e w5 ⟨v5, rfl, hn5, hb5⟩)
        | (go_at_call 93; refine (A1.out _ _ _ u hu4 (((HFD.out.below hb3).below hb4).below hb5) (by assumption)).mono ?_; rintro e w6 ⟨v6, rfl, hn6, hb6⟩))
      all_goals
        have hB3 := Below.trans (balloc wr (.cells #[.int .u64 x, .int .u64 y] 109)).drew (Below.mono hb3 (by simp))
        have HB6 := Lib.hid (bnext (bnext (bnext (bnext HB.out hB3) hb4) hb5) hb6)
        have HN6 := Lib.hid hn6
        have HU := Lib.hid hu4
        clear hb3 hb4 hb5 hb6 hn3 hn4 hn5 hn6 cy3 cy4 hB3 hu4
        go_wp2_with fail
        go_roundw
        case rel => exact ⟨k + 1, _, by omega, by go_num, HN6.out, HST.out _ HU.out, HB6.out⟩
        case measure => simp [intOf]; omega
    · obtain rfl : k = xs.length := by omega
      go_wp2_with fail
      go_ret
      exact ⟨_, f, rfl, HF.out, HLK.out.done, HB.out⟩
end Go.Proofs.Ytglehjcohdjhoaa
