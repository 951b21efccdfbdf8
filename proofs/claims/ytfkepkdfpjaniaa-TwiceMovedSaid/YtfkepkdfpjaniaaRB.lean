/-
  Ref2c, Ref2d, Ref2f (joined).
-/
import Derived.Test.YtfkepkdfpjaniaaRA
import Derived.Test.YtfkepkdfpjaniaaMA
import Derived.Test.YtfkepkdfpjaniaaLF
import Derived.Deep.RegionWith
namespace Go.Proofs.Ytfkepkdfpjaniaa
open Go.RowKit
set_option linter.unusedVariables false

set_option maxRecDepth 100000 in
set_option maxHeartbeats 2000000 in
theorem rmul_any (p : Nat) (vf vg : Value) (f g : List Nat) (w : World) (h2 : 0 < p) (hp : p ≤ 65537) (hwf : M.within p f = true) (hwg : M.within p g = true) (hfl : f.length ≤ 1000) (hgl : g.length ≤ 1000) (hf : Nums w vf f) (hg : Nums w vg g) :
    Calls Try.prog 40 #[.int .u64 p, vf, vg] w (Gives w (M.pmul p f g)) := by
  obtain ⟨A, cap, rfl, _, hlf, hCf⟩ := nums_view hf
  obtain ⟨A2, cap2, rfl, _, hlg, hCg⟩ := nums_view hg
  have HF := Lib.hid hCf
  have HG := Lib.hid hCg
  have HWF := Lib.hid hwf
  have HWG := Lib.hid hwg
  obtain ⟨i0, hi0, hz0, hz1, hz2⟩ := info_parts infoU64
  obtain ⟨n, en⟩ : ∃ n, n = f.length + g.length := ⟨_, rfl⟩
  have en' : (f.length : Int) + g.length = (n : Nat) := by omega
  have EN := Lib.hid en'
  have ENN := Lib.hid en
  have hnl : n ≤ 2000 := by omega
  clear hf hg hCf hCg hwf hwg en en'
  go_enter Try.func40, Try.ntmps40
  go_wp2_with (refine wpList_make_rowL _ rfl _ _ 31 rfl 22 i0 (.int .u64 0) Try.underlying31 hi0 hz0 hz1 rfl .i64 .i64 _ _ n rfl rfl EN.out EN.out (by rw [hz2]; omega) (by omega) ?_; intro rep hrep; have HREP := Lib.hid hrep; clear hrep)
  have hr : Rw (w.alloc (.cells rep.toArray 22)) w.heap.size n (M.prodAt p f g 0 0) := by
    intro i hi
    have h1 := World.alloc_heap_new w (.cells rep.toArray 22)
    refine ⟨?_, frozen_of_row _ _ i _ _ h1⟩
    rw [cell_of_row _ _ i _ _ (0, 0) h1, HREP.out, M.prodAt_zero]
    simp [hi]
  have HR := Lib.hid hr
  clear hr
  go_wp2_with fail
  go_loopw [18] (fun t wr => ∃ k : Nat, k ≤ f.length ∧ t = .int .i64 k ∧ Rw wr w.heap.size n (M.prodAt p f g k 0) ∧ Below w.heap.size w wr ∧ w.heap.size < wr.heap.size) (fun t _ => f.length - (intOf t).toNat)
  case atStart => exact ⟨0, by omega, rfl, HR.out, balloc w _, by simp⟩
  case round =>
    obtain ⟨k, hk, rfl, hr, hB, hsz⟩ := hrel
    have HR2 := Lib.hid hr
    have HB2 := Lib.hid hB
    have HS2 := Lib.hid hsz
    clear hr hB hsz
    by_cases hlt : k < f.length
    · obtain ⟨b, off, rfl, hb, hcf⟩ := HF.out (by omega)
      have HCF := Lib.hid hcf
      clear hcf
      have hx := M.within_mem HWF.out hlt
      obtain ⟨x, ex⟩ : ∃ x, x = f.getD k 0 := ⟨_, rfl⟩
      rw [← ex] at hx
      have HX := Lib.hid ex
      clear ex
      obtain ⟨wo, rfl⟩ : ∃ wo : World, wo = wr := ⟨_, rfl⟩
      go_wp2_with fail
      go_loopw [23] (fun t wr => ∃ j : Nat, j ≤ g.length ∧ t = .int .i64 j ∧ Rw wr w.heap.size n (M.prodAt p f g k j) ∧ Below w.heap.size w wr ∧ w.heap.size < wr.heap.size) (fun t _ => g.length - (intOf t).toNat)
      case atStart => exact ⟨0, by omega, rfl, HR2.out, HB2.out, HS2.out⟩
      case round =>
        obtain ⟨j, hj, rfl, hr3, hB3, hs3⟩ := hrel
        by_cases hjl : j < g.length
        · obtain ⟨b2, off2, rfl, hb2, hcg⟩ := HG.out (by omega)
          have hc1 := (hB3.cell (p := ⟨b, off + k, none⟩) hb).trans (HCF.out k hlt)
          rw [← HX.out] at hc1
          have hc2 := (hB3.cell (p := ⟨b2, off2 + j, none⟩) hb2).trans (hcg j hjl)
          have hy := M.within_mem HWG.out hjl
          have hkj : k + j < n := by have := ENN.out; omega
          obtain ⟨c3, f3⟩ := hr3 (k + j) hkj
          have hlt3 := M.prodAt_lt h2 f g k j (k + j)
          have hr4 := fun W (hW : Rw W w.heap.size n (M.prodAt p f g k j)) => (hW.set hkj ((M.prodAt p f g k j (k + j) + f.getD k 0 * g.getD j 0) % p)).congr (fun i _ => M.prodAt_step p f g k j i)
          obtain ⟨y, ey⟩ : ∃ y, y = g.getD j 0 := ⟨_, rfl⟩
          obtain ⟨z, ez⟩ : ∃ z, z = M.prodAt p f g k j (k + j) := ⟨_, rfl⟩
          rw [← ey] at hc2 hy hr4
          rw [← HX.out] at hr4
          rw [← ez] at c3 hlt3 hr4
          have hm := fun W => refMul_any p x y W (by omega) hp hx hy
          have hml : x * y % p < p := Nat.mod_lt _ h2
          have e0 : (z + x * y) % p = (z + x * y % p) % p := by rw [Nat.add_mod_mod]
          rw [e0] at hr4
          obtain ⟨m, em⟩ : ∃ m, m = x * y % p := ⟨_, rfl⟩
          rw [← em] at hm hml hr4
          have ha := fun W => refAdd_any p z m W (by omega) hp hlt3 hml
          obtain ⟨q, eq⟩ : ∃ q, q = (z + m) % p := ⟨_, rfl⟩
          rw [← eq] at ha hr4
          have HM := Lib.hid hm
          have HA := Lib.hid ha
          have HR4 := Lib.hid hr4
          have HB3 := Lib.hid hB3
          have HS3 := Lib.hid hs3
          have HRR3 := Lib.hid hr3
          have hi1 : (k : Int) + j < (n : Nat) := by omega
          have hi2 : (j : Int) < (g.length : Nat) := by omega
          have hi3 : (k : Int) < (f.length : Nat) := by omega
          have i1 : IntKind.i64.wrap ((k : Int) + j) = (k : Int) + j := IntWalk.i64_in _ (by omega)
          have i2 : (0 : Int) ≤ (k : Int) + j := by omega
          have i3 : ((k : Int) + j).toNat = k + j := by omega
          clear hr3 hB3 hr4 ey ez em eq e0 hs3 hcg
          go_wp2_with fail
          refine wp_region_still_tail 23 (by kernel_rfl) (by kernel_rfl) ?_
          simp only [List.take_succ_cons, List.take_zero, List.drop_succ_cons, List.drop_zero]
          iterate 20 still_step
          still_call ((HM.out _).mono fun e w' ⟨h1, h2⟩ => ⟨h1, h2.symm⟩)
          still_call ((HA.out _).mono fun e w' ⟨h1, h2⟩ => ⟨h1, h2.symm⟩)
          iterate 1 still_step
          refine wpStill_nil ?_
          change wpList _ _ _ _ _ wr.drew
          obtain ⟨w2, hw2⟩ : ∃ w2, wr.drew = w2 := ⟨_, rfl⟩
          have hr5 : Rw w2 w.heap.size n (M.prodAt p f g k j) := by rw [← hw2]; exact HRR3.out
          have hB5 : Below w.heap.size w w2 := by rw [← hw2]; exact HB3.out.drew
          have hs5 : w.heap.size < w2.heap.size := by rw [← hw2]; exact HS3.out
          obtain ⟨c5, f5⟩ := hr5 (k + j) hkj
          have HR5 := Lib.hid (HR4.out w2 hr5)
          have HB5 := Lib.hid (hB5.setCell (p := ⟨w.heap.size, k + j, none⟩) (Nat.le_refl _) (.int .u64 (q : Nat)))
          have HS5 := Lib.hid hs5
          rw [hw2]
          clear hw2 hr5 hB5 hs5
          go_wp2_with fail
          go_roundw
          case rel => exact ⟨j + 1, by omega, by go_num, HR5.out, HB5.out, by simpa using HS5.out⟩
          case measure => simp [intOf]; omega
        · obtain rfl : j = g.length := by omega
          have HR3 := Lib.hid (hr3.congr (fun i _ => M.prodAt_next p f g hlt i))
          have HB3 := Lib.hid hB3
          have HS3 := Lib.hid hs3
          clear hr3 hB3 hs3
          go_wp2_with fail
          go_roundw
          case rel => exact ⟨k + 1, by omega, by go_num, HR3.out, HB3.out, HS3.out⟩
          case measure => simp [intOf]; omega
    · obtain rfl : k = f.length := by omega
      have hN5 := (HR2.out.congr (fun i _ => M.prodAt_end p f g i)).nums HS2.out (by omega) (fun i _ => by have := Nat.mod_lt (M.mulAt f (M.at_ g) i) h2; omega)
      have HT := Lib.hid (rtrim_any _ _ wr hN5)
      clear hN5
      go_wp2_with fail
      refine HT.out.mono ?_
      rintro e w2 ⟨v2, rfl, hn3, hb3⟩
      have B3 := Lib.hid (bnext HB2.out hb3)
      have N3 := Lib.hid hn3
      clear hn3 hb3
      go_wp2_with fail
      go_ret
      refine ⟨_, rfl, ?_, B3.out⟩
      unfold M.pmul M.poly
      rw [← ENN.out]
      exact N3.out
end Go.Proofs.Ytfkepkdfpjaniaa
namespace Go.Proofs.Ytfkepkdfpjaniaa
open Go.RowKit
set_option linter.unusedVariables false

namespace M
def twice (xs : List Nat) : Bool := decide (¬ xs.Nodup)
theorem twice_yes {xs : List Nat} (h : ¬ xs.Nodup) : true = twice xs := by unfold twice; simp [h]
theorem twice_no {xs : List Nat} (h : xs.Nodup) : false = twice xs := by unfold twice; simp [h]
end M

end Go.Proofs.Ytfkepkdfpjaniaa
namespace Go.Proofs.Ytfkepkdfpjaniaa
open Go.RowKit
set_option linter.unusedVariables false

theorem Pts.below {w w' : World} {v : Value} {xs ys : List Nat} (h : Pts w v xs ys) (hb : Below w.heap.size w w') : Pts w' v xs ys := by
  obtain ⟨h1, h2, h3, h4, A, cap, h5, h6, h7⟩ := h
  refine ⟨h1, h2, h3, h4, A, cap, h5, h6, fun h0 => ?_⟩
  obtain ⟨b, off, h8, h9, h10⟩ := h7 h0
  exact ⟨b, off, h8, Nat.lt_of_lt_of_le h9 hb.size, fun i hi => ⟨(hb.cell (p := ⟨b, off + i * 2, none⟩) h9).trans (h10 i hi).1, (hb.cell (p := ⟨b, off + i * 2 + 1, none⟩) h9).trans (h10 i hi).2⟩⟩
theorem vals_take_snoc {xs : List Nat} {k : Nat} (h : k < xs.length) : vals (xs.take (k + 1)) = vals (xs.take k) ++ [.int .u64 (xs.getD k 0 : Nat)] := by
  rw [List.take_succ_eq_append_getElem h, vals_snoc, ← M.getD_lt h]

namespace M
/-- what the reference answers about points, the modulus being in order -/
def ptErr (p : Nat) (xs ys : List Nat) (L : Nat) : Int := if L < xs.length then 3 else if within p xs = true ∧ within p ys = true then (if xs.Nodup then 0 else 6) else 2
theorem ptErr_long {p : Nat} {xs ys : List Nat} {L : Nat} (h : L < xs.length) : 3 = ptErr p xs ys L := by unfold ptErr; rw [if_pos h]
theorem ptErr_out {p : Nat} {xs ys : List Nat} {L : Nat} (h : ¬ L < xs.length) (hw : ¬ (within p xs = true ∧ within p ys = true)) : 2 = ptErr p xs ys L := by unfold ptErr; rw [if_neg h, if_neg hw]
theorem ptErr_twice {p : Nat} {xs ys : List Nat} {L : Nat} (h : ¬ L < xs.length) (hw : within p xs = true ∧ within p ys = true) (hn : ¬ xs.Nodup) : 6 = ptErr p xs ys L := by unfold ptErr; rw [if_neg h, if_pos hw, if_neg hn]
theorem ptErr_ok {p : Nat} {xs ys : List Nat} {L : Nat} (h : ¬ L < xs.length) (hw : within p xs = true ∧ within p ys = true) (hn : xs.Nodup) : 0 = ptErr p xs ys L := by unfold ptErr; rw [if_neg h, if_pos hw, if_pos hn]
end M

end Go.Proofs.Ytfkepkdfpjaniaa
