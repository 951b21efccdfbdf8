/-
  Package poly: product.
-/
import Derived.Test.YtgoognipljknjaaRow
import Derived.OwnWalk
import Derived.BigQuiet
import Derived.Deep.QuietTactic
namespace Go.Proofs.Ytgoognipljknjaa
open Go.RowKit
set_option linter.unusedVariables false

namespace M
/-- the coefficients after k rounds of the outer loop and j of the inner one -/
def prodAt (p : Nat) (f g : List Nat) (k j i : Nat) : Nat := (mulAt (f.take k) (at_ g) i + if k ≤ i ∧ i - k < j then f.getD k 0 * g.getD (i - k) 0 else 0) % p
theorem prodAt_zero (p : Nat) (f g : List Nat) (i : Nat) : prodAt p f g 0 0 i = 0 := by unfold prodAt; simp [mulAt]
theorem take_snoc {f : List Nat} {k : Nat} (h : k < f.length) : f.take (k + 1) = f.take k ++ [f.getD k 0] := by
  rw [List.take_succ_eq_append_getElem h, getD_lt h]
theorem prodAt_next (p : Nat) (f g : List Nat) {k : Nat} (h : k < f.length) (i : Nat) : prodAt p f g k g.length i = prodAt p f g (k + 1) 0 i := by
  unfold prodAt
  rw [take_snoc h, mulAt_snoc]
  have hl : (f.take k).length = k := by rw [List.length_take]; omega
  rw [hl]
  simp only [Nat.not_lt_zero, and_false, if_false, Nat.add_zero]
  by_cases h1 : k ≤ i
  · by_cases h2 : i - k < g.length
    · rw [if_pos ⟨h1, h2⟩, if_pos h1]; rfl
    · rw [if_neg (by omega), if_pos h1, show at_ g (i - k) = 0 from getD_ge (by omega)]; simp
  · rw [if_neg (by omega), if_neg h1]
theorem prodAt_step (p : Nat) (f g : List Nat) (k j i : Nat) : (if i = k + j then (prodAt p f g k j (k + j) + f.getD k 0 * g.getD j 0) % p else prodAt p f g k j i) = prodAt p f g k (j + 1) i := by
  by_cases h : i = k + j
  · subst h
    rw [if_pos rfl]
    unfold prodAt
    rw [if_neg (by omega), if_pos (by omega), Nat.add_sub_cancel_left, Nat.add_zero, Nat.mod_add_mod]
  · rw [if_neg h]
    unfold prodAt
    by_cases h1 : k ≤ i ∧ i - k < j
    · rw [if_pos h1, if_pos (by omega)]
    · rw [if_neg h1, if_neg (by omega)]
theorem prodAt_end (p : Nat) (f g : List Nat) (i : Nat) : prodAt p f g f.length 0 i = mulAt f (at_ g) i % p := by
  unfold prodAt; rw [List.take_length]; simp
theorem prodAt_lt {p : Nat} (hp : 0 < p) (f g : List Nat) (k j i : Nat) : prodAt p f g k j i < p := Nat.mod_lt _ hp
end M

set_option maxHeartbeats 1000000 in
theorem product_none (p : Nat) (vf vg : Value) (f g : List Nat) (w : World) (h0 : f.length = 0 ∨ g.length = 0) (hf : Nums w vf f) (hg : Nums w vg g) :
    Calls Try.prog 117 #[.int .u64 p, vf, vg] w fun e w' => e = .returned (.slice none 0 0) ∧ w = w' := by
  obtain ⟨A, cap, rfl, _, hlf, _⟩ := nums_view hf
  obtain ⟨A2, cap2, rfl, _, hlg, _⟩ := nums_view hg
  clear hf hg
  by_cases h1 : f.length = 0
  · obtain rfl : f = [] := List.eq_nil_of_length_eq_zero h1
    have e1 : ((([] : List Nat).length : Int) == 0) = true := rfl
    clear h0 h1
    go_enter Try.func117, Try.ntmps117
    go_wp2
    go_ret
    exact ⟨rfl, rfl⟩
  · obtain rfl : g = [] := List.eq_nil_of_length_eq_zero (by omega)
    have e1 : ((f.length : Int) == 0) = false := by rw [beq_eq_false_iff_ne]; omega
    have hud : ∀ b : Bool, undef ≠ Value.bool b := fun b h => by cases h
    clear h0 h1
    go_enter Try.func117, Try.ntmps117
    go_wp2
    go_ret
    exact ⟨rfl, rfl⟩

set_option maxHeartbeats 1000000 in
theorem product_some (p : Nat) (vf vg : Value) (f g : List Nat) (w : World) (h2 : 0 < p) (hp : p ≤ 65537) (hwf : M.within p f = true) (hwg : M.within p g = true) (hf0 : 0 < f.length) (hg0 : 0 < g.length) (hfl : f.length ≤ 1000) (hgl : g.length ≤ 1000) (hf : Nums w vf f) (hg : Nums w vg g) :
    Calls Try.prog 117 #[.int .u64 p, vf, vg] w (Gives w (M.prodL p f g)) := by
  obtain ⟨A, cap, rfl, _, hlf, hCf⟩ := nums_view hf
  obtain ⟨A2, cap2, rfl, _, hlg, hCg⟩ := nums_view hg
  obtain ⟨b, off, rfl, hb, hcf⟩ := hCf hf0
  obtain ⟨b2, off2, rfl, hb2, hcg⟩ := hCg hg0
  have HF := Lib.hid hcf
  have HG := Lib.hid hcg
  have HWF := Lib.hid hwf
  have HWG := Lib.hid hwg
  obtain ⟨i0, hi0, hz0, hz1, hz2⟩ := info_parts infoU64
  obtain ⟨n, en⟩ : ∃ n, n = f.length + g.length - 1 := ⟨_, rfl⟩
  have en' : (f.length : Int) + g.length - 1 = (n : Nat) := by omega
  have hn1 : n + 1 = f.length + g.length := by omega
  have HN := Lib.hid hn1
  have EN := Lib.hid en'
  have hnl : n ≤ 2000 := by omega
  have e1 : ((f.length : Int) == 0) = false := by rw [beq_eq_false_iff_ne]; omega
  have e2 : ((g.length : Int) == 0) = false := by rw [beq_eq_false_iff_ne]; omega
  have hud : ∀ b : Bool, undef ≠ Value.bool b := fun b h => by cases h
  have hpl : M.prodL p f g = M.tabM n fun i => M.mulAt f (M.at_ g) i % p := by unfold M.prodL; rw [if_neg (by omega), en]
  have HPL := Lib.hid hpl
  clear hf hg hCf hCg hcf hcg hwf hwg en en' hn1 hpl
  go_enter Try.func117, Try.ntmps117
  go_wp2_with (refine wpList_make_full _ rfl _ _ 24 rfl w.heap.size 22 i0 (.int .u64 0) 1 Try.underlying24 hi0 hz0 hz1 .i64 .i64 _ _ n rfl rfl EN.out EN.out ?c1 ?c2 ?c3 ?_)
  case c1 => rw [hz2]; omega
  case c2 => unfold maxLen; omega
  case c3 => exact Nat.le_refl _
  intro w1 hown hgrow
  have hr := Rw.start hown (toList_madeCells_one _ _)
  have HB := Lib.hid ((Below.refl w.heap.size w).grown hgrow (Nat.le_refl _) (by simp))
  have HS := Lib.hid (World.block_lt_of_cell? w1 _ (hr 0 (by have := HN.out; omega)).1)
  have HR := Lib.hid (hr.congr (G := M.prodAt p f g 0 0) (fun i _ => (M.prodAt_zero p f g i).symm))
  clear hr hown hgrow
  go_wp2_with fail
  go_loopw [29] (fun t wr => ∃ k : Nat, k ≤ f.length ∧ t = .int .i64 k ∧ Rw wr w.heap.size n (M.prodAt p f g k 0) ∧ Below w.heap.size w wr ∧ w.heap.size < wr.heap.size) (fun t _ => f.length - (intOf t).toNat)
  case atStart => exact ⟨0, by omega, rfl, HR.out, HB.out, HS.out⟩
  case round =>
    obtain ⟨k, hk, rfl, hr, hB, hsz⟩ := hrel
    have HR2 := Lib.hid hr
    have HB2 := Lib.hid hB
    have HS2 := Lib.hid hsz
    clear hr hB hsz
    by_cases hlt : k < f.length
    · have hc := (HB2.out.cell (p := ⟨b, off + k, none⟩) hb).trans (HF.out k hlt)
      have hx := M.within_mem HWF.out hlt
      obtain ⟨x, ex⟩ : ∃ x, x = f.getD k 0 := ⟨_, rfl⟩
      rw [← ex] at hc hx
      have HX := Lib.hid ex
      clear ex
      obtain ⟨wo, rfl⟩ : ∃ wo : World, wo = wr := ⟨_, rfl⟩
      go_wp2_with fail
      go_loopw [36] (fun t wr => ∃ j : Nat, j ≤ g.length ∧ t = .int .i64 j ∧ Rw wr w.heap.size n (M.prodAt p f g k j) ∧ Below w.heap.size w wr ∧ w.heap.size < wr.heap.size) (fun t _ => g.length - (intOf t).toNat)
      case atStart => exact ⟨0, by omega, rfl, HR2.out, HB2.out, HS2.out⟩
      case round =>
        obtain ⟨j, hj, rfl, hr3, hB3, hs3⟩ := hrel
        by_cases hjl : j < g.length
        · have hc2 := (hB3.cell (p := ⟨b2, off2 + j, none⟩) hb2).trans (HG.out j hjl)
          have hy := M.within_mem HWG.out hjl
          have hkj : k + j < n := by have := HN.out; omega
          obtain ⟨c3, f3⟩ := hr3 (k + j) hkj
          have hlt3 := M.prodAt_lt h2 f g k j (k + j)
          have hr4 := (hr3.set hkj ((M.prodAt p f g k j (k + j) + f.getD k 0 * g.getD j 0) % p)).congr (fun i _ => M.prodAt_step p f g k j i)
          have hB4 := hB3.setCell (p := ⟨w.heap.size, k + j, none⟩) (Nat.le_refl _) (.int .u64 (((M.prodAt p f g k j (k + j) + f.getD k 0 * g.getD j 0) % p : Nat) : Int))
          obtain ⟨y, ey⟩ : ∃ y, y = g.getD j 0 := ⟨_, rfl⟩
          obtain ⟨z, ez⟩ : ∃ z, z = M.prodAt p f g k j (k + j) := ⟨_, rfl⟩
          rw [← ey] at hc2 hy hr4 hB4
          rw [← HX.out] at hr4 hB4
          rw [← ez] at c3 hlt3 hr4 hB4
          obtain ⟨m1, m2⟩ := mul_le hp hx hy
          have e5 : (((z + x * y) % p : Nat) : Int) = ((z : Int) + x * y) % p := by rw [Int.natCast_emod, Int.natCast_add, Int.natCast_mul]
          rw [e5] at hr4 hB4
          have HR4 := Lib.hid hr4
          have HB4 := Lib.hid hB4
          have hi1 : (k : Int) + j < (n : Nat) := by omega
          have HS3 := Lib.hid hs3
          clear hr3 hB3 hr4 hB4 ey ez e5 hs3
          go_wp2_with fail
          go_roundw
          case rel => exact ⟨j + 1, by omega, by go_num, HR4.out, HB4.out, by simpa using HS3.out⟩
          case measure => simp [intOf]; omega
        · obtain rfl : j = g.length := by omega
          have HR3 := Lib.hid (hr3.congr (fun i _ => M.prodAt_next p f g hlt i))
          have HB3 := Lib.hid hB3
          have HS3 := Lib.hid hs3
          clear hr3 hB3 hs3
          go_wp2_with fail
          go_roundw
          case rel => exact ⟨k + 1, by omega, by go_num, HR3.out, HB3.out, HS3.out⟩
          case measure => simp [intOf]; omega
    · obtain rfl : k = f.length := by omega
      go_wp2_with fail
      go_ret
      refine ⟨_, rfl, ?_, HB2.out⟩
      rw [HPL.out]
      exact (HR2.out.congr (fun i _ => M.prodAt_end p f g i)).nums HS2.out (by omega) (fun i _ => by have := Nat.mod_lt (M.mulAt f (M.at_ g) i) h2; omega)

theorem product_any (p : Nat) (vf vg : Value) (f g : List Nat) (w : World) (h2 : 0 < p) (hp : p ≤ 65537) (hwf : M.within p f = true) (hwg : M.within p g = true) (hfl : f.length ≤ 1000) (hgl : g.length ≤ 1000) (hf : Nums w vf f) (hg : Nums w vg g) :
    Calls Try.prog 117 #[.int .u64 p, vf, vg] w (Gives w (M.prodL p f g)) := by
  by_cases h0 : f.length = 0 ∨ g.length = 0
  · refine (product_none p vf vg f g w h0 hf hg).mono ?_
    rintro e w' ⟨rfl, rfl⟩
    refine ⟨_, rfl, ?_, Below.refl _ _⟩
    unfold M.prodL
    rw [if_pos h0]
    exact ⟨by simp, by simp, .inl ⟨none, 0, rfl, rfl, fun _ => rfl⟩⟩
  · exact product_some p vf vg f g w h2 hp hwf hwg (by omega) (by omega) hfl hgl hf hg
end Go.Proofs.Ytgoognipljknjaa
