/-
  The reference of layer 2: Add, Scale, Sub, Mul.
-/
import Derived.Test.YtgoognipljknjaaRef2a
import Derived.StillTailTactics
namespace Go.Proofs.Ytgoognipljknjaa
open Go.RowKit
set_option linter.unusedVariables false

set_option maxHeartbeats 1000000 in
theorem radd_any (p : Nat) (vf vg : Value) (f g : List Nat) (w : World) (h2 : 0 < p) (hp : p ≤ 65537) (hwf : M.within p f = true) (hwg : M.within p g = true) (hfl : f.length ≤ 1000) (hgl : g.length ≤ 1000) (hf : Nums w vf f) (hg : Nums w vg g) :
    Calls Try.prog 88 #[.int .u64 p, vf, vg] w (Gives w (M.padd p f g)) := by
  obtain ⟨A, cap, rfl, _, hlf, _⟩ := nums_view hf
  obtain ⟨A2, cap2, rfl, _, hlg, _⟩ := nums_view hg
  have HF := Lib.hid hf
  have HG := Lib.hid hg
  have HWF := Lib.hid hwf
  have HWG := Lib.hid hwg
  obtain ⟨i0, hi0, hz0, hz1, hz2⟩ := info_parts infoU64
  obtain ⟨n, en⟩ : ∃ n, n = max f.length g.length := ⟨_, rfl⟩
  have hn1 : f.length ≤ n := by omega
  have hn2 : g.length ≤ n := by omega
  have EN := Lib.hid en
  have hnl : n ≤ 1000 := by omega
  clear hf hg hwf hwg en
  rcases Nat.lt_or_ge f.length g.length with hm | hm
  all_goals
    go_enter Try.func88, Try.ntmps88
    go_wp2_with (refine wpList_make_rowL _ rfl _ _ 24 rfl 22 i0 (.int .u64 0) Try.underlying24 hi0 hz0 hz1 rfl .i64 .i64 _ _ n rfl rfl (by have := EN.out; omega) (by have := EN.out; omega) (by rw [hz2]; omega) (by omega) ?_; intro rep hrep; have HREP := Lib.hid hrep; clear hrep)
    have hr : Rw (w.alloc (.cells rep.toArray 22)) w.heap.size n (someOf (fun i => (f.getD i 0 + g.getD i 0) % p) 0) := by
      intro i hi
      have h1 := World.alloc_heap_new w (.cells rep.toArray 22)
      refine ⟨?_, frozen_of_row _ _ i _ _ h1⟩
      rw [cell_of_row _ _ i _ _ (0, 0) h1, HREP.out]
      simp [someOf, hi]
    have HR := Lib.hid hr
    clear hr
    go_loopw [17] (fun t wr => ∃ k : Nat, k ≤ n ∧ t = .int .i64 k ∧ Rw wr w.heap.size n (someOf (fun i => (f.getD i 0 + g.getD i 0) % p) k) ∧ Below w.heap.size w wr ∧ w.heap.size < wr.heap.size) (fun t _ => n - (intOf t).toNat)
    case atStart => exact ⟨0, by omega, rfl, HR.out, balloc w _, by simp⟩
    case round =>
      obtain ⟨k, hk, rfl, hr, hB, hsz⟩ := hrel
      have HB := Lib.hid hB
      have HR2 := Lib.hid hr
      have HS2 := Lib.hid hsz
      clear hB hr hsz
      by_cases hlt : k < n
      · have hx := M.within_getD h2 HWF.out k
        have hy := M.within_getD h2 HWG.out k
        have ht1 := Lib.hid (rat_any _ f k wr (by omega) (HF.out.at (Nat.le_refl _) HB.out HF.out))
        have ht2 := Lib.hid (rat_any _ g k wr (by omega) (HG.out.at (Nat.le_refl _) HB.out HG.out))
        have hst := someOf_step (fun i => (f.getD i 0 + g.getD i 0) % p) k
        obtain ⟨x, ex⟩ : ∃ x, x = f.getD k 0 := ⟨_, rfl⟩
        obtain ⟨y, ey⟩ : ∃ y, y = g.getD k 0 := ⟨_, rfl⟩
        rw [← ex] at hx ht1 hst
        rw [← ey] at hy ht2 hst
        have ha := refAdd_any p x y wr (by omega) hp hx hy
        obtain ⟨z, ez⟩ : ∃ z, z = (x + y) % p := ⟨_, rfl⟩
        rw [← ez] at ha hst
        have HA := Lib.hid ha
        obtain ⟨c3, f3⟩ := HR2.out k hlt
        have hr4 := (HR2.out.set hlt z).congr (fun i _ => hst i)
        have hB4 := HB.out.setCell (p := ⟨w.heap.size, k, none⟩) (Nat.le_refl _) (.int .u64 ((z : Nat) : Int))
        have HR4 := Lib.hid hr4
        have HB4 := Lib.hid hB4
        have hi1 : (k : Int) < (n : Nat) := by omega
        clear ex ey hst ha ez hr4 hB4
        go_wp2_with fail
        refine ht1.out.mono ?_
        rintro e w' ⟨rfl, rfl⟩
        go_wp2_with fail
        refine ht2.out.mono ?_
        rintro e w' ⟨rfl, rfl⟩
        go_wp2_with fail
        refine HA.out.mono ?_
        rintro e w' ⟨rfl, rfl⟩
        go_wp2_with fail
        go_roundw
        case rel => exact ⟨k + 1, by omega, by go_num, HR4.out, HB4.out, by simpa using HS2.out⟩
        case measure => simp [intOf]; omega
      · obtain rfl : k = n := by omega
        have hN5 := (HR2.out.congr (G := fun i => (f.getD i 0 + g.getD i 0) % p) (fun i hi => by unfold someOf; rw [if_pos hi])).nums HS2.out (by omega) (fun i _ => by have := Nat.mod_lt (f.getD i 0 + g.getD i 0) h2; omega)
        have HT := Lib.hid (rtrim_any _ _ wr hN5)
        clear hN5
        go_wp2_with fail
        refine HT.out.mono ?_
        rintro e w2 ⟨v2, rfl, hn3, hb3⟩
        have B3 := Lib.hid (bnext HB.out hb3)
        have N3 := Lib.hid hn3
        clear hn3 hb3
        go_wp2_with fail
        go_ret
        refine ⟨_, rfl, ?_, B3.out⟩
        unfold M.padd M.poly
        rw [← EN.out]
        exact N3.out

set_option maxHeartbeats 1000000 in
theorem rscale_any (p c : Nat) (vf : Value) (f : List Nat) (w : World) (h2 : 0 < p) (hp : p ≤ 65537) (hcp : c < p) (hwf : M.within p f = true) (hfl : f.length ≤ 1000) (hf : Nums w vf f) :
    Calls Try.prog 89 #[.int .u64 p, vf, .int .u64 c] w (Gives w (M.pscale p f c)) := by
  obtain ⟨A, cap, rfl, _, hlf, hC⟩ := nums_view hf
  have HV := Lib.hid hC
  have HWF := Lib.hid hwf
  obtain ⟨i0, hi0, hz0, hz1, hz2⟩ := info_parts infoU64
  clear hf hwf hC
  go_enter Try.func89, Try.ntmps89
  go_wp2_with (refine wpList_make_rowL _ rfl _ _ 24 rfl 22 i0 (.int .u64 0) Try.underlying24 hi0 hz0 hz1 rfl .i64 .i64 _ _ f.length rfl rfl rfl rfl (by rw [hz2]; omega) (by omega) ?_; intro rep hrep; have HREP := Lib.hid hrep; clear hrep)
  have hr : Rw (w.alloc (.cells rep.toArray 22)) w.heap.size f.length (someOf (fun i => f.getD i 0 * c % p) 0) := by
    intro i hi
    have h1 := World.alloc_heap_new w (.cells rep.toArray 22)
    refine ⟨?_, frozen_of_row _ _ i _ _ h1⟩
    rw [cell_of_row _ _ i _ _ (0, 0) h1, HREP.out]
    simp [someOf, hi]
  have HR := Lib.hid hr
  clear hr
  go_loopw [14] (fun t wr => ∃ k : Nat, k ≤ f.length ∧ t = .int .i64 k ∧ Rw wr w.heap.size f.length (someOf (fun i => f.getD i 0 * c % p) k) ∧ Below w.heap.size w wr ∧ w.heap.size < wr.heap.size) (fun t _ => f.length - (intOf t).toNat)
  case atStart => exact ⟨0, by omega, rfl, HR.out, balloc w _, by simp⟩
  case round =>
    obtain ⟨k, hk, rfl, hr, hB, hsz⟩ := hrel
    have HB := Lib.hid hB
    have HR2 := Lib.hid hr
    have HS2 := Lib.hid hsz
    clear hB hr hsz
    by_cases hlt : k < f.length
    · obtain ⟨b, off, rfl, hb, hcell⟩ := HV.out (by omega)
      have hc := (HB.out.cell (p := ⟨b, off + k, none⟩) hb).trans (hcell k hlt)
      have hx := M.within_mem HWF.out hlt
      have hst := someOf_step (fun i => f.getD i 0 * c % p) k
      obtain ⟨x, ex⟩ : ∃ x, x = f.getD k 0 := ⟨_, rfl⟩
      rw [← ex] at hx hc hst
      have ha := refMul_any p x c wr (by omega) hp hx hcp
      obtain ⟨z, ez⟩ : ∃ z, z = x * c % p := ⟨_, rfl⟩
      rw [← ez] at ha hst
      have HA := Lib.hid ha
      obtain ⟨c3, f3⟩ := HR2.out k hlt
      have hr4 := (HR2.out.set hlt z).congr (fun i _ => hst i)
      have hB4 := HB.out.setCell (p := ⟨w.heap.size, k, none⟩) (Nat.le_refl _) (.int .u64 ((z : Nat) : Int))
      have HR4 := Lib.hid hr4
      have HB4 := Lib.hid hB4
      clear ex hst ha ez hr4 hB4 hcell
      go_wp2_with fail
      refine HA.out.mono ?_
      rintro e w' ⟨rfl, rfl⟩
      go_wp2_with fail
      go_roundw
      case rel => exact ⟨k + 1, by omega, by go_num, HR4.out, HB4.out, by simpa using HS2.out⟩
      case measure => simp [intOf]; omega
    · obtain rfl : k = f.length := by omega
      have hN5 := (HR2.out.congr (G := fun i => f.getD i 0 * c % p) (fun i hi => by unfold someOf; rw [if_pos hi])).nums HS2.out (by omega) (fun i _ => by have := Nat.mod_lt (f.getD i 0 * c) h2; omega)
      have HT := Lib.hid (rtrim_any _ _ wr hN5)
      clear hN5
      go_wp2_with fail
      refine HT.out.mono ?_
      rintro e w2 ⟨v2, rfl, hn3, hb3⟩
      have B3 := Lib.hid (bnext HB.out hb3)
      have N3 := Lib.hid hn3
      clear hn3 hb3
      go_wp2_with fail
      go_ret
      exact ⟨_, rfl, N3.out, B3.out⟩

end Go.Proofs.Ytgoognipljknjaa
