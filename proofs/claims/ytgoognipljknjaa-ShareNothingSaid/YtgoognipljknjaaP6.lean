/-
  Package poly: termwise, for whatever operation of package field.
-/
import Derived.Test.YtgoognipljknjaaP5
namespace Go.Proofs.Ytgoognipljknjaa
open Go.RowKit
set_option linter.unusedVariables false

/-- what is in the row after k rounds -/
def someOf (G : Nat → Nat) (k i : Nat) : Nat := if i < k then G i else 0
theorem someOf_step (G : Nat → Nat) (k i : Nat) : (if i = k then G k else someOf G k i) = someOf G (k + 1) i := by
  unfold someOf
  by_cases h : i = k
  · subst h; rw [if_pos rfl, if_pos (by omega)]
  · rw [if_neg h]
    by_cases h1 : i < k
    · rw [if_pos h1, if_pos (by omega)]
    · rw [if_neg h1, if_neg (by omega)]

set_option maxHeartbeats 1000000 in
theorem termwise_any (K : Nat) (F : Nat → Nat → Nat) (p : Nat) (vf vg : Value) (f g : List Nat) (w : World) (hK : K = 123 ∨ K = 82 ∨ K = 81) (h2 : 0 < p) (hp : p ≤ 65537) (hwf : M.within p f = true) (hwg : M.within p g = true) (hfl : f.length ≤ 1000) (hgl : g.length ≤ 1000) (hf : Nums w vf f) (hg : Nums w vg g)
    (hop : ∀ a b W, a < p → b < p → Calls Try.prog K #[.int .u64 p, .int .u64 (a : Nat), .int .u64 (b : Nat)] W fun e W' => e = .returned (.tuple #[.int .u64 (F a b : Nat), .int .i64 0]) ∧ Below W.heap.size W W') (hF : ∀ a b, F a b < p) :
    Calls Try.prog 122 #[.int .u64 p, vf, vg, .func (.func K) #[] #[]] w (Gives w (M.tabM (max f.length g.length) fun i => F (f.getD i 0) (g.getD i 0))) := by
  obtain ⟨A, cap, rfl, _, hlf, _⟩ := nums_view hf
  obtain ⟨A2, cap2, rfl, _, hlg, _⟩ := nums_view hg
  have HF := Lib.hid hf
  have HG := Lib.hid hg
  have HWF := Lib.hid hwf
  have HWG := Lib.hid hwg
  have HOP := Lib.hid hop
  have HFL := Lib.hid hF
  obtain ⟨i0, hi0, hz0, hz1, hz2⟩ := info_parts infoU64
  obtain ⟨n, en⟩ : ∃ n, n = max f.length g.length := ⟨_, rfl⟩
  have hn1 : f.length ≤ n := by omega
  have hn2 : g.length ≤ n := by omega
  have EN := Lib.hid en
  have hnl : n ≤ 1000 := by omega
  rw [← en]
  clear hf hg hwf hwg en hop hF
  rcases hK with rfl | rfl | rfl
  all_goals
    rcases Nat.lt_or_ge f.length g.length with hm | hm
    all_goals
      go_enter Try.func122, Try.ntmps122
      go_wp2_with (refine wpList_make_rowL _ rfl _ _ 24 rfl 22 i0 (.int .u64 0) Try.underlying24 hi0 hz0 hz1 rfl .i64 .i64 _ _ n rfl rfl (by have := EN.out; omega) (by have := EN.out; omega) (by rw [hz2]; omega) (by omega) ?_; intro rep hrep; have HREP := Lib.hid hrep; clear hrep)
      have hr : Rw (w.alloc (.cells rep.toArray 22)) w.heap.size n (someOf (fun i => F (f.getD i 0) (g.getD i 0)) 0) := by
        intro i hi
        have h1 := World.alloc_heap_new w (.cells rep.toArray 22)
        refine ⟨?_, frozen_of_row _ _ i _ _ h1⟩
        rw [cell_of_row _ _ i _ _ (0, 0) h1, HREP.out]
        simp [someOf, hi]
      have HR := Lib.hid hr
      clear hr
      go_loopw [19] (fun t wr => ∃ k : Nat, k ≤ n ∧ t = .int .i64 k ∧ Rw wr w.heap.size n (someOf (fun i => F (f.getD i 0) (g.getD i 0)) k) ∧ Below w.heap.size w wr ∧ w.heap.size < wr.heap.size) (fun t _ => n - (intOf t).toNat)
      case atStart => exact ⟨0, by omega, rfl, HR.out, balloc w _, by simp⟩
      case round =>
        obtain ⟨k, hk, rfl, hr, hB, hsz⟩ := hrel
        have HB := Lib.hid hB
        have HR2 := Lib.hid hr
        have HS2 := Lib.hid hsz
        clear hB hr hsz
        by_cases hlt : k < n
        · have hx := M.within_getD h2 HWF.out k
          have hy := M.within_getD h2 HWG.out k
          have ht1 := Lib.hid (term_any _ f k wr (by omega) (HF.out.at (Nat.le_refl _) HB.out HF.out))
          have ht2 := Lib.hid (term_any _ g k wr (by omega) (HG.out.at (Nat.le_refl _) HB.out HG.out))
          have hst := someOf_step (fun i => F (f.getD i 0) (g.getD i 0)) k
          obtain ⟨x, ex⟩ : ∃ x, x = f.getD k 0 := ⟨_, rfl⟩
          obtain ⟨y, ey⟩ : ∃ y, y = g.getD k 0 := ⟨_, rfl⟩
          rw [← ex] at hx ht1 hst
          rw [← ey] at hy ht2 hst
          have HST := Lib.hid hst
          clear ex ey hst
          go_wp2_with fail
          refine ht1.out.mono ?_
          rintro e w' ⟨rfl, rfl⟩
          go_wp2_with fail
          refine ht2.out.mono ?_
          rintro e w' ⟨rfl, rfl⟩
          go_wp2_with fail
          refine (HOP.out x y _ hx hy).mono ?_
          rintro e w3 ⟨rfl, hb3⟩
          have hr3 := HR2.out.below hb3 HS2.out
          obtain ⟨c3, f3⟩ := hr3 k hlt
          have hr4 := (hr3.set hlt (F x y)).congr (fun i _ => HST.out i)
          have hB3 := bnext HB.out hb3
          have hB4 := hB3.setCell (p := ⟨w.heap.size, k, none⟩) (Nat.le_refl _) (.int .u64 ((F x y : Nat) : Int))
          have hs4 : w.heap.size < w3.heap.size := Nat.lt_of_lt_of_le HS2.out hb3.size
          have HR4 := Lib.hid hr4
          have HB4 := Lib.hid hB4
          have HS4 := Lib.hid hs4
          have hi1 : (k : Int) < (n : Nat) := by omega
          clear hr3 hr4 hB3 hB4 hb3 hs4
          go_wp2_with fail
          go_roundw
          case rel => exact ⟨k + 1, by omega, by go_num, HR4.out, HB4.out, by simpa using HS4.out⟩
          case measure => simp [intOf]; omega
        · obtain rfl : k = n := by omega
          go_wp2_with fail
          go_ret
          refine ⟨_, rfl, (HR2.out.congr (G := fun i => F (f.getD i 0) (g.getD i 0)) (fun i hi => ?_)).nums HS2.out (by omega) (fun i _ => ?_), HB.out⟩
          · unfold someOf; rw [if_pos hi]
          · have := HFL.out (f.getD i 0) (g.getD i 0); omega
end Go.Proofs.Ytgoognipljknjaa
