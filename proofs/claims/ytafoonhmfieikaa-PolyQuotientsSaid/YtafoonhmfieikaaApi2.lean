/-
  Package poly: Mul and Slope.
-/
import Derived.Test.YtafoonhmfieikaaApi1
import Derived.Test.YtafoonhmfieikaaRootsM
import Derived.Test.YtafoonhmfieikaaP9
namespace Go.Proofs.Ytafoonhmfieikaa
open Go.RowKit
set_option linter.unusedVariables false

/-- the answer of Mul: the product, or ErrLimit (3) -/
def MulEnd (p : Nat) (f g : List Nat) (u : Value) (c : Int) (w' : World) : Prop :=
  ((M.pmul p f g).length ≤ 201 ∧ c = 0 ∧ Nums w' u (M.pmul p f g)) ∨ (201 < (M.pmul p f g).length ∧ c = 3 ∧ u = .slice none 0 0)

set_option maxHeartbeats 400000 in
theorem mul1_any (p : Nat) (v v2 : Value) (f g : List Nat) (a : Addr) (w : World) (hi : M.isP p = true) (hwf : M.within p f = true) (hwg : M.within p g = true) (hlf : (M.trim f).length ≤ 201) (hlg : (M.trim g).length ≤ 201) (hv : Nums w v (M.trim f)) (hv2 : Nums w v2 (M.trim g)) (hc : w.cell? a = some (.int .u64 p)) :
    Calls Try.prog 70 #[v, v2, .pointer (some a)] w fun e w' => ∃ u c, e = .returned (.tuple #[u, .int .i64 c]) ∧ MulEnd p f g u c w' ∧ Below w.heap.size w w' := by
  obtain ⟨h3, hp⟩ := M.pos_of hi
  have hprod := product_any p v v2 _ _ w (by omega) hp (M.within_trim hwf) (M.within_trim hwg) (by omega) (by omega) hv hv2
  rw [M.prodL_trims hi hwf hwg] at hprod
  have HP := Lib.hid hprod
  have h0 := fun h => M.pmul_len_zero hi hwf hwg h
  have h1 := fun a b => M.pmul_len hi hwf hwg a b
  obtain ⟨A, cap, rfl⟩ := nums_slice' hv
  obtain ⟨A2, cap2, rfl⟩ := nums_slice' hv2
  obtain ⟨m, em⟩ : ∃ m, m = (M.trim f).length := ⟨_, rfl⟩
  obtain ⟨n, en⟩ : ∃ n, n = (M.trim g).length := ⟨_, rfl⟩
  rw [← em] at hlf HP h0 h1 ⊢
  rw [← en] at hlg HP h0 h1 ⊢
  have H0 := Lib.hid h0
  have H1 := Lib.hid h1
  clear hi hwf hwg hv hv2 em en h0 h1 hprod
  by_cases hL : 202 < m + n
  · have hg : decide ((201 : Int) < (m : Int) + n - 1) = true := by simp; omega
    go_enter Try.func70, Try.ntmps70
    go_wp2_with fail
    go_ret2
    exact ⟨_, _, rfl, .inr ⟨by rw [H1.out (by omega) (by omega)]; omega, rfl, rfl⟩, Below.refl _ _⟩
  · have hg : decide ((201 : Int) < (m : Int) + n - 1) = false := by simp; omega
    go_enter Try.func70, Try.ntmps70
    go_wp2_with fail
    refine HP.out.mono ?_
    rintro e w2 ⟨u2, rfl, hn2, hb2⟩
    have B2 := Lib.hid hb2
    have N2 := Lib.hid hn2
    clear hn2 hb2
    go_wp2_with fail
    go_ret2
    refine ⟨_, _, rfl, .inl ⟨?_, rfl, N2.out⟩, B2.out⟩
    by_cases hz : m = 0 ∨ n = 0
    · rw [H0.out hz]; simp
    · rw [H1.out (by omega) (by omega)]; omega

set_option maxHeartbeats 400000 in
theorem mul2_bad (p : Nat) (v v2 : Value) (f g : List Nat) (w : World) (hp : p < 18446744073709551616) (hv : Nums w v f) (hv2 : Nums w v2 g) (h : M.rgt p [f, g] ≠ 0) :
    Calls Try.prog 31 #[.int .u64 p, v, v2] w (Fails2 w (M.rgt p [f, g])) := by
  have HC := Lib.hid fun op => onTwo_bad p v v2 op f g (w.alloc (.cells #[.int .u64 p] 22)) hp (hv.below (balloc w _)) (hv2.below (balloc w _)) h
  obtain ⟨A, cap, rfl⟩ := nums_slice' hv
  obtain ⟨A2, cap2, rfl⟩ := nums_slice' hv2
  clear h hp hv hv2
  go_enter Try.func31, Try.ntmps31
  go_wp2_with fail
  refine (HC.out _).mono ?_
  rintro e w1 ⟨rfl, hb⟩
  have HB := Lib.hid (bnext (balloc w _) hb)
  clear hb
  go_wp2_with fail
  go_ret2
  exact ⟨rfl, HB.out⟩
set_option maxHeartbeats 400000 in
theorem mul2_ok (p : Nat) (v v2 : Value) (f g : List Nat) (w : World) (hv : Nums w v f) (hv2 : Nums w v2 g) (h : M.rgt p [f, g] = 0) :
    Calls Try.prog 31 #[.int .u64 p, v, v2] w fun e w' => ((M.pmul p f g).length ≤ 201 → Gives2 w (M.pmul p f g) e w') ∧ (201 < (M.pmul p f g).length → Fails2 w 3 e w') := by
  obtain ⟨hi, ⟨hlf, hwf⟩, hlg, hwg⟩ := M.rgt_ok h
  have HC := Lib.hid (onTwo_mul p v v2 f g (MulEnd p f g) ⟨w.heap.size, 0, none⟩ (w.alloc (.cells #[.int .u64 p] 22)) (hv.below (balloc w _)) (hv2.below (balloc w _)) h (fun W v' v'' h1 h2 hb => mul1_any p v' v'' f g _ W hi hwf hwg (Nat.le_trans (M.trim_len_le f) hlf) (Nat.le_trans (M.trim_len_le g) hlg) h1 h2 ((hb.cell (p := ⟨w.heap.size, 0, none⟩) (by simp)).trans (by simp))))
  obtain ⟨A, cap, rfl⟩ := nums_slice' hv
  obtain ⟨A2, cap2, rfl⟩ := nums_slice' hv2
  clear h hv hv2 hwf hwg hi
  go_enter Try.func31, Try.ntmps31
  go_wp2_with fail
  refine HC.out.mono ?_
  rintro e w1 ⟨u, c, rfl, hend, hb⟩
  have HB := Lib.hid (bnext (balloc w _) hb)
  rcases hend with ⟨hl, rfl, hn⟩ | ⟨hl, rfl, rfl⟩
  · have HN := Lib.hid hn
    have HL := Lib.hid hl
    clear hb hn hl
    go_wp2_with fail
    go_ret2
    exact ⟨fun _ => ⟨_, rfl, HN.out, HB.out⟩, fun h => absurd HL.out (by omega)⟩
  · have HL := Lib.hid hl
    clear hb hl
    go_wp2_with fail
    go_ret2
    exact ⟨fun h => absurd HL.out (by omega), fun _ => ⟨rfl, HB.out⟩⟩

/-! ### Slope -/
/-- a slice of numbers without its first number -/
theorem nums_tail {w : World} {A : Option Addr} {cap : Nat} {zs : List Nat} (h : Nums w (.slice A zs.length cap) zs) (h0 : 0 < zs.length) : ∃ A', (if cap = 1 then A else A.map (·.add 1)) = A' ∧ Nums w (.slice A' (zs.length - 1) (cap - 1)) (zs.drop 1) := by
  refine ⟨_, rfl, ?_⟩
  obtain ⟨h1, h2, h3⟩ := h
  refine ⟨fun n hn => h1 n (List.mem_of_mem_drop hn), by rw [List.length_drop]; omega, ?_⟩
  rcases h3 with ⟨a, c, e, rfl, hn⟩ | ⟨b, off, c, e, hc, hb, hcell⟩
  · simp at h0
  · cases e
    by_cases hcap : cap = 1
    · rw [if_pos hcap]
      left
      refine ⟨_, _, by rw [show zs.length - 1 = 0 by omega], List.drop_eq_nil_of_le (by omega), by simp⟩
    · rw [if_neg hcap]
      right
      refine ⟨b, off + 1, cap - 1, by simp [Addr.add], by simp; omega, hb, fun i hi => ?_⟩
      have hi' : 1 + i < zs.length := by simp at hi; omega
      rw [Nat.add_assoc, hcell _ hi']
      simp [List.getD_eq_getElem?_getD, Nat.add_comm]

set_option maxHeartbeats 1000000 in
theorem slope1_any (p : Nat) (v : Value) (f : List Nat) (a : Addr) (w : World) (hi : M.isP p = true) (hwf : M.within p f = true) (hfl : f.length ≤ 201) (hv : Nums w v f) (hc : w.cell? a = some (.int .u64 p)) :
    Calls Try.prog 77 #[v, .pointer (some a)] w (Gives w (M.pslope p f)) := by
  obtain ⟨h3, hp⟩ := M.pos_of hi
  have HV := Lib.hid hv
  have HW := Lib.hid hwf
  have HI := Lib.hid hi
  have hab := World.block_lt_of_cell? w _ hc
  obtain ⟨A, cap, rfl⟩ := nums_slice' hv
  obtain ⟨i0, hi0, hz0, hz1, hz2⟩ := info_parts infoU64
  obtain ⟨ab, ao, asp⟩ := a
  have hsp : asp = none := World.cell?_spot hc
  subst hsp
  clear hi hwf hv
  go_enter Try.func77, Try.ntmps77
  go_wp2_with (refine wpList_make_rowL _ rfl _ _ 23 rfl 22 i0 (.int .u64 0) Try.underlying23 hi0 hz0 hz1 rfl .i64 .i64 _ _ f.length rfl rfl rfl rfl (by rw [hz2]; omega) (by omega) ?_; intro rep hrep; have HREP := Lib.hid hrep; clear hrep)
  have hr : Rw (w.alloc (.cells rep.toArray 22)) w.heap.size f.length (someOf (fun i => i % p) 0) := by
    intro i hi
    have h1 := World.alloc_heap_new w (.cells rep.toArray 22)
    refine ⟨?_, frozen_of_row _ _ i _ _ h1⟩
    rw [cell_of_row _ _ i _ _ (0, 0) h1, HREP.out]
    simp [someOf, hi]
  have HR := Lib.hid hr
  clear hr
  go_loopw [12] (fun t wr => ∃ k : Nat, k ≤ f.length ∧ t = .int .i64 k ∧ Rw wr w.heap.size f.length (someOf (fun i => i % p) k) ∧ Below w.heap.size w wr ∧ w.heap.size < wr.heap.size) (fun t _ => f.length - (intOf t).toNat)
  case atStart => exact ⟨0, by omega, rfl, HR.out, balloc w _, by simp⟩
  case round =>
    obtain ⟨k, hk, rfl, hr, hB, hs⟩ := hrel
    have HB := Lib.hid hB
    have HRR := Lib.hid hr
    have HS := Lib.hid hs
    have hca := (hB.cell (p := ⟨ab, ao, none⟩) hab).trans hc
    clear hr hB hs
    by_cases hlt : k < f.length
    · obtain ⟨c3, f3⟩ := HRR.out k hlt
      have hst := someOf_step (fun i => i % p) k
      have hr4 := (HRR.out.set hlt (k % p)).congr (fun i _ => hst i)
      have hB4 := HB.out.setCell (p := ⟨w.heap.size, k, none⟩) (Nat.le_refl _) (.int .u64 ((k % p : Nat) : Int))
      rw [Int.natCast_emod] at hr4 hB4
      have HR4 := Lib.hid hr4
      have HB4 := Lib.hid hB4
      clear hst hr4 hB4
      go_wp2_with fail
      go_roundw
      case rel => exact ⟨k + 1, by omega, by go_num, HR4.out, HB4.out, by simpa using HS.out⟩
      case measure => simp [intOf]; omega
    · obtain rfl : k = f.length := by omega
      have hpos : 0 < p := by omega
      have hr5 := HRR.out.congr (G := fun i => i % p) (fun i hi => by unfold someOf; rw [if_pos hi])
      have N5 := hr5.nums HS.out (by omega) (fun i _ => by have := Nat.mod_lt i hpos; omega)
      have W5 := M.within_tab (p := p) (n := f.length) (F := fun i => i % p) (fun i _ => Nat.mod_lt _ (by omega))
      have hN := HV.out.at (Nat.le_refl _) HB.out HV.out
      have ht := termwise_any 78 (fun a b => a * b % p) p _ _ f (M.tabM f.length fun i => i % p) wr (.inr (.inr rfl)) hpos hp HW.out W5 (by omega) (by rw [M.tabM_len]; omega) hN N5 (fun a b W ha hb => mul_ok p a b W (M.valid2_iff.2 ⟨HI.out, ha, hb⟩)) (fun a b => Nat.mod_lt _ (by omega))
      have e : (M.tabM (max f.length (M.tabM f.length fun i => i % p).length) fun i => f.getD i 0 * (M.tabM f.length fun i => i % p).getD i 0 % p) = M.tabM f.length fun i => f.getD i 0 * (i % p) % p := by
        rw [M.tabM_len, Nat.max_self]
        apply tab_congr
        intro i hi
        rw [M.tabM_get, if_pos hi]
      rw [e] at ht
      have HT := Lib.hid ht
      have hse := M.slope_eq (p := p) f
      have HSE := Lib.hid hse
      obtain ⟨L, eL⟩ : ∃ L, L = M.tabM f.length fun i => f.getD i 0 * (i % p) % p := ⟨_, rfl⟩
      have hLl : L.length = f.length := by rw [eL, M.tabM_len]
      rw [← eL] at HT HSE
      have HLL := Lib.hid hLl
      clear hr5 N5 W5 hN ht e hse eL hLl
      go_wp2_with fail
      refine HT.out.mono ?_
      rintro e w2 ⟨v2, rfl, hn2, hb2⟩
      have B2 := Lib.hid (bnext HB.out hb2)
      obtain ⟨A2, cap2, rfl, hcap2, hl2, hcl2⟩ := nums_view hn2
      have N2 := Lib.hid hn2
      clear hn2 hb2
      by_cases h0 : L.length = 0
      · obtain rfl : L = [] := List.eq_nil_of_length_eq_zero h0
        have hle : ¬ (1 : Int) ≤ (([] : List Nat).length : Int) := by simp
        clear h0 hcl2
        go_wp2_with fail
        refine (trim_any _ [] w2 N2.out).mono ?_
        rintro e w3 ⟨v3, rfl, hn3, hb3⟩
        have B3 := Lib.hid (bnext B2.out hb3)
        have N3 := Lib.hid hn3
        clear hn3 hb3
        go_wp2_with fail
        go_ret
        exact ⟨_, rfl, by rw [← HSE.out]; exact N3.out, B3.out⟩
      · have hle : (1 : Int) ≤ (L.length : Int) := by omega
        obtain ⟨b2, off2, rfl, _, _⟩ := hcl2 (by omega)
        obtain ⟨A3, hA3, hn3⟩ := nums_tail N2.out (by omega)
        by_cases hc1 : cap2 = 1
        · subst hc1
          rw [if_pos rfl] at hA3
          subst hA3
          rw [Nat.sub_self, show L.length - 1 = 0 by omega] at hn3
          have N3 := Lib.hid hn3
          clear hn3 h0
          go_wp2_with fail
          refine (trim_any _ _ w2 N3.out).mono ?_
          rintro e w3 ⟨v3, rfl, hn4, hb4⟩
          have B4 := Lib.hid (bnext B2.out hb4)
          have N4 := Lib.hid hn4
          clear hn4 hb4
          go_wp2_with fail
          go_ret
          exact ⟨_, rfl, by rw [← HSE.out]; exact N4.out, B4.out⟩
        · rw [if_neg hc1] at hA3
          simp only [Option.map_some, Addr.add] at hA3
          simp only [Nat.one_ne_zero, if_false] at hA3
          subst hA3
          have N3 := Lib.hid hn3
          clear hn3 h0
          go_wp2_with fail
          refine (trim_any _ _ w2 N3.out).mono ?_
          rintro e w3 ⟨v3, rfl, hn4, hb4⟩
          have B4 := Lib.hid (bnext B2.out hb4)
          have N4 := Lib.hid hn4
          clear hn4 hb4
          go_wp2_with fail
          go_ret
          exact ⟨_, rfl, by rw [← HSE.out]; exact N4.out, B4.out⟩

set_option maxHeartbeats 400000 in
theorem slope2_bad (p : Nat) (v : Value) (f : List Nat) (w : World) (hp : p < 18446744073709551616) (hv : Nums w v f) (h : M.chk p f 201 ≠ 0) :
    Calls Try.prog 38 #[.int .u64 p, v] w (Fails2 w (M.chk p f 201)) := by
  have HC := Lib.hid fun op => onOne_bad p v op f (w.alloc (.cells #[.int .u64 p] 22)) hp (hv.below (balloc w _)) h
  obtain ⟨A, cap, rfl⟩ := nums_slice' hv
  clear h hp hv
  go_enter Try.func38, Try.ntmps38
  go_wp2_with fail
  refine (HC.out _).mono ?_
  rintro e w1 ⟨rfl, hb⟩
  have HB := Lib.hid (bnext (balloc w _) hb)
  clear hb
  go_wp2_with fail
  go_ret2
  exact ⟨rfl, HB.out⟩
set_option maxHeartbeats 400000 in
theorem slope2_ok (p : Nat) (v : Value) (f : List Nat) (w : World) (hv : Nums w v f) (h : M.chk p f 201 = 0) :
    Calls Try.prog 38 #[.int .u64 p, v] w (Gives2 w (M.pslope p f)) := by
  obtain ⟨hi, hl, hw⟩ := M.chk_ok h
  have hc := onOne_slope p v f (M.pslope p f) ⟨w.heap.size, 0, none⟩ (w.alloc (.cells #[.int .u64 p] 22)) (hv.below (balloc w _)) h (fun W v' hN hb => by
    rw [← M.pslope_trim]
    exact slope1_any p v' _ _ W hi (M.within_trim hw) (Nat.le_trans (M.trim_len_le f) hl) hN ((hb.cell (p := ⟨w.heap.size, 0, none⟩) (by simp)).trans (by simp)))
  have HC := Lib.hid hc
  obtain ⟨A, cap, rfl⟩ := nums_slice' hv
  clear h hv hc hw hi
  go_enter Try.func38, Try.ntmps38
  go_wp2_with fail
  refine HC.out.mono ?_
  rintro e w1 ⟨v1, rfl, hn, hb⟩
  have HB := Lib.hid (bnext (balloc w _) hb)
  have HN := Lib.hid hn
  clear hb hn
  go_wp2_with fail
  go_ret2
  exact ⟨_, rfl, HN.out, HB.out⟩
end Go.Proofs.Ytafoonhmfieikaa
