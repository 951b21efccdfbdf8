/-
  Package pair of the program: the points of a column.
-/
import Derived.Test.YtglehjcohdjhoaaPp7
import Derived.Test.YtglehjcohdjhoaaPp5
import Derived.Test.YtglehjcohdjhoaaPeM
import Derived.Test.YtglehjcohdjhoaaDpt
namespace Go.Proofs.Ytglehjcohdjhoaa
open Go.RowKit
set_option linter.unusedVariables false
set_option maxRecDepth 100000

theorem getD_mem6 {l : List Nat} {k : Nat} (h : k < l.length) : l.getD k 0 ∈ l := by
  rw [List.getD_eq_getElem?_getD, List.getElem?_eq_getElem h]; exact List.getElem_mem h
/-- make([]api.Point, n) -/
theorem make6_pts (n : Nat) (hn : n ≤ 1000) : ∃ cs : Array Value, cs.size = n * 2 ∧ (∀ j, j < n * 2 → cs[j]? = some (.int .u64 0)) ∧ ∀ W : World, (Instr.makeSlice 107 (.int .i64 ((n : Nat) : Int)) (.int .i64 ((n : Nat) : Int))).run Try.prog W = .ok (.slice (some ⟨W.heap.size, 0, none⟩) n n) (W.alloc (.cells cs 109)) := by
  obtain ⟨i0, hi0, hz0, hz1, hz2⟩ := info_parts infoPt
  refine ⟨madeCells #[.int .u64 0, .int .u64 0] (n * 2), size_madeCells _ _, fun j hj => ?_, fun W => ?_⟩
  · unfold madeCells
    rcases Nat.mod_two_eq_zero_or_one j with h | h <;> simp [hj, h]
  · have h := run_make (P := Try.prog) W 107 109 i0 (.agg #[.int .u64 0, .int .u64 0]) Try.underlying107 hi0 hz0 .i64 .i64 n n (by omega) (Int.le_refl _) (by rw [hz2]; omega) (by omega)
    rw [hz1, Int.toNat_natCast, show (Value.agg #[.int .u64 0, .int .u64 0]).cells = #[.int .u64 0, .int .u64 0] from rfl] at h
    exact h

/-- points under construction: k of n are written, the others are zero -/
structure PtW (w : World) (B n k : Nat) (X Y : Nat → Nat) : Prop where
  top : ∃ cs, w.heap[B]? = some (.cells cs 109 (0, 0)) ∧ cs.size = n * 2 ∧ (∀ j, j < k → cs[j * 2]? = some (.int .u64 (X j : Nat)) ∧ cs[j * 2 + 1]? = some (.int .u64 (Y j : Nat))) ∧ ∀ j, k ≤ j → j < n → cs[j * 2]? = some (.int .u64 0) ∧ cs[j * 2 + 1]? = some (.int .u64 0)
section
variable {w w' : World} {B n k : Nat} {X Y : Nat → Nat}
theorem PtW.lt (h : PtW w B n k X Y) : B < w.heap.size := by obtain ⟨cs, h1, _⟩ := h.top; exact lt_of_block h1
theorem PtW.free (h : PtW w B n k X Y) (j : Nat) : w.frozen? ⟨B, j, none⟩ = false := by obtain ⟨cs, h1, _⟩ := h.top; exact frozen_of_row w B j cs _ h1
theorem PtW.cell (h : PtW w B n k X Y) (hk : k < n) : w.cell? ⟨B, k * 2, none⟩ = some (.int .u64 0) ∧ w.cell? ⟨B, k * 2 + 1, none⟩ = some (.int .u64 0) := by
  obtain ⟨cs, h1, _, _, h4⟩ := h.top
  rw [cell_of_row w B _ cs _ (0, 0) h1, cell_of_row w B _ cs _ (0, 0) h1]
  exact h4 k (Nat.le_refl _) hk
theorem PtW.heap (h : PtW w B n k X Y) (e : w'.heap[B]? = w.heap[B]?) : PtW w' B n k X Y := by
  obtain ⟨cs, h1, h2⟩ := h.top
  exact ⟨cs, e.trans h1, h2⟩
theorem PtW.one (h : PtW w B n k X Y) (hk : k < n) {x : Nat} (hx : X k = x) (hy : Y k = 0) : PtW (w.setCell ⟨B, k * 2, none⟩ (.int .u64 (x : Nat))) B n (k + 1) X Y := by
  obtain ⟨cs, h1, h2, h3, h4⟩ := h.top
  refine ⟨_, heap_setCell_same w B (k * 2) cs _ _ h1, by simpa using h2, fun j hj => ?_, fun j hj hjn => ?_⟩
  · by_cases e : j = k
    · subst e
      rw [Array.getElem?_setIfInBounds_self_of_lt (by omega), Array.getElem?_setIfInBounds_ne (by omega), hx, hy]
      exact ⟨rfl, (h4 j (Nat.le_refl _) hk).2⟩
    · rw [Array.getElem?_setIfInBounds_ne (by omega), Array.getElem?_setIfInBounds_ne (by omega)]
      exact h3 j (by omega)
  · rw [Array.getElem?_setIfInBounds_ne (by omega), Array.getElem?_setIfInBounds_ne (by omega)]
    exact h4 j (by omega) hjn
theorem PtW.two (h : PtW w B n k X Y) (hk : k < n) {x y : Nat} (hx : X k = x) (hy : Y k = y) : PtW ((w.setCell ⟨B, k * 2, none⟩ (.int .u64 (x : Nat))).setCell ⟨B, k * 2 + 1, none⟩ (.int .u64 (y : Nat))) B n (k + 1) X Y := by
  obtain ⟨cs, h1, h2, h3, h4⟩ := h.top
  have h5 := heap_setCell_same w B (k * 2) cs _ (.int .u64 (x : Nat)) h1
  refine ⟨_, heap_setCell_same _ B (k * 2 + 1) _ _ _ h5, by simpa using h2, fun j hj => ?_, fun j hj hjn => ?_⟩
  · by_cases e : j = k
    · subst e
      rw [Array.getElem?_setIfInBounds_ne (by omega), Array.getElem?_setIfInBounds_self_of_lt (by omega), Array.getElem?_setIfInBounds_self_of_lt (by simp; omega), hx, hy]
      exact ⟨rfl, rfl⟩
    · rw [Array.getElem?_setIfInBounds_ne (by omega), Array.getElem?_setIfInBounds_ne (by omega), Array.getElem?_setIfInBounds_ne (by omega), Array.getElem?_setIfInBounds_ne (by omega)]
      exact h3 j (by omega)
  · rw [Array.getElem?_setIfInBounds_ne (by omega), Array.getElem?_setIfInBounds_ne (by omega), Array.getElem?_setIfInBounds_ne (by omega), Array.getElem?_setIfInBounds_ne (by omega)]
    exact h4 j (by omega) hjn
theorem PtW.pts {xs ys : List Nat} (h : PtW w B n n (fun i => xs.getD i 0) (fun i => ys.getD i 0)) (hx : xs.length = n) (hy : ys.length = n) (hn : n ≤ 1000) (hxu : ∀ x ∈ xs, x < 18446744073709551616) (hyu : ∀ y ∈ ys, y < 18446744073709551616) : Pts w (.slice (some ⟨B, 0, none⟩) n n) xs ys := by
  obtain ⟨cs, h1, h2, h3, h4⟩ := h.top
  refine ⟨by omega, by omega, hxu, hyu, some ⟨B, 0, none⟩, n, by rw [hx], by omega, fun _ => ⟨B, 0, rfl, lt_of_block h1, fun i hi => ?_⟩⟩
  rw [cell_of_row w B _ cs _ (0, 0) h1, cell_of_row w B _ cs _ (0, 0) h1, Nat.zero_add]
  exact h3 i (by omega)
end

set_option maxHeartbeats 1000000 in
theorem terms_any (k : Nat) (vx v : Value) (xs : List Nat) (m : List (List Nat)) (w : World) (hl : m.length = xs.length) (h13 : xs.length ≤ 13) (hx : Nums w vx xs) (hv : Mat w v m) :
    Calls Try.prog 92 #[vx, v, .int .i64 k] w fun e w' => ∃ v', e = .returned v' ∧ Pts w' v' xs (M.colY xs m k) ∧ Below w.heap.size w w' := by
  have hud : ∀ b : Bool, undef ≠ Value.bool b := fun b h => by cases h
  have hxu := hx.1
  obtain ⟨Ax, cx, rfl, _, _, hcx⟩ := nums_view hx
  have HCX := Lib.hid hcx
  obtain ⟨A, cap, rfl, _⟩ := mat_view6 hv
  have HM := Lib.hid (mat_row hv).2
  obtain ⟨n, en⟩ : ∃ n, n = xs.length := ⟨_, rfl⟩
  have HEN := Lib.hid en
  rw [hl]
  rw [← en] at h13 ⊢
  have HL := Lib.hid (hl.trans en.symm)
  have HXU := Lib.hid hxu
  obtain ⟨cs, hcs, hcz, hmk⟩ := make6_pts n (by omega)
  obtain ⟨bB, eB⟩ : ∃ B, B = w.heap.size := ⟨_, rfl⟩
  obtain ⟨W0, eW0⟩ : ∃ W0, W0 = w.alloc (.cells cs 109) := ⟨_, rfl⟩
  obtain ⟨Y, eY⟩ : ∃ Y : Nat → Nat, Y = fun i => (M.colY xs m k).getD i 0 := ⟨_, rfl⟩
  have hY : ∀ i, i < n → Y i = (m.getD i []).getD k 0 := fun i hi => by rw [eY]; unfold M.colY; exact M.tabM_at _ (by omega)
  have HY := Lib.hid hY
  have EY := Lib.hid eY
  have hP0 : PtW W0 bB n 0 (fun i => xs.getD i 0) Y := ⟨cs, by rw [eW0, eB]; exact heap_alloc_new w _, hcs, fun i hi => absurd hi (by omega), fun i _ hi => ⟨hcz _ (by omega), hcz _ (by omega)⟩⟩
  have HP0 := Lib.hid hP0
  have HB0 := Lib.hid (show Below w.heap.size w W0 by rw [eW0]; exact balloc w _)
  have EW0 := Lib.hid eW0
  have EB := Lib.hid eB
  clear hx hv hcx hxu en hl eB eW0 eY hY hP0 hcs hcz
  go_enter Try.func92, Try.ntmps92
  go_wp2_with fail
  rw [← EW0.out]
  simp only [← EB.out]
  clear hmk
  go_loopw [15] (fun t wr => ∃ i : Nat, i ≤ n ∧ t = .int .i64 i ∧ PtW wr bB n i (fun i => xs.getD i 0) Y ∧ Below w.heap.size w wr) (fun t _ => n - (intOf t).toNat)
  case atStart => exact ⟨0, by omega, rfl, HP0.out, HB0.out⟩
  case round =>
    obtain ⟨i, hi, rfl, hP, hB⟩ := hrel
    obtain ⟨wx, ewx⟩ : ∃ x, x = wr := ⟨_, rfl⟩
    rw [← ewx] at hP hB ⊢
    have HP := Lib.hid hP
    have HB := Lib.hid hB
    clear hP hB HP0 HB0 ewx
    by_cases hlt : i < n
    · obtain ⟨bx, ox, rfl, hbx, hcx⟩ := HCX.out (by rw [← HEN.out]; omega)
      obtain ⟨b, off, rfl, hbl, hcells⟩ := HM.out (by rw [HL.out]; omega)
      obtain ⟨Au, cu, ck, _, hrow⟩ := hcells i (by rw [HL.out]; exact hlt)
      have c1 := (HB.out.cell (p := ⟨b, off + i, none⟩) hbl).trans ck
      have c2 := (HB.out.cell (p := ⟨bx, ox + i, none⟩) hbx).trans (hcx i (by rw [← HEN.out]; exact hlt))
      have p1 := (HP.out.cell hlt).1
      have p2 := (HP.out.cell hlt).2
      have f1 := HP.out.free (i * 2)
      have f2 := HP.out.free (i * 2 + 1)
      have hbB : w.heap.size ≤ bB := by rw [EB.out]; exact Nat.le_refl _
      have hnx : bx ≠ bB := by omega
      have hnx2 : bB ≠ bx := by omega
      have hYi := HY.out i hlt
      obtain ⟨x, ex⟩ : ∃ x, x = xs.getD i 0 := ⟨_, rfl⟩
      rw [← ex] at c2
      obtain ⟨L, eL⟩ : ∃ L, L = (m.getD i []).length := ⟨_, rfl⟩
      rw [← eL] at c1 hrow
      have hin : (i : Int) < (n : Nat) := by omega
      have hB1 := HB.out.setCell (p := ⟨bB, i * 2, none⟩) hbB (.int .u64 (x : Nat))
      by_cases hkL : k < L
      · obtain ⟨g, o, rfl, hg, hcel⟩ := hrow (by omega)
        have c3 := (HB.out.cell (p := ⟨g, o + k, none⟩) hg).trans (hcel k hkL)
        have hng : g ≠ bB := by omega
        have hng2 : bB ≠ g := by omega
        obtain ⟨y, ey⟩ : ∃ y, y = M.el m i k := ⟨_, rfl⟩
        rw [← ey] at c3
        have HP2 := Lib.hid (HP.out.two hlt ex.symm (y := y) (hYi.trans ey.symm))
        have HB2 := Lib.hid (hB1.setCell (p := ⟨bB, i * 2 + 1, none⟩) hbB (.int .u64 (y : Nat)))
        have hkL1 : (k : Int) < (L : Nat) := by omega
        clear ck hrow hcx hcells ex ey eL hYi hcel hB1
        go_wp2_with fail
        --PEEK
        go_roundw
        case rel => exact ⟨i + 1, by omega, by go_num, HP2.out, HB2.out⟩
        case measure => simp [intOf]; omega
      · have hy0 : Y i = 0 := by rw [hYi]; exact M.getD_ge (by omega)
        have HP2 := Lib.hid (HP.out.one hlt ex.symm hy0)
        have HB2 := Lib.hid hB1
        have hkL1 : ¬ (k : Int) < (L : Nat) := by omega
        clear ck hrow hcx hcells ex eL hYi hB1 hy0
        go_wp2_with fail
        go_roundw
        case rel => exact ⟨i + 1, by omega, by go_num, HP2.out, HB2.out⟩
        case measure => simp [intOf]; omega
    · obtain rfl : i = n := by omega
      have hyl : (M.colY xs m k).length = i := by unfold M.colY; rw [M.tabM_len]; exact HEN.out.symm
      have hP2 : PtW wx bB i i (fun i => xs.getD i 0) (fun i => (M.colY xs m k).getD i 0) := by have := HP.out; rwa [EY.out] at this
      have HPT := Lib.hid (hP2.pts HEN.out.symm hyl (by omega) HXU.out (fun y hy => by
        unfold M.colY at hy
        obtain ⟨j, hj, rfl⟩ := List.mem_map.1 hy
        have hj2 := List.mem_range.1 hj
        obtain ⟨b, off, _, _, hcells⟩ := HM.out (by rw [HL.out]; have := HEN.out; omega)
        obtain ⟨Au, cu, _, hN, _⟩ := hcells j (by rw [HL.out]; have := HEN.out; omega)
        by_cases h : k < (m.getD j []).length
        · exact hN.1 _ (getD_mem6 h)
        · rw [M.getD_ge (by omega)]; omega))
      clear hyl hP2
      go_wp2_with fail
      go_ret
      exact ⟨_, rfl, HPT.out, HB.out⟩
end Go.Proofs.Ytglehjcohdjhoaa
