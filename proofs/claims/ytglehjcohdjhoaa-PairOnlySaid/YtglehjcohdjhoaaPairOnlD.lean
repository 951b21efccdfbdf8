/-
  The walk of PairOnly: what the law leaves out.
-/
import Derived.Test.YtglehjcohdjhoaaAl6
import Derived.Test.YtglehjcohdjhoaaLex2
namespace Go.Proofs.Ytglehjcohdjhoaa
open Go.RowKit
set_option linter.unusedVariables false
set_option maxRecDepth 100000

namespace pairOnlyW
set_option maxHeartbeats 4000000 in
theorem e10 (W : World) (p T : Nat) (h3 : 3 ≤ p) (hp : p ≤ 65537) (hip : M.isP p = true) (hT : T ≤ 3) (s : Nat) (v : Value) (zs : List Nat) (hs64 : s < 18446744073709551616) (hv : Nums W v zs) (t2 : Int) (v1 : Value) (xs : List Nat) (v2 : Value) (rows : List (List Nat)) (hx : Nums W v1 xs) (hr : Mat W v2 rows) (N : Nat) (hN : N = M.triR (T + 1) (T + 1) - 1) (hs : s < p) (hl : zs.length = N) (hw : M.within p zs = true) (hrl : rows.length = 1) (hr0 : (rows.getD 0 []).length = N) (hw2 : M.within p (rows.getD 0 []) = true) (hxl : xs.length = T) (hw3 : M.within p xs = true) (htw : M.twice (0 :: xs) = true) :
    Calls Try.prog 14 #[.int .u64 p, .agg #[.int .u64 s, .int .i64 T, v], .agg #[.int .i64 t2, v1, v2]] W fun e W' => e = .returned (.bool true) ∧ Below W.heap.size W W' := by
  have hud : ∀ b : Bool, undef ≠ Value.bool b := fun b h => by cases h
  have BN := Lib.hid fun (w : World) => rbounds_any p T w (by omega) (by omega) (by omega)
  rw [M.bnd_ok hip hT] at BN
  have hcb : ((0 : Int) != 0) = false := rfl
  have hcb2 : ((2 : Int) != 0) = true := rfl
  have hd1 : decide ((p : Int) ≤ (s : Int)) = false := by rw [decide_eq_false_iff_not]; omega
  have hd2 : ¬ p ≤ s := by omega
  have RSZ := Lib.hid fun (w : World) => rsize_any (T : Int) w (by omega) (by omega)
  rw [M.psize_tri hT, ← hN] at RSZ
  have hNN : ((N : Int) != (N : Int)) = false := by simp
  have WI1 := Lib.hid fun (w : World) (b : Below W.heap.size W w) => within_any p v zs w (hv.below b) (c := 0) (by rw [hw]; rfl)
  have HZL := Lib.hid hl
  obtain ⟨A, cap, rfl⟩ := nums_slice' hv
  have HX := Lib.hid hx
  obtain ⟨Ax, cx, rfl, _, _, hcx⟩ := nums_view hx
  have HCX := Lib.hid hcx
  obtain ⟨Ar, cr, rfl, _⟩ := mat_view6 hr
  rw [hl] at WI1 ⊢
  have hrw := (mat_row hr).2
  obtain ⟨br, off, rfl, hbl, hcells⟩ := hrw (by omega)
  obtain ⟨Au, cu, ck, hnu, hrow⟩ := hcells 0 (by omega)
  rw [Nat.add_zero] at ck
  obtain ⟨us, eus⟩ : ∃ us, us = rows.getD 0 [] := ⟨_, rfl⟩
  rw [← eus] at ck hnu hr0 hw2
  rw [hrl]
  have HNU := Lib.hid hnu
  have WI2 := Lib.hid fun (w : World) (b : Below W.heap.size W w) => within_any p _ us w (HNU.out.below b) (c := 0) (by rw [hw2]; rfl)
  rw [hr0] at ck WI2
  have HUL := Lib.hid hr0
  have HUW := Lib.hid hw2
  have WI3 := Lib.hid fun (w : World) (b : Below W.heap.size W w) => within_any p _ xs w (HX.out.below b) (c := 0) (by rw [hw3]; rfl)
  have hTT : ((T : Int) != (T : Int)) = false := by simp
  have HXL := Lib.hid hxl
  have HW3 := Lib.hid hw3
  have TW := Lib.hid fun (w : World) (u : Value) (hu : Nums w u (0 :: xs)) => twice_any u (0 :: xs) w hu
  rw [htw] at TW
  rw [hxl] at WI3 HX ⊢
  have HN := Lib.hid hN
  clear hv hx hr hcx hl hw hrl hr0 hw2 hxl hw3 hrw hcells hrow hnu eus htw hN
  have B0 := Lib.hid (show Below W.heap.size W (((W.alloc (.cells #[.int .u64 (s : Nat), .int .i64 (T : Int), .slice A N cap] 32)).alloc (.cells #[.int .i64 t2, .slice Ax T cx, .slice (some ⟨br, off, none⟩) 1 cr] 76)).drew) from (bnext (balloc W _) (balloc _ _)).drew)
  have hS0 : (((W.alloc (.cells #[.int .u64 (s : Nat), .int .i64 (T : Int), .slice A N cap] 32)).alloc (.cells #[.int .i64 t2, .slice Ax T cx, .slice (some ⟨br, off, none⟩) 1 cr] 76)).drew).cell? ⟨W.heap.size, 0, none⟩ = some (.int .u64 (s : Nat)) ∧ (((W.alloc (.cells #[.int .u64 (s : Nat), .int .i64 (T : Int), .slice A N cap] 32)).alloc (.cells #[.int .i64 t2, .slice Ax T cx, .slice (some ⟨br, off, none⟩) 1 cr] 76)).drew).cell? ⟨W.heap.size, 1, none⟩ = some (.int .i64 (T : Int)) ∧ (((W.alloc (.cells #[.int .u64 (s : Nat), .int .i64 (T : Int), .slice A N cap] 32)).alloc (.cells #[.int .i64 t2, .slice Ax T cx, .slice (some ⟨br, off, none⟩) 1 cr] 76)).drew).cell? ⟨W.heap.size, 2, none⟩ = some (.slice A N cap) ∧ (((W.alloc (.cells #[.int .u64 (s : Nat), .int .i64 (T : Int), .slice A N cap] 32)).alloc (.cells #[.int .i64 t2, .slice Ax T cx, .slice (some ⟨br, off, none⟩) 1 cr] 76)).drew).cell? ⟨W.heap.size + 1, 1, none⟩ = some (.slice Ax T cx) ∧ (((W.alloc (.cells #[.int .u64 (s : Nat), .int .i64 (T : Int), .slice A N cap] 32)).alloc (.cells #[.int .i64 t2, .slice Ax T cx, .slice (some ⟨br, off, none⟩) 1 cr] 76)).drew).cell? ⟨W.heap.size + 1, 2, none⟩ = some (.slice (some ⟨br, off, none⟩) 1 cr) ∧ (((W.alloc (.cells #[.int .u64 (s : Nat), .int .i64 (T : Int), .slice A N cap] 32)).alloc (.cells #[.int .i64 t2, .slice Ax T cx, .slice (some ⟨br, off, none⟩) 1 cr] 76)).drew).cell? ⟨br, off, none⟩ = some (.slice Au N cu) := ⟨by simp, by simp, by simp, by simp, by simp, (B0.out.cell (p := ⟨br, off, none⟩) hbl).trans ck⟩
  obtain ⟨W1, eW1⟩ : ∃ x, x = ((W.alloc (.cells #[.int .u64 (s : Nat), .int .i64 (T : Int), .slice A N cap] 32)).alloc (.cells #[.int .i64 t2, .slice Ax T cx, .slice (some ⟨br, off, none⟩) 1 cr] 76)).drew := ⟨_, rfl⟩
  have EW1 := Lib.hid eW1
  rw [← eW1] at B0 hS0
  have hsz1 : W.heap.size + 1 < W1.heap.size := by rw [eW1]; simp
  have hbr1 : br < W1.heap.size := by omega
  obtain ⟨W2, eW2⟩ : ∃ x, x = W1.alloc (.cells #[.int .u64 ((0 : Nat) : Int)] 22) := ⟨_, rfl⟩
  have EW2 := Lib.hid eW2
  have hb12 : Below W1.heap.size W1 W2 := by rw [eW2]; exact balloc _ _
  have HO1 := Lib.hid (show W2.ownsRow W1.heap.size 22 1 (.slice (some ⟨W1.heap.size, 0, none⟩) 1 1) 1 (vals [0]) by rw [eW2]; exact World.ownsRow_lit (base := W1.heap.size) (e := 22) (size := 1) W1 #[.int .u64 ((0 : Nat) : Int)] 1 (Nat.le_refl _) (by decide) rfl)
  have D2 := Lib.hid ((HX.out.below B0.out).below hb12)
  have hbs := hb12.size
  obtain ⟨i0', i1', i2', i3', i4', i5'⟩ := hS0
  have hS0 := And.intro i0' (And.intro i1' (And.intro i2' (And.intro i3' (And.intro i4' i5'))))
  have hS2 := And.intro ((hb12.cell (p := ⟨W.heap.size, 0, none⟩) (by show W.heap.size < W1.heap.size; omega)).trans i0') (And.intro ((hb12.cell (p := ⟨W.heap.size, 1, none⟩) (by show W.heap.size < W1.heap.size; omega)).trans i1') (And.intro ((hb12.cell (p := ⟨W.heap.size, 2, none⟩) (by show W.heap.size < W1.heap.size; omega)).trans i2') (And.intro ((hb12.cell (p := ⟨W.heap.size + 1, 1, none⟩) hsz1).trans i3') (And.intro ((hb12.cell (p := ⟨W.heap.size + 1, 2, none⟩) hsz1).trans i4') ((hb12.cell (p := ⟨br, off, none⟩) hbr1).trans i5')))))
  have HS2 := Lib.hid hS2
  have HB12 := Lib.hid hb12
  clear eW1 eW2 hb12 i0' i1' i2' i3' i4' i5' hS2
  go_enter Try.func14, Try.ntmps14
  go_wp2_with fail
  try dsimp only [List.append]
  refine wp_region_lex (S := fun W' => W'.cell? ⟨W.heap.size, 0, none⟩ = some (.int .u64 (s : Nat)) ∧ W'.cell? ⟨W.heap.size, 1, none⟩ = some (.int .i64 (T : Int)) ∧ W'.cell? ⟨W.heap.size, 2, none⟩ = some (.slice A N cap) ∧ W'.cell? ⟨W.heap.size + 1, 1, none⟩ = some (.slice Ax T cx) ∧ W'.cell? ⟨W.heap.size + 1, 2, none⟩ = some (.slice (some ⟨br, off, none⟩) 1 cr) ∧ W'.cell? ⟨br, off, none⟩ = some (.slice Au N cu)) (by kernel_rfl) (by kernel_rfl) (fun _ _ _ _ _ h => h) ?_ ?_
  · rw [← EW1.out]; exact hS0
  rw [← EW1.out]
  repeat (first
    | (refine LexH.pass (by rfl) ?_; (try simp only [Act.put, List.setIfInBounds_toArray, List.set_cons_zero, List.set_cons_succ]))
    | (refine LexH.yield (v := ?_) (by rfl) ?_ ?_; rotate_left 1; (· intro w hSw; (try dsimp only at hSw); go_simp; try with_reducible rfl); (try simp only [Act.put, List.setIfInBounds_toArray, List.set_cons_zero, List.set_cons_succ]))
    | (refine LexH.alone (by rfl) (by kernel_rfl) (fun K hKK => ?_); go_simp; (first | (go_at_call 21; (with_reducible refine (BN.out _).mono ?_); rintro e w2 ⟨rfl, rfl⟩) | (go_at_call 18; (with_reducible refine (RSZ.out _).mono ?_); rintro e w2 ⟨rfl, rfl⟩) | (go_at_call 32; (with_reducible refine (WI1.out _ B0.out).mono ?_); rintro e w2 ⟨rfl, rfl⟩) | (go_at_call 32; (with_reducible refine (WI2.out _ B0.out).mono ?_); rintro e w2 ⟨rfl, rfl⟩) | (go_at_call 32; (with_reducible refine (WI3.out _ B0.out).mono ?_); rintro e w2 ⟨rfl, rfl⟩)); go_wp2_with fail; refine hKK.out _ _ ?_ (fun hHeld => ?_); (· exact hS0); clear hKK K hHeld; (try simp only [Act.put, List.setIfInBounds_toArray, List.set_cons_zero, List.set_cons_succ]))
    | (refine LexH.late2 (v1 := ?_) (v2 := ?_) (by kernel_rfl) (by rfl) ?_ (by rfl) ?_ (by rfl) ?_; rotate_left 2; (· intro w hSw; (try dsimp only at hSw); (try simp only [Act.put, List.setIfInBounds_toArray, List.set_cons_zero, List.set_cons_succ]); go_simp; try with_reducible rfl); (· intro w hSw; (try dsimp only at hSw); (try simp only [Act.put, List.setIfInBounds_toArray, List.set_cons_zero, List.set_cons_succ]); go_simp; try with_reducible rfl); intro K hKK; (try simp only [Act.put, List.setIfInBounds_toArray, List.set_cons_zero, List.set_cons_succ]); go_simp; rw [show W1.alloc (.cells #[.int .u64 0] 22) = W2 from EW2.out.symm]; refine hKK.out _ _ ?_ (fun hHeld => ?_); (· exact HS2.out); clear hKK K hHeld; (try simp only [Act.put, List.setIfInBounds_toArray, List.set_cons_zero, List.set_cons_succ]))
    | (refine LexH.alone (by rfl) (by kernel_rfl) (fun K hKK => ?_); (refine wp_append_nums6 _ _ rfl W1.heap.size _ _ _ (by rfl) HO1.out _ xs (by rfl) D2.out (by have := HXL.out; omega) hbs ?_); intro v5 w5 ho5 hb5; have HN5 := Lib.hid (show Nums w5 v5 (0 :: xs) from nums_of_owns (zs := 0 :: xs) (n := 1 + xs.length) ho5 (fun z hz => by (rcases List.mem_cons.1 hz with h | h; (· omega); exact D2.out.1 z h)) (by have := HXL.out; simp; omega)); have HB5 := Lib.hid (HB12.out.trans hb5); have hS5 := Lib.hid (show _ ∧ _ ∧ _ ∧ _ ∧ _ ∧ _ from ⟨(hb5.cell (p := ⟨W.heap.size, 0, none⟩) (by show W.heap.size < W1.heap.size; omega)).trans HS2.out.1, (hb5.cell (p := ⟨W.heap.size, 1, none⟩) (by show W.heap.size < W1.heap.size; omega)).trans HS2.out.2.1, (hb5.cell (p := ⟨W.heap.size, 2, none⟩) (by show W.heap.size < W1.heap.size; omega)).trans HS2.out.2.2.1, (hb5.cell (p := ⟨W.heap.size + 1, 1, none⟩) (by show W.heap.size + 1 < W1.heap.size; omega)).trans HS2.out.2.2.2.1, (hb5.cell (p := ⟨W.heap.size + 1, 2, none⟩) (by show W.heap.size + 1 < W1.heap.size; omega)).trans HS2.out.2.2.2.2.1, (hb5.cell (p := ⟨br, off, none⟩) (by show br < W1.heap.size; omega)).trans HS2.out.2.2.2.2.2⟩); have hs5 := hb5.size; refine hKK.out _ _ ?_ (fun hHeld => ?_); (· exact hS5.out); clear hKK K hHeld; (try simp only [Act.put, List.setIfInBounds_toArray, List.set_cons_zero, List.set_cons_succ]))
    | (refine LexH.alone (by rfl) (by kernel_rfl) (fun K hKK => ?_); go_simp; go_at_call 47; (with_reducible refine (TW.out _ _ HN5.out).mono ?_); rintro e w6 ⟨rfl, hb6⟩; have hS6 := Lib.hid (show _ ∧ _ ∧ _ ∧ _ ∧ _ ∧ _ from ⟨(hb6.cell (p := ⟨W.heap.size, 0, none⟩) (by show W.heap.size < w5.heap.size; omega)).trans hS5.out.1, (hb6.cell (p := ⟨W.heap.size, 1, none⟩) (by show W.heap.size < w5.heap.size; omega)).trans hS5.out.2.1, (hb6.cell (p := ⟨W.heap.size, 2, none⟩) (by show W.heap.size < w5.heap.size; omega)).trans hS5.out.2.2.1, (hb6.cell (p := ⟨W.heap.size + 1, 1, none⟩) (by show W.heap.size + 1 < w5.heap.size; omega)).trans hS5.out.2.2.2.1, (hb6.cell (p := ⟨W.heap.size + 1, 2, none⟩) (by show W.heap.size + 1 < w5.heap.size; omega)).trans hS5.out.2.2.2.2.1, (hb6.cell (p := ⟨br, off, none⟩) (by show br < w5.heap.size; omega)).trans hS5.out.2.2.2.2.2⟩); go_wp2_with fail; refine hKK.out _ _ ?_ (fun hHeld => ?_); (· exact hS6.out); clear hKK K hHeld; (try simp only [Act.put, List.setIfInBounds_toArray, List.set_cons_zero, List.set_cons_succ])))
  refine LexH.nil ?_
  have B6 := Lib.hid (show Below W.heap.size W w6 from bnext (bnext B0.out HB5.out) hb6)
  go_wp2_with fail
  refine (alive6_any _).mono ?_
  rintro e w9 ⟨rfl, hb⟩
  have B9 := Lib.hid (bnext B6.out hb)
  clear hb
  go_wp2_with fail
  go_ret
  exact ⟨rfl, B9.out⟩
end pairOnlyW
end Go.Proofs.Ytglehjcohdjhoaa
