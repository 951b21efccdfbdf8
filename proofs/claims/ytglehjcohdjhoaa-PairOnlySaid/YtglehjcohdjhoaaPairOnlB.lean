/-
  The walk of PairOnly: what the law leaves out.
-/
import Derived.Test.YtglehjcohdjhoaaAl6
import Derived.Test.YtglehjcohdjhoaaLex2
namespace Go.Proofs.Ytglehjcohdjhoaa
open Go.RowKit
set_option linter.unusedVariables false
set_option maxRecDepth 100000

namespace pairOnlyW
set_option maxHeartbeats 2000000 in
theorem e4 (W : World) (p T : Nat) (h3 : 3 ≤ p) (hp : p ≤ 65537) (hip : M.isP p = true) (hT : T ≤ 3) (s : Nat) (v : Value) (zs : List Nat) (hs64 : s < 18446744073709551616) (hv : Nums W v zs) (t2 : Int) (v1 : Value) (xs : List Nat) (v2 : Value) (rows : List (List Nat)) (hx : Nums W v1 xs) (hr : Mat W v2 rows) (N : Nat) (hN : N = M.triR (T + 1) (T + 1) - 1) (hs : s < p) (hl : zs.length = N) (hw : M.within p zs = false) :
    Calls Try.prog 14 #[.int .u64 p, .agg #[.int .u64 s, .int .i64 T, v], .agg #[.int .i64 t2, v1, v2]] W fun e W' => e = .returned (.bool true) ∧ Below W.heap.size W W' := by
  have hud : ∀ b : Bool, undef ≠ Value.bool b := fun b h => by cases h
  have BN := Lib.hid fun (w : World) => rbounds_any p T w (by omega) (by omega) (by omega)
  rw [M.bnd_ok hip hT] at BN
  have hcb : ((0 : Int) != 0) = false := rfl
  have hcb2 : ((2 : Int) != 0) = true := rfl
  have hd1 : decide ((p : Int) ≤ (s : Int)) = false := by rw [decide_eq_false_iff_not]; omega
  have hd2 : ¬ p ≤ s := by omega
  have RSZ := Lib.hid fun (w : World) => rsize_any (T : Int) w (by omega) (by omega)
  rw [M.psize_tri hT, ← hN] at RSZ
  have hNN : ((N : Int) != (N : Int)) = false := by simp
  have WI1 := Lib.hid fun (w : World) (b : Below W.heap.size W w) => within_any p v zs w (hv.below b) (c := 2) (by rw [hw]; rfl)
  have HZL := Lib.hid hl
  obtain ⟨A, cap, rfl⟩ := nums_slice' hv
  have HX := Lib.hid hx
  obtain ⟨Ax, cx, rfl, _, _, hcx⟩ := nums_view hx
  have HCX := Lib.hid hcx
  obtain ⟨Ar, cr, rfl, _⟩ := mat_view6 hr
  rw [hl] at WI1 ⊢
  have HN := Lib.hid hN
  clear hw hv hx hr hcx hl hN
  have B0 := Lib.hid (show Below W.heap.size W (((W.alloc (.cells #[.int .u64 (s : Nat), .int .i64 (T : Int), .slice A N cap] 32)).alloc (.cells #[.int .i64 t2, .slice Ax xs.length cx, .slice Ar rows.length cr] 76)).drew) from (bnext (balloc W _) (balloc _ _)).drew)
  have hS0 : (((W.alloc (.cells #[.int .u64 (s : Nat), .int .i64 (T : Int), .slice A N cap] 32)).alloc (.cells #[.int .i64 t2, .slice Ax xs.length cx, .slice Ar rows.length cr] 76)).drew).cell? ⟨W.heap.size, 0, none⟩ = some (.int .u64 (s : Nat)) ∧ (((W.alloc (.cells #[.int .u64 (s : Nat), .int .i64 (T : Int), .slice A N cap] 32)).alloc (.cells #[.int .i64 t2, .slice Ax xs.length cx, .slice Ar rows.length cr] 76)).drew).cell? ⟨W.heap.size, 1, none⟩ = some (.int .i64 (T : Int)) ∧ (((W.alloc (.cells #[.int .u64 (s : Nat), .int .i64 (T : Int), .slice A N cap] 32)).alloc (.cells #[.int .i64 t2, .slice Ax xs.length cx, .slice Ar rows.length cr] 76)).drew).cell? ⟨W.heap.size, 2, none⟩ = some (.slice A N cap) ∧ (((W.alloc (.cells #[.int .u64 (s : Nat), .int .i64 (T : Int), .slice A N cap] 32)).alloc (.cells #[.int .i64 t2, .slice Ax xs.length cx, .slice Ar rows.length cr] 76)).drew).cell? ⟨W.heap.size + 1, 1, none⟩ = some (.slice Ax xs.length cx) ∧ (((W.alloc (.cells #[.int .u64 (s : Nat), .int .i64 (T : Int), .slice A N cap] 32)).alloc (.cells #[.int .i64 t2, .slice Ax xs.length cx, .slice Ar rows.length cr] 76)).drew).cell? ⟨W.heap.size + 1, 2, none⟩ = some (.slice Ar rows.length cr) := ⟨by simp, by simp, by simp, by simp, by simp⟩
  go_enter Try.func14, Try.ntmps14
  go_wp2_with fail
  try dsimp only [List.append]
  refine wp_region_lex (S := fun W' => W'.cell? ⟨W.heap.size, 0, none⟩ = some (.int .u64 (s : Nat)) ∧ W'.cell? ⟨W.heap.size, 1, none⟩ = some (.int .i64 (T : Int)) ∧ W'.cell? ⟨W.heap.size, 2, none⟩ = some (.slice A N cap) ∧ W'.cell? ⟨W.heap.size + 1, 1, none⟩ = some (.slice Ax xs.length cx) ∧ W'.cell? ⟨W.heap.size + 1, 2, none⟩ = some (.slice Ar rows.length cr)) (by kernel_rfl) (by kernel_rfl) (fun _ _ _ _ _ h => h) ?_ ?_
  · exact hS0
  repeat (first
    | (refine LexH.pass (by rfl) ?_; (try simp only [Act.put, List.setIfInBounds_toArray, List.set_cons_zero, List.set_cons_succ]))
    | (refine LexH.yield (v := ?_) (by rfl) ?_ ?_; rotate_left 1; (· intro w hSw; (try dsimp only at hSw); go_simp; try with_reducible rfl); (try simp only [Act.put, List.setIfInBounds_toArray, List.set_cons_zero, List.set_cons_succ]))
    | (refine LexH.alone (by rfl) (by kernel_rfl) (fun K hKK => ?_); go_simp; (first | (go_at_call 21; (with_reducible refine (BN.out _).mono ?_); rintro e w2 ⟨rfl, rfl⟩) | (go_at_call 18; (with_reducible refine (RSZ.out _).mono ?_); rintro e w2 ⟨rfl, rfl⟩) | (go_at_call 32; (with_reducible refine (WI1.out _ B0.out).mono ?_); rintro e w2 ⟨rfl, rfl⟩)); go_wp2_with fail; refine hKK.out _ _ ?_ (fun hHeld => ?_); (· exact hS0); clear hKK K hHeld; (try simp only [Act.put, List.setIfInBounds_toArray, List.set_cons_zero, List.set_cons_succ])))
  refine LexH.nil ?_
  go_wp2_with fail
  refine (alive6_any _).mono ?_
  rintro e w9 ⟨rfl, hb⟩
  have B9 := Lib.hid (bnext B0.out hb)
  clear hb
  go_wp2_with fail
  go_ret
  exact ⟨rfl, B9.out⟩
set_option maxHeartbeats 2000000 in
theorem e5 (W : World) (p T : Nat) (h3 : 3 ≤ p) (hp : p ≤ 65537) (hip : M.isP p = true) (hT : T ≤ 3) (s : Nat) (v : Value) (zs : List Nat) (hs64 : s < 18446744073709551616) (hv : Nums W v zs) (t2 : Int) (v1 : Value) (xs : List Nat) (v2 : Value) (rows : List (List Nat)) (hx : Nums W v1 xs) (hr : Mat W v2 rows) (N : Nat) (hN : N = M.triR (T + 1) (T + 1) - 1) (hs : s < p) (hl : zs.length = N) (hw : M.within p zs = true) (hrl : rows.length ≠ 1) :
    Calls Try.prog 14 #[.int .u64 p, .agg #[.int .u64 s, .int .i64 T, v], .agg #[.int .i64 t2, v1, v2]] W fun e W' => e = .returned (.bool true) ∧ Below W.heap.size W W' := by
  have hud : ∀ b : Bool, undef ≠ Value.bool b := fun b h => by cases h
  have BN := Lib.hid fun (w : World) => rbounds_any p T w (by omega) (by omega) (by omega)
  rw [M.bnd_ok hip hT] at BN
  have hcb : ((0 : Int) != 0) = false := rfl
  have hcb2 : ((2 : Int) != 0) = true := rfl
  have hd1 : decide ((p : Int) ≤ (s : Int)) = false := by rw [decide_eq_false_iff_not]; omega
  have hd2 : ¬ p ≤ s := by omega
  have RSZ := Lib.hid fun (w : World) => rsize_any (T : Int) w (by omega) (by omega)
  rw [M.psize_tri hT, ← hN] at RSZ
  have hNN : ((N : Int) != (N : Int)) = false := by simp
  have WI1 := Lib.hid fun (w : World) (b : Below W.heap.size W w) => within_any p v zs w (hv.below b) (c := 0) (by rw [hw]; rfl)
  have HZL := Lib.hid hl
  obtain ⟨A, cap, rfl⟩ := nums_slice' hv
  have HX := Lib.hid hx
  obtain ⟨Ax, cx, rfl, _, _, hcx⟩ := nums_view hx
  have HCX := Lib.hid hcx
  obtain ⟨Ar, cr, rfl, _⟩ := mat_view6 hr
  rw [hl] at WI1 ⊢
  have hrb : ((rows.length : Int) != 1) = true := by rw [bne_iff_ne]; omega
  have HN := Lib.hid hN
  clear hrl hv hx hr hcx hl hw hN
  have B0 := Lib.hid (show Below W.heap.size W (((W.alloc (.cells #[.int .u64 (s : Nat), .int .i64 (T : Int), .slice A N cap] 32)).alloc (.cells #[.int .i64 t2, .slice Ax xs.length cx, .slice Ar rows.length cr] 76)).drew) from (bnext (balloc W _) (balloc _ _)).drew)
  have hS0 : (((W.alloc (.cells #[.int .u64 (s : Nat), .int .i64 (T : Int), .slice A N cap] 32)).alloc (.cells #[.int .i64 t2, .slice Ax xs.length cx, .slice Ar rows.length cr] 76)).drew).cell? ⟨W.heap.size, 0, none⟩ = some (.int .u64 (s : Nat)) ∧ (((W.alloc (.cells #[.int .u64 (s : Nat), .int .i64 (T : Int), .slice A N cap] 32)).alloc (.cells #[.int .i64 t2, .slice Ax xs.length cx, .slice Ar rows.length cr] 76)).drew).cell? ⟨W.heap.size, 1, none⟩ = some (.int .i64 (T : Int)) ∧ (((W.alloc (.cells #[.int .u64 (s : Nat), .int .i64 (T : Int), .slice A N cap] 32)).alloc (.cells #[.int .i64 t2, .slice Ax xs.length cx, .slice Ar rows.length cr] 76)).drew).cell? ⟨W.heap.size, 2, none⟩ = some (.slice A N cap) ∧ (((W.alloc (.cells #[.int .u64 (s : Nat), .int .i64 (T : Int), .slice A N cap] 32)).alloc (.cells #[.int .i64 t2, .slice Ax xs.length cx, .slice Ar rows.length cr] 76)).drew).cell? ⟨W.heap.size + 1, 1, none⟩ = some (.slice Ax xs.length cx) ∧ (((W.alloc (.cells #[.int .u64 (s : Nat), .int .i64 (T : Int), .slice A N cap] 32)).alloc (.cells #[.int .i64 t2, .slice Ax xs.length cx, .slice Ar rows.length cr] 76)).drew).cell? ⟨W.heap.size + 1, 2, none⟩ = some (.slice Ar rows.length cr) := ⟨by simp, by simp, by simp, by simp, by simp⟩
  go_enter Try.func14, Try.ntmps14
  go_wp2_with fail
  try dsimp only [List.append]
  refine wp_region_lex (S := fun W' => W'.cell? ⟨W.heap.size, 0, none⟩ = some (.int .u64 (s : Nat)) ∧ W'.cell? ⟨W.heap.size, 1, none⟩ = some (.int .i64 (T : Int)) ∧ W'.cell? ⟨W.heap.size, 2, none⟩ = some (.slice A N cap) ∧ W'.cell? ⟨W.heap.size + 1, 1, none⟩ = some (.slice Ax xs.length cx) ∧ W'.cell? ⟨W.heap.size + 1, 2, none⟩ = some (.slice Ar rows.length cr)) (by kernel_rfl) (by kernel_rfl) (fun _ _ _ _ _ h => h) ?_ ?_
  · exact hS0
  repeat (first
    | (refine LexH.pass (by rfl) ?_; (try simp only [Act.put, List.setIfInBounds_toArray, List.set_cons_zero, List.set_cons_succ]))
    | (refine LexH.yield (v := ?_) (by rfl) ?_ ?_; rotate_left 1; (· intro w hSw; (try dsimp only at hSw); go_simp; try with_reducible rfl); (try simp only [Act.put, List.setIfInBounds_toArray, List.set_cons_zero, List.set_cons_succ]))
    | (refine LexH.alone (by rfl) (by kernel_rfl) (fun K hKK => ?_); go_simp; (first | (go_at_call 21; (with_reducible refine (BN.out _).mono ?_); rintro e w2 ⟨rfl, rfl⟩) | (go_at_call 18; (with_reducible refine (RSZ.out _).mono ?_); rintro e w2 ⟨rfl, rfl⟩) | (go_at_call 32; (with_reducible refine (WI1.out _ B0.out).mono ?_); rintro e w2 ⟨rfl, rfl⟩)); go_wp2_with fail; refine hKK.out _ _ ?_ (fun hHeld => ?_); (· exact hS0); clear hKK K hHeld; (try simp only [Act.put, List.setIfInBounds_toArray, List.set_cons_zero, List.set_cons_succ])))
  refine LexH.nil ?_
  go_wp2_with fail
  refine (alive6_any _).mono ?_
  rintro e w9 ⟨rfl, hb⟩
  have B9 := Lib.hid (bnext B0.out hb)
  clear hb
  go_wp2_with fail
  go_ret
  exact ⟨rfl, B9.out⟩
set_option maxHeartbeats 2000000 in
theorem e6 (W : World) (p T : Nat) (h3 : 3 ≤ p) (hp : p ≤ 65537) (hip : M.isP p = true) (hT : T ≤ 3) (s : Nat) (v : Value) (zs : List Nat) (hs64 : s < 18446744073709551616) (hv : Nums W v zs) (t2 : Int) (v1 : Value) (xs : List Nat) (v2 : Value) (rows : List (List Nat)) (hx : Nums W v1 xs) (hr : Mat W v2 rows) (N : Nat) (hN : N = M.triR (T + 1) (T + 1) - 1) (hs : s < p) (hl : zs.length = N) (hw : M.within p zs = true) (hrl : rows.length = 1) (hr0 : (rows.getD 0 []).length ≠ N) :
    Calls Try.prog 14 #[.int .u64 p, .agg #[.int .u64 s, .int .i64 T, v], .agg #[.int .i64 t2, v1, v2]] W fun e W' => e = .returned (.bool true) ∧ Below W.heap.size W W' := by
  have hud : ∀ b : Bool, undef ≠ Value.bool b := fun b h => by cases h
  have BN := Lib.hid fun (w : World) => rbounds_any p T w (by omega) (by omega) (by omega)
  rw [M.bnd_ok hip hT] at BN
  have hcb : ((0 : Int) != 0) = false := rfl
  have hcb2 : ((2 : Int) != 0) = true := rfl
  have hd1 : decide ((p : Int) ≤ (s : Int)) = false := by rw [decide_eq_false_iff_not]; omega
  have hd2 : ¬ p ≤ s := by omega
  have RSZ := Lib.hid fun (w : World) => rsize_any (T : Int) w (by omega) (by omega)
  rw [M.psize_tri hT, ← hN] at RSZ
  have hNN : ((N : Int) != (N : Int)) = false := by simp
  have WI1 := Lib.hid fun (w : World) (b : Below W.heap.size W w) => within_any p v zs w (hv.below b) (c := 0) (by rw [hw]; rfl)
  have HZL := Lib.hid hl
  obtain ⟨A, cap, rfl⟩ := nums_slice' hv
  have HX := Lib.hid hx
  obtain ⟨Ax, cx, rfl, _, _, hcx⟩ := nums_view hx
  have HCX := Lib.hid hcx
  obtain ⟨Ar, cr, rfl, _⟩ := mat_view6 hr
  rw [hl] at WI1 ⊢
  have hrw := (mat_row hr).2
  obtain ⟨br, off, rfl, hbl, hcells⟩ := hrw (by omega)
  obtain ⟨Au, cu, ck, hnu, hrow⟩ := hcells 0 (by omega)
  rw [Nat.add_zero] at ck
  obtain ⟨us, eus⟩ : ∃ us, us = rows.getD 0 [] := ⟨_, rfl⟩
  rw [← eus] at ck hnu hr0
  rw [hrl]
  have HNU := Lib.hid hnu
  have hub : ((us.length : Int) != (N : Int)) = true := by rw [bne_iff_ne]; omega
  have HN := Lib.hid hN
  clear hr0 hv hx hr hcx hl hw hrl hrw hcells hrow hnu eus hN
  have B0 := Lib.hid (show Below W.heap.size W (((W.alloc (.cells #[.int .u64 (s : Nat), .int .i64 (T : Int), .slice A N cap] 32)).alloc (.cells #[.int .i64 t2, .slice Ax xs.length cx, .slice (some ⟨br, off, none⟩) 1 cr] 76)).drew) from (bnext (balloc W _) (balloc _ _)).drew)
  have hS0 : (((W.alloc (.cells #[.int .u64 (s : Nat), .int .i64 (T : Int), .slice A N cap] 32)).alloc (.cells #[.int .i64 t2, .slice Ax xs.length cx, .slice (some ⟨br, off, none⟩) 1 cr] 76)).drew).cell? ⟨W.heap.size, 0, none⟩ = some (.int .u64 (s : Nat)) ∧ (((W.alloc (.cells #[.int .u64 (s : Nat), .int .i64 (T : Int), .slice A N cap] 32)).alloc (.cells #[.int .i64 t2, .slice Ax xs.length cx, .slice (some ⟨br, off, none⟩) 1 cr] 76)).drew).cell? ⟨W.heap.size, 1, none⟩ = some (.int .i64 (T : Int)) ∧ (((W.alloc (.cells #[.int .u64 (s : Nat), .int .i64 (T : Int), .slice A N cap] 32)).alloc (.cells #[.int .i64 t2, .slice Ax xs.length cx, .slice (some ⟨br, off, none⟩) 1 cr] 76)).drew).cell? ⟨W.heap.size, 2, none⟩ = some (.slice A N cap) ∧ (((W.alloc (.cells #[.int .u64 (s : Nat), .int .i64 (T : Int), .slice A N cap] 32)).alloc (.cells #[.int .i64 t2, .slice Ax xs.length cx, .slice (some ⟨br, off, none⟩) 1 cr] 76)).drew).cell? ⟨W.heap.size + 1, 1, none⟩ = some (.slice Ax xs.length cx) ∧ (((W.alloc (.cells #[.int .u64 (s : Nat), .int .i64 (T : Int), .slice A N cap] 32)).alloc (.cells #[.int .i64 t2, .slice Ax xs.length cx, .slice (some ⟨br, off, none⟩) 1 cr] 76)).drew).cell? ⟨W.heap.size + 1, 2, none⟩ = some (.slice (some ⟨br, off, none⟩) 1 cr) ∧ (((W.alloc (.cells #[.int .u64 (s : Nat), .int .i64 (T : Int), .slice A N cap] 32)).alloc (.cells #[.int .i64 t2, .slice Ax xs.length cx, .slice (some ⟨br, off, none⟩) 1 cr] 76)).drew).cell? ⟨br, off, none⟩ = some (.slice Au us.length cu) := ⟨by simp, by simp, by simp, by simp, by simp, (B0.out.cell (p := ⟨br, off, none⟩) hbl).trans ck⟩
  go_enter Try.func14, Try.ntmps14
  go_wp2_with fail
  try dsimp only [List.append]
  refine wp_region_lex (S := fun W' => W'.cell? ⟨W.heap.size, 0, none⟩ = some (.int .u64 (s : Nat)) ∧ W'.cell? ⟨W.heap.size, 1, none⟩ = some (.int .i64 (T : Int)) ∧ W'.cell? ⟨W.heap.size, 2, none⟩ = some (.slice A N cap) ∧ W'.cell? ⟨W.heap.size + 1, 1, none⟩ = some (.slice Ax xs.length cx) ∧ W'.cell? ⟨W.heap.size + 1, 2, none⟩ = some (.slice (some ⟨br, off, none⟩) 1 cr) ∧ W'.cell? ⟨br, off, none⟩ = some (.slice Au us.length cu)) (by kernel_rfl) (by kernel_rfl) (fun _ _ _ _ _ h => h) ?_ ?_
  · exact hS0
  repeat (first
    | (refine LexH.pass (by rfl) ?_; (try simp only [Act.put, List.setIfInBounds_toArray, List.set_cons_zero, List.set_cons_succ]))
    | (refine LexH.yield (v := ?_) (by rfl) ?_ ?_; rotate_left 1; (· intro w hSw; (try dsimp only at hSw); go_simp; try with_reducible rfl); (try simp only [Act.put, List.setIfInBounds_toArray, List.set_cons_zero, List.set_cons_succ]))
    | (refine LexH.alone (by rfl) (by kernel_rfl) (fun K hKK => ?_); go_simp; (first | (go_at_call 21; (with_reducible refine (BN.out _).mono ?_); rintro e w2 ⟨rfl, rfl⟩) | (go_at_call 18; (with_reducible refine (RSZ.out _).mono ?_); rintro e w2 ⟨rfl, rfl⟩) | (go_at_call 32; (with_reducible refine (WI1.out _ B0.out).mono ?_); rintro e w2 ⟨rfl, rfl⟩)); go_wp2_with fail; refine hKK.out _ _ ?_ (fun hHeld => ?_); (· exact hS0); clear hKK K hHeld; (try simp only [Act.put, List.setIfInBounds_toArray, List.set_cons_zero, List.set_cons_succ])))
  refine LexH.nil ?_
  go_wp2_with fail
  refine (alive6_any _).mono ?_
  rintro e w9 ⟨rfl, hb⟩
  have B9 := Lib.hid (bnext B0.out hb)
  clear hb
  go_wp2_with fail
  go_ret
  exact ⟨rfl, B9.out⟩
end pairOnlyW
end Go.Proofs.Ytglehjcohdjhoaa
