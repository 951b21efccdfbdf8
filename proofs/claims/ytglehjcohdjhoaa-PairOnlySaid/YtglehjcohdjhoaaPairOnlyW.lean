/-
  The walk of PairOnly: the secret and the rows at t places determine the tape.
-/
import Derived.Test.YtglehjcohdjhoaaPairOnlA
import Derived.Test.YtglehjcohdjhoaaPairOnlB
import Derived.Test.YtglehjcohdjhoaaPairOnlC
import Derived.Test.YtglehjcohdjhoaaPairOnlD
import Derived.Test.YtglehjcohdjhoaaPr13
namespace Go.Proofs.Ytglehjcohdjhoaa
open Go.RowKit
set_option linter.unusedVariables false
set_option maxRecDepth 100000


namespace M
theorem made_self {p s n : Nat} {zs : List Nat} (hl : zs.length = triR n n - 1) (hw : within p zs = true) : made p s n zs = s :: zs := by
  unfold made
  congr 1
  apply List.ext_getElem
  · simp [hl]
  · intro i h1 h2
    have hi : i < zs.length := h2
    have hz : zs[i] < p := by
      have := within_mem hw hi
      rwa [List.getD_eq_getElem?_getD, List.getElem?_eq_getElem hi] at this
    simp [List.getD_eq_getElem?_getD, hi, Nat.mod_eq_of_lt hz]
theorem made_ok7 {p s n : Nat} (hp : 0 < p) (hs : s < p) {zs : List Nat} (hw : within p zs = true) : POk p n (tabMM n n (triF n (s :: zs))) := by
  have hw : within p (s :: zs) = true := by
    unfold within at hw ⊢
    simp only [List.all_cons, Bool.and_eq_true, decide_eq_true_eq]
    exact ⟨hs, hw⟩
  exact POk.tab (triF_sym n _) fun i k _ _ => triF_lt hp hw i k
theorem tape_of_rows {p s n T : Nat} (hi : isP p = true) (hn : n = T + 1) {xs zs us : List Nat} (hs : s < p) (hz : zs.length = triR n n - 1) (hu : us.length = triR n n - 1) (hzw : within p zs = true) (huw : within p us = true) (hx : within p xs = true) (hxl : xs.length = T) (hd : (0 :: xs).Nodup) :
    (∀ i, i < T → rowp p n (el (tabMM n n (triF n (s :: zs)))) (xs.getD i 0) = rowp p n (el (tabMM n n (triF n (s :: us)))) (xs.getD i 0)) ↔ zs = us := by
  have hp : 0 < p := by have := pos_of hi; omega
  have hn0 : 0 < n := by omega
  have hN : 0 < triR n n := by
    have h0 : triR n 1 = n := by simp [triR]
    have := triR_mono (n := n) (show 1 ≤ n from hn0)
    omega
  constructor
  · intro h
    have wz : within p (s :: zs) = true := by unfold within at hzw ⊢; simp only [List.all_cons, Bool.and_eq_true, decide_eq_true_eq]; exact ⟨hs, hzw⟩
    have wu : within p (s :: us) = true := by unfold within at huw ⊢; simp only [List.all_cons, Bool.and_eq_true, decide_eq_true_eq]; exact ⟨hs, huw⟩
    have e := same_of_some hi hn0 (triF_sym n (s :: zs)) (triF_sym n (s :: us)) hd hx (by omega) (fun x hm => by
      obtain ⟨i, hi, rfl⟩ := mem_getD hm
      have := h i (by omega)
      rwa [rowp_tab, rowp_tab] at this) (by simp [triF, triR])
    have e2 := triF_inj (n := n) (l := s :: zs) (m := s :: us) (by simp [hz]; omega) (by simp [hu]; omega) (fun i k h1 h2 => by
      have := e i k h1 h2
      rwa [Nat.mod_eq_of_lt (triF_lt hp wz i k), Nat.mod_eq_of_lt (triF_lt hp wu i k)] at this)
    simpa using e2
  · rintro rfl i _
    rfl
theorem nodup_of_twice {l : List Nat} (h : twice l = false) : l.Nodup := by
  apply Classical.byContradiction
  intro hn
  have := twice_yes hn
  rw [h] at this
  cases this
theorem all_snoc {f : Nat → Prop} [DecidablePred f] {k : Nat} (b : Bool) (hb : b = decide (f k)) (a : Bool) (ha : a = true ↔ ∀ i, i < k → f i) : (a && b) = true ↔ ∀ i, i < k + 1 → f i := by
  rw [Bool.and_eq_true, ha, hb, decide_eq_true_eq]
  constructor
  · rintro ⟨h1, h2⟩ i hi
    rcases (show i < k ∨ i = k by omega) with h | rfl
    · exact h1 i h
    · exact h2
  · exact fun h => ⟨fun i hi => h i (by omega), h k (by omega)⟩
end M

namespace pairOnlyW
set_option maxHeartbeats 8000000 in
theorem good (W : World) (p T : Nat) (h3 : 3 ≤ p) (hp : p ≤ 65537) (hip : M.isP p = true) (hT : T ≤ 3) (s : Nat) (v : Value) (zs : List Nat) (hs64 : s < 18446744073709551616) (hv : Nums W v zs) (t2 : Int) (v1 : Value) (xs : List Nat) (v2 : Value) (rows : List (List Nat)) (hx : Nums W v1 xs) (hr : Mat W v2 rows) (N : Nat) (hN : N = M.triR (T + 1) (T + 1) - 1) (hs : s < p) (hl : zs.length = N) (hw : M.within p zs = true) (hrl : rows.length = 1) (hr0 : (rows.getD 0 []).length = N) (hw2 : M.within p (rows.getD 0 []) = true) (hxl : xs.length = T) (hw3 : M.within p xs = true) (htw : M.twice (0 :: xs) = false) :
    Calls Try.prog 14 #[.int .u64 p, .agg #[.int .u64 s, .int .i64 T, v], .agg #[.int .i64 t2, v1, v2]] W fun e W' => e = .returned (.bool true) ∧ Below W.heap.size W W' := by
  have hud : ∀ b : Bool, undef ≠ Value.bool b := fun b h => by cases h
  have hp0 : 0 < p := by omega
  have hmk : M.mkE p s T = 0 := by unfold M.mkE; rw [if_pos (M.bnd_ok hip hT), if_neg (by omega)]
  have MF := Lib.hid fun (w : World) (u : Value) (h : Nums w u zs) => pmake_any p s T u zs w (by omega) (by omega) (by omega) (by omega) h
  rw [hmk, Int.toNat_natCast, M.made_self (n := T + 1) (by rw [hl, hN]) hw] at MF
  have MG := Lib.hid fun (w : World) (u : Value) (h : Nums w u (rows.getD 0 [])) => pmake_any p s T u (rows.getD 0 []) w (by omega) (by omega) (by omega) (by omega) h
  rw [hmk, Int.toNat_natCast, M.made_self (n := T + 1) (by rw [hr0, hN]) hw2] at MG
  have OF := Lib.hid (M.made_ok7 (n := T + 1) hp0 hs hw)
  have OG := Lib.hid (M.made_ok7 (n := T + 1) hp0 hs hw2)
  have HIF := Lib.hid (M.tape_of_rows hip (n := T + 1) rfl hs (by rw [hl, hN]) (by rw [hr0, hN]) hw hw2 hw3 hxl (M.nodup_of_twice htw))
  have HV := Lib.hid hv
  have HIP := Lib.hid hip
  have BN := Lib.hid fun (w : World) => rbounds_any p T w (by omega) (by omega) (by omega)
  rw [M.bnd_ok hip hT] at BN
  have hcb : ((0 : Int) != 0) = false := rfl
  have hcb2 : ((2 : Int) != 0) = true := rfl
  have hd1 : decide ((p : Int) ≤ (s : Int)) = false := by rw [decide_eq_false_iff_not]; omega
  have hd2 : ¬ p ≤ s := by omega
  have RSZ := Lib.hid fun (w : World) => rsize_any (T : Int) w (by omega) (by omega)
  rw [M.psize_tri hT, ← hN] at RSZ
  have hNN : ((N : Int) != (N : Int)) = false := by simp
  have WI1 := Lib.hid fun (w : World) (b : Below W.heap.size W w) => within_any p v zs w (hv.below b) (c := 0) (by rw [hw]; rfl)
  have HZL := Lib.hid hl
  obtain ⟨A, cap, rfl⟩ := nums_slice' hv
  have HX := Lib.hid hx
  obtain ⟨Ax, cx, rfl, _, _, hcx⟩ := nums_view hx
  have HCX := Lib.hid hcx
  obtain ⟨Ar, cr, rfl, _⟩ := mat_view6 hr
  rw [hl] at WI1 ⊢
  have hrw := (mat_row hr).2
  obtain ⟨br, off, rfl, hbl, hcells⟩ := hrw (by omega)
  obtain ⟨Au, cu, ck, hnu, hrow⟩ := hcells 0 (by omega)
  rw [Nat.add_zero] at ck
  obtain ⟨us, eus⟩ : ∃ us, us = rows.getD 0 [] := ⟨_, rfl⟩
  rw [← eus] at ck hnu hr0 hw2
  rw [hrl]
  have HNU := Lib.hid hnu
  have EUS := Lib.hid eus
  have WI2 := Lib.hid fun (w : World) (b : Below W.heap.size W w) => within_any p _ us w (HNU.out.below b) (c := 0) (by rw [hw2]; rfl)
  rw [hr0] at ck WI2
  have HUL := Lib.hid hr0
  have HUW := Lib.hid hw2
  have WI3 := Lib.hid fun (w : World) (b : Below W.heap.size W w) => within_any p _ xs w (HX.out.below b) (c := 0) (by rw [hw3]; rfl)
  have hTT : ((T : Int) != (T : Int)) = false := by simp
  have HXL := Lib.hid hxl
  have HW3 := Lib.hid hw3
  have TW := Lib.hid fun (w : World) (u : Value) (hu : Nums w u (0 :: xs)) => twice_any u (0 :: xs) w hu
  rw [htw] at TW
  rw [hxl] at WI3 HX ⊢
  have HN := Lib.hid hN
  clear hv hx hr hcx hl hw hrl hr0 hw2 hxl hw3 hrw hcells hrow hnu eus htw hN
  have B0 := Lib.hid (show Below W.heap.size W (((W.alloc (.cells #[.int .u64 (s : Nat), .int .i64 (T : Int), .slice A N cap] 32)).alloc (.cells #[.int .i64 t2, .slice Ax T cx, .slice (some ⟨br, off, none⟩) 1 cr] 76)).drew) from (bnext (balloc W _) (balloc _ _)).drew)
  have hS0 : (((W.alloc (.cells #[.int .u64 (s : Nat), .int .i64 (T : Int), .slice A N cap] 32)).alloc (.cells #[.int .i64 t2, .slice Ax T cx, .slice (some ⟨br, off, none⟩) 1 cr] 76)).drew).cell? ⟨W.heap.size, 0, none⟩ = some (.int .u64 (s : Nat)) ∧ (((W.alloc (.cells #[.int .u64 (s : Nat), .int .i64 (T : Int), .slice A N cap] 32)).alloc (.cells #[.int .i64 t2, .slice Ax T cx, .slice (some ⟨br, off, none⟩) 1 cr] 76)).drew).cell? ⟨W.heap.size, 1, none⟩ = some (.int .i64 (T : Int)) ∧ (((W.alloc (.cells #[.int .u64 (s : Nat), .int .i64 (T : Int), .slice A N cap] 32)).alloc (.cells #[.int .i64 t2, .slice Ax T cx, .slice (some ⟨br, off, none⟩) 1 cr] 76)).drew).cell? ⟨W.heap.size, 2, none⟩ = some (.slice A N cap) ∧ (((W.alloc (.cells #[.int .u64 (s : Nat), .int .i64 (T : Int), .slice A N cap] 32)).alloc (.cells #[.int .i64 t2, .slice Ax T cx, .slice (some ⟨br, off, none⟩) 1 cr] 76)).drew).cell? ⟨W.heap.size + 1, 1, none⟩ = some (.slice Ax T cx) ∧ (((W.alloc (.cells #[.int .u64 (s : Nat), .int .i64 (T : Int), .slice A N cap] 32)).alloc (.cells #[.int .i64 t2, .slice Ax T cx, .slice (some ⟨br, off, none⟩) 1 cr] 76)).drew).cell? ⟨W.heap.size + 1, 2, none⟩ = some (.slice (some ⟨br, off, none⟩) 1 cr) ∧ (((W.alloc (.cells #[.int .u64 (s : Nat), .int .i64 (T : Int), .slice A N cap] 32)).alloc (.cells #[.int .i64 t2, .slice Ax T cx, .slice (some ⟨br, off, none⟩) 1 cr] 76)).drew).cell? ⟨br, off, none⟩ = some (.slice Au N cu) := ⟨by simp, by simp, by simp, by simp, by simp, (B0.out.cell (p := ⟨br, off, none⟩) hbl).trans ck⟩
  obtain ⟨W1, eW1⟩ : ∃ x, x = ((W.alloc (.cells #[.int .u64 (s : Nat), .int .i64 (T : Int), .slice A N cap] 32)).alloc (.cells #[.int .i64 t2, .slice Ax T cx, .slice (some ⟨br, off, none⟩) 1 cr] 76)).drew := ⟨_, rfl⟩
  have EW1 := Lib.hid eW1
  rw [← eW1] at B0 hS0
  have hsz1 : W.heap.size + 1 < W1.heap.size := by rw [eW1]; simp
  have hbr1 : br < W1.heap.size := by omega
  obtain ⟨W2, eW2⟩ : ∃ x, x = W1.alloc (.cells #[.int .u64 ((0 : Nat) : Int)] 22) := ⟨_, rfl⟩
  have EW2 := Lib.hid eW2
  have hb12 : Below W1.heap.size W1 W2 := by rw [eW2]; exact balloc _ _
  have HO1 := Lib.hid (show W2.ownsRow W1.heap.size 22 1 (.slice (some ⟨W1.heap.size, 0, none⟩) 1 1) 1 (vals [0]) by rw [eW2]; exact World.ownsRow_lit (base := W1.heap.size) (e := 22) (size := 1) W1 #[.int .u64 ((0 : Nat) : Int)] 1 (Nat.le_refl _) (by decide) rfl)
  have D2 := Lib.hid ((HX.out.below B0.out).below hb12)
  have hbs := hb12.size
  obtain ⟨i0', i1', i2', i3', i4', i5'⟩ := hS0
  have hS0 := And.intro i0' (And.intro i1' (And.intro i2' (And.intro i3' (And.intro i4' i5'))))
  have hS2 := And.intro ((hb12.cell (p := ⟨W.heap.size, 0, none⟩) (by show W.heap.size < W1.heap.size; omega)).trans i0') (And.intro ((hb12.cell (p := ⟨W.heap.size, 1, none⟩) (by show W.heap.size < W1.heap.size; omega)).trans i1') (And.intro ((hb12.cell (p := ⟨W.heap.size, 2, none⟩) (by show W.heap.size < W1.heap.size; omega)).trans i2') (And.intro ((hb12.cell (p := ⟨W.heap.size + 1, 1, none⟩) hsz1).trans i3') (And.intro ((hb12.cell (p := ⟨W.heap.size + 1, 2, none⟩) hsz1).trans i4') ((hb12.cell (p := ⟨br, off, none⟩) hbr1).trans i5')))))
  have HS2 := Lib.hid hS2
  have HB12 := Lib.hid hb12
  clear eW1 eW2 hb12 i0' i1' i2' i3' i4' i5' hS2
  go_enter Try.func14, Try.ntmps14
  go_wp2_with fail
  try dsimp only [List.append]
  refine wp_region_lex (S := fun W' => W'.cell? ⟨W.heap.size, 0, none⟩ = some (.int .u64 (s : Nat)) ∧ W'.cell? ⟨W.heap.size, 1, none⟩ = some (.int .i64 (T : Int)) ∧ W'.cell? ⟨W.heap.size, 2, none⟩ = some (.slice A N cap) ∧ W'.cell? ⟨W.heap.size + 1, 1, none⟩ = some (.slice Ax T cx) ∧ W'.cell? ⟨W.heap.size + 1, 2, none⟩ = some (.slice (some ⟨br, off, none⟩) 1 cr) ∧ W'.cell? ⟨br, off, none⟩ = some (.slice Au N cu)) (by kernel_rfl) (by kernel_rfl) (fun _ _ _ _ _ h => h) ?_ ?_
  · rw [← EW1.out]; exact hS0
  rw [← EW1.out]
  repeat (first
    | (refine LexH.pass (by rfl) ?_; (try simp only [Act.put, List.setIfInBounds_toArray, List.set_cons_zero, List.set_cons_succ]))
    | (refine LexH.yield (v := ?_) (by rfl) ?_ ?_; rotate_left 1; (· intro w hSw; (try dsimp only at hSw); go_simp; try with_reducible rfl); (try simp only [Act.put, List.setIfInBounds_toArray, List.set_cons_zero, List.set_cons_succ]))
    | (refine LexH.alone (by rfl) (by kernel_rfl) (fun K hKK => ?_); go_simp; (first | (go_at_call 21; (with_reducible refine (BN.out _).mono ?_); rintro e w2 ⟨rfl, rfl⟩) | (go_at_call 18; (with_reducible refine (RSZ.out _).mono ?_); rintro e w2 ⟨rfl, rfl⟩) | (go_at_call 32; (with_reducible refine (WI1.out _ B0.out).mono ?_); rintro e w2 ⟨rfl, rfl⟩) | (go_at_call 32; (with_reducible refine (WI2.out _ B0.out).mono ?_); rintro e w2 ⟨rfl, rfl⟩) | (go_at_call 32; (with_reducible refine (WI3.out _ B0.out).mono ?_); rintro e w2 ⟨rfl, rfl⟩)); go_wp2_with fail; refine hKK.out _ _ ?_ (fun hHeld => ?_); (· exact hS0); clear hKK K hHeld; (try simp only [Act.put, List.setIfInBounds_toArray, List.set_cons_zero, List.set_cons_succ]))
    | (refine LexH.late2 (v1 := ?_) (v2 := ?_) (by kernel_rfl) (by rfl) ?_ (by rfl) ?_ (by rfl) ?_; rotate_left 2; (· intro w hSw; (try dsimp only at hSw); (try simp only [Act.put, List.setIfInBounds_toArray, List.set_cons_zero, List.set_cons_succ]); go_simp; try with_reducible rfl); (· intro w hSw; (try dsimp only at hSw); (try simp only [Act.put, List.setIfInBounds_toArray, List.set_cons_zero, List.set_cons_succ]); go_simp; try with_reducible rfl); intro K hKK; (try simp only [Act.put, List.setIfInBounds_toArray, List.set_cons_zero, List.set_cons_succ]); go_simp; rw [show W1.alloc (.cells #[.int .u64 0] 22) = W2 from EW2.out.symm]; refine hKK.out _ _ ?_ (fun hHeld => ?_); (· exact HS2.out); clear hKK K hHeld; (try simp only [Act.put, List.setIfInBounds_toArray, List.set_cons_zero, List.set_cons_succ]))
    | (refine LexH.alone (by rfl) (by kernel_rfl) (fun K hKK => ?_); (refine wp_append_nums6 _ _ rfl W1.heap.size _ _ _ (by rfl) HO1.out _ xs (by rfl) D2.out (by have := HXL.out; omega) hbs ?_); intro v5 w5 ho5 hb5; have HN5 := Lib.hid (show Nums w5 v5 (0 :: xs) from nums_of_owns (zs := 0 :: xs) (n := 1 + xs.length) ho5 (fun z hz => by (rcases List.mem_cons.1 hz with h | h; (· omega); exact D2.out.1 z h)) (by have := HXL.out; simp; omega)); have HB5 := Lib.hid (HB12.out.trans hb5); have hS5 := Lib.hid (show _ ∧ _ ∧ _ ∧ _ ∧ _ ∧ _ from ⟨(hb5.cell (p := ⟨W.heap.size, 0, none⟩) (by show W.heap.size < W1.heap.size; omega)).trans HS2.out.1, (hb5.cell (p := ⟨W.heap.size, 1, none⟩) (by show W.heap.size < W1.heap.size; omega)).trans HS2.out.2.1, (hb5.cell (p := ⟨W.heap.size, 2, none⟩) (by show W.heap.size < W1.heap.size; omega)).trans HS2.out.2.2.1, (hb5.cell (p := ⟨W.heap.size + 1, 1, none⟩) (by show W.heap.size + 1 < W1.heap.size; omega)).trans HS2.out.2.2.2.1, (hb5.cell (p := ⟨W.heap.size + 1, 2, none⟩) (by show W.heap.size + 1 < W1.heap.size; omega)).trans HS2.out.2.2.2.2.1, (hb5.cell (p := ⟨br, off, none⟩) (by show br < W1.heap.size; omega)).trans HS2.out.2.2.2.2.2⟩); have hs5 := hb5.size; refine hKK.out _ _ ?_ (fun hHeld => ?_); (· exact hS5.out); clear hKK K hHeld; (try simp only [Act.put, List.setIfInBounds_toArray, List.set_cons_zero, List.set_cons_succ]))
    | (refine LexH.alone (by rfl) (by kernel_rfl) (fun K hKK => ?_); go_simp; go_at_call 47; (with_reducible refine (TW.out _ _ HN5.out).mono ?_); rintro e w6 ⟨rfl, hb6⟩; have hS6 := Lib.hid (show _ ∧ _ ∧ _ ∧ _ ∧ _ ∧ _ from ⟨(hb6.cell (p := ⟨W.heap.size, 0, none⟩) (by show W.heap.size < w5.heap.size; omega)).trans hS5.out.1, (hb6.cell (p := ⟨W.heap.size, 1, none⟩) (by show W.heap.size < w5.heap.size; omega)).trans hS5.out.2.1, (hb6.cell (p := ⟨W.heap.size, 2, none⟩) (by show W.heap.size < w5.heap.size; omega)).trans hS5.out.2.2.1, (hb6.cell (p := ⟨W.heap.size + 1, 1, none⟩) (by show W.heap.size + 1 < w5.heap.size; omega)).trans hS5.out.2.2.2.1, (hb6.cell (p := ⟨W.heap.size + 1, 2, none⟩) (by show W.heap.size + 1 < w5.heap.size; omega)).trans hS5.out.2.2.2.2.1, (hb6.cell (p := ⟨br, off, none⟩) (by show br < w5.heap.size; omega)).trans hS5.out.2.2.2.2.2⟩); go_wp2_with fail; refine hKK.out _ _ ?_ (fun hHeld => ?_); (· exact hS6.out); clear hKK K hHeld; (try simp only [Act.put, List.setIfInBounds_toArray, List.set_cons_zero, List.set_cons_succ])))
  refine LexH.nil ?_
  have B6 := Lib.hid (show Below W.heap.size W w6 from bnext (bnext B0.out HB5.out) hb6)
  obtain ⟨q0, q1, q2, r1, r2, ck6⟩ := hS6.out
  have hs6 : W.heap.size + 1 < w6.heap.size := by have h1 := HB5.out.size; have h2 := hb6.size; omega
  rw [← EUS.out] at MG OG HIF
  obtain ⟨d1, ed1⟩ : ∃ d1, d1 = zs.drop (M.triR (T + 1) (T + 1) - 1) := ⟨_, rfl⟩
  obtain ⟨d2, ed2⟩ : ∃ d2, d2 = us.drop (M.triR (T + 1) (T + 1) - 1) := ⟨_, rfl⟩
  rw [← ed1] at MF
  rw [← ed2] at MG
  obtain ⟨mf, emf⟩ : ∃ mf, mf = M.tabMM (T + 1) (T + 1) (M.triF (T + 1) (s :: zs)) := ⟨_, rfl⟩
  obtain ⟨mg, emg⟩ : ∃ mg, mg = M.tabMM (T + 1) (T + 1) (M.triF (T + 1) (s :: us)) := ⟨_, rfl⟩
  rw [← emf] at MF OF HIF
  rw [← emg] at MG OG HIF
  have VZ := Lib.hid (show Nums w6 (.slice A N cap) zs by have := HV.out.below B6.out; rwa [HZL.out] at this)
  have VU := Lib.hid (show Nums w6 (.slice Au N cu) us by have := HNU.out.below B6.out; rwa [HUL.out] at this)
  have M6 := Lib.hid (MF.out w6 _ VZ.out)
  have RO := Lib.hid fun (w : World) (u : Value) (mm : List (List Nat)) (x : Nat) (hx : x < p) (hok : M.POk p (T + 1) mm) (h : Mat w u mm) => prow_any p T u mm x w (by omega) (by omega) (by omega) (by omega) h
  have HRC := Lib.hid (show ∀ (mm : List (List Nat)) x, x < p → M.POk p (T + 1) mm → M.rowC p T mm x = 0 from fun mm x hx h => by unfold M.rowC; rw [if_pos (M.pchk_ok HIP.out hT h), if_neg (by omega)])
  clear hb6 hS6 hS5 HO1 D2 hbs HS2 HB12 ho5 hb5 HN5 HB5 hs5 hS0 hsz1 hbr1 ed1 ed2 emf emg BN RSZ WI1 WI2 WI3 TW MF hmk hip
  go_wp2_with fail
  refine M6.out.mono ?_
  rintro e w7 (⟨h, _⟩ | ⟨_, u1, u2, rfl, hm, hn, hb⟩)
  case inl => exact absurd rfl h
  have B7 := Lib.hid (bnext B6.out hb)
  have p0 := (hb.cell (p := ⟨W.heap.size, 0, none⟩) (by show W.heap.size < w6.heap.size; omega)).trans q0
  have p1 := (hb.cell (p := ⟨W.heap.size, 1, none⟩) (by show W.heap.size < w6.heap.size; omega)).trans q1
  have p2 := (hb.cell (p := ⟨W.heap.size, 2, none⟩) (by show W.heap.size < w6.heap.size; omega)).trans q2
  have s1 := (hb.cell (p := ⟨W.heap.size + 1, 1, none⟩) hs6).trans r1
  have s2 := (hb.cell (p := ⟨W.heap.size + 1, 2, none⟩) hs6).trans r2
  have lbr : br < w6.heap.size := by have := B6.out.size; omega
  have ck7 := (hb.cell (p := ⟨br, off, none⟩) lbr).trans ck6
  have hs7 : W.heap.size + 1 < w7.heap.size := Nat.lt_of_lt_of_le hs6 hb.size
  have lbr7 : br < w7.heap.size := Nat.lt_of_lt_of_le lbr hb.size
  have M7 := Lib.hid (show Calls Try.prog 20 #[.int .u64 p, .int .u64 s, .int .i64 T, .slice Au N cu] w7.drew fun e w' => ∃ A3 c3 A4 c4, e = .returned (.tuple #[.slice A3 mg.length c3, .slice A4 d2.length c4, .int .i64 0]) ∧ Mat w' (.slice A3 mg.length c3) mg ∧ Below w7.drew.heap.size w7.drew w' from
    (MG.out w7.drew _ ((VU.out.below hb).below (Below.refl _ _).drew)).mono (by
      rintro e w8 (⟨h, _⟩ | ⟨_, u3, u4, rfl, hm8, hn8, hb8⟩)
      · exact absurd rfl h
      · obtain ⟨A3, c3, rfl, _⟩ := mat_view6 hm8
        obtain ⟨A4, c4, rfl⟩ := nums_slice' hn8
        exact ⟨A3, c3, A4, c4, rfl, hm8, hb8⟩))
  have FM7 := Lib.hid hm
  have HB67 := Lib.hid hb
  obtain ⟨A1, c1, rfl, _⟩ := mat_view6 hm
  obtain ⟨A2, c2, rfl⟩ := nums_slice' hn
  clear hb hm hn q0 q1 q2 r1 r2 ck6 hs6 lbr M6 MG
  go_wp2_with fail
  go_region_held3 (fun W' => W'.cell? ⟨W.heap.size, 0, none⟩ = some (.int .u64 (s : Nat)) ∧ W'.cell? ⟨W.heap.size, 1, none⟩ = some (.int .i64 (T : Int)) ∧ W'.cell? ⟨W.heap.size + 1, 2, none⟩ = some (.slice (some ⟨br, off, none⟩) 1 cr) ∧ W'.cell? ⟨br, off, none⟩ = some (.slice Au N cu))
    (first | exact ⟨q0, q1, r2, ck8⟩ | exact ⟨p0, p1, s2, ck7⟩ | go_keep)
    (first | (go_at_call 20; (with_reducible refine M7.out.mono ?_); rintro e w8 ⟨A3, c3, A4, c4, rfl, hm, hb⟩; have q0 := (hb.cell (p := ⟨W.heap.size, 0, none⟩) (by show W.heap.size < w7.heap.size; omega)).trans p0; have q1 := (hb.cell (p := ⟨W.heap.size, 1, none⟩) (by show W.heap.size < w7.heap.size; omega)).trans p1; have r2 := (hb.cell (p := ⟨W.heap.size + 1, 2, none⟩) hs7).trans s2; have ck8 := (hb.cell (p := ⟨br, off, none⟩) lbr7).trans ck7))
  have hb8 : Below w7.heap.size w7 w8 := below_of_drew6 hb
  have B8 := Lib.hid (bnext B7.out hb8)
  have q2 := (hb8.cell (p := ⟨W.heap.size, 2, none⟩) (by show W.heap.size < w7.heap.size; omega)).trans p2
  have r1 := (hb8.cell (p := ⟨W.heap.size + 1, 1, none⟩) hs7).trans s1
  have hs8 : W.heap.size + 1 < w8.heap.size := Nat.lt_of_lt_of_le hs7 hb8.size
  have lbr8 : br < w8.heap.size := Nat.lt_of_lt_of_le lbr7 hb8.size
  have FM8 := Lib.hid (FM7.out.below hb8)
  have GM8 := Lib.hid hm
  have HB68 := Lib.hid (bnext HB67.out hb8)
  clear hb hb8 hm p0 p1 p2 s1 s2 ck7 hs7 lbr7 M7 FM7 HB67
  go_wp2_with fail
  go_loopw [125, 13] (fun t tb wr => ∃ (k : Nat) (b : Bool), k ≤ T ∧ t = .int .i64 k ∧ tb = .bool b ∧ (b = true ↔ ∀ i, i < k → M.rowp p (T + 1) (M.el mf) (xs.getD i 0) = M.rowp p (T + 1) (M.el mg) (xs.getD i 0)) ∧ Below w8.heap.size w8 wr) (fun t _ _ => T - (intOf t).toNat)
  case atStart => exact ⟨0, true, by omega, rfl, rfl, ⟨fun _ i hi => absurd hi (by omega), fun _ => rfl⟩, Below.refl _ _⟩
  case round =>
    obtain ⟨k, sb, hk, rfl, rfl, hsb, hB⟩ := hrel
    have HSB := Lib.hid hsb
    have p0 := (hB.cell (p := ⟨W.heap.size, 0, none⟩) (by show W.heap.size < w8.heap.size; omega)).trans q0
    have p1 := (hB.cell (p := ⟨W.heap.size, 1, none⟩) (by show W.heap.size < w8.heap.size; omega)).trans q1
    have p2 := (hB.cell (p := ⟨W.heap.size, 2, none⟩) (by show W.heap.size < w8.heap.size; omega)).trans q2
    have s2 := (hB.cell (p := ⟨W.heap.size + 1, 2, none⟩) hs8).trans r2
    have ck9 := (hB.cell (p := ⟨br, off, none⟩) lbr8).trans ck8
    have hs9 : W.heap.size + 1 < wr.heap.size := Nat.lt_of_lt_of_le hs8 hB.size
    obtain ⟨w9, ew9⟩ : ∃ x, x = wr := ⟨_, rfl⟩
    rw [← ew9] at hB p0 p1 p2 s2 ck9 hs9 ⊢
    have HB89 := Lib.hid hB
    have B9 := Lib.hid (bnext B8.out hB)
    have FM9 := Lib.hid (FM8.out.below hB)
    have GM9 := Lib.hid (GM8.out.below hB)
    clear hsb hB ew9
    by_cases hlt : k < T
    · obtain ⟨b, ox, rfl, hbx, hcx⟩ := HCX.out (by rw [HXL.out]; omega)
      have cx1 := (B9.out.cell (p := ⟨b, ox + k, none⟩) hbx).trans (hcx k (by rw [HXL.out]; exact hlt))
      have hxp := M.within_mem HW3.out (show k < xs.length by rw [HXL.out]; exact hlt)
      have R1 := RO.out w9 _ mf (xs.getD k 0) hxp OF.out FM9.out
      rw [HRC.out mf _ hxp OF.out, Int.toNat_natCast] at R1
      have R2 := fun (w : World) (h : Mat w (.slice A3 mg.length c3) mg) => RO.out w _ mg (xs.getD k 0) hxp OG.out h
      rw [HRC.out mg _ hxp OG.out, Int.toNat_natCast] at R2
      have hal := fun (d : Bool) (hd : d = decide (M.rowp p (T + 1) (M.el mf) (xs.getD k 0) = M.rowp p (T + 1) (M.el mg) (xs.getD k 0))) => M.all_snoc (f := fun i => M.rowp p (T + 1) (M.el mf) (xs.getD i 0) = M.rowp p (T + 1) (M.el mg) (xs.getD i 0)) d hd sb HSB.out
      have HAL := Lib.hid hal
      obtain ⟨x, ex⟩ : ∃ x, x = xs.getD k 0 := ⟨_, rfl⟩
      rw [← ex] at cx1 R1 R2 HAL
      obtain ⟨ra, era⟩ : ∃ r, r = M.rowp p (T + 1) (M.el mf) x := ⟨_, rfl⟩
      obtain ⟨rb, erb⟩ : ∃ r, r = M.rowp p (T + 1) (M.el mg) x := ⟨_, rfl⟩
      rw [← era] at R1 HAL
      rw [← erb] at R2 HAL
      have RR1 := Lib.hid R1
      have RR2 := Lib.hid R2
      clear hcx hxp R1 R2 hal ex era erb
      go_wp2_with fail
      refine RR1.out.mono ?_
      rintro e w10 ⟨hb, ⟨h, _⟩ | ⟨_, v8, rfl, hn8⟩⟩
      case inl => exact absurd rfl h
      have t1 := (hb.cell (p := ⟨W.heap.size, 1, none⟩) (by show W.heap.size < w9.heap.size; omega)).trans p1
      have HB10 := Lib.hid (bnext HB89.out hb)
      have RS10 := Lib.hid (RR2.out w10 (GM9.out.below hb))
      have HN8 := Lib.hid hn8
      obtain ⟨A8, c8, rfl⟩ := nums_slice' hn8
      clear hb hn8 p0 p1 p2 s2 ck9
      go_wp2_with fail
      refine RS10.out.mono ?_
      rintro e w11 ⟨hb, ⟨h, _⟩ | ⟨_, v9, rfl, hn9⟩⟩
      case inl => exact absurd rfl h
      have HB11 := Lib.hid (bnext HB10.out hb)
      have SM11 := Lib.hid (same_dec _ _ _ _ w11 (HN8.out.below hb) hn9)
      obtain ⟨A9, c9, rfl⟩ := nums_slice' hn9
      have HAL2 := Lib.hid (HAL.out _ rfl)
      obtain ⟨sd, esd⟩ : ∃ sd, sd = decide (ra = rb) := ⟨_, rfl⟩
      rw [← esd] at SM11 HAL2
      clear hb hn9 t1 esd
      cases sb with
      | true =>
        go_wp2_with fail
        refine SM11.out.mono ?_
        rintro e w12 ⟨rfl, hb⟩
        have HB12 := Lib.hid (bnext HB11.out hb)
        clear hb
        go_wp2_with fail
        go_roundw
        case rel => exact ⟨k + 1, sd, by omega, by go_num, by first | rfl | simp, by simpa using HAL2.out, HB12.out⟩
        case measure => simp [intOf]; omega
      | false =>
        go_wp2_with fail
        go_roundw
        case rel => exact ⟨k + 1, false, by omega, by go_num, by first | rfl | simp, by simpa using HAL2.out, HB11.out⟩
        case measure => simp [intOf]; omega
    · obtain rfl : k = T := by omega
      have VZ9 := Lib.hid ((VZ.out.below HB68.out).below HB89.out)
      have VU9 := Lib.hid ((VU.out.below HB68.out).below HB89.out)
      have SD := Lib.hid (same_dec _ _ _ _ w9 VZ9.out VU9.out)
      have SDd := Lib.hid (same_dec _ _ _ _ w9.drew (VZ9.out.below (Below.refl _ _).drew) (VU9.out.below (Below.refl _ _).drew))
      have hfin : sb = decide (zs = us) := by
        rw [Bool.eq_iff_iff, HSB.out, HIF.out, decide_eq_true_eq]
      obtain ⟨sd, esd⟩ : ∃ sd, sd = decide (zs = us) := ⟨_, rfl⟩
      rw [← esd] at SD SDd hfin
      subst hfin
      have hss : (sb == sb) = true := by simp
      clear esd HSB
      have lbr9 : br < w9.heap.size := Nat.lt_of_lt_of_le lbr8 HB89.out.size
      go_wp2_with fail
      go_region_held3 (fun W' => W'.cell? ⟨W.heap.size, 2, none⟩ = some (.slice A N cap) ∧ W'.cell? ⟨W.heap.size + 1, 2, none⟩ = some (.slice (some ⟨br, off, none⟩) 1 cr) ∧ W'.cell? ⟨br, off, none⟩ = some (.slice Au N cu))
        (first | exact ⟨v2', v3', vc⟩ | exact ⟨t2', t3', tc⟩ | exact ⟨p2, s2, ck9⟩ | go_keep)
        (first
          | (go_at_call 24; (with_reducible refine SDd.out.mono ?_); rintro e w10 ⟨rfl, hb⟩; have t2' := (hb.cell (p := ⟨W.heap.size, 2, none⟩) (by show W.heap.size < w9.heap.size; omega)).trans p2; have t3' := (hb.cell (p := ⟨W.heap.size + 1, 2, none⟩) hs9).trans s2; have tc := (hb.cell (p := ⟨br, off, none⟩) lbr9).trans ck9; have hs10 : W.heap.size + 1 < w10.heap.size := Nat.lt_of_lt_of_le hs9 hb.size; have lbr10 : br < w10.heap.size := Nat.lt_of_lt_of_le lbr9 hb.size)
          | (go_at_call 19; (with_reducible refine (alive6_any _).mono ?_); rintro e w11 ⟨rfl, hb2⟩; have v2' := (hb2.cell (p := ⟨W.heap.size, 2, none⟩) (by show W.heap.size < w10.heap.size; omega)).trans t2'; have v3' := (hb2.cell (p := ⟨W.heap.size + 1, 2, none⟩) hs10).trans t3'; have vc := (hb2.cell (p := ⟨br, off, none⟩) lbr10).trans tc))
      have BE := Lib.hid (bnext (bnext B9.out (below_of_drew6 hb)) hb2)
      clear hb hb2
      go_wp2_with fail
      go_ret
      exact ⟨rfl, BE.out⟩
theorem walk (W : World) (p : Nat) (hp : p < 18446744073709551616) (s : Nat) (t : Int) (v : Value) (zs : List Nat) (hs : s < 18446744073709551616) (h1 : -9223372036854775808 ≤ t) (h2 : t ≤ 9223372036854775807) (hv : Nums W v zs) (t2 : Int) (v1 : Value) (xs : List Nat) (v2 : Value) (rows : List (List Nat)) (h21 : -9223372036854775808 ≤ t2) (h22 : t2 ≤ 9223372036854775807) (hx : Nums W v1 xs) (hr : Mat W v2 rows) :
    Calls Try.prog 14 #[.int .u64 p, .agg #[.int .u64 s, .int .i64 t, v], .agg #[.int .i64 t2, v1, v2]] W fun e W' => e = .returned (.bool true) ∧ Below W.heap.size W W' := by
  by_cases hb : M.bnd p t = 0
  case neg => exact e1 W p hp s t v zs hs h1 h2 hv t2 v1 xs v2 rows hx hr hb
  obtain ⟨T, rfl, hT, hi⟩ := M.bnd_zero hb
  obtain ⟨h3, hp5⟩ := M.pos_of hi
  obtain ⟨N, hN⟩ : ∃ N, N = M.triR (T + 1) (T + 1) - 1 := ⟨_, rfl⟩
  by_cases hsp : p ≤ s
  · exact e2 W p T h3 hp5 hi hT s v zs hs hv t2 v1 xs v2 rows hx hr N hN hsp
  have hsp' : s < p := by omega
  by_cases hl : zs.length = N
  case neg => exact e3 W p T h3 hp5 hi hT s v zs hs hv t2 v1 xs v2 rows hx hr N hN hsp' hl
  cases hw : M.within p zs with
  | false => exact e4 W p T h3 hp5 hi hT s v zs hs hv t2 v1 xs v2 rows hx hr N hN hsp' hl hw
  | true =>
    by_cases hrl : rows.length = 1
    case neg => exact e5 W p T h3 hp5 hi hT s v zs hs hv t2 v1 xs v2 rows hx hr N hN hsp' hl hw hrl
    by_cases hr0 : (rows.getD 0 []).length = N
    case neg => exact e6 W p T h3 hp5 hi hT s v zs hs hv t2 v1 xs v2 rows hx hr N hN hsp' hl hw hrl hr0
    cases hw2 : M.within p (rows.getD 0 []) with
    | false => exact e7 W p T h3 hp5 hi hT s v zs hs hv t2 v1 xs v2 rows hx hr N hN hsp' hl hw hrl hr0 hw2
    | true =>
      by_cases hxl : xs.length = T
      case neg => exact e8 W p T h3 hp5 hi hT s v zs hs hv t2 v1 xs v2 rows hx hr N hN hsp' hl hw hrl hr0 hw2 hxl
      cases hw3 : M.within p xs with
      | false => exact e9 W p T h3 hp5 hi hT s v zs hs hv t2 v1 xs v2 rows hx hr N hN hsp' hl hw hrl hr0 hw2 hxl hw3
      | true =>
        cases htw : M.twice (0 :: xs) with
        | true => exact e10 W p T h3 hp5 hi hT s v zs hs hv t2 v1 xs v2 rows hx hr N hN hsp' hl hw hrl hr0 hw2 hxl hw3 htw
        | false => exact good W p T h3 hp5 hi hT s v zs hs hv t2 v1 xs v2 rows hx hr N hN hsp' hl hw hrl hr0 hw2 hxl hw3 htw
end pairOnlyW
end Go.Proofs.Ytglehjcohdjhoaa
