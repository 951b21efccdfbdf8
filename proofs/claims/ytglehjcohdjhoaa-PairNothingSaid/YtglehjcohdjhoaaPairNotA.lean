/-
  The walk of PairNothing: what the law leaves out.
-/
import Derived.Test.YtglehjcohdjhoaaAl6
import Derived.Test.YtglehjcohdjhoaaPp5c
import Derived.Test.YtglehjcohdjhoaaRwy
import Derived.Test.YtglehjcohdjhoaaPdM
namespace Go.Proofs.Ytglehjcohdjhoaa
open Go.RowKit
set_option linter.unusedVariables false
set_option maxRecDepth 100000

theorem M.made_ok6 {p s n : Nat} (hp : 0 < p) (hs : s < p) (zs : List Nat) : M.POk p n (M.tabMM n n (M.triF n (M.made p s n zs))) := by
  have hw : M.within p (M.made p s n zs) = true := by
    unfold M.within M.made
    simp only [List.all_cons, Bool.and_eq_true, decide_eq_true_eq, List.all_map, List.all_eq_true, List.mem_range, Function.comp]
    exact ⟨hs, fun i _ => Nat.mod_lt _ hp⟩
  exact M.POk.tab (M.triF_sym n _) fun i k _ _ => M.triF_lt hp hw i k
theorem M.mkE_zero6 {p s : Nat} {t : Int} (h : M.mkE p s t = 0) : ∃ T : Nat, t = T ∧ T ≤ 3 ∧ M.isP p = true ∧ s < p := by
  unfold M.mkE at h
  split at h
  · rename_i hb
    obtain ⟨T, rfl, hT, hi⟩ := M.bnd_zero hb
    split at h
    · cases h
    · exact ⟨T, rfl, hT, hi, by omega⟩
  · rename_i hb; exact absurd h hb

namespace pairNothingW
set_option maxHeartbeats 2000000 in
theorem bad (W : World) (p : Nat) (hp : p < 18446744073709551616) (s : Nat) (t : Int) (v : Value) (zs : List Nat) (hs : s < 18446744073709551616) (h1 : -9223372036854775808 ≤ t) (h2 : t ≤ 9223372036854775807) (hv : Nums W v zs) (t2 : Int) (v1 : Value) (xs : List Nat) (v2 : Value) (rows : List (List Nat)) (hx : Nums W v1 xs) (hr : Mat W v2 rows) (hc : M.mkE p s t ≠ 0) :
    Calls Try.prog 13 #[.int .u64 p, .agg #[.int .u64 s, .int .i64 t, v], .agg #[.int .i64 t2, v1, v2]] W fun e W' => e = .returned (.bool true) ∧ Below W.heap.size W W' := by
  have hud : ∀ b : Bool, undef ≠ Value.bool b := fun b h => by cases h
  have MK := Lib.hid fun (w : World) (b : Below W.heap.size W w) => pmake_any p s t v zs w hp hs h1 h2 (hv.below b)
  obtain ⟨c, ec⟩ : ∃ c, M.mkE p s t = c := ⟨_, rfl⟩
  rw [ec] at MK hc
  have hcb : (c != 0) = true := by rw [bne_iff_ne]; exact hc
  have HC := Lib.hid hc
  obtain ⟨A, cap, rfl⟩ := nums_slice' hv
  obtain ⟨Ax, cx, rfl⟩ := nums_slice' hx
  obtain ⟨Ar, cr, rfl, _⟩ := mat_view6 hr
  clear hv ec hc hx hr
  go_enter Try.func13, Try.ntmps13
  go_wp2_with fail
  refine (MK.out _ (bnext (balloc W _) (balloc _ _))).mono ?_
  rintro e w1 (⟨_, rfl, hb⟩ | ⟨h, _⟩)
  case inr => exact absurd h HC.out
  have B1 := Lib.hid (bnext (bnext (balloc W _) (balloc _ _)) hb)
  clear hb
  go_wp2_with fail
  refine (alive6_any _).mono ?_
  rintro e w9 ⟨rfl, hb⟩
  have B9 := Lib.hid (bnext B1.out hb)
  clear hb
  go_wp2_with fail
  go_ret
  exact ⟨rfl, B9.out⟩
set_option maxHeartbeats 2000000 in
theorem long (W : World) (p T : Nat) (h3 : 3 ≤ p) (hp : p ≤ 65537) (hip : M.isP p = true) (hT : T ≤ 3) (s : Nat) (v : Value) (zs : List Nat) (hs : s < p) (hv : Nums W v zs) (t2 : Int) (v1 : Value) (xs : List Nat) (v2 : Value) (rows : List (List Nat)) (hx : Nums W v1 xs) (hr : Mat W v2 rows) (hl : T < xs.length) :
    Calls Try.prog 13 #[.int .u64 p, .agg #[.int .u64 s, .int .i64 T, v], .agg #[.int .i64 t2, v1, v2]] W fun e W' => e = .returned (.bool true) ∧ Below W.heap.size W W' := by
  have hud : ∀ b : Bool, undef ≠ Value.bool b := fun b h => by cases h
  have hmk : M.mkE p s T = 0 := by unfold M.mkE; rw [if_pos (M.bnd_ok hip hT), if_neg (by omega)]
  have MK := Lib.hid fun (w : World) (b : Below W.heap.size W w) => pmake_any p s T v zs w (by omega) (by omega) (by omega) (by omega) (hv.below b)
  rw [hmk] at MK
  obtain ⟨ds, ed⟩ : ∃ ds, ds = zs.drop (M.triR ((T : Int).toNat + 1) ((T : Int).toNat + 1) - 1) := ⟨_, rfl⟩
  rw [← ed] at MK
  have hcb : ((0 : Int) != 0) = false := rfl
  have hcb2 : ((2 : Int) != 0) = true := rfl
  have hg1 : T < xs.length := hl
  have hg2 : (T : Int) < (xs.length : Nat) := by omega
  obtain ⟨A, cap, rfl⟩ := nums_slice' hv
  obtain ⟨Ax, cx, rfl⟩ := nums_slice' hx
  obtain ⟨Ar, cr, rfl, _⟩ := mat_view6 hr
  clear hv hx hr hmk ed
  go_enter Try.func13, Try.ntmps13
  go_wp2_with fail
  refine (MK.out _ (bnext (balloc W _) (balloc _ _))).mono ?_
  rintro e w1 (⟨h, _⟩ | ⟨_, u1, u2, rfl, hm, hn, hb⟩)
  case inl => exact absurd rfl h
  have B1 := Lib.hid (bnext (bnext (balloc W _) (balloc _ _)) hb)
  have q1 := (hb.cell (p := ⟨W.heap.size, 1, none⟩) (by simp <;> omega)).trans (show _ = some (.int .i64 (T : Int)) by simp)
  have r1 := (hb.cell (p := ⟨W.heap.size + 1, 1, none⟩) (by simp <;> omega)).trans (show _ = some (.slice Ax xs.length cx) by simp)
  have r2 := (hb.cell (p := ⟨W.heap.size + 1, 2, none⟩) (by simp <;> omega)).trans (show _ = some (.slice Ar rows.length cr) by simp)
  have hs1 : W.heap.size + 1 < w1.heap.size := by have := hb.size; simp at this; omega
  obtain ⟨A1, c1, rfl, _⟩ := mat_view6 hm
  obtain ⟨A2, c2, rfl⟩ := nums_slice' hn
  clear hb hm hn
  go_wp2_with fail
  refine (alive6_any _).mono ?_
  rintro e w9 ⟨rfl, hb⟩
  have B9 := Lib.hid (bnext B1.out hb)
  clear hb
  go_wp2_with fail
  go_ret
  exact ⟨rfl, B9.out⟩
set_option maxHeartbeats 2000000 in
theorem out (W : World) (p T : Nat) (h3 : 3 ≤ p) (hp : p ≤ 65537) (hip : M.isP p = true) (hT : T ≤ 3) (s : Nat) (v : Value) (zs : List Nat) (hs : s < p) (hv : Nums W v zs) (t2 : Int) (v1 : Value) (xs : List Nat) (v2 : Value) (rows : List (List Nat)) (hx : Nums W v1 xs) (hr : Mat W v2 rows) (hl : xs.length ≤ T) (hw : M.within p xs = false) :
    Calls Try.prog 13 #[.int .u64 p, .agg #[.int .u64 s, .int .i64 T, v], .agg #[.int .i64 t2, v1, v2]] W fun e W' => e = .returned (.bool true) ∧ Below W.heap.size W W' := by
  have hud : ∀ b : Bool, undef ≠ Value.bool b := fun b h => by cases h
  have hmk : M.mkE p s T = 0 := by unfold M.mkE; rw [if_pos (M.bnd_ok hip hT), if_neg (by omega)]
  have MK := Lib.hid fun (w : World) (b : Below W.heap.size W w) => pmake_any p s T v zs w (by omega) (by omega) (by omega) (by omega) (hv.below b)
  rw [hmk] at MK
  obtain ⟨ds, ed⟩ : ∃ ds, ds = zs.drop (M.triR ((T : Int).toNat + 1) ((T : Int).toNat + 1) - 1) := ⟨_, rfl⟩
  rw [← ed] at MK
  have hcb : ((0 : Int) != 0) = false := rfl
  have hcb2 : ((2 : Int) != 0) = true := rfl
  have hg1 : ¬ T < xs.length := by omega
  have hg2 : ¬ (T : Int) < (xs.length : Nat) := by omega
  have WI := Lib.hid fun (w : World) (b : Below W.heap.size W w) => within_any p v1 xs w (hx.below b) (c := 2) (by rw [hw]; rfl)
  obtain ⟨A, cap, rfl⟩ := nums_slice' hv
  obtain ⟨Ax, cx, rfl⟩ := nums_slice' hx
  obtain ⟨Ar, cr, rfl, _⟩ := mat_view6 hr
  clear hv hx hr hmk ed
  go_enter Try.func13, Try.ntmps13
  go_wp2_with fail
  refine (MK.out _ (bnext (balloc W _) (balloc _ _))).mono ?_
  rintro e w1 (⟨h, _⟩ | ⟨_, u1, u2, rfl, hm, hn, hb⟩)
  case inl => exact absurd rfl h
  have B1 := Lib.hid (bnext (bnext (balloc W _) (balloc _ _)) hb)
  have q1 := (hb.cell (p := ⟨W.heap.size, 1, none⟩) (by simp <;> omega)).trans (show _ = some (.int .i64 (T : Int)) by simp)
  have r1 := (hb.cell (p := ⟨W.heap.size + 1, 1, none⟩) (by simp <;> omega)).trans (show _ = some (.slice Ax xs.length cx) by simp)
  have r2 := (hb.cell (p := ⟨W.heap.size + 1, 2, none⟩) (by simp <;> omega)).trans (show _ = some (.slice Ar rows.length cr) by simp)
  have hs1 : W.heap.size + 1 < w1.heap.size := by have := hb.size; simp at this; omega
  obtain ⟨A1, c1, rfl, _⟩ := mat_view6 hm
  obtain ⟨A2, c2, rfl⟩ := nums_slice' hn
  clear hb hm hn
  go_wp2_with fail
  refine (WI.out _ B1.out).mono ?_
  rintro e w2 ⟨rfl, rfl⟩
  go_wp2_with fail
  refine (alive6_any _).mono ?_
  rintro e w9 ⟨rfl, hb⟩
  have B9 := Lib.hid (bnext B1.out hb)
  clear hb
  go_wp2_with fail
  go_ret
  exact ⟨rfl, B9.out⟩
set_option maxHeartbeats 2000000 in
theorem dup (W : World) (p T : Nat) (h3 : 3 ≤ p) (hp : p ≤ 65537) (hip : M.isP p = true) (hT : T ≤ 3) (s : Nat) (v : Value) (zs : List Nat) (hs : s < p) (hv : Nums W v zs) (t2 : Int) (v1 : Value) (xs : List Nat) (v2 : Value) (rows : List (List Nat)) (hx : Nums W v1 xs) (hr : Mat W v2 rows) (hl : xs.length ≤ T) (hw : M.within p xs = true) (htw : M.twice xs = true) :
    Calls Try.prog 13 #[.int .u64 p, .agg #[.int .u64 s, .int .i64 T, v], .agg #[.int .i64 t2, v1, v2]] W fun e W' => e = .returned (.bool true) ∧ Below W.heap.size W W' := by
  have hud : ∀ b : Bool, undef ≠ Value.bool b := fun b h => by cases h
  have hmk : M.mkE p s T = 0 := by unfold M.mkE; rw [if_pos (M.bnd_ok hip hT), if_neg (by omega)]
  have MK := Lib.hid fun (w : World) (b : Below W.heap.size W w) => pmake_any p s T v zs w (by omega) (by omega) (by omega) (by omega) (hv.below b)
  rw [hmk] at MK
  obtain ⟨ds, ed⟩ : ∃ ds, ds = zs.drop (M.triR ((T : Int).toNat + 1) ((T : Int).toNat + 1) - 1) := ⟨_, rfl⟩
  rw [← ed] at MK
  have hcb : ((0 : Int) != 0) = false := rfl
  have hcb2 : ((2 : Int) != 0) = true := rfl
  have hg1 : ¬ T < xs.length := by omega
  have hg2 : ¬ (T : Int) < (xs.length : Nat) := by omega
  have WI := Lib.hid fun (w : World) (b : Below W.heap.size W w) => within_any p v1 xs w (hx.below b) (c := 0) (by rw [hw]; rfl)
  have TW := Lib.hid fun (w : World) (b : Below W.heap.size W w) => twice_any v1 xs w (hx.below b)
  rw [htw] at TW
  obtain ⟨A, cap, rfl⟩ := nums_slice' hv
  obtain ⟨Ax, cx, rfl⟩ := nums_slice' hx
  obtain ⟨Ar, cr, rfl, _⟩ := mat_view6 hr
  clear hv hx hr hmk ed
  go_enter Try.func13, Try.ntmps13
  go_wp2_with fail
  refine (MK.out _ (bnext (balloc W _) (balloc _ _))).mono ?_
  rintro e w1 (⟨h, _⟩ | ⟨_, u1, u2, rfl, hm, hn, hb⟩)
  case inl => exact absurd rfl h
  have B1 := Lib.hid (bnext (bnext (balloc W _) (balloc _ _)) hb)
  have q1 := (hb.cell (p := ⟨W.heap.size, 1, none⟩) (by simp <;> omega)).trans (show _ = some (.int .i64 (T : Int)) by simp)
  have r1 := (hb.cell (p := ⟨W.heap.size + 1, 1, none⟩) (by simp <;> omega)).trans (show _ = some (.slice Ax xs.length cx) by simp)
  have r2 := (hb.cell (p := ⟨W.heap.size + 1, 2, none⟩) (by simp <;> omega)).trans (show _ = some (.slice Ar rows.length cr) by simp)
  have hs1 : W.heap.size + 1 < w1.heap.size := by have := hb.size; simp at this; omega
  obtain ⟨A1, c1, rfl, _⟩ := mat_view6 hm
  obtain ⟨A2, c2, rfl⟩ := nums_slice' hn
  clear hb hm hn
  go_wp2_with fail
  refine (WI.out _ B1.out).mono ?_
  rintro e w2 ⟨rfl, rfl⟩
  go_wp2_with fail
  refine (TW.out _ B1.out).mono ?_
  rintro e w2 ⟨rfl, hb⟩
  have B2 := Lib.hid (bnext B1.out hb)
  have t1 := (hb.cell (p := ⟨W.heap.size, 1, none⟩) (by show W.heap.size < w1.heap.size; omega)).trans q1
  have t2' := (hb.cell (p := ⟨W.heap.size + 1, 1, none⟩) hs1).trans r1
  have t3 := (hb.cell (p := ⟨W.heap.size + 1, 2, none⟩) hs1).trans r2
  clear hb q1 r1 r2
  go_wp2_with fail
  refine (alive6_any _).mono ?_
  rintro e w9 ⟨rfl, hb⟩
  have B9 := Lib.hid (bnext B2.out hb)
  clear hb
  go_wp2_with fail
  go_ret
  exact ⟨rfl, B9.out⟩
set_option maxHeartbeats 2000000 in
theorem norow (W : World) (p T : Nat) (h3 : 3 ≤ p) (hp : p ≤ 65537) (hip : M.isP p = true) (hT : T ≤ 3) (s : Nat) (v : Value) (zs : List Nat) (hs : s < p) (hv : Nums W v zs) (t2 : Int) (v1 : Value) (xs : List Nat) (v2 : Value) (rows : List (List Nat)) (hx : Nums W v1 xs) (hr : Mat W v2 rows) (hl : xs.length ≤ T) (hw : M.within p xs = true) (htw : M.twice xs = false) (hrl : rows.length ≠ 1) :
    Calls Try.prog 13 #[.int .u64 p, .agg #[.int .u64 s, .int .i64 T, v], .agg #[.int .i64 t2, v1, v2]] W fun e W' => e = .returned (.bool true) ∧ Below W.heap.size W W' := by
  have hud : ∀ b : Bool, undef ≠ Value.bool b := fun b h => by cases h
  have hmk : M.mkE p s T = 0 := by unfold M.mkE; rw [if_pos (M.bnd_ok hip hT), if_neg (by omega)]
  have MK := Lib.hid fun (w : World) (b : Below W.heap.size W w) => pmake_any p s T v zs w (by omega) (by omega) (by omega) (by omega) (hv.below b)
  rw [hmk] at MK
  obtain ⟨ds, ed⟩ : ∃ ds, ds = zs.drop (M.triR ((T : Int).toNat + 1) ((T : Int).toNat + 1) - 1) := ⟨_, rfl⟩
  rw [← ed] at MK
  have hcb : ((0 : Int) != 0) = false := rfl
  have hcb2 : ((2 : Int) != 0) = true := rfl
  have hg1 : ¬ T < xs.length := by omega
  have hg2 : ¬ (T : Int) < (xs.length : Nat) := by omega
  have WI := Lib.hid fun (w : World) (b : Below W.heap.size W w) => within_any p v1 xs w (hx.below b) (c := 0) (by rw [hw]; rfl)
  have TW := Lib.hid fun (w : World) (b : Below W.heap.size W w) => twice_any v1 xs w (hx.below b)
  rw [htw] at TW
  have hrb : ((rows.length : Int) != 1) = true := by rw [bne_iff_ne]; omega
  obtain ⟨A, cap, rfl⟩ := nums_slice' hv
  obtain ⟨Ax, cx, rfl⟩ := nums_slice' hx
  obtain ⟨Ar, cr, rfl, _⟩ := mat_view6 hr
  clear hv hx hr hmk ed
  go_enter Try.func13, Try.ntmps13
  go_wp2_with fail
  refine (MK.out _ (bnext (balloc W _) (balloc _ _))).mono ?_
  rintro e w1 (⟨h, _⟩ | ⟨_, u1, u2, rfl, hm, hn, hb⟩)
  case inl => exact absurd rfl h
  have B1 := Lib.hid (bnext (bnext (balloc W _) (balloc _ _)) hb)
  have q1 := (hb.cell (p := ⟨W.heap.size, 1, none⟩) (by simp <;> omega)).trans (show _ = some (.int .i64 (T : Int)) by simp)
  have r1 := (hb.cell (p := ⟨W.heap.size + 1, 1, none⟩) (by simp <;> omega)).trans (show _ = some (.slice Ax xs.length cx) by simp)
  have r2 := (hb.cell (p := ⟨W.heap.size + 1, 2, none⟩) (by simp <;> omega)).trans (show _ = some (.slice Ar rows.length cr) by simp)
  have hs1 : W.heap.size + 1 < w1.heap.size := by have := hb.size; simp at this; omega
  obtain ⟨A1, c1, rfl, _⟩ := mat_view6 hm
  obtain ⟨A2, c2, rfl⟩ := nums_slice' hn
  clear hb hm hn
  go_wp2_with fail
  refine (WI.out _ B1.out).mono ?_
  rintro e w2 ⟨rfl, rfl⟩
  go_wp2_with fail
  refine (TW.out _ B1.out).mono ?_
  rintro e w2 ⟨rfl, hb⟩
  have B2 := Lib.hid (bnext B1.out hb)
  have t1 := (hb.cell (p := ⟨W.heap.size, 1, none⟩) (by show W.heap.size < w1.heap.size; omega)).trans q1
  have t2' := (hb.cell (p := ⟨W.heap.size + 1, 1, none⟩) hs1).trans r1
  have t3 := (hb.cell (p := ⟨W.heap.size + 1, 2, none⟩) hs1).trans r2
  clear hb q1 r1 r2
  go_wp2_with fail
  refine (alive6_any _).mono ?_
  rintro e w9 ⟨rfl, hb⟩
  have B9 := Lib.hid (bnext B2.out hb)
  clear hb
  go_wp2_with fail
  go_ret
  exact ⟨rfl, B9.out⟩
set_option maxHeartbeats 2000000 in
theorem noelem (W : World) (p T : Nat) (h3 : 3 ≤ p) (hp : p ≤ 65537) (hip : M.isP p = true) (hT : T ≤ 3) (s : Nat) (v : Value) (zs : List Nat) (hs : s < p) (hv : Nums W v zs) (t2 : Int) (v1 : Value) (xs : List Nat) (v2 : Value) (rows : List (List Nat)) (hx : Nums W v1 xs) (hr : Mat W v2 rows) (hl : xs.length ≤ T) (hw : M.within p xs = true) (htw : M.twice xs = false) (hrl : rows.length = 1) (hr0 : (rows.getD 0 []).length ≠ 1) :
    Calls Try.prog 13 #[.int .u64 p, .agg #[.int .u64 s, .int .i64 T, v], .agg #[.int .i64 t2, v1, v2]] W fun e W' => e = .returned (.bool true) ∧ Below W.heap.size W W' := by
  have hud : ∀ b : Bool, undef ≠ Value.bool b := fun b h => by cases h
  have hmk : M.mkE p s T = 0 := by unfold M.mkE; rw [if_pos (M.bnd_ok hip hT), if_neg (by omega)]
  have MK := Lib.hid fun (w : World) (b : Below W.heap.size W w) => pmake_any p s T v zs w (by omega) (by omega) (by omega) (by omega) (hv.below b)
  rw [hmk] at MK
  obtain ⟨ds, ed⟩ : ∃ ds, ds = zs.drop (M.triR ((T : Int).toNat + 1) ((T : Int).toNat + 1) - 1) := ⟨_, rfl⟩
  rw [← ed] at MK
  have hcb : ((0 : Int) != 0) = false := rfl
  have hcb2 : ((2 : Int) != 0) = true := rfl
  have hg1 : ¬ T < xs.length := by omega
  have hg2 : ¬ (T : Int) < (xs.length : Nat) := by omega
  have WI := Lib.hid fun (w : World) (b : Below W.heap.size W w) => within_any p v1 xs w (hx.below b) (c := 0) (by rw [hw]; rfl)
  have TW := Lib.hid fun (w : World) (b : Below W.heap.size W w) => twice_any v1 xs w (hx.below b)
  rw [htw] at TW
  obtain ⟨A, cap, rfl⟩ := nums_slice' hv
  obtain ⟨Ax, cx, rfl⟩ := nums_slice' hx
  obtain ⟨Ar, cr, rfl, _⟩ := mat_view6 hr
  have hrw := (mat_row hr).2
  obtain ⟨b, off, rfl, hbl, hcells⟩ := hrw (by omega)
  obtain ⟨Au, cu, ck, _, hrow⟩ := hcells 0 (by omega)
  rw [Nat.add_zero] at ck
  have HROW := Lib.hid hrow
  rw [hrl]
  clear hrw hcells hrow
  obtain ⟨L, eL⟩ : ∃ L, L = (rows.getD 0 []).length := ⟨_, rfl⟩
  rw [← eL] at ck hr0
  have hrb : ((L : Int) != 1) = true := by rw [bne_iff_ne]; omega
  clear eL
  clear hv hx hr hmk ed
  go_enter Try.func13, Try.ntmps13
  go_wp2_with fail
  refine (MK.out _ (bnext (balloc W _) (balloc _ _))).mono ?_
  rintro e w1 (⟨h, _⟩ | ⟨_, u1, u2, rfl, hm, hn, hb⟩)
  case inl => exact absurd rfl h
  have B1 := Lib.hid (bnext (bnext (balloc W _) (balloc _ _)) hb)
  have q1 := (hb.cell (p := ⟨W.heap.size, 1, none⟩) (by simp <;> omega)).trans (show _ = some (.int .i64 (T : Int)) by simp)
  have r1 := (hb.cell (p := ⟨W.heap.size + 1, 1, none⟩) (by simp <;> omega)).trans (show _ = some (.slice Ax xs.length cx) by simp)
  have r2 := (hb.cell (p := ⟨W.heap.size + 1, 2, none⟩) (by simp <;> omega)).trans (show _ = some (.slice (some ⟨b, off, none⟩) 1 cr) by simp)
  have hs1 : W.heap.size + 1 < w1.heap.size := by have := hb.size; simp at this; omega
  obtain ⟨A1, c1, rfl, _⟩ := mat_view6 hm
  obtain ⟨A2, c2, rfl⟩ := nums_slice' hn
  clear hb hm hn
  go_wp2_with fail
  refine (WI.out _ B1.out).mono ?_
  rintro e w2 ⟨rfl, rfl⟩
  go_wp2_with fail
  refine (TW.out _ B1.out).mono ?_
  rintro e w2 ⟨rfl, hb⟩
  have B2 := Lib.hid (bnext B1.out hb)
  have t1 := (hb.cell (p := ⟨W.heap.size, 1, none⟩) (by show W.heap.size < w1.heap.size; omega)).trans q1
  have t2' := (hb.cell (p := ⟨W.heap.size + 1, 1, none⟩) hs1).trans r1
  have t3 := (hb.cell (p := ⟨W.heap.size + 1, 2, none⟩) hs1).trans r2
  clear hb q1 r1 r2
  have ck2 := (B2.out.cell (p := ⟨b, off, none⟩) hbl).trans ck
  go_wp2_with fail
  refine (alive6_any _).mono ?_
  rintro e w9 ⟨rfl, hb⟩
  have B9 := Lib.hid (bnext B2.out hb)
  clear hb
  go_wp2_with fail
  go_ret
  exact ⟨rfl, B9.out⟩
set_option maxHeartbeats 2000000 in
theorem big (W : World) (p T : Nat) (h3 : 3 ≤ p) (hp : p ≤ 65537) (hip : M.isP p = true) (hT : T ≤ 3) (s : Nat) (v : Value) (zs : List Nat) (hs : s < p) (hv : Nums W v zs) (t2 : Int) (v1 : Value) (xs : List Nat) (v2 : Value) (rows : List (List Nat)) (hx : Nums W v1 xs) (hr : Mat W v2 rows) (hl : xs.length ≤ T) (hw : M.within p xs = true) (htw : M.twice xs = false) (hrl : rows.length = 1) (hr0 : (rows.getD 0 []).length = 1) (hy : p ≤ (rows.getD 0 []).getD 0 0) :
    Calls Try.prog 13 #[.int .u64 p, .agg #[.int .u64 s, .int .i64 T, v], .agg #[.int .i64 t2, v1, v2]] W fun e W' => e = .returned (.bool true) ∧ Below W.heap.size W W' := by
  have hud : ∀ b : Bool, undef ≠ Value.bool b := fun b h => by cases h
  have hmk : M.mkE p s T = 0 := by unfold M.mkE; rw [if_pos (M.bnd_ok hip hT), if_neg (by omega)]
  have MK := Lib.hid fun (w : World) (b : Below W.heap.size W w) => pmake_any p s T v zs w (by omega) (by omega) (by omega) (by omega) (hv.below b)
  rw [hmk] at MK
  obtain ⟨ds, ed⟩ : ∃ ds, ds = zs.drop (M.triR ((T : Int).toNat + 1) ((T : Int).toNat + 1) - 1) := ⟨_, rfl⟩
  rw [← ed] at MK
  have hcb : ((0 : Int) != 0) = false := rfl
  have hcb2 : ((2 : Int) != 0) = true := rfl
  have hg1 : ¬ T < xs.length := by omega
  have hg2 : ¬ (T : Int) < (xs.length : Nat) := by omega
  have WI := Lib.hid fun (w : World) (b : Below W.heap.size W w) => within_any p v1 xs w (hx.below b) (c := 0) (by rw [hw]; rfl)
  have TW := Lib.hid fun (w : World) (b : Below W.heap.size W w) => twice_any v1 xs w (hx.below b)
  rw [htw] at TW
  obtain ⟨A, cap, rfl⟩ := nums_slice' hv
  obtain ⟨Ax, cx, rfl⟩ := nums_slice' hx
  obtain ⟨Ar, cr, rfl, _⟩ := mat_view6 hr
  have hrw := (mat_row hr).2
  obtain ⟨b, off, rfl, hbl, hcells⟩ := hrw (by omega)
  obtain ⟨Au, cu, ck, _, hrow⟩ := hcells 0 (by omega)
  rw [Nat.add_zero] at ck
  have HROW := Lib.hid hrow
  rw [hrl]
  clear hrw hcells hrow
  obtain ⟨g, o, rfl, hg, hce⟩ := HROW.out (by omega)
  have hc0 := hce 0 (by omega)
  rw [Nat.add_zero, show M.el rows 0 0 = (rows.getD 0 []).getD 0 0 from rfl] at hc0
  rw [hr0] at ck
  obtain ⟨y, ey⟩ : ∃ y, y = (rows.getD 0 []).getD 0 0 := ⟨_, rfl⟩
  rw [← ey] at hc0 hy
  clear hce ey hr0 HROW
  clear hv hx hr hmk ed
  go_enter Try.func13, Try.ntmps13
  go_wp2_with fail
  refine (MK.out _ (bnext (balloc W _) (balloc _ _))).mono ?_
  rintro e w1 (⟨h, _⟩ | ⟨_, u1, u2, rfl, hm, hn, hb⟩)
  case inl => exact absurd rfl h
  have B1 := Lib.hid (bnext (bnext (balloc W _) (balloc _ _)) hb)
  have q1 := (hb.cell (p := ⟨W.heap.size, 1, none⟩) (by simp <;> omega)).trans (show _ = some (.int .i64 (T : Int)) by simp)
  have r1 := (hb.cell (p := ⟨W.heap.size + 1, 1, none⟩) (by simp <;> omega)).trans (show _ = some (.slice Ax xs.length cx) by simp)
  have r2 := (hb.cell (p := ⟨W.heap.size + 1, 2, none⟩) (by simp <;> omega)).trans (show _ = some (.slice (some ⟨b, off, none⟩) 1 cr) by simp)
  have hs1 : W.heap.size + 1 < w1.heap.size := by have := hb.size; simp at this; omega
  obtain ⟨A1, c1, rfl, _⟩ := mat_view6 hm
  obtain ⟨A2, c2, rfl⟩ := nums_slice' hn
  clear hb hm hn
  go_wp2_with fail
  refine (WI.out _ B1.out).mono ?_
  rintro e w2 ⟨rfl, rfl⟩
  go_wp2_with fail
  refine (TW.out _ B1.out).mono ?_
  rintro e w2 ⟨rfl, hb⟩
  have B2 := Lib.hid (bnext B1.out hb)
  have t1 := (hb.cell (p := ⟨W.heap.size, 1, none⟩) (by show W.heap.size < w1.heap.size; omega)).trans q1
  have t2' := (hb.cell (p := ⟨W.heap.size + 1, 1, none⟩) hs1).trans r1
  have t3 := (hb.cell (p := ⟨W.heap.size + 1, 2, none⟩) hs1).trans r2
  clear hb q1 r1 r2
  have ck2 := (B2.out.cell (p := ⟨b, off, none⟩) hbl).trans ck
  have hc2 := (B2.out.cell (p := ⟨g, o, none⟩) hg).trans hc0
  go_wp2_with fail
  refine (alive6_any _).mono ?_
  rintro e w9 ⟨rfl, hb⟩
  have B9 := Lib.hid (bnext B2.out hb)
  clear hb
  go_wp2_with fail
  go_ret
  exact ⟨rfl, B9.out⟩
end pairNothingW
end Go.Proofs.Ytglehjcohdjhoaa
