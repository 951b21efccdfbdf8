/-
  The walk of PairJoins: Join against its definition.
-/
import Derived.Test.YtglehjcohdjhoaaAl6
import Derived.Test.YtglehjcohdjhoaaPp10
namespace Go.Proofs.Ytglehjcohdjhoaa
open Go.RowKit
set_option linter.unusedVariables false
set_option maxRecDepth 100000

namespace pairJoinsW
set_option maxHeartbeats 2000000 in
theorem bad1 (W : World) (p : Nat) (hp : p < 18446744073709551616) (t : Int) (v : Value) (xs : List Nat) (v2 : Value) (rows : List (List Nat)) (h1 : -9223372036854775808 ≤ t) (h2 : t ≤ 9223372036854775807) (hv : Nums W v xs) (hv2 : Mat W v2 rows) (hc : M.bnd p t ≠ 0) :
    Calls Try.prog 10 #[.int .u64 p, .agg #[.int .i64 t, v, v2]] W fun e W' => e = .returned (.bool true) ∧ Below W.heap.size W W' := by
  have hud : ∀ b : Bool, undef ≠ Value.bool b := fun b h => by cases h
  have JO := Lib.hid fun (w : World) (b : Below W.heap.size W w) => pjoin_any p t v v2 xs rows w hp h1 h2 (hv.below b) (hv2.below b)
  have BN := Lib.hid fun (w : World) => rbounds_any p t w hp h1 h2
  rw [M.bnd_no hc] at BN
  unfold PJ at JO
  rw [show M.joinC p t xs rows = 2 by unfold M.joinC; rw [if_neg hc]] at JO
  obtain ⟨A, cap, rfl⟩ := nums_slice' hv
  obtain ⟨A2, cap2, rfl, _⟩ := mat_view6 hv2
  have IS := Lib.hid fun (w : World) => is6_bad 2 (.slice none 0 0) w (by decide) ⟨_, _, _, rfl⟩
  clear hv hv2 hc
  go_enter Try.func10, Try.ntmps10
  go_wp2_with fail
  refine (JO.out _ (balloc W _)).mono ?_
  rintro e w1 ⟨hb, ⟨_, rfl⟩ | ⟨h, _⟩⟩
  case inr => exact absurd h (by decide)
  have B1 := Lib.hid (bnext (balloc W _) hb)
  have q0 := (hb.cell (p := ⟨W.heap.size, 0, none⟩) (by simp)).trans (show _ = some (.int .i64 t) by simp)
  clear hb
  go_wp2_with fail
  refine (BN.out _).mono ?_
  rintro e w2 ⟨rfl, rfl⟩
  go_wp2_with fail
  refine (IS.out _).mono ?_
  rintro e w2 ⟨rfl, rfl⟩
  go_wp2_with fail
  refine (alive6_any _).mono ?_
  rintro e w9 ⟨rfl, hb⟩
  have B9 := Lib.hid (bnext B1.out hb)
  clear hb
  go_wp2_with fail
  go_ret
  exact ⟨rfl, B9.out⟩
set_option maxHeartbeats 2000000 in
theorem bad2 (W : World) (p : Nat) (hp : p < 18446744073709551616) (T : Nat) (hT : T ≤ 3) (v : Value) (xs : List Nat) (v2 : Value) (rows : List (List Nat)) (hv : Nums W v xs) (hv2 : Mat W v2 rows) (hbn : M.bnd p T = 0) (hc : M.rowsE p xs rows ≠ 0) :
    Calls Try.prog 10 #[.int .u64 p, .agg #[.int .i64 T, v, v2]] W fun e W' => e = .returned (.bool true) ∧ Below W.heap.size W W' := by
  have hud : ∀ b : Bool, undef ≠ Value.bool b := fun b h => by cases h
  have JO := Lib.hid fun (w : World) (b : Below W.heap.size W w) => pjoin_any p T v v2 xs rows w hp (by omega) (by omega) (hv.below b) (hv2.below b)
  have BN := Lib.hid fun (w : World) => rbounds_any p T w hp (by omega) (by omega)
  rw [hbn] at BN
  have RW := Lib.hid fun (w : World) (b : Below W.heap.size W w) => rrows6_any p v v2 xs rows w (hv.below b) (hv2.below b)
  unfold PJ at JO
  rw [show M.joinC p T xs rows = M.rowsE p xs rows by unfold M.joinC; rw [if_pos hbn, if_neg hc]] at JO
  obtain ⟨c, ec⟩ : ∃ c, c = M.rowsE p xs rows := ⟨_, rfl⟩
  rw [← ec] at JO RW hc
  have hcb : (c != 0) = true := by rw [bne_iff_ne]; exact hc
  have hcb1 : (c == 0) = false := by simpa using hc
  have hcb0 : ((0 : Int) == 0) = true := rfl
  have HC := Lib.hid hc
  obtain ⟨A, cap, rfl⟩ := nums_slice' hv
  obtain ⟨A2, cap2, rfl, _⟩ := mat_view6 hv2
  have IS := Lib.hid fun (w : World) => is6_bad c (.slice none 0 0) w hc ⟨_, _, _, rfl⟩
  clear hv hv2 hc ec hbn
  go_enter Try.func10, Try.ntmps10
  go_wp2_with fail
  refine (JO.out _ (balloc W _)).mono ?_
  rintro e w1 ⟨hb, ⟨_, rfl⟩ | ⟨h, _⟩⟩
  case inr => exact absurd h HC.out
  have B1 := Lib.hid (bnext (balloc W _) hb)
  have q0 := (hb.cell (p := ⟨W.heap.size, 0, none⟩) (by simp)).trans (show _ = some (.int .i64 (T : Int)) by simp)
  have q1 := (hb.cell (p := ⟨W.heap.size, 1, none⟩) (by simp)).trans (show _ = some (.slice A xs.length cap) by simp)
  have q2 := (hb.cell (p := ⟨W.heap.size, 2, none⟩) (by simp)).trans (show _ = some (.slice A2 rows.length cap2) by simp)
  clear hb
  go_wp2_with fail
  refine (BN.out _).mono ?_
  rintro e w2 ⟨rfl, rfl⟩
  go_wp2_with fail
  refine (RW.out _ B1.out).mono ?_
  rintro e w2 ⟨rfl, hb⟩
  have B2 := Lib.hid (bnext B1.out hb)
  clear hb q0 q1 q2
  go_wp2_with fail
  refine (IS.out _).mono ?_
  rintro e w3 ⟨rfl, rfl⟩
  go_wp2_with fail
  refine (alive6_any _).mono ?_
  rintro e w9 ⟨rfl, hb⟩
  have B9 := Lib.hid (bnext B2.out hb)
  clear hb
  go_wp2_with fail
  go_ret
  exact ⟨rfl, B9.out⟩
set_option maxHeartbeats 2000000 in
theorem few (W : World) (p T : Nat) (hip : M.isP p = true) (hT : T ≤ 3) (v : Value) (xs : List Nat) (v2 : Value) (rows : List (List Nat)) (hv : Nums W v xs) (hv2 : Mat W v2 rows) (hok : M.ROk p xs rows) (hl : xs.length < T + 1) :
    Calls Try.prog 10 #[.int .u64 p, .agg #[.int .i64 T, v, v2]] W fun e W' => e = .returned (.bool true) ∧ Below W.heap.size W W' := by
  have hud : ∀ b : Bool, undef ≠ Value.bool b := fun b h => by cases h
  obtain ⟨h3, hp5⟩ := M.pos_of hip
  have hbn := M.bnd_ok hip hT
  have hre := M.rowsE_ok hok
  have JO := Lib.hid fun (w : World) (b : Below W.heap.size W w) => pjoin_any p T v v2 xs rows w (by omega) (by omega) (by omega) (hv.below b) (hv2.below b)
  have BN := Lib.hid fun (w : World) => rbounds_any p T w (by omega) (by omega) (by omega)
  rw [hbn] at BN
  have RW := Lib.hid fun (w : World) (b : Below W.heap.size W w) => rrows6_any p v v2 xs rows w (hv.below b) (hv2.below b)
  rw [hre] at RW
  unfold PJ at JO
  rw [show M.joinC p T xs rows = 11 by unfold M.joinC; rw [if_pos hbn, if_pos hre, Int.toNat_natCast, if_pos hl]] at JO
  have hw1 : IntKind.i64.wrap ((T : Int) + 1) = (T : Int) + 1 := by rw [IntKind.wrap_i64]; omega
  have hd : decide ((xs.length : Int) < (T : Int) + 1) = true := by rw [decide_eq_true_eq]; omega
  have hl2 : xs.length < T + 1 := hl
  have hl3 : (xs.length : Int) < (T : Int) + 1 := by omega
  have hcb0 : ((0 : Int) == 0) = true := rfl
  obtain ⟨A, cap, rfl⟩ := nums_slice' hv
  obtain ⟨A2, cap2, rfl, _⟩ := mat_view6 hv2
  have IS := Lib.hid fun (w : World) => is6_bad 11 (.slice none 0 0) w (by decide) ⟨_, _, _, rfl⟩
  clear hv hv2 hok hbn hre
  go_enter Try.func10, Try.ntmps10
  go_wp2_with fail
  refine (JO.out _ (balloc W _)).mono ?_
  rintro e w1 ⟨hb, ⟨_, rfl⟩ | ⟨h, _⟩⟩
  case inr => exact absurd h (by decide)
  have B1 := Lib.hid (bnext (balloc W _) hb)
  have q0 := (hb.cell (p := ⟨W.heap.size, 0, none⟩) (by simp)).trans (show _ = some (.int .i64 (T : Int)) by simp)
  have q1 := (hb.cell (p := ⟨W.heap.size, 1, none⟩) (by simp)).trans (show _ = some (.slice A xs.length cap) by simp)
  have q2 := (hb.cell (p := ⟨W.heap.size, 2, none⟩) (by simp)).trans (show _ = some (.slice A2 rows.length cap2) by simp)
  have hs1 : W.heap.size < w1.heap.size := by have := hb.size; simp at this; omega
  clear hb
  go_wp2_with fail
  refine (BN.out _).mono ?_
  rintro e w2 ⟨rfl, rfl⟩
  go_wp2_with fail
  refine (RW.out _ B1.out).mono ?_
  rintro e w2 ⟨rfl, hb⟩
  have B2 := Lib.hid (bnext B1.out hb)
  have r0 := (hb.cell (p := ⟨W.heap.size, 0, none⟩) hs1).trans q0
  have r1 := (hb.cell (p := ⟨W.heap.size, 1, none⟩) hs1).trans q1
  clear hb q0 q1 q2
  go_wp2_with fail
  refine (IS.out _).mono ?_
  rintro e w3 ⟨rfl, rfl⟩
  go_wp2_with fail
  refine (alive6_any _).mono ?_
  rintro e w9 ⟨rfl, hb⟩
  have B9 := Lib.hid (bnext B2.out hb)
  clear hb
  go_wp2_with fail
  go_ret
  exact ⟨rfl, B9.out⟩
set_option maxHeartbeats 2000000 in
theorem good (W : World) (p T : Nat) (hip : M.isP p = true) (hT : T ≤ 3) (v : Value) (xs : List Nat) (v2 : Value) (rows : List (List Nat)) (hv : Nums W v xs) (hv2 : Mat W v2 rows) (hok : M.ROk p xs rows) (hl : ¬ xs.length < T + 1) :
    Calls Try.prog 10 #[.int .u64 p, .agg #[.int .i64 T, v, v2]] W fun e W' => e = .returned (.bool true) ∧ Below W.heap.size W W' := by
  have hud : ∀ b : Bool, undef ≠ Value.bool b := fun b h => by cases h
  obtain ⟨h3, hp5⟩ := M.pos_of hip
  have hbn := M.bnd_ok hip hT
  have hre := M.rowsE_ok hok
  have JO := Lib.hid fun (w : World) (b : Below W.heap.size W w) => pjoin_any p T v v2 xs rows w (by omega) (by omega) (by omega) (hv.below b) (hv2.below b)
  have BN := Lib.hid fun (w : World) => rbounds_any p T w (by omega) (by omega) (by omega)
  rw [hbn] at BN
  have RW := Lib.hid fun (w : World) (b : Below W.heap.size W w) => rrows6_any p v v2 xs rows w (hv.below b) (hv2.below b)
  rw [hre] at RW
  have RJ := Lib.hid fun (w : World) (b : Below W.heap.size W w) => rjoin6_any p T v v2 xs rows w hip hT hok (by omega) (hv.below b) (hv2.below b)
  unfold PJ at JO
  rw [show M.joinC p T xs rows = 0 by unfold M.joinC; rw [if_pos hbn, if_pos hre, Int.toNat_natCast, if_neg hl], Int.toNat_natCast] at JO
  have UQ := Lib.hid fun F G (h : M.PairOf p (T + 1) xs rows F) (h' : M.PairOf p (T + 1) xs rows G) => (M.tabMM_congr (fun i hi k hk => h.unique hip hok.nod hok.wx (by omega) h' i k hi hk) : M.tabMM (T + 1) (T + 1) F = M.tabMM (T + 1) (T + 1) G)
  have hw1 : IntKind.i64.wrap ((T : Int) + 1) = (T : Int) + 1 := by rw [IntKind.wrap_i64]; omega
  have hd : decide ((xs.length : Int) < (T : Int) + 1) = false := by rw [decide_eq_false_iff_not]; omega
  have hl2 : ¬ xs.length < T + 1 := hl
  have hl3 : ¬ (xs.length : Int) < (T : Int) + 1 := by omega
  have hcb0 : ((0 : Int) == 0) = true := rfl
  have hcb1 : ((0 : Int) != 0) = false := rfl
  obtain ⟨A, cap, rfl⟩ := nums_slice' hv
  obtain ⟨A2, cap2, rfl, _⟩ := mat_view6 hv2
  have IS := Lib.hid fun (w : World) => is6_bad 12 (.slice none 0 0) w (by decide) ⟨_, _, _, rfl⟩
  clear hv hv2 hok hbn hre hl
  go_enter Try.func10, Try.ntmps10
  go_wp2_with fail
  refine (JO.out _ (balloc W _)).mono ?_
  rintro e w1 ⟨hb, ⟨h, _⟩ | ⟨_, hJ⟩⟩
  case inl => exact absurd rfl h
  have B1 := Lib.hid (bnext (balloc W _) hb)
  have q0 := (hb.cell (p := ⟨W.heap.size, 0, none⟩) (by simp)).trans (show _ = some (.int .i64 (T : Int)) by simp)
  have q1 := (hb.cell (p := ⟨W.heap.size, 1, none⟩) (by simp)).trans (show _ = some (.slice A xs.length cap) by simp)
  have q2 := (hb.cell (p := ⟨W.heap.size, 2, none⟩) (by simp)).trans (show _ = some (.slice A2 rows.length cap2) by simp)
  have hs1 : W.heap.size < w1.heap.size := by have := hb.size; simp at this; omega
  clear hb
  rcases hJ with ⟨F, v1, hF, rfl, hm⟩ | ⟨hno, rfl⟩
  · have HF := Lib.hid hF
    have HM := Lib.hid hm
    obtain ⟨A1, c1, rfl, _⟩ := mat_view6 hm
    clear hF hm
    go_wp2_with fail
    refine (BN.out _).mono ?_
    rintro e w2 ⟨rfl, rfl⟩
    go_wp2_with fail
    refine (RW.out _ B1.out).mono ?_
    rintro e w2 ⟨rfl, hb⟩
    have B2 := Lib.hid (bnext B1.out hb)
    have r0 := (hb.cell (p := ⟨W.heap.size, 0, none⟩) hs1).trans q0
    have r1 := (hb.cell (p := ⟨W.heap.size, 1, none⟩) hs1).trans q1
    have r2 := (hb.cell (p := ⟨W.heap.size, 2, none⟩) hs1).trans q2
    have HM2 := Lib.hid (HM.out.below hb)
    clear hb q0 q1 q2
    go_wp2_with fail
    refine (RJ.out _ B2.out).mono ?_
    rintro e w3 ⟨hb, ⟨G, u, hG, rfl, hg⟩ | ⟨hno, _⟩⟩
    case inr => exact absurd HF.out (hno F)
    rw [← UQ.out F G HF.out hG] at hg
    have B3 := Lib.hid (bnext B2.out hb)
    have IG := Lib.hid (is6_good _ _ _ w3 (by rw [M.tabMM_len]; omega) (HM2.out.below hb) hg)
    obtain ⟨A3, c3, rfl, _⟩ := mat_view6 hg
    clear hb r0 r1 r2 hG hg
    go_wp2_with fail
    refine IG.out.mono ?_
    rintro e w4 ⟨rfl, hb⟩
    have B4 := Lib.hid (bnext B3.out hb)
    clear hb
    go_wp2_with fail
    go_ret
    exact ⟨rfl, B4.out⟩
  · have HNO := Lib.hid hno
    clear hno
    go_wp2_with fail
    refine (BN.out _).mono ?_
    rintro e w2 ⟨rfl, rfl⟩
    go_wp2_with fail
    refine (RW.out _ B1.out).mono ?_
    rintro e w2 ⟨rfl, hb⟩
    have B2 := Lib.hid (bnext B1.out hb)
    have r0 := (hb.cell (p := ⟨W.heap.size, 0, none⟩) hs1).trans q0
    have r1 := (hb.cell (p := ⟨W.heap.size, 1, none⟩) hs1).trans q1
    have r2 := (hb.cell (p := ⟨W.heap.size, 2, none⟩) hs1).trans q2
    clear hb q0 q1 q2
    go_wp2_with fail
    refine (RJ.out _ B2.out).mono ?_
    rintro e w3 ⟨hb, ⟨G, u, hG, rfl, hg⟩ | ⟨_, rfl⟩⟩
    case inl => exact absurd hG (HNO.out G)
    have B3 := Lib.hid (bnext B2.out hb)
    clear hb r0 r1 r2
    go_wp2_with fail
    refine (IS.out _).mono ?_
    rintro e w4 ⟨rfl, rfl⟩
    go_wp2_with fail
    refine (alive6_any _).mono ?_
    rintro e w9 ⟨rfl, hb⟩
    have B9 := Lib.hid (bnext B3.out hb)
    clear hb
    go_wp2_with fail
    go_ret
    exact ⟨rfl, B9.out⟩
theorem walk (W : World) (p : Nat) (hp : p < 18446744073709551616) (t : Int) (v : Value) (xs : List Nat) (v2 : Value) (rows : List (List Nat)) (h1 : -9223372036854775808 ≤ t) (h2 : t ≤ 9223372036854775807) (hv : Nums W v xs) (hv2 : Mat W v2 rows) :
    Calls Try.prog 10 #[.int .u64 p, .agg #[.int .i64 t, v, v2]] W fun e W' => e = .returned (.bool true) ∧ Below W.heap.size W W' := by
  by_cases hb : M.bnd p t = 0
  · obtain ⟨T, rfl, hT, hi⟩ := M.bnd_zero hb
    by_cases hr : M.rowsE p xs rows = 0
    · by_cases hl : xs.length < T + 1
      · exact few W p T hi hT v xs v2 rows hv hv2 (M.rowsE_zero hr) hl
      · exact good W p T hi hT v xs v2 rows hv hv2 (M.rowsE_zero hr) hl
    · exact bad2 W p hp T hT v xs v2 rows hv hv2 hb hr
  · exact bad1 W p hp t v xs v2 rows h1 h2 hv hv2 hb
end pairJoinsW
end Go.Proofs.Ytglehjcohdjhoaa
