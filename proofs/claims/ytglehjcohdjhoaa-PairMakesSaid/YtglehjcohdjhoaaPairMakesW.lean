/-
  The walk of PairMakes: Make against the numbers of the tape, reduced.
-/
import Derived.Test.YtglehjcohdjhoaaAl6
import Derived.Test.YtglehjcohdjhoaaPr10
namespace Go.Proofs.Ytglehjcohdjhoaa
open Go.RowKit
set_option linter.unusedVariables false
set_option maxRecDepth 100000

namespace pairMakesW
set_option maxHeartbeats 2000000 in
theorem walk (W : World) (p : Nat) (hp : p < 18446744073709551616) (s : Nat) (t : Int) (v : Value) (zs : List Nat) (hs : s < 18446744073709551616) (h1 : -9223372036854775808 ≤ t) (h2 : t ≤ 9223372036854775807) (hv : Nums W v zs) :
    Calls Try.prog 4 #[.int .u64 p, .agg #[.int .u64 s, .int .i64 t, v]] W fun e W' => e = .returned (.bool true) ∧ Below W.heap.size W W' := by
  have hud : ∀ b : Bool, undef ≠ Value.bool b := fun b h => by cases h
  have MK := Lib.hid fun (w : World) (b : Below W.heap.size W w) => pmake_any p s t v zs w hp hs h1 h2 (hv.below b)
  have BND := Lib.hid fun (w : World) => rbounds_any p t w hp h1 h2
  have RM := Lib.hid fun (w : World) (b : Below W.heap.size W w) (h3 : 3 ≤ p) (hp : p ≤ 65537) (T : Nat) (hT : T ≤ 3) (hs : s < p) => rmake6_any p s T v zs w h3 hp hT hs (hv.below b)
  have BF := Lib.hid (show M.bnd p t = 0 → ∃ T : Nat, t = T ∧ T ≤ 3 ∧ M.isP p = true from fun h => M.bnd_zero h)
  obtain ⟨c, ec⟩ : ∃ c, M.mkE p s t = c := ⟨_, rfl⟩
  obtain ⟨b, eb⟩ : ∃ b, M.bnd p t = b := ⟨_, rfl⟩
  rw [ec] at MK
  rw [eb] at BND BF
  unfold M.mkE at ec
  rw [eb] at ec
  have hvl := hv.2.1
  obtain ⟨A, cap, rfl⟩ := nums_slice' hv
  clear hv eb
  by_cases hb0 : b = 0
  · subst hb0
    obtain ⟨T, rfl, hT, hip⟩ := BF.out rfl
    obtain ⟨h3, hp5⟩ := M.pos_of hip
    have hcb0 : ((0 : Int) == 0) = true := rfl
    have hcb1 : ((0 : Int) != 0) = false := rfl
    rw [if_pos rfl] at ec
    by_cases hsp : p ≤ s
    · rw [if_pos hsp] at ec
      subst ec
      have hd : decide ((p : Int) ≤ (s : Int)) = true := by rw [decide_eq_true_eq]; omega
      go_enter Try.func4, Try.ntmps4
      go_wp2_with fail
      refine (MK.out _ (balloc W _)).mono ?_
      rintro e w1 (⟨hc, rfl, hb⟩ | ⟨hc, v1, v2, rfl, hm, hn, hb⟩)
      case inr => exact absurd hc (by decide)
      have q0 := (hb.cell (p := ⟨W.heap.size, 0, none⟩) (by simp)).trans (show _ = some (.int .u64 (s : Nat)) by simp)
      have q1 := (hb.cell (p := ⟨W.heap.size, 1, none⟩) (by simp)).trans (show _ = some (.int .i64 (T : Int)) by simp)
      have B1 := Lib.hid (bnext (balloc W _) hb)
      clear hb hc
      go_wp2_with fail
      refine (BND.out _).mono ?_
      rintro e w2 ⟨rfl, rfl⟩
      go_wp2_with fail
      refine (is6_bad 2 (.slice none 0 0) _ (by decide) ⟨_, _, _, rfl⟩).mono ?_
      rintro e w3 ⟨rfl, rfl⟩
      go_wp2_with fail
      refine (alive6_any _).mono ?_
      rintro e w4 ⟨rfl, hb⟩
      have B3 := Lib.hid (bnext B1.out hb)
      clear hb
      go_wp2_with fail
      go_ret
      exact ⟨rfl, B3.out⟩
    · rw [if_neg hsp] at ec
      subst ec
      have hd : decide ((p : Int) ≤ (s : Int)) = false := by rw [decide_eq_false_iff_not]; omega
      go_enter Try.func4, Try.ntmps4
      go_wp2_with fail
      refine (MK.out _ (balloc W _)).mono ?_
      rintro e w1 (⟨hc, rfl, hb⟩ | ⟨hc, v1, v2, rfl, hm, hn, hb⟩)
      case inl => exact absurd rfl hc
      rw [Int.toNat_natCast] at hm hn
      obtain ⟨ds, ed⟩ : ∃ ds, ds = zs.drop (M.triR (T + 1) (T + 1) - 1) := ⟨_, rfl⟩
      rw [← ed] at hn
      have ED := Lib.hid ed
      clear ed
      have q0 := (hb.cell (p := ⟨W.heap.size, 0, none⟩) (by simp)).trans (show _ = some (.int .u64 (s : Nat)) by simp)
      have q1 := (hb.cell (p := ⟨W.heap.size, 1, none⟩) (by simp)).trans (show _ = some (.int .i64 (T : Int)) by simp)
      have q2 := (hb.cell (p := ⟨W.heap.size, 2, none⟩) (by simp)).trans (show _ = some (.slice A zs.length cap) by simp)
      have B1 := Lib.hid (bnext (balloc W _) hb)
      have HM := Lib.hid hm
      have HN := Lib.hid hn
      obtain ⟨A1, cap1, rfl, _⟩ := mat_view6 hm
      obtain ⟨A2, cap2, rfl⟩ := nums_slice' hn
      clear hb hc hm hn
      go_wp2_with fail
      refine (BND.out _).mono ?_
      rintro e w2 ⟨rfl, rfl⟩
      go_wp2_with fail
      refine (RM.out _ B1.out h3 hp5 T hT (by omega)).mono ?_
      rintro e w3 ⟨u1, u2, rfl, hm, hn, hb⟩
      rw [← ED.out] at hn
      have B2 := Lib.hid (bnext B1.out hb)
      have IS := Lib.hid (is6_good _ _ _ _ (by rw [M.tabMM_len]; omega) (HM.out.below hb) hm)
      have SM := Lib.hid fun w (b : Below w3.heap.size w3 w) => same_any _ _ _ w ((HN.out.below hb).below b) (hn.below b)
      obtain ⟨A3, cap3, rfl, _⟩ := mat_view6 hm
      obtain ⟨A4, cap4, rfl⟩ := nums_slice' hn
      clear hb hm hn q0 q1 q2
      go_wp2_with fail
      refine IS.out.mono ?_
      rintro e w4 ⟨rfl, hb⟩
      have B3 := Lib.hid (bnext B2.out hb)
      have SM2 := Lib.hid (SM.out _ hb)
      clear hb
      go_wp2_with fail
      refine SM2.out.mono ?_
      rintro e w5 ⟨rfl, hb⟩
      have B4 := Lib.hid (bnext B3.out hb)
      clear hb
      go_wp2_with fail
      go_ret
      exact ⟨rfl, B4.out⟩
  · rw [if_neg hb0] at ec
    subst ec
    have hcb0 : (b == 0) = false := by simpa using hb0
    have hcb1 : (b != 0) = true := by rw [bne_iff_ne]; exact hb0
    have IS := Lib.hid fun (w : World) => is6_bad b (.slice none 0 0) w hb0 ⟨_, _, _, rfl⟩
    go_enter Try.func4, Try.ntmps4
    go_wp2_with fail
    refine (MK.out _ (balloc W _)).mono ?_
    rintro e w1 (⟨hc, rfl, hb⟩ | ⟨hc, v1, v2, rfl, hm, hn, hb⟩)
    case inr => exact absurd hc hb0
    have q1 := (hb.cell (p := ⟨W.heap.size, 1, none⟩) (by simp)).trans (show _ = some (.int .i64 t) by simp)
    have B1 := Lib.hid (bnext (balloc W _) hb)
    clear hb hc hb0
    go_wp2_with fail
    refine (BND.out _).mono ?_
    rintro e w2 ⟨rfl, rfl⟩
    go_wp2_with fail
    refine (IS.out _).mono ?_
    rintro e w3 ⟨rfl, rfl⟩
    go_wp2_with fail
    refine (alive6_any _).mono ?_
    rintro e w4 ⟨rfl, hb⟩
    have B3 := Lib.hid (bnext B1.out hb)
    clear hb
    go_wp2_with fail
    go_ret
    exact ⟨rfl, B3.out⟩
end pairMakesW
end Go.Proofs.Ytglehjcohdjhoaa
