/-
  The walk of PairValues, what is refused: At and Row against their definitions.
-/
import Derived.Test.YtglehjcohdjhoaaAl6
import Derived.Test.YtglehjcohdjhoaaPr8
namespace Go.Proofs.Ytglehjcohdjhoaa
open Go.RowKit
set_option linter.unusedVariables false
set_option maxRecDepth 100000

namespace pairValuesW
set_option maxHeartbeats 2000000 in
theorem bad (W : World) (p : Nat) (hp : p < 18446744073709551616) (t : Int) (v : Value) (m : List (List Nat)) (h1 : -9223372036854775808 ≤ t) (h2 : t ≤ 9223372036854775807) (hv : Mat W v m) (x : Nat) (hx : x < 18446744073709551616) (y : Nat) (hy : y < 18446744073709551616) (hc : M.pchk p t m ≠ 0) :
    Calls Try.prog 6 #[.int .u64 p, .agg #[.int .i64 t, v], .agg #[.int .u64 x, .int .u64 y]] W fun e W' => e = .returned (.bool true) ∧ Below W.heap.size W W' := by
  have hud : ∀ b : Bool, undef ≠ Value.bool b := fun b h => by cases h
  have hr : M.rowC p t m x = M.pchk p t m := by unfold M.rowC; rw [if_neg hc]
  have ha : M.atC p t m x y = M.pchk p t m := by unfold M.atC; rw [hr, if_neg hc]
  have PA := Lib.hid fun (w : World) (b : Below W.heap.size W w) => pat_any p t v m x y w hp h1 h2 hx hy (hv.below b)
  have PR := Lib.hid fun (w : World) (b : Below W.heap.size W w) => prow_any p t v m x w hp h1 h2 hx (hv.below b)
  have CHK := Lib.hid fun (w : World) (b : Below W.heap.size W w) => rcheck6_one p t v m w hp h1 h2 (hv.below b)
  rw [ha] at PA
  rw [hr] at PR
  obtain ⟨c, ec⟩ : ∃ c, M.pchk p t m = c := ⟨_, rfl⟩
  rw [ec] at PA PR CHK hc
  obtain ⟨A, cap, rfl, _⟩ := mat_view6 hv
  have hcb : (c != 0) = true := by rw [bne_iff_ne]; exact hc
  have NB := Lib.hid fun (w : World) => number6_bad c 0 w hc
  have LB := Lib.hid fun (w : World) => list6_bad c (.slice none 0 0) w hc ⟨_, _, _, rfl⟩
  have HC := Lib.hid hc
  clear hv ha hr ec hc
  go_enter Try.func6, Try.ntmps6
  go_wp2_with fail
  go_region
  go_wp2_with fail
  refine (PA.out _ (bnext (balloc W _) (balloc _ _)).drew).mono ?_
  rintro e w1 ⟨hb, ⟨_, rfl⟩ | ⟨h, _⟩⟩
  case inr => exact absurd h HC.out
  have B1 := Lib.hid (bnext (bnext (balloc W _) (balloc _ _)).drew hb)
  have q0 := (hb.cell (p := ⟨W.heap.size, 0, none⟩) (by simp <;> omega)).trans (show _ = some (.int .i64 t) by simp)
  have q1 := (hb.cell (p := ⟨W.heap.size, 1, none⟩) (by simp <;> omega)).trans (show _ = some (.slice A m.length cap) by simp)
  have hqs : W.heap.size < w1.heap.size := by have := hb.size; simp at this; omega
  clear hb
  go_wp2_with fail
  refine (PR.out _ B1.out).mono ?_
  rintro e w2 ⟨hb, ⟨_, rfl⟩ | ⟨h, _⟩⟩
  case inr => exact absurd h HC.out
  have B2 := Lib.hid (bnext B1.out hb)
  have q0b := (hb.cell (p := ⟨W.heap.size, 0, none⟩) (by simp <;> omega)).trans q0
  have q1b := (hb.cell (p := ⟨W.heap.size, 1, none⟩) (by simp <;> omega)).trans q1
  have hqs2 : W.heap.size < w2.heap.size := by have := hb.size; omega
  clear hb q0 q1
  go_wp2_with fail
  refine (CHK.out _ B2.out).mono ?_
  rintro e w3 ⟨rfl, hb⟩
  have B3 := Lib.hid (bnext B2.out hb)
  clear hb q0b q1b
  go_wp2_with fail
  refine (NB.out _).mono ?_
  rintro e w4 ⟨rfl, rfl⟩
  go_wp2_with fail
  refine (LB.out _).mono ?_
  rintro e w5 ⟨rfl, rfl⟩
  go_wp2_with fail
  refine (alive6_any _).mono ?_
  rintro e w9 ⟨rfl, hb⟩
  have B9 := Lib.hid (bnext B3.out hb)
  clear hb
  go_wp2_with fail
  go_ret
  exact ⟨rfl, B9.out⟩
set_option maxHeartbeats 2000000 in
theorem far (W : World) (p T : Nat) (h3 : 3 ≤ p) (hp : p ≤ 65537) (hip : M.isP p = true) (hT : T ≤ 3) (v : Value) (m : List (List Nat)) (hv : Mat W v m) (hm : M.POk p (T + 1) m) (x : Nat) (hx : x < 18446744073709551616) (y : Nat) (hy : y < 18446744073709551616) (hxp : p ≤ x) :
    Calls Try.prog 6 #[.int .u64 p, .agg #[.int .i64 T, v], .agg #[.int .u64 x, .int .u64 y]] W fun e W' => e = .returned (.bool true) ∧ Below W.heap.size W W' := by
  have hud : ∀ b : Bool, undef ≠ Value.bool b := fun b h => by cases h
  have hc : M.pchk p T m = 0 := M.pchk_ok hip hT hm
  have hr : M.rowC p T m x = 2 := by unfold M.rowC; rw [if_pos hc, if_pos hxp]
  have ha : M.atC p T m x y = 2 := by unfold M.atC; rw [hr, if_neg (by decide)]
  have PA := Lib.hid fun (w : World) (b : Below W.heap.size W w) => pat_any p T v m x y w (by omega) (by omega) (by omega) hx hy (hv.below b)
  have PR := Lib.hid fun (w : World) (b : Below W.heap.size W w) => prow_any p T v m x w (by omega) (by omega) (by omega) hx (hv.below b)
  have CHK := Lib.hid fun (w : World) (b : Below W.heap.size W w) => rcheck6_one p T v m w (by omega) (by omega) (by omega) (hv.below b)
  rw [ha] at PA
  rw [hr] at PR
  rw [hc] at CHK
  obtain ⟨A, cap, rfl, _⟩ := mat_view6 hv
  have hd : decide ((p : Int) ≤ (x : Int)) = true := by rw [decide_eq_true_eq]; omega
  have hcb : ((0 : Int) != 0) = false := rfl
  have NB := Lib.hid fun (w : World) => number6_bad 2 0 w (by decide)
  have LB := Lib.hid fun (w : World) => list6_bad 2 (.slice none 0 0) w (by decide) ⟨_, _, _, rfl⟩
  clear hv ha hr hc hm
  go_enter Try.func6, Try.ntmps6
  go_wp2_with fail
  go_region
  go_wp2_with fail
  refine (PA.out _ (bnext (balloc W _) (balloc _ _)).drew).mono ?_
  rintro e w1 ⟨hb, ⟨_, rfl⟩ | ⟨h, _⟩⟩
  case inr => exact absurd h (by decide)
  have B1 := Lib.hid (bnext (bnext (balloc W _) (balloc _ _)).drew hb)
  have q0 := (hb.cell (p := ⟨W.heap.size, 0, none⟩) (by simp <;> omega)).trans (show _ = some (.int .i64 (T : Int)) by simp)
  have q1 := (hb.cell (p := ⟨W.heap.size, 1, none⟩) (by simp <;> omega)).trans (show _ = some (.slice A m.length cap) by simp)
  have hqs : W.heap.size < w1.heap.size := by have := hb.size; simp at this; omega
  clear hb
  go_wp2_with fail
  refine (PR.out _ B1.out).mono ?_
  rintro e w2 ⟨hb, ⟨_, rfl⟩ | ⟨h, _⟩⟩
  case inr => exact absurd h (by decide)
  have B2 := Lib.hid (bnext B1.out hb)
  have q0b := (hb.cell (p := ⟨W.heap.size, 0, none⟩) (by simp <;> omega)).trans q0
  have q1b := (hb.cell (p := ⟨W.heap.size, 1, none⟩) (by simp <;> omega)).trans q1
  have hqs2 : W.heap.size < w2.heap.size := by have := hb.size; omega
  clear hb q0 q1
  go_wp2_with fail
  refine (CHK.out _ B2.out).mono ?_
  rintro e w3 ⟨rfl, hb⟩
  have B3 := Lib.hid (bnext B2.out hb)
  clear hb q0b q1b
  go_wp2_with fail
  refine (NB.out _).mono ?_
  rintro e w4 ⟨rfl, rfl⟩
  go_wp2_with fail
  refine (LB.out _).mono ?_
  rintro e w5 ⟨rfl, rfl⟩
  go_wp2_with fail
  go_ret
  exact ⟨rfl, B3.out⟩
end pairValuesW
end Go.Proofs.Ytglehjcohdjhoaa
