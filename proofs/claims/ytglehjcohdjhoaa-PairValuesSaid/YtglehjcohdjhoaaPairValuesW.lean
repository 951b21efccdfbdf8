/-
  The walk of PairValues: At and Row against their definitions.
-/
import Derived.Test.YtglehjcohdjhoaaPairValA
namespace Go.Proofs.Ytglehjcohdjhoaa
open Go.RowKit
set_option linter.unusedVariables false
set_option maxRecDepth 100000

namespace pairValuesW
set_option maxHeartbeats 4000000 in
theorem good (W : World) (p T : Nat) (h3 : 3 ≤ p) (hp : p ≤ 65537) (hip : M.isP p = true) (hT : T ≤ 3) (v : Value) (m : List (List Nat)) (hv : Mat W v m) (hm : M.POk p (T + 1) m) (x : Nat) (hx : x < 18446744073709551616) (y : Nat) (hy : y < 18446744073709551616) (hxp : x < p) :
    Calls Try.prog 6 #[.int .u64 p, .agg #[.int .i64 T, v], .agg #[.int .u64 x, .int .u64 y]] W fun e W' => e = .returned (.bool true) ∧ Below W.heap.size W W' := by
  have hud : ∀ b : Bool, undef ≠ Value.bool b := fun b h => by cases h
  have hc : M.pchk p T m = 0 := M.pchk_ok hip hT hm
  have hr : M.rowC p T m x = 0 := by unfold M.rowC; rw [if_pos hc, if_neg (by omega)]
  have ha : M.atC p T m x y = errOf (M.within p [y]) := by
    unfold M.atC errOf
    rw [hr, if_pos rfl]
    by_cases h : p ≤ y
    · rw [if_pos h, if_neg (by simp [M.within]; omega)]
    · rw [if_neg h, if_pos (by simp [M.within]; omega)]
  have PA := Lib.hid fun (w : World) (b : Below W.heap.size W w) => pat_any p T v m x y w (by omega) (by omega) (by omega) hx hy (hv.below b)
  have PR := Lib.hid fun (w : World) (b : Below W.heap.size W w) => prow_any p T v m x w (by omega) (by omega) (by omega) hx (hv.below b)
  have CHK := Lib.hid fun (w : World) (b : Below W.heap.size W w) => rcheck6_one p T v m w (by omega) (by omega) (by omega) (hv.below b)
  have hyp : y % p < p := Nat.mod_lt _ (by omega)
  have RA := Lib.hid fun (w : World) (b : Below W.heap.size W w) => rat6_any p (T + 1) x (y % p) v m w h3 hp (by omega) (by omega) hxp hyp hm (hv.below b)
  have RR := Lib.hid fun (w : World) (b : Below W.heap.size W w) => rrow_any p (T + 1) x v m w h3 hp (by omega) (by omega) hxp hm (hv.below b)
  have WI := Lib.hid fun (w : World) (va : Value) (hn : Nums w va [y]) => within_any p va [y] w hn (c := M.atC p T m x y) ha.symm
  have hval : M.atC p T m x y = 0 → y % p = y := fun h => by
    rw [ha] at h
    unfold errOf at h
    split at h
    · rename_i hw; exact Nat.mod_eq_of_lt (by simpa [M.within] using hw)
    · cases h
  rw [Int.toNat_natCast] at PA PR
  rw [hr] at PR
  rw [hc] at CHK
  obtain ⟨c, ec⟩ : ∃ c, M.atC p T m x y = c := ⟨_, rfl⟩
  rw [ec] at PA WI hval
  obtain ⟨A, cap, rfl, _⟩ := mat_view6 hv
  have hd : decide ((p : Int) ≤ (x : Int)) = false := by rw [decide_eq_false_iff_not]; omega
  have hcb : ((0 : Int) != 0) = false := rfl
  have hym : ((y : Int) % (p : Int)) = ((y % p : Nat) : Int) := by omega
  have hp0 : ((p : Int) == 0) = false := by simp; omega
  obtain ⟨yp, eyp⟩ : ∃ yp, y % p = yp := ⟨_, rfl⟩
  rw [eyp] at RA hval hym
  obtain ⟨a, ea⟩ : ∃ a, M.pat p (T + 1) (M.el m) x y = a := ⟨_, rfl⟩
  have NM := Lib.hid (show ∀ (w : World), (c = 0 → Calls Try.prog 30 #[.int .u64 a, .int .i64 0, .int .u64 (M.pat p (T + 1) (M.el m) x yp : Nat), .int .i64 0] w fun e w' => e = .returned (.bool true) ∧ w = w') from fun w h => by rw [hval h, ea]; exact number6_good a w)
  have NB := Lib.hid fun (w : World) (h : c ≠ 0) => number6_bad c (M.pat p (T + 1) (M.el m) x yp : Nat) w h
  rw [ea] at PA
  obtain ⟨b, eb⟩ : ∃ b, M.pat p (T + 1) (M.el m) x yp = b := ⟨_, rfl⟩
  rw [eb] at RA NM NB
  clear hv ha hr hc hm ec ea eb eyp hval
  go_enter Try.func6, Try.ntmps6
  go_wp2_with fail
  go_region
  go_wp2_with fail
  refine (PA.out _ (bnext (balloc W _) (balloc _ _)).drew).mono ?_
  rintro e w1 ⟨hb, hva⟩
  obtain ⟨va, rfl, HVA⟩ : ∃ va : Nat, e = .returned (.tuple #[.int .u64 va, .int .i64 c]) ∧ Hid ((c ≠ 0 ∧ va = 0) ∨ (c = 0 ∧ va = a)) := by
    rcases hva with ⟨h, rfl⟩ | ⟨h, rfl⟩
    · exact ⟨0, rfl, Lib.hid (.inl ⟨h, rfl⟩)⟩
    · exact ⟨a, by rw [h], Lib.hid (.inr ⟨h, rfl⟩)⟩
  clear hva
  have B1 := Lib.hid (bnext (bnext (balloc W _) (balloc _ _)).drew hb)
  have q0 := (hb.cell (p := ⟨W.heap.size, 0, none⟩) (by simp <;> omega)).trans (show _ = some (.int .i64 (T : Int)) by simp)
  have q1 := (hb.cell (p := ⟨W.heap.size, 1, none⟩) (by simp <;> omega)).trans (show _ = some (.slice A m.length cap) by simp)
  have hqs : W.heap.size < w1.heap.size := by have := hb.size; simp at this; omega
  clear hb
  go_wp2_with fail
  refine (PR.out _ B1.out).mono ?_
  rintro e w2 ⟨hb, ⟨h, _⟩ | ⟨_, vr, rfl, hn⟩⟩
  case inl => exact absurd rfl h
  have HN := Lib.hid hn
  obtain ⟨Ar, cr, rfl⟩ := nums_slice' hn
  clear hn
  have B2 := Lib.hid (bnext B1.out hb)
  have q0b := (hb.cell (p := ⟨W.heap.size, 0, none⟩) (by simp <;> omega)).trans q0
  have q1b := (hb.cell (p := ⟨W.heap.size, 1, none⟩) (by simp <;> omega)).trans q1
  have hqs2 : W.heap.size < w2.heap.size := by have := hb.size; omega
  clear hb q0 q1
  go_wp2_with fail
  refine (CHK.out _ B2.out).mono ?_
  rintro e w3 ⟨rfl, hb⟩
  have B3 := Lib.hid (bnext B2.out hb)
  have HN3 := Lib.hid (HN.out.below hb)
  have q0c := (hb.cell (p := ⟨W.heap.size, 0, none⟩) (by simp; omega)).trans q0b
  have q1c := (hb.cell (p := ⟨W.heap.size, 1, none⟩) (by simp; omega)).trans q1b
  have hqs3 : W.heap.size < w3.heap.size := by have := hb.size; omega
  clear hb q0b q1b
  go_wp2_with fail
  have hya : (y : Nat) < 18446744073709551616 := hy
  have N1 := Lib.hid fun (w : World) => one6 w y hya
  have NMX := Lib.hid (show ∀ (w : World), Calls Try.prog 30 #[.int .u64 (va : Nat), .int .i64 c, .int .u64 (b : Nat), .int .i64 c] w fun e w' => e = .returned (.bool true) ∧ w = w' from fun w => by
    rcases HVA.out with ⟨h, rfl⟩ | ⟨rfl, rfl⟩
    · simpa using NB.out w h
    · exact NM.out w rfl)
  have hq1 : W.heap.size ≠ w3.heap.size := by omega
  have k1 : (w3.alloc (.cells #[.int .u64 (y : Nat)] 22)).cell? ⟨W.heap.size, 1, none⟩ = some (.slice A m.length cap) := ((balloc w3 _).cell (p := ⟨W.heap.size, 1, none⟩) hqs3).trans q1c
  have hqsA : W.heap.size < (w3.alloc (.cells #[.int .u64 (y : Nat)] 22)).heap.size := by simp; omega
  clear HVA NM NB PA PR CHK
  have hyt : ((y : Int).tmod (p : Int)) = (yp : Nat) := by rw [Int.tmod_eq_emod_of_nonneg (by omega)]; exact hym
  have RAm := RA
  rw [← hyt] at RAm
  have hpp : (0 : Int) < (p : Nat) := by omega
  have hpn : ¬ (p : Int) = 0 := by omega
  have hpn2 : ¬ p = 0 := by omega
  have hy00 : (0 : Int) ≤ (y : Nat) := by omega
  go_region_held3 (fun W' => W'.cell? ⟨W.heap.size, 1, none⟩ = some (.slice A m.length cap))
    (first | exact q8 | exact q7 | exact q4a | exact q4 | exact k1 | exact q1c | go_keep)
    (first
    | (go_at_call 31; (with_reducible (first | refine (RA.out _ (by first | exact B3.out.drew | exact (bnext B3.out (balloc w3 _)).drew)).mono ?_ | refine (RAm.out _ (by first | exact B3.out.drew | exact (bnext B3.out (balloc w3 _)).drew)).mono ?_)); rintro e w4 ⟨rfl, hb4⟩; have q4 : w4.cell? ⟨W.heap.size, 1, none⟩ = some (.slice A m.length cap) := (by first | exact (hb4.cell (p := ⟨W.heap.size, 1, none⟩) hqsA).trans k1 | exact (hb4.cell (p := ⟨W.heap.size, 1, none⟩) hqs3).trans q1c); have hq4 : W.heap.size < w4.heap.size := (by first | exact Nat.lt_of_lt_of_le hqsA hb4.size | exact Nat.lt_of_lt_of_le hqs3 hb4.size); have q4a := ((balloc w4 (.cells #[.int .u64 (y : Nat)] 22)).cell (p := ⟨W.heap.size, 1, none⟩) hq4).trans q4)
    | (go_at_call 32; (with_reducible refine (WI.out _ _ (by first | exact N1.out _ | exact ((N1.out _).below (Below.refl _ _).drew).below hb4)).mono ?_); rintro e w5 ⟨rfl, rfl⟩)
    | (go_at_call 30; (with_reducible refine (NMX.out _).mono ?_); rintro e w6 ⟨rfl, rfl⟩)
    | (go_at_call 33; (with_reducible refine (RR.out _ (by first | exact bnext (bnext B3.out (balloc _ _)).drew hb4 | exact bnext (bnext B3.out.drew hb4) (balloc _ _))).mono ?_); rintro e w7 ⟨v7, rfl, hn7, hb7⟩; obtain ⟨A7, c7, rfl⟩ := nums_slice' hn7; have q7 : w7.cell? ⟨W.heap.size, 1, none⟩ = some (.slice A m.length cap) := (by first | exact (hb7.cell (p := ⟨W.heap.size, 1, none⟩) hq4).trans q4 | exact (hb7.cell (p := ⟨W.heap.size, 1, none⟩) (by simp; omega)).trans q4a); have hq7 : W.heap.size < w7.heap.size := (by first | exact Nat.lt_of_lt_of_le hq4 hb7.size | (have := hb7.size; simp at this; omega)))
    | (go_at_call 26; (with_reducible refine (list6_good _ _ _ _ (HN3.out.below (by first | exact bnext (bnext (balloc _ _).drew hb4) hb7 | exact bnext (bnext (bnext (Below.refl _ _).drew hb4) (balloc _ _)) hb7)) hn7).mono ?_); rintro e w8 ⟨rfl, hb8⟩; have q8 := (hb8.cell (p := ⟨W.heap.size, 1, none⟩) hq7).trans q7))
  all_goals
    have B8 := Lib.hid (show Below W.heap.size W w8 by first | exact bnext (bnext (bnext (bnext B3.out (balloc _ _)).drew hb4) hb7) hb8 | exact bnext (bnext (bnext (bnext B3.out.drew hb4) (balloc _ _)) hb7) hb8)
    clear hb4 hb7 hb8 hn7
    go_wp2_with fail
    go_ret
    exact ⟨rfl, B8.out⟩
theorem walk (W : World) (p : Nat) (hp : p < 18446744073709551616) (t : Int) (v : Value) (m : List (List Nat)) (h1 : -9223372036854775808 ≤ t) (h2 : t ≤ 9223372036854775807) (hv : Mat W v m) (x : Nat) (hx : x < 18446744073709551616) (y : Nat) (hy : y < 18446744073709551616) :
    Calls Try.prog 6 #[.int .u64 p, .agg #[.int .i64 t, v], .agg #[.int .u64 x, .int .u64 y]] W fun e W' => e = .returned (.bool true) ∧ Below W.heap.size W W' := by
  by_cases h : M.pchk p t m = 0
  · obtain ⟨T, rfl, hT, hi, ho⟩ := M.pchk_zero h
    obtain ⟨h3, hp5⟩ := M.pos_of hi
    by_cases hxp : p ≤ x
    · exact far W p T h3 hp5 hi hT v m hv ho x hx y hy hxp
    · exact good W p T h3 hp5 hi hT v m hv ho x hx y hy (by omega)
  · exact bad W p hp t v m h1 h2 hv x hx y hy h
end pairValuesW
end Go.Proofs.Ytglehjcohdjhoaa
