/-
  The walk of PairSums: Add against the sum of the two matrices.
-/
import Derived.Test.YtglehjcohdjhoaaAl6
import Derived.Test.YtglehjcohdjhoaaPp5c
import Derived.Test.YtglehjcohdjhoaaPr6
namespace Go.Proofs.Ytglehjcohdjhoaa
open Go.RowKit
set_option linter.unusedVariables false
set_option maxRecDepth 100000

namespace pairSumsW
set_option maxHeartbeats 2000000 in
theorem walk (W : World) (p : Nat) (hp : p < 18446744073709551616) (t : Int) (v : Value) (m : List (List Nat)) (h1 : -9223372036854775808 ≤ t) (h2 : t ≤ 9223372036854775807) (hv : Mat W v m) (v2 : Value) (m2 : List (List Nat)) (hv2 : Mat W v2 m2) :
    Calls Try.prog 7 #[.int .u64 p, .agg #[.int .i64 t, v], v2] W fun e W' => e = .returned (.bool true) ∧ Below W.heap.size W W' := by
  have hud : ∀ b : Bool, undef ≠ Value.bool b := fun b h => by cases h
  have ADD := Lib.hid fun (w : World) (b : Below W.heap.size W w) => padd_any p t v v2 m m2 w hp h1 h2 (hv.below b) (hv2.below b)
  have CHK := Lib.hid fun (w : World) (b : Below W.heap.size W w) => rcheck6_two p t v v2 m m2 w hp h1 h2 (hv.below b) (hv2.below b)
  have HV := Lib.hid hv
  have HV2 := Lib.hid hv2
  obtain ⟨F, eF⟩ : ∃ F : Nat → Nat → Nat, F = fun i k => (M.el m i k + M.el m2 i k) % p := ⟨_, rfl⟩
  have hA : M.pchk2 p t m m2 = 0 → 3 ≤ p ∧ p ≤ 65537 ∧ t.toNat + 1 ≤ 4 ∧ M.POk p (t.toNat + 1) m ∧ M.POk p (t.toNat + 1) m2 := fun h => by
    unfold M.pchk2 at h
    by_cases h0 : M.pchk p t m = 0
    · rw [if_pos h0] at h
      obtain ⟨T, rfl, hT, hi, ho⟩ := M.pchk_zero h0
      obtain ⟨T', e, hT', _, ho'⟩ := M.pchk_zero h
      obtain rfl : T = T' := by omega
      obtain ⟨h3, hp⟩ := M.pos_of hi
      exact ⟨h3, hp, by omega, by simpa using ho, by simpa using ho'⟩
    · rw [if_neg h0] at h; exact absurd h h0
  have RADD := Lib.hid fun (w : World) (b : Below W.heap.size W w) (h : M.pchk2 p t m m2 = 0) => radd6_any p (t.toNat + 1) v v2 m m2 w (hA h).1 (hA h).2.1 (by omega) (hA h).2.2.1 (hA h).2.2.2.1 (hA h).2.2.2.2 (hv.below b) (hv2.below b)
  have HL := Lib.hid (show M.pchk2 p t m m2 = 0 → t.toNat + 1 ≤ 4 from fun h => (hA h).2.2.1)
  obtain ⟨c, ec⟩ : ∃ c, M.pchk2 p t m m2 = c := ⟨_, rfl⟩
  obtain ⟨A, cap, rfl, _⟩ := mat_view6 hv
  obtain ⟨A2, cap2, rfl, _⟩ := mat_view6 hv2
  rw [ec, ← eF] at ADD
  have CHK2 : Hid (∀ (w : World), Below W.heap.size W w → Calls Try.prog 16 #[.int .u64 p, .int .i64 t, .slice (some ⟨w.heap.size, 0, none⟩) 2 2] (w.alloc (.cells #[.slice A m.length cap, .slice A2 m2.length cap2] 23)) fun e w' => e = .returned (.int .i64 c) ∧ Below w.heap.size w w') := by rw [← ec]; exact CHK
  rw [ec, ← eF] at RADD
  rw [ec] at HL
  clear hv hv2 hA eF CHK ec
  go_enter Try.func7, Try.ntmps7
  go_wp2_with fail
  refine (ADD.out _ (balloc W _)).mono ?_
  rintro e w1 (⟨hc, rfl, hb⟩ | ⟨hc, va, rfl, hm, hb⟩)
  · have q0 := (hb.cell (p := ⟨W.heap.size, 0, none⟩) (by simp)).trans (show _ = some (.int .i64 t) by simp)
    have q1 := (hb.cell (p := ⟨W.heap.size, 1, none⟩) (by simp)).trans (show _ = some (.slice A m.length cap) by simp)
    have B1 := Lib.hid (bnext (balloc W _) hb)
    have hcb : (c != 0) = true := by rw [bne_iff_ne]; exact hc
    have IS := Lib.hid fun (w : World) => is6_bad c (.slice none 0 0) w hc ⟨_, _, _, rfl⟩
    clear hb hc
    go_wp2_with fail
    refine (CHK2.out _ B1.out).mono ?_
    rintro e w2 ⟨rfl, hb⟩
    have B2 := Lib.hid (bnext B1.out hb)
    clear hb q0 q1
    go_wp2_with fail
    refine (IS.out _).mono ?_
    rintro e w3 ⟨rfl, rfl⟩
    go_wp2_with fail
    refine (alive6_any _).mono ?_
    rintro e w4 ⟨rfl, hb⟩
    have B3 := Lib.hid (bnext B2.out hb)
    clear hb
    go_wp2_with fail
    go_ret
    exact ⟨rfl, B3.out⟩
  · subst hc
    have q0 := (hb.cell (p := ⟨W.heap.size, 0, none⟩) (by simp)).trans (show _ = some (.int .i64 t) by simp)
    have q1 := (hb.cell (p := ⟨W.heap.size, 1, none⟩) (by simp)).trans (show _ = some (.slice A m.length cap) by simp)
    have B1 := Lib.hid (bnext (balloc W _) hb)
    have hqs : W.heap.size < w1.heap.size := by have := hb.size; simp at this; omega
    have HM := Lib.hid hm
    have hcb : ((0 : Int) != 0) = false := rfl
    have RD := Lib.hid fun w b => RADD.out w b rfl
    have HL4 := Lib.hid (HL.out rfl)
    obtain ⟨Av, cv, rfl, _⟩ := mat_view6 hm
    clear hb hm RADD HL
    go_wp2_with fail
    refine (CHK2.out _ B1.out).mono ?_
    rintro e w2 ⟨rfl, hb⟩
    have r1 := (hb.cell (p := ⟨W.heap.size, 1, none⟩) hqs).trans q1
    have B2 := Lib.hid (bnext B1.out hb)
    have HM2 := Lib.hid (HM.out.below hb)
    clear hb q0 q1
    go_wp2_with fail
    refine (RD.out _ B2.out).mono ?_
    rintro e w3 ⟨vr, rfl, hr, hb⟩
    have B3 := Lib.hid (bnext B2.out hb)
    have IS := Lib.hid (is6_good _ _ _ _ (by rw [M.tabMM_len]; have := HL4.out; omega) (HM2.out.below hb) hr)
    obtain ⟨Ar, cr, rfl, _⟩ := mat_view6 hr
    clear hb r1 hr
    go_wp2_with fail
    refine IS.out.mono ?_
    rintro e w4 ⟨rfl, hb⟩
    have B4 := Lib.hid (bnext B3.out hb)
    clear hb
    go_wp2_with fail
    go_ret
    exact ⟨rfl, B4.out⟩
end pairSumsW
end Go.Proofs.Ytglehjcohdjhoaa
