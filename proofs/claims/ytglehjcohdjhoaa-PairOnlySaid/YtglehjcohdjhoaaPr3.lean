/-
  The reference of package pair: Same, Row, At.
-/
import Derived.Test.YtglehjcohdjhoaaPr2
import Derived.Deep.RegionHeld3
namespace Go.Proofs.Ytglehjcohdjhoaa
open Go.RowKit
set_option linter.unusedVariables false
set_option maxRecDepth 100000

theorem below_of_drew6 {W w' : World} (h : Below W.drew.heap.size W.drew w') : Below W.heap.size W w' := ⟨h.os, h.tape, h.output, h.size, h.block⟩
set_option maxHeartbeats 1000000 in
theorem rsame6_any (va vb : Value) (m : List (List Nat)) (w : World) (hl : m.length ≤ 1000) (ha : Mat w va m) (hb : Mat w vb m) :
    Calls Try.prog 46 #[va, vb] w fun e w' => e = .returned (.bool true) ∧ Below w.heap.size w w' := by
  have hud : ∀ b : Bool, undef ≠ Value.bool b := fun b h => by cases h
  obtain ⟨A, cap, rfl, _, _, hra⟩ := mat_view6 ha
  obtain ⟨A2, cap2, rfl, _, _, hrb⟩ := mat_view6 hb
  have HA := Lib.hid hra
  have HB := Lib.hid hrb
  clear ha hb hra hrb
  go_enter Try.func46, Try.ntmps46
  go_wp2_with fail
  go_loopw [13] (fun t wr => ∃ k : Nat, k ≤ m.length ∧ t = .int .i64 k ∧ Below w.heap.size w wr) (fun t _ => m.length - (intOf t).toNat)
  case atStart => exact ⟨0, by omega, rfl, Below.refl _ _⟩
  case round =>
    obtain ⟨k, hk, rfl, hB⟩ := hrel
    have HBB := Lib.hid hB
    clear hB
    by_cases hlt : k < m.length
    · obtain ⟨b1, o1, rfl, hb1, hc1⟩ := HA.out (by omega)
      obtain ⟨b2, o2, rfl, hb2, hc2⟩ := HB.out (by omega)
      obtain ⟨Au, cu, c1, n1⟩ := hc1 k hlt
      obtain ⟨Av, cv, c2, n2⟩ := hc2 k hlt
      have d1 := (HBB.out.cell (p := ⟨b1, o1 + k, none⟩) hb1).trans c1
      have d2 := (HBB.out.cell (p := ⟨b2, o2 + k, none⟩) hb2).trans c2
      have m1 := (n1.below HBB.out).below (Below.refl _ _).drew
      have m2 := (n2.below HBB.out).below (Below.refl _ _).drew
      have HS := Lib.hid (same_any _ _ (m.getD k []) wr.drew m1 m2)
      have l1 : b1 < wr.heap.size := by have := HBB.out.size; omega
      have l2 : b2 < wr.heap.size := by have := HBB.out.size; omega
      obtain ⟨L, eL⟩ : ∃ L, L = (m.getD k []).length := ⟨_, rfl⟩
      rw [← eL] at d1 d2 HS
      clear c1 c2 n1 n2 hc1 hc2 eL m1 m2
      go_wp2_with fail
      go_region_held3 (fun W' => W'.cell? ⟨b1, o1 + k, none⟩ = some (.slice Au L cu) ∧ W'.cell? ⟨b2, o2 + k, none⟩ = some (.slice Av L cv))
        (first | exact ⟨d1, d2⟩ | exact ⟨f1, f2⟩ | go_keep)
        (first | (go_at_call 24; (with_reducible refine HS.out.mono ?_); rintro e w1 ⟨rfl, hw1⟩; have f1 := (hw1.cell (p := ⟨b1, o1 + k, none⟩) l1).trans d1; have f2 := (hw1.cell (p := ⟨b2, o2 + k, none⟩) l2).trans d2))
      have HB2 := Lib.hid (bnext HBB.out (below_of_drew6 hw1))
      clear hw1 f1 f2
      go_wp2_with fail
      go_roundw
      case rel => exact ⟨k + 1, by omega, by go_num, HB2.out⟩
      case measure => simp [intOf]; omega
    · obtain rfl : k = m.length := by omega
      go_wp2_with fail
      go_ret
      exact ⟨rfl, HBB.out⟩
end Go.Proofs.Ytglehjcohdjhoaa
