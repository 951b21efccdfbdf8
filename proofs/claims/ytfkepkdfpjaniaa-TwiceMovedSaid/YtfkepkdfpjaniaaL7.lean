/-
  The laws of package twice: their helpers.
-/
import Derived.Test.YtfkepkdfpjaniaaP7b
import Derived.Test.YtfkepkdfpjaniaaLF
import Derived.Test.YtfkepkdfpjaniaaLB
import Derived.Deep.RegionHeld3
namespace Go.Proofs.Ytfkepkdfpjaniaa
open Go.RowKit
set_option linter.unusedVariables false
set_option maxRecDepth 100000

set_option maxHeartbeats 1000000 in
theorem exact7_any (va vb : Value) (m : List (List Nat)) (w : World) (hl : m.length ≤ 1000) (ha : Mat w va m) (hb : Mat w vb m) :
    Calls Try.prog 50 #[va, vb] w fun e w' => e = .returned (.bool true) ∧ Below w.heap.size w w' := by
  have hud : ∀ b : Bool, undef ≠ Value.bool b := fun b h => by cases h
  obtain ⟨A, cap, rfl, _, _, hra⟩ := mat_view6 ha
  obtain ⟨A2, cap2, rfl, _, _, hrb⟩ := mat_view6 hb
  have HA := Lib.hid hra
  have HB := Lib.hid hrb
  clear ha hb hra hrb
  go_enter Try.func50, Try.ntmps50
  go_wp2_with fail
  go_loopw [13] (fun t wr => ∃ k : Nat, k ≤ m.length ∧ t = .int .i64 k ∧ Below w.heap.size w wr) (fun t _ => m.length - (intOf t).toNat)
  case atStart => exact ⟨0, by omega, rfl, Below.refl _ _⟩
  case round =>
    obtain ⟨k, hk, rfl, hB⟩ := hrel
    have HBB := Lib.hid hB
    clear hB
    by_cases hlt : k < m.length
    · obtain ⟨b1, o1, rfl, hb1, hc1⟩ := HA.out (by omega)
      obtain ⟨b2, o2, rfl, hb2, hc2⟩ := HB.out (by omega)
      obtain ⟨Au, cu, c1, n1⟩ := hc1 k hlt
      obtain ⟨Av, cv, c2, n2⟩ := hc2 k hlt
      have d1 := (HBB.out.cell (p := ⟨b1, o1 + k, none⟩) hb1).trans c1
      have d2 := (HBB.out.cell (p := ⟨b2, o2 + k, none⟩) hb2).trans c2
      have m1 := (n1.below HBB.out).below (Below.refl _ _).drew
      have m2 := (n2.below HBB.out).below (Below.refl _ _).drew
      have HS := Lib.hid (same_any _ _ (m.getD k []) wr.drew m1 m2)
      have l1 : b1 < wr.heap.size := by have := HBB.out.size; omega
      have l2 : b2 < wr.heap.size := by have := HBB.out.size; omega
      obtain ⟨L, eL⟩ : ∃ L, L = (m.getD k []).length := ⟨_, rfl⟩
      rw [← eL] at d1 d2 HS
      clear c1 c2 n1 n2 hc1 hc2 eL m1 m2
      go_wp2_with fail
      go_region_held3 (fun W' => W'.cell? ⟨b1, o1 + k, none⟩ = some (.slice Au L cu) ∧ W'.cell? ⟨b2, o2 + k, none⟩ = some (.slice Av L cv))
        (first | exact ⟨d1, d2⟩ | exact ⟨f1, f2⟩ | go_keep)
        (first | (go_at_call 21; (with_reducible refine HS.out.mono ?_); rintro e w1 ⟨rfl, hw1⟩; have f1 := (hw1.cell (p := ⟨b1, o1 + k, none⟩) l1).trans d1; have f2 := (hw1.cell (p := ⟨b2, o2 + k, none⟩) l2).trans d2))
      have HB2 := Lib.hid (bnext HBB.out (below_of_drew6 hw1))
      clear hw1 f1 f2
      go_wp2_with fail
      go_roundw
      case rel => exact ⟨k + 1, by omega, by go_num, HB2.out⟩
      case measure => simp [intOf]; omega
    · obtain rfl : k = m.length := by omega
      go_wp2_with fail
      go_ret
      exact ⟨rfl, HBB.out⟩
set_option maxHeartbeats 400000 in
theorem is7_bad (c : Int) (v2 : Value) (w : World) (hc : c ≠ 0) (hv : ∃ A n cap, v2 = .slice A n cap) :
    Calls Try.prog 19 #[.slice none 0 0, .int .i64 c, v2, .int .i64 c] w fun e w' => e = .returned (.bool true) ∧ w = w' := by
  have hb : (c != 0) = true := by rw [bne_iff_ne]; exact hc
  have hb2 : (c == c) = true := by simp
  obtain ⟨A, n, cap, rfl⟩ := hv
  clear hc
  go_enter Try.func19, Try.ntmps19
  go_wp2_with fail
  go_ret
  exact ⟨rfl, rfl⟩
set_option maxHeartbeats 400000 in
theorem is7_good (v v2 : Value) (m : List (List Nat)) (w : World) (hl : m.length ≤ 1000) (h : Mat w v m) (h2 : Mat w v2 m) :
    Calls Try.prog 19 #[v, .int .i64 0, v2, .int .i64 0] w fun e w' => e = .returned (.bool true) ∧ Below w.heap.size w w' := by
  have HS := Lib.hid (exact7_any v v2 m w hl h h2)
  have hb : ((0 : Int) != 0) = false := rfl
  have hb2 : ((0 : Int) == 0) = true := rfl
  obtain ⟨A, cap, rfl, _⟩ := mat_view6 h
  obtain ⟨A2, cap2, rfl, _⟩ := mat_view6 h2
  clear h h2
  go_enter Try.func19, Try.ntmps19
  go_wp2_with fail
  refine HS.out.mono ?_
  rintro e w2 ⟨rfl, hb⟩
  have HB := Lib.hid hb
  clear hb
  go_wp2_with fail
  go_ret
  exact ⟨rfl, HB.out⟩
set_option maxHeartbeats 400000 in
theorem list7_bad (c : Int) (v2 : Value) (w : World) (hc : c ≠ 0) (hv : ∃ A n cap, v2 = .slice A n cap) :
    Calls Try.prog 26 #[.slice none 0 0, .int .i64 c, v2, .int .i64 c] w fun e w' => e = .returned (.bool true) ∧ w = w' := by
  have hb : (c != 0) = true := by rw [bne_iff_ne]; exact hc
  have hb2 : (c == c) = true := by simp
  obtain ⟨A, n, cap, rfl⟩ := hv
  clear hc
  go_enter Try.func26, Try.ntmps26
  go_wp2_with fail
  go_ret
  exact ⟨rfl, rfl⟩
set_option maxHeartbeats 400000 in
theorem list7_good (v v2 : Value) (zs : List Nat) (w : World) (h : Nums w v zs) (h2 : Nums w v2 zs) :
    Calls Try.prog 26 #[v, .int .i64 0, v2, .int .i64 0] w fun e w' => e = .returned (.bool true) ∧ Below w.heap.size w w' := by
  have HS := Lib.hid (same_any v v2 zs w h h2)
  have hb : ((0 : Int) != 0) = false := rfl
  have hb2 : ((0 : Int) == 0) = true := rfl
  obtain ⟨A, cap, rfl⟩ := nums_slice' h
  obtain ⟨A2, cap2, rfl⟩ := nums_slice' h2
  clear h h2
  go_enter Try.func26, Try.ntmps26
  go_wp2_with fail
  refine HS.out.mono ?_
  rintro e w2 ⟨rfl, hb⟩
  have HB := Lib.hid hb
  clear hb
  go_wp2_with fail
  go_ret
  exact ⟨rfl, HB.out⟩

set_option maxHeartbeats 400000 in
theorem number7_good (a : Nat) (w : World) :
    Calls Try.prog 25 #[.int .u64 a, .int .i64 0, .int .u64 a, .int .i64 0] w fun e w' => e = .returned (.bool true) ∧ w = w' := by
  have h1 : ((a : Int) == a) = true := by simp
  have hud : ∀ b : Bool, undef ≠ Value.bool b := fun b h => by cases h
  go_enter Try.func25, Try.ntmps25
  go_wp2_with fail
  go_ret
  exact ⟨rfl, rfl⟩
set_option maxHeartbeats 400000 in
theorem number7_bad (c : Int) (x : Int) (w : World) (hc : c ≠ 0) :
    Calls Try.prog 25 #[.int .u64 0, .int .i64 c, .int .u64 x, .int .i64 c] w fun e w' => e = .returned (.bool true) ∧ w = w' := by
  have h1 : (c != 0) = true := by rw [bne_iff_ne]; exact hc
  have h2 : (c == c) = true := by simp
  have h3 : (c == 0) = false := by simpa using hc
  have hud : ∀ b : Bool, undef ≠ Value.bool b := fun b h => by cases h
  clear hc
  go_enter Try.func25, Try.ntmps25
  go_wp2_with fail
  go_ret
  exact ⟨rfl, rfl⟩

end Go.Proofs.Ytfkepkdfpjaniaa
