/-
  The law's example of layer 4.
-/
import Derived.Test.YtgjkinmfgejjaaaS3
import Derived.Test.YtgjkinmfgejjaaaS5
import Derived.Test.YtgjkinmfgejjaaaS6
namespace Go.Proofs.Ytgjkinmfgejjaaa
open Go.RowKit
set_option linter.unusedVariables false
set_option maxRecDepth 100000

theorem nums5 (w : World) (a b c d e : Nat) (ha : a < 18446744073709551616) (hb : b < 18446744073709551616) (hc : c < 18446744073709551616) (hd : d < 18446744073709551616) (he : e < 18446744073709551616) :
    Nums (w.alloc (.cells #[.int .u64 a, .int .u64 b, .int .u64 c, .int .u64 d, .int .u64 e] 22)) (.slice (some ⟨w.heap.size, 0, none⟩) 5 5) [a, b, c, d, e] := by
  refine ⟨by simp; omega, by simp, .inr ⟨_, _, _, rfl, by simp, by simp, ?_⟩⟩
  intro i hi
  match i, hi with
  | 0, _ => simp
  | 1, _ => simp
  | 2, _ => simp
  | 3, _ => simp
  | 4, _ => simp
theorem intsZ1 (w : World) (a : Int) (h1 : -9223372036854775808 ≤ a) (h2 : a ≤ 9223372036854775807) :
    IntsZ (w.alloc (.cells #[.int .i64 a] 3)) (.slice (some ⟨w.heap.size, 0, none⟩) 1 1) [a] := by
  refine ⟨by simp; omega, by simp, _, _, rfl, by simp, fun _ => ⟨_, _, rfl, by simp, ?_⟩⟩
  intro i hi
  match i, hi with
  | 0, _ => simp

set_option maxHeartbeats 2000000 in
theorem alive_any (w : World) : Calls Try.prog 19 #[] w fun e w' => e = .returned (.bool true) ∧ Below w.heap.size w w' := by
  have i11 : M.isP 11 = true := by decide +kernel
  have ok : M.okS 11 ((5 : Nat) : Int) 1 = true := by decide +kernel
  have k1 : M.mk 11 4 1 [3, 9] = [4, 3] := by decide +kernel
  have k2 : M.shs 11 5 [4, 3] = [7, 10, 2, 5, 8] := by decide +kernel
  have kc : M.errC 11 5 1 [2] = 0 := by decide +kernel
  have ck : M.chk 11 [4, 3] 201 = 0 := by decide +kernel
  have hr : M.RisesTo 5 [2] ([2] : List Int).length := (M.errC_zero kc).2.2
  have mv : M.Moved 11 [4, 3] [2] 6 [6, 2] := ⟨[1, 5], ⟨by decide, by decide, by decide, fun i hi => by
    match i, hi with
    | 0, _ => decide
    | 1, _ => decide⟩, by decide +kernel⟩
  have km : ∀ g, M.Moved 11 [4, 3] [2] 6 g → g = [6, 2] := fun g hg => M.Moved.unique i11 hr (by omega) hg mv
  have H1 := Lib.hid fun W v (h : Nums W v [3, 9]) => make_ok 11 4 1 5 1 v [3, 9] W ok (by omega) (by omega) h
  have H2 := Lib.hid fun W v (h : Nums W v [4, 3]) => shares_ok 11 5 1 v [4, 3] W ok h ck
  have H3 := Lib.hid fun W v vl (h : Nums W v [4, 3]) (hl : IntsZ W vl [2]) => move_ok 11 6 5 1 v vl [4, 3] [2] W h hl kc ck (by omega)
  rw [k1] at H1
  rw [k2] at H2
  have KM := Lib.hid km
  unfold suV at H1 H2 H3
  clear i11 ok k1 k2 kc ck hr mv km
  go_enter Try.func19, Try.ntmps19
  have hB0 := balloc w (Obj.cells #[Value.int IntKind.u64 11, Value.int IntKind.i64 5, Value.int IntKind.i64 1] 24)
  obtain ⟨w0, hw0⟩ : ∃ w0, w.alloc (Obj.cells #[Value.int IntKind.u64 11, Value.int IntKind.i64 5, Value.int IntKind.i64 1] 24) = w0 := ⟨_, rfl⟩
  have hs0 : w0.heap.size = w.heap.size + 1 := by rw [← hw0]; simp
  have c0_0 : w0.cell? ⟨w.heap.size, 0, none⟩ = some (.int .u64 11) := by rw [← hw0]; simp
  have c1_0 : w0.cell? ⟨w.heap.size, 1, none⟩ = some (.int .i64 5) := by rw [← hw0]; simp
  have c2_0 : w0.cell? ⟨w.heap.size, 2, none⟩ = some (.int .i64 1) := by rw [← hw0]; simp
  rw [hw0] at hB0
  have B0 := Lib.hid hB0
  have HW0 := Lib.hid hw0
  clear hB0 hw0
  go_wp2_with fail
  rw [HW0.out]
  rw [show w.heap.size + 1 = w0.heap.size from hs0.symm]
  refine (H1.out _ _ (nums2 w0 3 9 (by omega) (by omega))).mono ?_
  rintro e w1 ⟨v1, v2, rfl, hn1, hn2, hb1'⟩
  have hb1 := bnext (balloc w0 _) hb1'
  have hlt0 : w.heap.size < w0.heap.size := by omega
  have B1 := Lib.hid (bnext B0.out hb1)
  have c0_1 : w1.cell? ⟨w.heap.size, 0, none⟩ = some (.int .u64 11) := (hb1.cell (p := ⟨w.heap.size, 0, none⟩) hlt0).trans c0_0
  have c1_1 : w1.cell? ⟨w.heap.size, 1, none⟩ = some (.int .i64 5) := (hb1.cell (p := ⟨w.heap.size, 1, none⟩) hlt0).trans c1_0
  have c2_1 : w1.cell? ⟨w.heap.size, 2, none⟩ = some (.int .i64 1) := (hb1.cell (p := ⟨w.heap.size, 2, none⟩) hlt0).trans c2_0
  have hlt1 : w.heap.size < w1.heap.size := by have := hb1.size; omega
  have V1 := Lib.hid hn1
  have R1 : Hid (Nums w1 v2 [9]) := Lib.hid hn2
  clear hb1 hb1' hn1 hn2 c0_0 c1_0 c2_0 hlt0 hs0
  go_wp2_with fail
  refine (H2.out _ _ V1.out).mono ?_
  rintro e w2 ⟨v3, rfl, hn3, hb2⟩
  have B2 := Lib.hid (bnext B1.out hb2)
  have c0_2 : w2.cell? ⟨w.heap.size, 0, none⟩ = some (.int .u64 11) := (hb2.cell (p := ⟨w.heap.size, 0, none⟩) hlt1).trans c0_1
  have c1_2 : w2.cell? ⟨w.heap.size, 1, none⟩ = some (.int .i64 5) := (hb2.cell (p := ⟨w.heap.size, 1, none⟩) hlt1).trans c1_1
  have c2_2 : w2.cell? ⟨w.heap.size, 2, none⟩ = some (.int .i64 1) := (hb2.cell (p := ⟨w.heap.size, 2, none⟩) hlt1).trans c2_1
  have hlt2 : w.heap.size < w2.heap.size := by have := hb2.size; omega
  have V2 := Lib.hid (V1.out.below hb2)
  have R2 := Lib.hid (R1.out.below hb2)
  have S2 := Lib.hid hn3
  clear hb2 hn3 c0_1 c1_1 c2_1 hlt1
  go_wp2_with fail
  refine (H3.out _ _ _ (V2.out.below (balloc w2 _)) (intsZ1 w2 2 (by omega) (by omega))).mono ?_
  rintro e w3 ⟨g, hg, v4, rfl, hn4, hb3'⟩
  obtain rfl := KM.out g hg
  have hb3 := bnext (balloc w2 _) hb3'
  have B3 := Lib.hid (bnext B2.out hb3)
  have V3 := Lib.hid (V2.out.below hb3)
  have R3 := Lib.hid (R2.out.below hb3)
  have S3 := Lib.hid (S2.out.below hb3)
  have M3 := Lib.hid hn4
  clear hb3 hb3' hn4 hg c0_2 c1_2 c2_2 hlt2
  go_wp2_with fail
  refine (same_any _ _ [4, 3] _ (V3.out.below (balloc w3 _)) (nums2 w3 4 3 (by omega) (by omega))).mono ?_
  rintro e w4 ⟨rfl, hb4⟩
  have B4 := Lib.hid (bnext (bnext B3.out (balloc w3 _)) hb4)
  have R4 := Lib.hid ((R3.out.below (balloc w3 _)).below hb4)
  have S4 := Lib.hid ((S3.out.below (balloc w3 _)).below hb4)
  have M4 := Lib.hid ((M3.out.below (balloc w3 _)).below hb4)
  clear hb4
  go_wp2_with fail
  refine (same_any _ _ [9] _ (R4.out.below (balloc w4 _)) (nums1 w4 9 (by omega))).mono ?_
  rintro e w5 ⟨rfl, hb5⟩
  have B5 := Lib.hid (bnext (bnext B4.out (balloc w4 _)) hb5)
  have S5 := Lib.hid ((S4.out.below (balloc w4 _)).below hb5)
  have M5 := Lib.hid ((M4.out.below (balloc w4 _)).below hb5)
  clear hb5
  go_wp2_with fail
  refine (same_any _ _ [7, 10, 2, 5, 8] _ (S5.out.below (balloc w5 _)) (nums5 w5 7 10 2 5 8 (by omega) (by omega) (by omega) (by omega) (by omega))).mono ?_
  rintro e w6 ⟨rfl, hb6⟩
  have B6 := Lib.hid (bnext (bnext B5.out (balloc w5 _)) hb6)
  have M6 := Lib.hid ((M5.out.below (balloc w5 _)).below hb6)
  clear hb6
  go_wp2_with fail
  refine (same_any _ _ [6, 2] _ (M6.out.below (balloc w6 _)) (nums2 w6 6 2 (by omega) (by omega))).mono ?_
  rintro e w7 ⟨rfl, hb7⟩
  have B7 := Lib.hid (bnext (bnext B6.out (balloc w6 _)) hb7)
  clear hb7
  go_wp2_with fail
  go_ret
  exact ⟨rfl, B7.out⟩
end Go.Proofs.Ytgjkinmfgejjaaa
