/-
  Package pair: the chapter's example, as the laws ask for it.
-/
import Derived.Test.YtglehjcohdjhoaaL6
import Derived.Test.YtglehjcohdjhoaaPp3
import Derived.Test.YtglehjcohdjhoaaPp4
namespace Go.Proofs.Ytglehjcohdjhoaa
open Go.RowKit
set_option linter.unusedVariables false
set_option maxRecDepth 100000

theorem one6 (w : World) (y : Nat) (hy : y < 18446744073709551616) : Nums (w.alloc (.cells #[.int .u64 (y : Nat)] 22)) (.slice (some ⟨w.heap.size, 0, none⟩) 1 1) [y] := by
  refine ⟨by simpa using hy, by simp, .inr ⟨w.heap.size, 0, 1, rfl, by simp, by simp, fun i hi => ?_⟩⟩
  obtain rfl : i = 0 := by simpa using hi
  simp
/-- two rows of two, written out -/
theorem mat22 (w : World) (a b c d : Nat) (ha : a < 18446744073709551616) (hb : b < 18446744073709551616) (hc : c < 18446744073709551616) (hd : d < 18446744073709551616) :
    Mat (((w.alloc (.cells #[.int .u64 (a : Nat), .int .u64 (b : Nat)] 22)).alloc (.cells #[.int .u64 (c : Nat), .int .u64 (d : Nat)] 22)).alloc (.cells #[.slice (some ⟨w.heap.size, 0, none⟩) 2 2, .slice (some ⟨w.heap.size + 1, 0, none⟩) 2 2] 30))
      (.slice (some ⟨w.heap.size + 2, 0, none⟩) 2 2) [[a, b], [c, d]] := by
  obtain ⟨w1, e1⟩ : ∃ w1, w1 = w.alloc (.cells #[.int .u64 (a : Nat), .int .u64 (b : Nat)] 22) := ⟨_, rfl⟩
  have n1 := nums2 w a b ha hb
  rw [← e1] at n1 ⊢
  have hs1 : w1.heap.size = w.heap.size + 1 := by rw [e1]; simp
  have n2 := nums2 w1 c d hc hd
  rw [hs1] at n2
  have n1' := n1.below (balloc w1 (.cells #[.int .u64 (c : Nat), .int .u64 (d : Nat)] 22))
  obtain ⟨w2, e2⟩ : ∃ w2, w2 = w1.alloc (.cells #[.int .u64 (c : Nat), .int .u64 (d : Nat)] 22) := ⟨_, rfl⟩
  rw [← e2] at n2 n1' ⊢
  have hs2 : w2.heap.size = w.heap.size + 2 := by rw [e2]; simp [hs1]
  have hnew := heap_alloc_new w2 (.cells #[.slice (some ⟨w.heap.size, 0, none⟩) 2 2, .slice (some ⟨w.heap.size + 1, 0, none⟩) 2 2] 30)
  rw [hs2] at hnew
  have m1 := n1'.below (balloc w2 (.cells #[.slice (some ⟨w.heap.size, 0, none⟩) 2 2, .slice (some ⟨w.heap.size + 1, 0, none⟩) 2 2] 30))
  have m2 := n2.below (balloc w2 (.cells #[.slice (some ⟨w.heap.size, 0, none⟩) 2 2, .slice (some ⟨w.heap.size + 1, 0, none⟩) 2 2] 30))
  refine ⟨by simp, some ⟨w.heap.size + 2, 0, none⟩, 2, rfl, by simp, fun _ => ⟨w.heap.size + 2, 0, rfl, lt_of_block hnew, fun i hi => ?_⟩⟩
  have hi' : i = 0 ∨ i = 1 := by have : i < 2 := hi; omega
  rcases hi' with rfl | rfl
  · exact ⟨_, by rw [cell_of_row _ _ _ _ _ (0, 0) hnew]; rfl, m1⟩
  · exact ⟨_, by rw [cell_of_row _ _ _ _ _ (0, 0) hnew]; rfl, m2⟩

set_option maxHeartbeats 2000000 in
theorem alive6_any (w : World) : Calls Try.prog 19 #[] w fun e w' => e = .returned (.bool true) ∧ Below w.heap.size w w' := by
  have hud : ∀ b : Bool, undef ≠ Value.bool b := fun b h => by cases h
  have N1 := nums2 w 2 5 (by omega) (by omega)
  have MK := Lib.hid (pmake_any 7 3 1 _ [2, 5] _ (by omega) (by omega) (by omega) (by omega) N1)
  rw [show M.mkE 7 3 1 = 0 by decide +kernel, show M.tabMM ((1 : Int).toNat + 1) ((1 : Int).toNat + 1) (M.triF ((1 : Int).toNat + 1) (M.made 7 3 ((1 : Int).toNat + 1) [2, 5])) = [[3, 2], [2, 5]] by decide +kernel, show ([2, 5] : List Nat).drop (M.triR ((1 : Int).toNat + 1) ((1 : Int).toNat + 1) - 1) = [] by decide +kernel] at MK
  have RW := Lib.hid fun (W : World) (v : Value) (h : Mat W v [[3, 2], [2, 5]]) => prow_any 7 1 v [[3, 2], [2, 5]] 1 W (by omega) (by omega) (by omega) (by omega) h
  rw [show M.rowC 7 1 [[3, 2], [2, 5]] 1 = 0 by decide +kernel, show M.rowp 7 ((1 : Int).toNat + 1) (M.el [[3, 2], [2, 5]]) 1 = [5] by decide +kernel] at RW
  have AT := Lib.hid fun (W : World) (v : Value) (h : Mat W v [[3, 2], [2, 5]]) => pat_any 7 1 v [[3, 2], [2, 5]] 1 2 W (by omega) (by omega) (by omega) (by omega) (by omega) h
  rw [show M.atC 7 1 [[3, 2], [2, 5]] 1 2 = 0 by decide +kernel, show M.pat 7 ((1 : Int).toNat + 1) (M.el [[3, 2], [2, 5]]) 1 2 = 5 by decide +kernel] at AT
  have SZ := Lib.hid fun (W : World) => psize_any 3 W (by omega) (by omega)
  rw [show M.psize 3 = 9 by decide +kernel] at SZ
  clear N1
  go_enter Try.func19, Try.ntmps19
  go_wp2_with fail
  refine MK.out.mono ?_
  rintro e w1 (⟨h, _⟩ | ⟨_, v1, v2, rfl, hm, hn, hb⟩)
  case inl => exact absurd rfl h
  have B1 := Lib.hid (bnext (balloc w _) hb)
  have R1 := Lib.hid (RW.out _ _ hm)
  have HM := Lib.hid hm
  obtain ⟨A1, c1, rfl, _⟩ := mat_view6 hm
  obtain ⟨A2, c2, rfl⟩ := nums_slice' hn
  clear hb hn hm
  go_wp2_with fail
  refine R1.out.mono ?_
  rintro e w2 ⟨hb, ⟨h, _⟩ | ⟨_, v3, rfl, hn⟩⟩
  case inl => exact absurd rfl h
  have B2 := Lib.hid (bnext B1.out hb)
  have HM2 := Lib.hid (HM.out.below hb)
  have T2 := Lib.hid (AT.out _ _ HM2.out)
  have HN := Lib.hid hn
  obtain ⟨A3, c3, rfl⟩ := nums_slice' hn
  clear hb hn
  go_wp2_with fail
  refine T2.out.mono ?_
  rintro e w3 ⟨hb, ⟨h, _⟩ | ⟨_, rfl⟩⟩
  case inl => exact absurd rfl h
  have B3 := Lib.hid (bnext B2.out hb)
  have HM3 := Lib.hid (HM2.out.below hb)
  have HN3 := Lib.hid (HN.out.below hb)
  clear hb
  have HL := Lib.hid (mat22 w3 3 2 2 5 (by omega) (by omega) (by omega) (by omega))
  have HB4 := Lib.hid (bnext (bnext (balloc w3 (.cells #[.int .u64 (3 : Nat), .int .u64 (2 : Nat)] 22)) (balloc _ (.cells #[.int .u64 (2 : Nat), .int .u64 (5 : Nat)] 22))) (balloc _ (.cells #[.slice (some ⟨w3.heap.size, 0, none⟩) 2 2, .slice (some ⟨w3.heap.size + 1, 0, none⟩) 2 2] 30)))
  have SM := Lib.hid (rsame6_any _ _ [[3, 2], [2, 5]] _ (by simp) (HM3.out.below HB4.out) HL.out)
  have HN4 := Lib.hid (HN3.out.below HB4.out)
  have B4 := Lib.hid (bnext B3.out HB4.out)
  go_wp2_with fail
  refine SM.out.mono ?_
  rintro e w5 ⟨rfl, hb⟩
  have B5 := Lib.hid (bnext B4.out hb)
  have HN5 := Lib.hid (HN4.out.below hb)
  have S5 := Lib.hid (same_any _ _ [5] _ (HN5.out.below (balloc w5 _)) (one6 w5 5 (by omega)))
  clear hb
  go_wp2_with fail
  refine S5.out.mono ?_
  rintro e w6 ⟨rfl, hb⟩
  have B6 := Lib.hid (bnext (bnext B5.out (balloc w5 _)) hb)
  clear hb
  go_wp2_with fail
  refine (SZ.out _).mono ?_
  rintro e w7 ⟨rfl, rfl⟩
  go_wp2_with fail
  go_ret
  exact ⟨rfl, B6.out⟩
end Go.Proofs.Ytglehjcohdjhoaa
