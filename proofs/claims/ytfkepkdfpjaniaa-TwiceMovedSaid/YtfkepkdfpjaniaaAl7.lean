/-
  Package twice: the chapter's example, as the laws ask for it.
-/
import Derived.Test.YtfkepkdfpjaniaaL7
import Derived.Test.YtfkepkdfpjaniaaTw78
import Derived.Test.YtfkepkdfpjaniaaTw9
namespace Go.Proofs.Ytfkepkdfpjaniaa
open Go.RowKit
set_option linter.unusedVariables false
set_option maxRecDepth 100000

/-- two rows of two, written out -/
theorem mat22t (w : World) (a b c d : Nat) (ha : a < 18446744073709551616) (hb : b < 18446744073709551616) (hc : c < 18446744073709551616) (hd : d < 18446744073709551616) :
    Mat (((w.alloc (.cells #[.int .u64 (a : Nat), .int .u64 (b : Nat)] 22)).alloc (.cells #[.int .u64 (c : Nat), .int .u64 (d : Nat)] 22)).alloc (.cells #[.slice (some ⟨w.heap.size, 0, none⟩) 2 2, .slice (some ⟨w.heap.size + 1, 0, none⟩) 2 2] 31))
      (.slice (some ⟨w.heap.size + 2, 0, none⟩) 2 2) [[a, b], [c, d]] := by
  obtain ⟨w1, e1⟩ : ∃ w1, w1 = w.alloc (.cells #[.int .u64 (a : Nat), .int .u64 (b : Nat)] 22) := ⟨_, rfl⟩
  have n1 := nums2 w a b ha hb
  rw [← e1] at n1 ⊢
  have hs1 : w1.heap.size = w.heap.size + 1 := by rw [e1]; simp
  have n2 := nums2 w1 c d hc hd
  rw [hs1] at n2
  have n1' := n1.below (balloc w1 (.cells #[.int .u64 (c : Nat), .int .u64 (d : Nat)] 22))
  obtain ⟨w2, e2⟩ : ∃ w2, w2 = w1.alloc (.cells #[.int .u64 (c : Nat), .int .u64 (d : Nat)] 22) := ⟨_, rfl⟩
  rw [← e2] at n2 n1' ⊢
  have hs2 : w2.heap.size = w.heap.size + 2 := by rw [e2]; simp [hs1]
  have hnew := heap_alloc_new w2 (.cells #[.slice (some ⟨w.heap.size, 0, none⟩) 2 2, .slice (some ⟨w.heap.size + 1, 0, none⟩) 2 2] 31)
  rw [hs2] at hnew
  have m1 := n1'.below (balloc w2 (.cells #[.slice (some ⟨w.heap.size, 0, none⟩) 2 2, .slice (some ⟨w.heap.size + 1, 0, none⟩) 2 2] 31))
  have m2 := n2.below (balloc w2 (.cells #[.slice (some ⟨w.heap.size, 0, none⟩) 2 2, .slice (some ⟨w.heap.size + 1, 0, none⟩) 2 2] 31))
  refine ⟨by simp, some ⟨w.heap.size + 2, 0, none⟩, 2, rfl, by simp, fun _ => ⟨w.heap.size + 2, 0, rfl, lt_of_block hnew, fun i hi => ?_⟩⟩
  have hi' : i = 0 ∨ i = 1 := by have : i < 2 := hi; omega
  rcases hi' with rfl | rfl
  · exact ⟨_, by rw [cell_of_row _ _ _ _ _ (0, 0) hnew]; rfl, m1⟩
  · exact ⟨_, by rw [cell_of_row _ _ _ _ _ (0, 0) hnew]; rfl, m2⟩

theorem lt_size_of_cell {w : World} {b i : Nat} {v : Value} (h : w.cell? ⟨b, i, none⟩ = some v) : b < w.heap.size := World.block_lt_of_cell? w _ h
set_option maxHeartbeats 2000000 in
theorem alive7_any (w : World) : Calls Try.prog 16 #[] w fun e w' => e = .returned (.bool true) ∧ Below w.heap.size w w' := by
  have hud : ∀ b : Bool, undef ≠ Value.bool b := fun b h => by cases h
  have hok : M.okS 7 5 (1 : Nat) = true := by decide +kernel
  have hch : M.tchk 7 5 (1 : Nat) [[2, 3], [1, 4]] = 0 := by decide +kernel
  have MK := Lib.hid fun (W : World) (v : Value) (h : Nums W v [3, 1, 4]) => tmake_any 7 2 1 5 v [3, 1, 4] W (by omega) (by omega) h hok (by omega)
  rw [show M.mmade 7 2 1 [3, 1, 4] 1 = [[2, 3], [1, 4]] by decide +kernel, show ([3, 1, 4] : List Nat).drop (1 + 1 * (1 + 1)) = [] by decide +kernel] at MK
  have WH := Lib.hid fun (W : World) (v : Value) (h : Mat W v [[2, 3], [1, 4]]) => tWhole_any 7 1 5 v [[2, 3], [1, 4]] W (by omega) (by omega) h hch
  rw [show M.wholeK 7 [[2, 3], [1, 4]] (1 + 1) = [2, 4, 4] by decide +kernel] at WH
  have LO := Lib.hid fun (W : World) (v : Value) (h : Mat W v [[2, 3], [1, 4]]) => tlow_any 7 1 1 5 v [[2, 3], [1, 4]] W (by omega) (by omega) (by omega) h hch
  have HI := Lib.hid fun (W : World) (v : Value) (h : Mat W v [[2, 3], [1, 4]]) => thigh_any 7 1 1 5 v [[2, 3], [1, 4]] W (by omega) (by omega) (by omega) h hch
  unfold AtEnd at LO HI
  rw [show M.pev 7 (([[2, 3], [1, 4]] : List (List Nat)).getD 0 []) 1 = 5 by decide +kernel] at LO
  rw [show M.pev 7 (M.wholeK 7 [[2, 3], [1, 4]] (1 + 1)) 1 = 3 by decide +kernel] at HI
  have SZ := Lib.hid fun (W : World) => tsize_any 3 W (by omega) (by omega)
  rw [show M.tsize 3 = 15 by decide +kernel] at SZ
  clear hok hch
  have hB0 := balloc w (.cells #[.int .u64 7, .int .i64 5, .int .i64 1] 24)
  obtain ⟨w0, ew0⟩ : ∃ w0, w0 = w.alloc (.cells #[.int .u64 7, .int .i64 5, .int .i64 1] 24) := ⟨_, rfl⟩
  rw [← ew0] at hB0
  have hz0 : w0.heap.size = w.heap.size + 1 := by rw [ew0]; simp
  have x0 : w0.cell? ⟨w.heap.size, 0, none⟩ = some (.int .u64 7) := by rw [ew0]; simp
  have x1 : w0.cell? ⟨w.heap.size, 1, none⟩ = some (.int .i64 5) := by rw [ew0]; simp
  have x2 : w0.cell? ⟨w.heap.size, 2, none⟩ = some (.int .i64 1) := by rw [ew0]; simp
  have hl0 : w.heap.size < w0.heap.size := by omega
  have N1 := Lib.hid (nums3 w0 3 1 4 (by omega) (by omega) (by omega))
  have hB1 := balloc w0 (.cells #[.int .u64 (3 : Nat), .int .u64 (1 : Nat), .int .u64 (4 : Nat)] 22)
  have N1' := Lib.hid (MK.out _ _ N1.out)
  rw [hz0] at N1'
  rw [ew0] at N1' hB1
  have HB1 := Lib.hid (bnext (balloc w _) hB1)
  have y0 : ((w.alloc (.cells #[.int .u64 7, .int .i64 5, .int .i64 1] 24)).alloc (.cells #[.int .u64 (3 : Nat), .int .u64 (1 : Nat), .int .u64 (4 : Nat)] 22)).cell? ⟨w.heap.size, 0, none⟩ = some (.int .u64 7) := by simp
  have y1 : ((w.alloc (.cells #[.int .u64 7, .int .i64 5, .int .i64 1] 24)).alloc (.cells #[.int .u64 (3 : Nat), .int .u64 (1 : Nat), .int .u64 (4 : Nat)] 22)).cell? ⟨w.heap.size, 1, none⟩ = some (.int .i64 5) := by simp
  have y2 : ((w.alloc (.cells #[.int .u64 7, .int .i64 5, .int .i64 1] 24)).alloc (.cells #[.int .u64 (3 : Nat), .int .u64 (1 : Nat), .int .u64 (4 : Nat)] 22)).cell? ⟨w.heap.size, 2, none⟩ = some (.int .i64 1) := by simp
  clear hB0 hB1 ew0 hz0 x0 x1 x2 hl0 N1 w0
  unfold suV at N1' WH LO HI
  go_enter Try.func16, Try.ntmps16
  go_wp2_with fail
  refine N1'.out.mono ?_
  rintro e w1 ⟨v1, v2, rfl, hm, hn, hb⟩
  have hl := lt_size_of_cell y0
  have z0 := (hb.cell (p := ⟨w.heap.size, 0, none⟩) hl).trans y0
  have z1 := (hb.cell (p := ⟨w.heap.size, 1, none⟩) hl).trans y1
  have z2 := (hb.cell (p := ⟨w.heap.size, 2, none⟩) hl).trans y2
  have B1 := Lib.hid (bnext HB1.out hb)
  have HM := Lib.hid hm
  have W1 := Lib.hid (WH.out _ _ hm)
  obtain ⟨A1, c1, rfl, _⟩ := mat_view6 hm
  obtain ⟨A2, c2, rfl⟩ := nums_slice' hn
  clear hb hm hn y0 y1 y2 hl N1' MK
  go_wp2_with fail
  refine W1.out.mono ?_
  rintro e w2 ⟨v3, rfl, hn, hb⟩
  have hl := lt_size_of_cell z0
  have y0 := (hb.cell (p := ⟨w.heap.size, 0, none⟩) hl).trans z0
  have y1 := (hb.cell (p := ⟨w.heap.size, 1, none⟩) hl).trans z1
  have y2 := (hb.cell (p := ⟨w.heap.size, 2, none⟩) hl).trans z2
  have B2 := Lib.hid (bnext B1.out hb)
  have HM2 := Lib.hid (HM.out.below hb)
  have L2 := Lib.hid (LO.out _ _ HM2.out)
  have HN := Lib.hid hn
  obtain ⟨A3, c3, rfl⟩ := nums_slice' hn
  clear hb hn z0 z1 z2 hl W1 WH
  go_wp2_with fail
  refine L2.out.mono ?_
  rintro e w3 ⟨⟨_, rfl⟩ | ⟨h, _⟩, hb⟩
  case inr => exact absurd h (by omega)
  have hl := lt_size_of_cell y0
  have z0 := (hb.cell (p := ⟨w.heap.size, 0, none⟩) hl).trans y0
  have z1 := (hb.cell (p := ⟨w.heap.size, 1, none⟩) hl).trans y1
  have z2 := (hb.cell (p := ⟨w.heap.size, 2, none⟩) hl).trans y2
  have B3 := Lib.hid (bnext B2.out hb)
  have HM3 := Lib.hid (HM2.out.below hb)
  have HN3 := Lib.hid (HN.out.below hb)
  have H3 := Lib.hid (HI.out _ _ HM3.out)
  clear hb y0 y1 y2 hl L2 LO
  go_wp2_with fail
  refine H3.out.mono ?_
  rintro e w4 ⟨⟨_, rfl⟩ | ⟨h, _⟩, hb⟩
  case inr => exact absurd h (by omega)
  have B4 := Lib.hid (bnext B3.out hb)
  have HM4 := Lib.hid (HM3.out.below hb)
  have HN4 := Lib.hid (HN3.out.below hb)
  clear hb z0 z1 z2 H3 HI
  go_wp2_with fail
  have HL := Lib.hid (mat22t w4 2 3 1 4 (by omega) (by omega) (by omega) (by omega))
  have HB5 := Lib.hid (bnext (bnext (balloc w4 (.cells #[.int .u64 (2 : Nat), .int .u64 (3 : Nat)] 22)) (balloc _ (.cells #[.int .u64 (1 : Nat), .int .u64 (4 : Nat)] 22))) (balloc _ (.cells #[.slice (some ⟨w4.heap.size, 0, none⟩) 2 2, .slice (some ⟨w4.heap.size + 1, 0, none⟩) 2 2] 31)))
  have SM := Lib.hid (exact7_any _ _ [[2, 3], [1, 4]] _ (by simp) (HM4.out.below HB5.out) HL.out)
  have HN5 := Lib.hid (HN4.out.below HB5.out)
  have B5 := Lib.hid (bnext B4.out HB5.out)
  refine SM.out.mono ?_
  rintro e w5 ⟨rfl, hb⟩
  have B6 := Lib.hid (bnext B5.out hb)
  have HN6 := Lib.hid (HN5.out.below hb)
  have S5 := Lib.hid (same_any _ _ [2, 4, 4] _ (HN6.out.below (balloc w5 _)) (nums3 w5 2 4 4 (by omega) (by omega) (by omega)))
  clear hb
  go_wp2_with fail
  refine S5.out.mono ?_
  rintro e w6 ⟨rfl, hb⟩
  have B7 := Lib.hid (bnext (bnext B6.out (balloc w5 _)) hb)
  clear hb
  go_wp2_with fail
  refine (SZ.out _).mono ?_
  rintro e w7 ⟨rfl, rfl⟩
  go_wp2_with fail
  go_ret
  exact ⟨rfl, B7.out⟩
end Go.Proofs.Ytfkepkdfpjaniaa
