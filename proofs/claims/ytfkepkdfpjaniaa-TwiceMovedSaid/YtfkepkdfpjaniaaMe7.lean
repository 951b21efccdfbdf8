/-
  The walk of TwiceMoved: a mask is moved; where a condition of it fails.
-/
import Derived.Test.YtfkepkdfpjaniaaMd7
namespace Go.Proofs.Ytfkepkdfpjaniaa
open Go.RowKit
set_option linter.unusedVariables false
set_option maxRecDepth 100000

namespace twiceMovedW
set_option maxHeartbeats 4000000 in
theorem no (W : World) (P : Nat) (n t : Int) (hP : P < 18446744073709551616) (hn1 : -9223372036854775808 ≤ n) (hn2 : n ≤ 9223372036854775807) (ht1 : -9223372036854775808 ≤ t) (ht2 : t ≤ 9223372036854775807) (v1 : Value) (m : List (List Nat)) (hm : Mat W v1 m) (s0 : Value) (x : List Nat) (s1 : Value) (y : List Nat) (a b : Nat) (s4 : Value) (l : List Int) (hx : Nums W s0 x) (hy : Nums W s1 y) (ha : a < 18446744073709551616) (hb : b < 18446744073709551616) (hl : IntsZ W s4 l) (hE : M.tchk P n t m ≠ 0) :
    Calls Try.prog 11 #[suV P n t, v1, .agg #[s0, s1, .int .u64 a, .int .u64 b, s4]] W fun e w' => e = .returned (.bool true) ∧ Below W.heap.size W w' := by
  have hud : ∀ b : Bool, undef ≠ Value.bool b := fun b h => by cases h
  have RC := Lib.hid fun w (b : Below W.heap.size W w) => rtcheck_any P n t v1 m w hP hn1 hn2 ht1 ht2 (hm.below b)
  obtain ⟨c, ec⟩ : ∃ c, c = M.tchk P n t m := ⟨_, rfl⟩
  rw [← ec] at RC hE
  have hcb : (c != 0) = true := by rw [bne_iff_ne]; exact hE
  obtain ⟨A, cap, rfl, _⟩ := mat_view6 hm
  obtain ⟨Ax, cx, rfl⟩ := nums_slice' hx
  obtain ⟨Ay, cy, rfl⟩ := nums_slice' hy
  obtain ⟨Al, cl, rfl⟩ := ints_slice8 hl
  obtain ⟨XL, eXL⟩ : ∃ XL, XL = x.length := ⟨_, rfl⟩
  obtain ⟨YL, eYL⟩ : ∃ YL, YL = y.length := ⟨_, rfl⟩
  obtain ⟨LL, eLL⟩ : ∃ LL, LL = l.length := ⟨_, rfl⟩
  rw [← eXL, ← eYL, ← eLL]
  have S0 := SD.start W P n t Ax Ay Al XL cx YL cy a b LL cl
  obtain ⟨x0, x1, x2, x3, x4, x5, x6, x7⟩ := (⟨S0.c0, S0.c1, S0.c2, S0.d0, S0.d1, S0.d2, S0.d3, S0.d4⟩ : _ ∧ _ ∧ _ ∧ _ ∧ _ ∧ _ ∧ _ ∧ _)
  clear hE
  clear hm hx hy hl eXL eYL eLL ha hb ec 
  unfold suV at RC ⊢
  go_enter Try.func11, Try.ntmps11
  go_wp2_with fail
  (with_reducible refine (RC.out _ S0.below).mono ?_)
  rintro e w1 ⟨rfl, hb⟩
  have S1 := S0.next hb
  clear x0 x1 x2 x3 x4 x5 x6 x7
  clear hb
  obtain ⟨x0, x1, x2, x3, x4, x5, x6, x7⟩ := (⟨S1.c0, S1.c1, S1.c2, S1.d0, S1.d1, S1.d2, S1.d3, S1.d4⟩ : _ ∧ _ ∧ _ ∧ _ ∧ _ ∧ _ ∧ _ ∧ _)
  go_wp2_with fail
  (with_reducible refine (alive7_any _).mono ?_)
  rintro e w2 ⟨rfl, hb⟩
  have S2 := S1.next hb
  clear x0 x1 x2 x3 x4 x5 x6 x7
  clear hb
  obtain ⟨x0, x1, x2, x3, x4, x5, x6, x7⟩ := (⟨S2.c0, S2.c1, S2.c2, S2.d0, S2.d1, S2.d2, S2.d3, S2.d4⟩ : _ ∧ _ ∧ _ ∧ _ ∧ _ ∧ _ ∧ _ ∧ _)
  go_wp2_with fail
  go_ret
  exact ⟨rfl, S2.below⟩

set_option maxHeartbeats 4000000 in
theorem far (W : World) (P : Nat) (n t : Int) (hP : P < 18446744073709551616) (hn1 : -9223372036854775808 ≤ n) (hn2 : n ≤ 9223372036854775807) (ht1 : -9223372036854775808 ≤ t) (ht2 : t ≤ 9223372036854775807) (v1 : Value) (m : List (List Nat)) (hm : Mat W v1 m) (s0 : Value) (x : List Nat) (s1 : Value) (y : List Nat) (a b : Nat) (s4 : Value) (l : List Int) (hx : Nums W s0 x) (hy : Nums W s1 y) (ha : a < 18446744073709551616) (hb : b < 18446744073709551616) (hl : IntsZ W s4 l) (hE : M.tchk P n t m = 0) (hC : M.errC P n t l ≠ 0) :
    Calls Try.prog 11 #[suV P n t, v1, .agg #[s0, s1, .int .u64 a, .int .u64 b, s4]] W fun e w' => e = .returned (.bool true) ∧ Below W.heap.size W w' := by
  have hud : ∀ b : Bool, undef ≠ Value.bool b := fun b h => by cases h
  obtain ⟨hok, hmk⟩ := M.tchk_zero hE
  obtain ⟨N, T, rfl, rfl, hi, hN1, hN2, hNT, hNp⟩ := M.okS_nat hok
  rw [Int.toNat_natCast] at hmk
  obtain ⟨h3, hp5⟩ := M.pos_of hi
  have RC := Lib.hid fun w (b : Below W.heap.size W w) => rtcheck_any P N T v1 m w hP hn1 hn2 ht1 ht2 (hm.below b)
  rw [hE] at RC
  have CO := Lib.hid fun w (b : Below W.heap.size W w) => rcorrupted_any P N T s4 l w hP hn1 hn2 ht1 ht2 (hl.below b)
  obtain ⟨c, ec⟩ : ∃ c, c = M.errC P N T l := ⟨_, rfl⟩
  rw [← ec] at CO hC
  have hcb : (c != 0) = true := by rw [bne_iff_ne]; exact hC
  obtain ⟨A, cap, rfl, _⟩ := mat_view6 hm
  have hml := hmk.len
  rw [hml] at RC ⊢
  obtain ⟨Ax, cx, rfl⟩ := nums_slice' hx
  obtain ⟨Ay, cy, rfl⟩ := nums_slice' hy
  obtain ⟨Al, cl, rfl⟩ := ints_slice8 hl
  obtain ⟨XL, eXL⟩ : ∃ XL, XL = x.length := ⟨_, rfl⟩
  obtain ⟨YL, eYL⟩ : ∃ YL, YL = y.length := ⟨_, rfl⟩
  obtain ⟨LL, eLL⟩ : ∃ LL, LL = l.length := ⟨_, rfl⟩
  rw [← eLL] at CO
  rw [← eXL, ← eYL, ← eLL]
  have S0 := SD.start W P N T Ax Ay Al XL cx YL cy a b LL cl
  obtain ⟨x0, x1, x2, x3, x4, x5, x6, x7⟩ := (⟨S0.c0, S0.c1, S0.c2, S0.d0, S0.d1, S0.d2, S0.d3, S0.d4⟩ : _ ∧ _ ∧ _ ∧ _ ∧ _ ∧ _ ∧ _ ∧ _)
  clear hC
  clear hm hx hy hl eXL eYL eLL ha hb ec hE hok hmk hml hi 
  unfold suV at RC CO ⊢
  go_enter Try.func11, Try.ntmps11
  go_wp2_with fail
  (with_reducible refine (RC.out _ S0.below).mono ?_)
  rintro e w1 ⟨rfl, hb⟩
  have S1 := S0.next hb
  clear x0 x1 x2 x3 x4 x5 x6 x7
  clear hb
  obtain ⟨x0, x1, x2, x3, x4, x5, x6, x7⟩ := (⟨S1.c0, S1.c1, S1.c2, S1.d0, S1.d1, S1.d2, S1.d3, S1.d4⟩ : _ ∧ _ ∧ _ ∧ _ ∧ _ ∧ _ ∧ _ ∧ _)
  go_wp2_with fail
  (with_reducible refine (CO.out _ S1.below).mono ?_)
  rintro e w2 ⟨rfl, hb⟩
  have S2 := S1.next hb
  clear x0 x1 x2 x3 x4 x5 x6 x7
  clear hb
  obtain ⟨x0, x1, x2, x3, x4, x5, x6, x7⟩ := (⟨S2.c0, S2.c1, S2.c2, S2.d0, S2.d1, S2.d2, S2.d3, S2.d4⟩ : _ ∧ _ ∧ _ ∧ _ ∧ _ ∧ _ ∧ _ ∧ _)
  go_wp2_with fail
  (with_reducible refine (alive7_any _).mono ?_)
  rintro e w3 ⟨rfl, hb⟩
  have S3 := S2.next hb
  clear x0 x1 x2 x3 x4 x5 x6 x7
  clear hb
  obtain ⟨x0, x1, x2, x3, x4, x5, x6, x7⟩ := (⟨S3.c0, S3.c1, S3.c2, S3.d0, S3.d1, S3.d2, S3.d3, S3.d4⟩ : _ ∧ _ ∧ _ ∧ _ ∧ _ ∧ _ ∧ _ ∧ _)
  go_wp2_with fail
  go_ret
  exact ⟨rfl, S3.below⟩

set_option maxHeartbeats 4000000 in
theorem xlong (W : World) (P : Nat) (n t : Int) (hP : P < 18446744073709551616) (hn1 : -9223372036854775808 ≤ n) (hn2 : n ≤ 9223372036854775807) (ht1 : -9223372036854775808 ≤ t) (ht2 : t ≤ 9223372036854775807) (v1 : Value) (m : List (List Nat)) (hm : Mat W v1 m) (s0 : Value) (x : List Nat) (s1 : Value) (y : List Nat) (a b : Nat) (s4 : Value) (l : List Int) (hx : Nums W s0 x) (hy : Nums W s1 y) (ha : a < 18446744073709551616) (hb : b < 18446744073709551616) (hl : IntsZ W s4 l) (hE : M.tchk P n t m = 0) (hC : M.errC P n t l = 0) (hxl : t.toNat + 1 < x.length) :
    Calls Try.prog 11 #[suV P n t, v1, .agg #[s0, s1, .int .u64 a, .int .u64 b, s4]] W fun e w' => e = .returned (.bool true) ∧ Below W.heap.size W w' := by
  have hud : ∀ b : Bool, undef ≠ Value.bool b := fun b h => by cases h
  obtain ⟨hok, hmk⟩ := M.tchk_zero hE
  obtain ⟨N, T, rfl, rfl, hi, hN1, hN2, hNT, hNp⟩ := M.okS_nat hok
  rw [Int.toNat_natCast] at hmk
  obtain ⟨h3, hp5⟩ := M.pos_of hi
  simp only [Int.toNat_natCast] at hxl
  have RC := Lib.hid fun w (b : Below W.heap.size W w) => rtcheck_any P N T v1 m w hP hn1 hn2 ht1 ht2 (hm.below b)
  rw [hE] at RC
  have CO := Lib.hid fun w (b : Below W.heap.size W w) => rcorrupted_any P N T s4 l w hP hn1 hn2 ht1 ht2 (hl.below b)
  rw [hC] at CO
  obtain ⟨A, cap, rfl, _⟩ := mat_view6 hm
  have hml := hmk.len
  rw [hml] at RC ⊢
  obtain ⟨Ax, cx, rfl⟩ := nums_slice' hx
  obtain ⟨Ay, cy, rfl⟩ := nums_slice' hy
  obtain ⟨Al, cl, rfl⟩ := ints_slice8 hl
  obtain ⟨XL, eXL⟩ : ∃ XL, XL = x.length := ⟨_, rfl⟩
  obtain ⟨YL, eYL⟩ : ∃ YL, YL = y.length := ⟨_, rfl⟩
  obtain ⟨LL, eLL⟩ : ∃ LL, LL = l.length := ⟨_, rfl⟩
  rw [← eLL] at CO
  rw [← eXL, ← eYL, ← eLL]
  have hw1 : IntKind.i64.wrap ((T : Int) + 1) = (T : Int) + 1 := by rw [IntKind.wrap_i64]; omega
  rw [← eXL] at hxl
  have hd1 : decide ((XL : Int) > (T : Int) + 1) = true := by rw [decide_eq_true_eq]; omega
  have S0 := SD.start W P N T Ax Ay Al XL cx YL cy a b LL cl
  obtain ⟨x0, x1, x2, x3, x4, x5, x6, x7⟩ := (⟨S0.c0, S0.c1, S0.c2, S0.d0, S0.d1, S0.d2, S0.d3, S0.d4⟩ : _ ∧ _ ∧ _ ∧ _ ∧ _ ∧ _ ∧ _ ∧ _)
  clear hm hx hy hl eXL eYL eLL ha hb hE hok hmk hml hi hC hxl
  unfold suV at RC CO ⊢
  go_enter Try.func11, Try.ntmps11
  go_wp2_with fail
  (with_reducible refine (RC.out _ S0.below).mono ?_)
  rintro e w1 ⟨rfl, hb⟩
  have S1 := S0.next hb
  clear x0 x1 x2 x3 x4 x5 x6 x7
  clear hb
  obtain ⟨x0, x1, x2, x3, x4, x5, x6, x7⟩ := (⟨S1.c0, S1.c1, S1.c2, S1.d0, S1.d1, S1.d2, S1.d3, S1.d4⟩ : _ ∧ _ ∧ _ ∧ _ ∧ _ ∧ _ ∧ _ ∧ _)
  go_wp2_with fail
  (with_reducible refine (CO.out _ S1.below).mono ?_)
  rintro e w2 ⟨rfl, hb⟩
  have S2 := S1.next hb
  clear x0 x1 x2 x3 x4 x5 x6 x7
  clear hb
  obtain ⟨x0, x1, x2, x3, x4, x5, x6, x7⟩ := (⟨S2.c0, S2.c1, S2.c2, S2.d0, S2.d1, S2.d2, S2.d3, S2.d4⟩ : _ ∧ _ ∧ _ ∧ _ ∧ _ ∧ _ ∧ _ ∧ _)
  go_wp2_with fail
  (with_reducible refine (alive7_any _).mono ?_)
  rintro e w3 ⟨rfl, hb⟩
  have S3 := S2.next hb
  clear x0 x1 x2 x3 x4 x5 x6 x7
  clear hb
  obtain ⟨x0, x1, x2, x3, x4, x5, x6, x7⟩ := (⟨S3.c0, S3.c1, S3.c2, S3.d0, S3.d1, S3.d2, S3.d3, S3.d4⟩ : _ ∧ _ ∧ _ ∧ _ ∧ _ ∧ _ ∧ _ ∧ _)
  go_wp2_with fail
  go_ret
  exact ⟨rfl, S3.below⟩

set_option maxHeartbeats 4000000 in
theorem ylong (W : World) (P : Nat) (n t : Int) (hP : P < 18446744073709551616) (hn1 : -9223372036854775808 ≤ n) (hn2 : n ≤ 9223372036854775807) (ht1 : -9223372036854775808 ≤ t) (ht2 : t ≤ 9223372036854775807) (v1 : Value) (m : List (List Nat)) (hm : Mat W v1 m) (s0 : Value) (x : List Nat) (s1 : Value) (y : List Nat) (a b : Nat) (s4 : Value) (l : List Int) (hx : Nums W s0 x) (hy : Nums W s1 y) (ha : a < 18446744073709551616) (hb : b < 18446744073709551616) (hl : IntsZ W s4 l) (hE : M.tchk P n t m = 0) (hC : M.errC P n t l = 0) (hxl : x.length ≤ t.toNat + 1) (hyl : t.toNat + 1 < y.length) :
    Calls Try.prog 11 #[suV P n t, v1, .agg #[s0, s1, .int .u64 a, .int .u64 b, s4]] W fun e w' => e = .returned (.bool true) ∧ Below W.heap.size W w' := by
  have hud : ∀ b : Bool, undef ≠ Value.bool b := fun b h => by cases h
  obtain ⟨hok, hmk⟩ := M.tchk_zero hE
  obtain ⟨N, T, rfl, rfl, hi, hN1, hN2, hNT, hNp⟩ := M.okS_nat hok
  rw [Int.toNat_natCast] at hmk
  obtain ⟨h3, hp5⟩ := M.pos_of hi
  simp only [Int.toNat_natCast] at hxl hyl
  have RC := Lib.hid fun w (b : Below W.heap.size W w) => rtcheck_any P N T v1 m w hP hn1 hn2 ht1 ht2 (hm.below b)
  rw [hE] at RC
  have CO := Lib.hid fun w (b : Below W.heap.size W w) => rcorrupted_any P N T s4 l w hP hn1 hn2 ht1 ht2 (hl.below b)
  rw [hC] at CO
  obtain ⟨A, cap, rfl, _⟩ := mat_view6 hm
  have hml := hmk.len
  rw [hml] at RC ⊢
  obtain ⟨Ax, cx, rfl⟩ := nums_slice' hx
  obtain ⟨Ay, cy, rfl⟩ := nums_slice' hy
  obtain ⟨Al, cl, rfl⟩ := ints_slice8 hl
  obtain ⟨XL, eXL⟩ : ∃ XL, XL = x.length := ⟨_, rfl⟩
  obtain ⟨YL, eYL⟩ : ∃ YL, YL = y.length := ⟨_, rfl⟩
  obtain ⟨LL, eLL⟩ : ∃ LL, LL = l.length := ⟨_, rfl⟩
  rw [← eLL] at CO
  rw [← eXL, ← eYL, ← eLL]
  have hw1 : IntKind.i64.wrap ((T : Int) + 1) = (T : Int) + 1 := by rw [IntKind.wrap_i64]; omega
  rw [← eXL] at hxl
  have hd1 : decide ((XL : Int) > (T : Int) + 1) = false := by rw [decide_eq_false_iff_not]; omega
  rw [← eYL] at hyl
  have hd2 : decide ((YL : Int) > (T : Int) + 1) = true := by rw [decide_eq_true_eq]; omega
  have S0 := SD.start W P N T Ax Ay Al XL cx YL cy a b LL cl
  obtain ⟨x0, x1, x2, x3, x4, x5, x6, x7⟩ := (⟨S0.c0, S0.c1, S0.c2, S0.d0, S0.d1, S0.d2, S0.d3, S0.d4⟩ : _ ∧ _ ∧ _ ∧ _ ∧ _ ∧ _ ∧ _ ∧ _)
  clear hm hx hy hl eXL eYL eLL ha hb hE hok hmk hml hi hC hxl hyl
  unfold suV at RC CO ⊢
  go_enter Try.func11, Try.ntmps11
  go_wp2_with fail
  (with_reducible refine (RC.out _ S0.below).mono ?_)
  rintro e w1 ⟨rfl, hb⟩
  have S1 := S0.next hb
  clear x0 x1 x2 x3 x4 x5 x6 x7
  clear hb
  obtain ⟨x0, x1, x2, x3, x4, x5, x6, x7⟩ := (⟨S1.c0, S1.c1, S1.c2, S1.d0, S1.d1, S1.d2, S1.d3, S1.d4⟩ : _ ∧ _ ∧ _ ∧ _ ∧ _ ∧ _ ∧ _ ∧ _)
  go_wp2_with fail
  (with_reducible refine (CO.out _ S1.below).mono ?_)
  rintro e w2 ⟨rfl, hb⟩
  have S2 := S1.next hb
  clear x0 x1 x2 x3 x4 x5 x6 x7
  clear hb
  obtain ⟨x0, x1, x2, x3, x4, x5, x6, x7⟩ := (⟨S2.c0, S2.c1, S2.c2, S2.d0, S2.d1, S2.d2, S2.d3, S2.d4⟩ : _ ∧ _ ∧ _ ∧ _ ∧ _ ∧ _ ∧ _ ∧ _)
  go_wp2_with fail
  (with_reducible refine (alive7_any _).mono ?_)
  rintro e w3 ⟨rfl, hb⟩
  have S3 := S2.next hb
  clear x0 x1 x2 x3 x4 x5 x6 x7
  clear hb
  obtain ⟨x0, x1, x2, x3, x4, x5, x6, x7⟩ := (⟨S3.c0, S3.c1, S3.c2, S3.d0, S3.d1, S3.d2, S3.d3, S3.d4⟩ : _ ∧ _ ∧ _ ∧ _ ∧ _ ∧ _ ∧ _ ∧ _)
  go_wp2_with fail
  go_ret
  exact ⟨rfl, S3.below⟩

set_option maxHeartbeats 4000000 in
theorem xout (W : World) (P : Nat) (n t : Int) (hP : P < 18446744073709551616) (hn1 : -9223372036854775808 ≤ n) (hn2 : n ≤ 9223372036854775807) (ht1 : -9223372036854775808 ≤ t) (ht2 : t ≤ 9223372036854775807) (v1 : Value) (m : List (List Nat)) (hm : Mat W v1 m) (s0 : Value) (x : List Nat) (s1 : Value) (y : List Nat) (a b : Nat) (s4 : Value) (l : List Int) (hx : Nums W s0 x) (hy : Nums W s1 y) (ha : a < 18446744073709551616) (hb : b < 18446744073709551616) (hl : IntsZ W s4 l) (hE : M.tchk P n t m = 0) (hC : M.errC P n t l = 0) (hxl : x.length ≤ t.toNat + 1) (hyl : y.length ≤ t.toNat + 1) (hwx : M.within P x = false) :
    Calls Try.prog 11 #[suV P n t, v1, .agg #[s0, s1, .int .u64 a, .int .u64 b, s4]] W fun e w' => e = .returned (.bool true) ∧ Below W.heap.size W w' := by
  have hud : ∀ b : Bool, undef ≠ Value.bool b := fun b h => by cases h
  obtain ⟨hok, hmk⟩ := M.tchk_zero hE
  obtain ⟨N, T, rfl, rfl, hi, hN1, hN2, hNT, hNp⟩ := M.okS_nat hok
  rw [Int.toNat_natCast] at hmk
  obtain ⟨h3, hp5⟩ := M.pos_of hi
  simp only [Int.toNat_natCast] at hxl hyl
  have RC := Lib.hid fun w (b : Below W.heap.size W w) => rtcheck_any P N T v1 m w hP hn1 hn2 ht1 ht2 (hm.below b)
  rw [hE] at RC
  have CO := Lib.hid fun w (b : Below W.heap.size W w) => rcorrupted_any P N T s4 l w hP hn1 hn2 ht1 ht2 (hl.below b)
  rw [hC] at CO
  have WX := Lib.hid fun w (b : Below W.heap.size W w) => within_any P s0 x w (hx.below b) (c := 2) (by rw [hwx]; rfl)
  obtain ⟨A, cap, rfl, _⟩ := mat_view6 hm
  have hml := hmk.len
  rw [hml] at RC ⊢
  obtain ⟨Ax, cx, rfl⟩ := nums_slice' hx
  obtain ⟨Ay, cy, rfl⟩ := nums_slice' hy
  obtain ⟨Al, cl, rfl⟩ := ints_slice8 hl
  obtain ⟨XL, eXL⟩ : ∃ XL, XL = x.length := ⟨_, rfl⟩
  obtain ⟨YL, eYL⟩ : ∃ YL, YL = y.length := ⟨_, rfl⟩
  obtain ⟨LL, eLL⟩ : ∃ LL, LL = l.length := ⟨_, rfl⟩
  rw [← eXL] at WX
  rw [← eLL] at CO
  rw [← eXL, ← eYL, ← eLL]
  have hw1 : IntKind.i64.wrap ((T : Int) + 1) = (T : Int) + 1 := by rw [IntKind.wrap_i64]; omega
  rw [← eXL] at hxl
  have hd1 : decide ((XL : Int) > (T : Int) + 1) = false := by rw [decide_eq_false_iff_not]; omega
  rw [← eYL] at hyl
  have hd2 : decide ((YL : Int) > (T : Int) + 1) = false := by rw [decide_eq_false_iff_not]; omega
  have S0 := SD.start W P N T Ax Ay Al XL cx YL cy a b LL cl
  obtain ⟨x0, x1, x2, x3, x4, x5, x6, x7⟩ := (⟨S0.c0, S0.c1, S0.c2, S0.d0, S0.d1, S0.d2, S0.d3, S0.d4⟩ : _ ∧ _ ∧ _ ∧ _ ∧ _ ∧ _ ∧ _ ∧ _)
  clear hm hx hy hl eXL eYL eLL ha hb hE hok hmk hml hi hC hxl hyl hwx
  unfold suV at RC CO ⊢
  go_enter Try.func11, Try.ntmps11
  go_wp2_with fail
  (with_reducible refine (RC.out _ S0.below).mono ?_)
  rintro e w1 ⟨rfl, hb⟩
  have S1 := S0.next hb
  clear x0 x1 x2 x3 x4 x5 x6 x7
  clear hb
  obtain ⟨x0, x1, x2, x3, x4, x5, x6, x7⟩ := (⟨S1.c0, S1.c1, S1.c2, S1.d0, S1.d1, S1.d2, S1.d3, S1.d4⟩ : _ ∧ _ ∧ _ ∧ _ ∧ _ ∧ _ ∧ _ ∧ _)
  go_wp2_with fail
  (with_reducible refine (CO.out _ S1.below).mono ?_)
  rintro e w2 ⟨rfl, hb⟩
  have S2 := S1.next hb
  clear x0 x1 x2 x3 x4 x5 x6 x7
  clear hb
  obtain ⟨x0, x1, x2, x3, x4, x5, x6, x7⟩ := (⟨S2.c0, S2.c1, S2.c2, S2.d0, S2.d1, S2.d2, S2.d3, S2.d4⟩ : _ ∧ _ ∧ _ ∧ _ ∧ _ ∧ _ ∧ _ ∧ _)
  go_wp2_with fail
  (with_reducible refine (WX.out _ S2.below).mono ?_)
  rintro e w' ⟨rfl, rfl⟩
  go_wp2_with fail
  (with_reducible refine (alive7_any _).mono ?_)
  rintro e w3 ⟨rfl, hb⟩
  have S3 := S2.next hb
  clear x0 x1 x2 x3 x4 x5 x6 x7
  clear hb
  obtain ⟨x0, x1, x2, x3, x4, x5, x6, x7⟩ := (⟨S3.c0, S3.c1, S3.c2, S3.d0, S3.d1, S3.d2, S3.d3, S3.d4⟩ : _ ∧ _ ∧ _ ∧ _ ∧ _ ∧ _ ∧ _ ∧ _)
  go_wp2_with fail
  go_ret
  exact ⟨rfl, S3.below⟩

set_option maxHeartbeats 4000000 in
theorem yout (W : World) (P : Nat) (n t : Int) (hP : P < 18446744073709551616) (hn1 : -9223372036854775808 ≤ n) (hn2 : n ≤ 9223372036854775807) (ht1 : -9223372036854775808 ≤ t) (ht2 : t ≤ 9223372036854775807) (v1 : Value) (m : List (List Nat)) (hm : Mat W v1 m) (s0 : Value) (x : List Nat) (s1 : Value) (y : List Nat) (a b : Nat) (s4 : Value) (l : List Int) (hx : Nums W s0 x) (hy : Nums W s1 y) (ha : a < 18446744073709551616) (hb : b < 18446744073709551616) (hl : IntsZ W s4 l) (hE : M.tchk P n t m = 0) (hC : M.errC P n t l = 0) (hxl : x.length ≤ t.toNat + 1) (hyl : y.length ≤ t.toNat + 1) (hwx : M.within P x = true) (hwy : M.within P y = false) :
    Calls Try.prog 11 #[suV P n t, v1, .agg #[s0, s1, .int .u64 a, .int .u64 b, s4]] W fun e w' => e = .returned (.bool true) ∧ Below W.heap.size W w' := by
  have hud : ∀ b : Bool, undef ≠ Value.bool b := fun b h => by cases h
  obtain ⟨hok, hmk⟩ := M.tchk_zero hE
  obtain ⟨N, T, rfl, rfl, hi, hN1, hN2, hNT, hNp⟩ := M.okS_nat hok
  rw [Int.toNat_natCast] at hmk
  obtain ⟨h3, hp5⟩ := M.pos_of hi
  simp only [Int.toNat_natCast] at hxl hyl
  have RC := Lib.hid fun w (b : Below W.heap.size W w) => rtcheck_any P N T v1 m w hP hn1 hn2 ht1 ht2 (hm.below b)
  rw [hE] at RC
  have CO := Lib.hid fun w (b : Below W.heap.size W w) => rcorrupted_any P N T s4 l w hP hn1 hn2 ht1 ht2 (hl.below b)
  rw [hC] at CO
  have WX := Lib.hid fun w (b : Below W.heap.size W w) => within_any P s0 x w (hx.below b) (c := 0) (by rw [hwx]; rfl)
  have WY := Lib.hid fun w (b : Below W.heap.size W w) => within_any P s1 y w (hy.below b) (c := 2) (by rw [hwy]; rfl)
  obtain ⟨A, cap, rfl, _⟩ := mat_view6 hm
  have hml := hmk.len
  rw [hml] at RC ⊢
  obtain ⟨Ax, cx, rfl⟩ := nums_slice' hx
  obtain ⟨Ay, cy, rfl⟩ := nums_slice' hy
  obtain ⟨Al, cl, rfl⟩ := ints_slice8 hl
  obtain ⟨XL, eXL⟩ : ∃ XL, XL = x.length := ⟨_, rfl⟩
  obtain ⟨YL, eYL⟩ : ∃ YL, YL = y.length := ⟨_, rfl⟩
  obtain ⟨LL, eLL⟩ : ∃ LL, LL = l.length := ⟨_, rfl⟩
  rw [← eXL] at WX
  rw [← eYL] at WY
  rw [← eLL] at CO
  rw [← eXL, ← eYL, ← eLL]
  have hw1 : IntKind.i64.wrap ((T : Int) + 1) = (T : Int) + 1 := by rw [IntKind.wrap_i64]; omega
  rw [← eXL] at hxl
  have hd1 : decide ((XL : Int) > (T : Int) + 1) = false := by rw [decide_eq_false_iff_not]; omega
  rw [← eYL] at hyl
  have hd2 : decide ((YL : Int) > (T : Int) + 1) = false := by rw [decide_eq_false_iff_not]; omega
  have S0 := SD.start W P N T Ax Ay Al XL cx YL cy a b LL cl
  obtain ⟨x0, x1, x2, x3, x4, x5, x6, x7⟩ := (⟨S0.c0, S0.c1, S0.c2, S0.d0, S0.d1, S0.d2, S0.d3, S0.d4⟩ : _ ∧ _ ∧ _ ∧ _ ∧ _ ∧ _ ∧ _ ∧ _)
  clear hm hx hy hl eXL eYL eLL ha hb hE hok hmk hml hi hC hxl hyl hwx hwy
  unfold suV at RC CO ⊢
  go_enter Try.func11, Try.ntmps11
  go_wp2_with fail
  (with_reducible refine (RC.out _ S0.below).mono ?_)
  rintro e w1 ⟨rfl, hb⟩
  have S1 := S0.next hb
  clear x0 x1 x2 x3 x4 x5 x6 x7
  clear hb
  obtain ⟨x0, x1, x2, x3, x4, x5, x6, x7⟩ := (⟨S1.c0, S1.c1, S1.c2, S1.d0, S1.d1, S1.d2, S1.d3, S1.d4⟩ : _ ∧ _ ∧ _ ∧ _ ∧ _ ∧ _ ∧ _ ∧ _)
  go_wp2_with fail
  (with_reducible refine (CO.out _ S1.below).mono ?_)
  rintro e w2 ⟨rfl, hb⟩
  have S2 := S1.next hb
  clear x0 x1 x2 x3 x4 x5 x6 x7
  clear hb
  obtain ⟨x0, x1, x2, x3, x4, x5, x6, x7⟩ := (⟨S2.c0, S2.c1, S2.c2, S2.d0, S2.d1, S2.d2, S2.d3, S2.d4⟩ : _ ∧ _ ∧ _ ∧ _ ∧ _ ∧ _ ∧ _ ∧ _)
  go_wp2_with fail
  (with_reducible refine (WX.out _ S2.below).mono ?_)
  rintro e w' ⟨rfl, rfl⟩
  go_wp2_with fail
  (with_reducible refine (WY.out _ S2.below).mono ?_)
  rintro e w' ⟨rfl, rfl⟩
  go_wp2_with fail
  (with_reducible refine (alive7_any _).mono ?_)
  rintro e w3 ⟨rfl, hb⟩
  have S3 := S2.next hb
  clear x0 x1 x2 x3 x4 x5 x6 x7
  clear hb
  obtain ⟨x0, x1, x2, x3, x4, x5, x6, x7⟩ := (⟨S3.c0, S3.c1, S3.c2, S3.d0, S3.d1, S3.d2, S3.d3, S3.d4⟩ : _ ∧ _ ∧ _ ∧ _ ∧ _ ∧ _ ∧ _ ∧ _)
  go_wp2_with fail
  go_ret
  exact ⟨rfl, S3.below⟩

set_option maxHeartbeats 4000000 in
theorem abig (W : World) (P : Nat) (n t : Int) (hP : P < 18446744073709551616) (hn1 : -9223372036854775808 ≤ n) (hn2 : n ≤ 9223372036854775807) (ht1 : -9223372036854775808 ≤ t) (ht2 : t ≤ 9223372036854775807) (v1 : Value) (m : List (List Nat)) (hm : Mat W v1 m) (s0 : Value) (x : List Nat) (s1 : Value) (y : List Nat) (a b : Nat) (s4 : Value) (l : List Int) (hx : Nums W s0 x) (hy : Nums W s1 y) (ha : a < 18446744073709551616) (hb : b < 18446744073709551616) (hl : IntsZ W s4 l) (hE : M.tchk P n t m = 0) (hC : M.errC P n t l = 0) (hxl : x.length ≤ t.toNat + 1) (hyl : y.length ≤ t.toNat + 1) (hwx : M.within P x = true) (hwy : M.within P y = true) (hap : P ≤ a) :
    Calls Try.prog 11 #[suV P n t, v1, .agg #[s0, s1, .int .u64 a, .int .u64 b, s4]] W fun e w' => e = .returned (.bool true) ∧ Below W.heap.size W w' := by
  have hud : ∀ b : Bool, undef ≠ Value.bool b := fun b h => by cases h
  obtain ⟨hok, hmk⟩ := M.tchk_zero hE
  obtain ⟨N, T, rfl, rfl, hi, hN1, hN2, hNT, hNp⟩ := M.okS_nat hok
  rw [Int.toNat_natCast] at hmk
  obtain ⟨h3, hp5⟩ := M.pos_of hi
  simp only [Int.toNat_natCast] at hxl hyl
  have RC := Lib.hid fun w (b : Below W.heap.size W w) => rtcheck_any P N T v1 m w hP hn1 hn2 ht1 ht2 (hm.below b)
  rw [hE] at RC
  have CO := Lib.hid fun w (b : Below W.heap.size W w) => rcorrupted_any P N T s4 l w hP hn1 hn2 ht1 ht2 (hl.below b)
  rw [hC] at CO
  have WX := Lib.hid fun w (b : Below W.heap.size W w) => within_any P s0 x w (hx.below b) (c := 0) (by rw [hwx]; rfl)
  have WY := Lib.hid fun w (b : Below W.heap.size W w) => within_any P s1 y w (hy.below b) (c := 0) (by rw [hwy]; rfl)
  obtain ⟨A, cap, rfl, _⟩ := mat_view6 hm
  have hml := hmk.len
  rw [hml] at RC ⊢
  obtain ⟨Ax, cx, rfl⟩ := nums_slice' hx
  obtain ⟨Ay, cy, rfl⟩ := nums_slice' hy
  obtain ⟨Al, cl, rfl⟩ := ints_slice8 hl
  obtain ⟨XL, eXL⟩ : ∃ XL, XL = x.length := ⟨_, rfl⟩
  obtain ⟨YL, eYL⟩ : ∃ YL, YL = y.length := ⟨_, rfl⟩
  obtain ⟨LL, eLL⟩ : ∃ LL, LL = l.length := ⟨_, rfl⟩
  rw [← eXL] at WX
  rw [← eYL] at WY
  rw [← eLL] at CO
  rw [← eXL, ← eYL, ← eLL]
  have hw1 : IntKind.i64.wrap ((T : Int) + 1) = (T : Int) + 1 := by rw [IntKind.wrap_i64]; omega
  rw [← eXL] at hxl
  have hd1 : decide ((XL : Int) > (T : Int) + 1) = false := by rw [decide_eq_false_iff_not]; omega
  rw [← eYL] at hyl
  have hd2 : decide ((YL : Int) > (T : Int) + 1) = false := by rw [decide_eq_false_iff_not]; omega
  have hd3 : ¬ a < P := by omega
  have S0 := SD.start W P N T Ax Ay Al XL cx YL cy a b LL cl
  obtain ⟨x0, x1, x2, x3, x4, x5, x6, x7⟩ := (⟨S0.c0, S0.c1, S0.c2, S0.d0, S0.d1, S0.d2, S0.d3, S0.d4⟩ : _ ∧ _ ∧ _ ∧ _ ∧ _ ∧ _ ∧ _ ∧ _)
  clear hm hx hy hl eXL eYL eLL ha hb hE hok hmk hml hi hC hxl hyl hwx hwy hap
  unfold suV at RC CO ⊢
  go_enter Try.func11, Try.ntmps11
  go_wp2_with fail
  (with_reducible refine (RC.out _ S0.below).mono ?_)
  rintro e w1 ⟨rfl, hb⟩
  have S1 := S0.next hb
  clear x0 x1 x2 x3 x4 x5 x6 x7
  clear hb
  obtain ⟨x0, x1, x2, x3, x4, x5, x6, x7⟩ := (⟨S1.c0, S1.c1, S1.c2, S1.d0, S1.d1, S1.d2, S1.d3, S1.d4⟩ : _ ∧ _ ∧ _ ∧ _ ∧ _ ∧ _ ∧ _ ∧ _)
  go_wp2_with fail
  (with_reducible refine (CO.out _ S1.below).mono ?_)
  rintro e w2 ⟨rfl, hb⟩
  have S2 := S1.next hb
  clear x0 x1 x2 x3 x4 x5 x6 x7
  clear hb
  obtain ⟨x0, x1, x2, x3, x4, x5, x6, x7⟩ := (⟨S2.c0, S2.c1, S2.c2, S2.d0, S2.d1, S2.d2, S2.d3, S2.d4⟩ : _ ∧ _ ∧ _ ∧ _ ∧ _ ∧ _ ∧ _ ∧ _)
  go_wp2_with fail
  (with_reducible refine (WX.out _ S2.below).mono ?_)
  rintro e w' ⟨rfl, rfl⟩
  go_wp2_with fail
  (with_reducible refine (WY.out _ S2.below).mono ?_)
  rintro e w' ⟨rfl, rfl⟩
  go_wp2_with fail
  (with_reducible refine (alive7_any _).mono ?_)
  rintro e w3 ⟨rfl, hb⟩
  have S3 := S2.next hb
  clear x0 x1 x2 x3 x4 x5 x6 x7
  clear hb
  obtain ⟨x0, x1, x2, x3, x4, x5, x6, x7⟩ := (⟨S3.c0, S3.c1, S3.c2, S3.d0, S3.d1, S3.d2, S3.d3, S3.d4⟩ : _ ∧ _ ∧ _ ∧ _ ∧ _ ∧ _ ∧ _ ∧ _)
  go_wp2_with fail
  go_ret
  exact ⟨rfl, S3.below⟩

set_option maxHeartbeats 4000000 in
theorem bbig (W : World) (P : Nat) (n t : Int) (hP : P < 18446744073709551616) (hn1 : -9223372036854775808 ≤ n) (hn2 : n ≤ 9223372036854775807) (ht1 : -9223372036854775808 ≤ t) (ht2 : t ≤ 9223372036854775807) (v1 : Value) (m : List (List Nat)) (hm : Mat W v1 m) (s0 : Value) (x : List Nat) (s1 : Value) (y : List Nat) (a b : Nat) (s4 : Value) (l : List Int) (hx : Nums W s0 x) (hy : Nums W s1 y) (ha : a < 18446744073709551616) (hb : b < 18446744073709551616) (hl : IntsZ W s4 l) (hE : M.tchk P n t m = 0) (hC : M.errC P n t l = 0) (hxl : x.length ≤ t.toNat + 1) (hyl : y.length ≤ t.toNat + 1) (hwx : M.within P x = true) (hwy : M.within P y = true) (hap : a < P) (hbp : P ≤ b) :
    Calls Try.prog 11 #[suV P n t, v1, .agg #[s0, s1, .int .u64 a, .int .u64 b, s4]] W fun e w' => e = .returned (.bool true) ∧ Below W.heap.size W w' := by
  have hud : ∀ b : Bool, undef ≠ Value.bool b := fun b h => by cases h
  obtain ⟨hok, hmk⟩ := M.tchk_zero hE
  obtain ⟨N, T, rfl, rfl, hi, hN1, hN2, hNT, hNp⟩ := M.okS_nat hok
  rw [Int.toNat_natCast] at hmk
  obtain ⟨h3, hp5⟩ := M.pos_of hi
  simp only [Int.toNat_natCast] at hxl hyl
  have RC := Lib.hid fun w (b : Below W.heap.size W w) => rtcheck_any P N T v1 m w hP hn1 hn2 ht1 ht2 (hm.below b)
  rw [hE] at RC
  have CO := Lib.hid fun w (b : Below W.heap.size W w) => rcorrupted_any P N T s4 l w hP hn1 hn2 ht1 ht2 (hl.below b)
  rw [hC] at CO
  have WX := Lib.hid fun w (b : Below W.heap.size W w) => within_any P s0 x w (hx.below b) (c := 0) (by rw [hwx]; rfl)
  have WY := Lib.hid fun w (b : Below W.heap.size W w) => within_any P s1 y w (hy.below b) (c := 0) (by rw [hwy]; rfl)
  obtain ⟨A, cap, rfl, _⟩ := mat_view6 hm
  have hml := hmk.len
  rw [hml] at RC ⊢
  obtain ⟨Ax, cx, rfl⟩ := nums_slice' hx
  obtain ⟨Ay, cy, rfl⟩ := nums_slice' hy
  obtain ⟨Al, cl, rfl⟩ := ints_slice8 hl
  obtain ⟨XL, eXL⟩ : ∃ XL, XL = x.length := ⟨_, rfl⟩
  obtain ⟨YL, eYL⟩ : ∃ YL, YL = y.length := ⟨_, rfl⟩
  obtain ⟨LL, eLL⟩ : ∃ LL, LL = l.length := ⟨_, rfl⟩
  rw [← eXL] at WX
  rw [← eYL] at WY
  rw [← eLL] at CO
  rw [← eXL, ← eYL, ← eLL]
  have hw1 : IntKind.i64.wrap ((T : Int) + 1) = (T : Int) + 1 := by rw [IntKind.wrap_i64]; omega
  rw [← eXL] at hxl
  have hd1 : decide ((XL : Int) > (T : Int) + 1) = false := by rw [decide_eq_false_iff_not]; omega
  rw [← eYL] at hyl
  have hd2 : decide ((YL : Int) > (T : Int) + 1) = false := by rw [decide_eq_false_iff_not]; omega
  have hd3 : a < P := by omega
  have hd4 : ¬ b < P := by omega
  have S0 := SD.start W P N T Ax Ay Al XL cx YL cy a b LL cl
  obtain ⟨x0, x1, x2, x3, x4, x5, x6, x7⟩ := (⟨S0.c0, S0.c1, S0.c2, S0.d0, S0.d1, S0.d2, S0.d3, S0.d4⟩ : _ ∧ _ ∧ _ ∧ _ ∧ _ ∧ _ ∧ _ ∧ _)
  clear hm hx hy hl eXL eYL eLL ha hb hE hok hmk hml hi hC hxl hyl hwx hwy hap hbp
  unfold suV at RC CO ⊢
  go_enter Try.func11, Try.ntmps11
  go_wp2_with fail
  (with_reducible refine (RC.out _ S0.below).mono ?_)
  rintro e w1 ⟨rfl, hb⟩
  have S1 := S0.next hb
  clear x0 x1 x2 x3 x4 x5 x6 x7
  clear hb
  obtain ⟨x0, x1, x2, x3, x4, x5, x6, x7⟩ := (⟨S1.c0, S1.c1, S1.c2, S1.d0, S1.d1, S1.d2, S1.d3, S1.d4⟩ : _ ∧ _ ∧ _ ∧ _ ∧ _ ∧ _ ∧ _ ∧ _)
  go_wp2_with fail
  (with_reducible refine (CO.out _ S1.below).mono ?_)
  rintro e w2 ⟨rfl, hb⟩
  have S2 := S1.next hb
  clear x0 x1 x2 x3 x4 x5 x6 x7
  clear hb
  obtain ⟨x0, x1, x2, x3, x4, x5, x6, x7⟩ := (⟨S2.c0, S2.c1, S2.c2, S2.d0, S2.d1, S2.d2, S2.d3, S2.d4⟩ : _ ∧ _ ∧ _ ∧ _ ∧ _ ∧ _ ∧ _ ∧ _)
  go_wp2_with fail
  (with_reducible refine (WX.out _ S2.below).mono ?_)
  rintro e w' ⟨rfl, rfl⟩
  go_wp2_with fail
  (with_reducible refine (WY.out _ S2.below).mono ?_)
  rintro e w' ⟨rfl, rfl⟩
  go_wp2_with fail
  (with_reducible refine (alive7_any _).mono ?_)
  rintro e w3 ⟨rfl, hb⟩
  have S3 := S2.next hb
  clear x0 x1 x2 x3 x4 x5 x6 x7
  clear hb
  obtain ⟨x0, x1, x2, x3, x4, x5, x6, x7⟩ := (⟨S3.c0, S3.c1, S3.c2, S3.d0, S3.d1, S3.d2, S3.d3, S3.d4⟩ : _ ∧ _ ∧ _ ∧ _ ∧ _ ∧ _ ∧ _ ∧ _)
  go_wp2_with fail
  go_ret
  exact ⟨rfl, S3.below⟩

end twiceMovedW
end Go.Proofs.Ytfkepkdfpjaniaa
