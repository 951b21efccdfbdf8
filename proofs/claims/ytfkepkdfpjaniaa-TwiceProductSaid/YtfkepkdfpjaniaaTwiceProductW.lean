/-
  The walk of TwiceProduct: the product of two polynomials, masked.
-/
import Derived.Test.YtfkepkdfpjaniaaSb7
import Derived.Test.YtfkepkdfpjaniaaRB
import Derived.Test.YtfkepkdfpjaniaaLex2
import Derived.Lib.MinMax
namespace Go.Proofs.Ytfkepkdfpjaniaa
open Go.RowKit
set_option linter.unusedVariables false
set_option maxRecDepth 100000

theorem M.tchk_zeroP {p : Nat} {n t : Int} {m : List (List Nat)} (h : M.tchk p n t m = 0) : M.okS p n t = true ∧ M.TOk p (t.toNat + 1) m := by
  unfold M.tchk at h
  split at h
  · rename_i h1; exact ⟨h1, M.mform_zero h⟩
  · cases h
namespace twiceProductW
set_option maxHeartbeats 4000000 in
theorem no (W : World) (P : Nat) (n t : Int) (hP : P < 18446744073709551616) (hn1 : -9223372036854775808 ≤ n) (hn2 : n ≤ 9223372036854775807) (ht1 : -9223372036854775808 ≤ t) (ht2 : t ≤ 9223372036854775807) (v : Value) (m : List (List Nat)) (hm : Mat W v m) (vz : Value) (z : List Nat) (vq : Value) (q : List Nat) (hz : Nums W vz z) (hq : Nums W vq q) (hE : M.tchk P n t m ≠ 0) :
    Calls Try.prog 10 #[suV P n t, v, .agg #[vz, vq]] W fun e w' => e = .returned (.bool true) ∧ Below W.heap.size W w' := by
  have hud : ∀ b : Bool, undef ≠ Value.bool b := fun b h => by cases h
  have WH := Lib.hid fun w (b : Below W.heap.size W w) => tWhole_bad P n t v m w hP hn1 hn2 ht1 ht2 (hm.below b) hE
  have RC := Lib.hid fun w (b : Below W.heap.size W w) => rtcheck_any P n t v m w hP hn1 hn2 ht1 ht2 (hm.below b)
  obtain ⟨c, ec⟩ : ∃ c, c = M.tchk P n t m := ⟨_, rfl⟩
  rw [← ec] at WH RC hE
  have hcb : (c != 0) = true := by rw [bne_iff_ne]; exact hE
  have hcb2 : (c == 0) = false := by rw [beq_eq_false_iff_ne]; exact hE
  obtain ⟨A, cap, rfl, _⟩ := mat_view6 hm
  obtain ⟨Az, cz, rfl⟩ := nums_slice' hz
  obtain ⟨Aq, cq, rfl⟩ := nums_slice' hq
  obtain ⟨ZL, eZL⟩ : ∃ ZL, ZL = z.length := ⟨_, rfl⟩
  obtain ⟨QL, eQL⟩ : ∃ QL, QL = q.length := ⟨_, rfl⟩
  rw [← eZL, ← eQL]
  have S0 := SC.start W P n t Az Aq ZL cz QL cq
  obtain ⟨x0, x1, x2, x3, x4⟩ := (⟨S0.c0, S0.c1, S0.c2, S0.d0, S0.d1⟩ : _ ∧ _ ∧ _ ∧ _ ∧ _)
  clear hm hz hq ec hE eZL eQL
  unfold suV at WH RC ⊢
  go_enter Try.func10, Try.ntmps10
  go_wp2_with fail
  (with_reducible refine (WH.out _ S0.below).mono ?_)
  rintro e w1 ⟨rfl, hb⟩
  have S1 := S0.next hb
  clear x0 x1 x2 x3 x4
  clear hb
  obtain ⟨x0, x1, x2, x3, x4⟩ := (⟨S1.c0, S1.c1, S1.c2, S1.d0, S1.d1⟩ : _ ∧ _ ∧ _ ∧ _ ∧ _)
  go_wp2_with fail
  (with_reducible refine (RC.out _ S1.below).mono ?_)
  rintro e w2 ⟨rfl, hb⟩
  have S2 := S1.next hb
  clear x0 x1 x2 x3 x4
  clear hb
  obtain ⟨x0, x1, x2, x3, x4⟩ := (⟨S2.c0, S2.c1, S2.c2, S2.d0, S2.d1⟩ : _ ∧ _ ∧ _ ∧ _ ∧ _)
  go_wp2_with fail
  (with_reducible refine (alive7_any _).mono ?_)
  rintro e w3 ⟨rfl, hb⟩
  have S3 := S2.next hb
  clear x0 x1 x2 x3 x4
  clear hb
  obtain ⟨x0, x1, x2, x3, x4⟩ := (⟨S3.c0, S3.c1, S3.c2, S3.d0, S3.d1⟩ : _ ∧ _ ∧ _ ∧ _ ∧ _)
  go_wp2_with fail
  go_ret
  exact ⟨rfl, S3.below⟩

set_option maxHeartbeats 4000000 in
theorem zlong (W : World) (P : Nat) (n t : Int) (hP : P < 18446744073709551616) (hn1 : -9223372036854775808 ≤ n) (hn2 : n ≤ 9223372036854775807) (ht1 : -9223372036854775808 ≤ t) (ht2 : t ≤ 9223372036854775807) (v : Value) (m : List (List Nat)) (hm : Mat W v m) (vz : Value) (z : List Nat) (vq : Value) (q : List Nat) (hz : Nums W vz z) (hq : Nums W vq q) (hE : M.tchk P n t m = 0) (hzl : t.toNat + 1 < z.length) :
    Calls Try.prog 10 #[suV P n t, v, .agg #[vz, vq]] W fun e w' => e = .returned (.bool true) ∧ Below W.heap.size W w' := by
  have hud : ∀ b : Bool, undef ≠ Value.bool b := fun b h => by cases h
  obtain ⟨hok, hmk⟩ := M.tchk_zeroP hE
  obtain ⟨N, T, rfl, rfl, hi, hN1, hN2, hNT, hNp⟩ := M.okS_nat hok
  rw [Int.toNat_natCast] at hmk
  obtain ⟨h3, hp5⟩ := M.pos_of hi
  have WH := Lib.hid fun w (b : Below W.heap.size W w) => tWhole_any P T N v m w hn1 hn2 (hm.below b) hE
  have RC := Lib.hid fun w (b : Below W.heap.size W w) => rtcheck_any P N T v m w hP hn1 hn2 ht1 ht2 (hm.below b)
  rw [hE] at RC
  have hw1 : IntKind.i64.wrap ((T : Int) + 1) = (T : Int) + 1 := by rw [IntKind.wrap_i64]; omega
  obtain ⟨ww, eww⟩ : ∃ ww, ww = M.wholeK P m (T + 1) := ⟨_, rfl⟩
  rw [← eww] at WH
  obtain ⟨A, cap, rfl, _⟩ := mat_view6 hm
  obtain ⟨Az, cz, rfl⟩ := nums_slice' hz
  obtain ⟨Aq, cq, rfl⟩ := nums_slice' hq
  obtain ⟨ZL, eZL⟩ : ∃ ZL, ZL = z.length := ⟨_, rfl⟩
  obtain ⟨QL, eQL⟩ : ∃ QL, QL = q.length := ⟨_, rfl⟩
  rw [← eZL, ← eQL]
  rw [← eZL] at hzl
  simp only [Int.toNat_natCast] at hzl
  have hd1 : decide ((ZL : Int) > (T : Int) + 1) = true := by rw [decide_eq_true_eq]; omega
  have S0 := SC.start W P N T Az Aq ZL cz QL cq
  obtain ⟨x0, x1, x2, x3, x4⟩ := (⟨S0.c0, S0.c1, S0.c2, S0.d0, S0.d1⟩ : _ ∧ _ ∧ _ ∧ _ ∧ _)
  clear hm hz hq hE hok hmk hi eww eZL eQL hzl
  unfold suV at WH RC ⊢
  go_enter Try.func10, Try.ntmps10
  go_wp2_with fail
  (with_reducible refine (WH.out _ S0.below).mono ?_)
  rintro e w1 ⟨v1, rfl, hn, hb⟩
  have S1 := S0.next hb
  clear x0 x1 x2 x3 x4
  obtain ⟨A1, k1, rfl⟩ := nums_slice' hn
  clear hn
  clear hb
  obtain ⟨x0, x1, x2, x3, x4⟩ := (⟨S1.c0, S1.c1, S1.c2, S1.d0, S1.d1⟩ : _ ∧ _ ∧ _ ∧ _ ∧ _)
  go_wp2_with fail
  (with_reducible refine (RC.out _ S1.below).mono ?_)
  rintro e w2 ⟨rfl, hb⟩
  have S2 := S1.next hb
  clear x0 x1 x2 x3 x4
  clear hb
  obtain ⟨x0, x1, x2, x3, x4⟩ := (⟨S2.c0, S2.c1, S2.c2, S2.d0, S2.d1⟩ : _ ∧ _ ∧ _ ∧ _ ∧ _)
  go_wp2_with fail
  (with_reducible refine (alive7_any _).mono ?_)
  rintro e w3 ⟨rfl, hb⟩
  have S3 := S2.next hb
  clear x0 x1 x2 x3 x4
  clear hb
  obtain ⟨x0, x1, x2, x3, x4⟩ := (⟨S3.c0, S3.c1, S3.c2, S3.d0, S3.d1⟩ : _ ∧ _ ∧ _ ∧ _ ∧ _)
  go_wp2_with fail
  go_ret
  exact ⟨rfl, S3.below⟩

set_option maxHeartbeats 4000000 in
theorem qlong (W : World) (P : Nat) (n t : Int) (hP : P < 18446744073709551616) (hn1 : -9223372036854775808 ≤ n) (hn2 : n ≤ 9223372036854775807) (ht1 : -9223372036854775808 ≤ t) (ht2 : t ≤ 9223372036854775807) (v : Value) (m : List (List Nat)) (hm : Mat W v m) (vz : Value) (z : List Nat) (vq : Value) (q : List Nat) (hz : Nums W vz z) (hq : Nums W vq q) (hE : M.tchk P n t m = 0) (hzl : z.length ≤ t.toNat + 1) (hql : t.toNat + 1 < q.length) :
    Calls Try.prog 10 #[suV P n t, v, .agg #[vz, vq]] W fun e w' => e = .returned (.bool true) ∧ Below W.heap.size W w' := by
  have hud : ∀ b : Bool, undef ≠ Value.bool b := fun b h => by cases h
  obtain ⟨hok, hmk⟩ := M.tchk_zeroP hE
  obtain ⟨N, T, rfl, rfl, hi, hN1, hN2, hNT, hNp⟩ := M.okS_nat hok
  rw [Int.toNat_natCast] at hmk
  obtain ⟨h3, hp5⟩ := M.pos_of hi
  have WH := Lib.hid fun w (b : Below W.heap.size W w) => tWhole_any P T N v m w hn1 hn2 (hm.below b) hE
  have RC := Lib.hid fun w (b : Below W.heap.size W w) => rtcheck_any P N T v m w hP hn1 hn2 ht1 ht2 (hm.below b)
  rw [hE] at RC
  have hw1 : IntKind.i64.wrap ((T : Int) + 1) = (T : Int) + 1 := by rw [IntKind.wrap_i64]; omega
  obtain ⟨ww, eww⟩ : ∃ ww, ww = M.wholeK P m (T + 1) := ⟨_, rfl⟩
  rw [← eww] at WH
  obtain ⟨A, cap, rfl, _⟩ := mat_view6 hm
  obtain ⟨Az, cz, rfl⟩ := nums_slice' hz
  obtain ⟨Aq, cq, rfl⟩ := nums_slice' hq
  obtain ⟨ZL, eZL⟩ : ∃ ZL, ZL = z.length := ⟨_, rfl⟩
  obtain ⟨QL, eQL⟩ : ∃ QL, QL = q.length := ⟨_, rfl⟩
  rw [← eZL, ← eQL]
  rw [← eZL] at hzl
  rw [← eQL] at hql
  simp only [Int.toNat_natCast] at hzl hql
  have hd1 : decide ((ZL : Int) > (T : Int) + 1) = false := by rw [decide_eq_false_iff_not]; omega
  have hd2 : decide ((QL : Int) > (T : Int) + 1) = true := by rw [decide_eq_true_eq]; omega
  have S0 := SC.start W P N T Az Aq ZL cz QL cq
  obtain ⟨x0, x1, x2, x3, x4⟩ := (⟨S0.c0, S0.c1, S0.c2, S0.d0, S0.d1⟩ : _ ∧ _ ∧ _ ∧ _ ∧ _)
  clear hm hz hq hE hok hmk hi eww eZL eQL hzl hql
  unfold suV at WH RC ⊢
  go_enter Try.func10, Try.ntmps10
  go_wp2_with fail
  (with_reducible refine (WH.out _ S0.below).mono ?_)
  rintro e w1 ⟨v1, rfl, hn, hb⟩
  have S1 := S0.next hb
  clear x0 x1 x2 x3 x4
  obtain ⟨A1, k1, rfl⟩ := nums_slice' hn
  clear hn
  clear hb
  obtain ⟨x0, x1, x2, x3, x4⟩ := (⟨S1.c0, S1.c1, S1.c2, S1.d0, S1.d1⟩ : _ ∧ _ ∧ _ ∧ _ ∧ _)
  go_wp2_with fail
  (with_reducible refine (RC.out _ S1.below).mono ?_)
  rintro e w2 ⟨rfl, hb⟩
  have S2 := S1.next hb
  clear x0 x1 x2 x3 x4
  clear hb
  obtain ⟨x0, x1, x2, x3, x4⟩ := (⟨S2.c0, S2.c1, S2.c2, S2.d0, S2.d1⟩ : _ ∧ _ ∧ _ ∧ _ ∧ _)
  go_wp2_with fail
  (with_reducible refine (alive7_any _).mono ?_)
  rintro e w3 ⟨rfl, hb⟩
  have S3 := S2.next hb
  clear x0 x1 x2 x3 x4
  clear hb
  obtain ⟨x0, x1, x2, x3, x4⟩ := (⟨S3.c0, S3.c1, S3.c2, S3.d0, S3.d1⟩ : _ ∧ _ ∧ _ ∧ _ ∧ _)
  go_wp2_with fail
  go_ret
  exact ⟨rfl, S3.below⟩

set_option maxHeartbeats 4000000 in
theorem zout (W : World) (P : Nat) (n t : Int) (hP : P < 18446744073709551616) (hn1 : -9223372036854775808 ≤ n) (hn2 : n ≤ 9223372036854775807) (ht1 : -9223372036854775808 ≤ t) (ht2 : t ≤ 9223372036854775807) (v : Value) (m : List (List Nat)) (hm : Mat W v m) (vz : Value) (z : List Nat) (vq : Value) (q : List Nat) (hz : Nums W vz z) (hq : Nums W vq q) (hE : M.tchk P n t m = 0) (hzl : z.length ≤ t.toNat + 1) (hql : q.length ≤ t.toNat + 1) (hwz : M.within P z = false) :
    Calls Try.prog 10 #[suV P n t, v, .agg #[vz, vq]] W fun e w' => e = .returned (.bool true) ∧ Below W.heap.size W w' := by
  have hud : ∀ b : Bool, undef ≠ Value.bool b := fun b h => by cases h
  obtain ⟨hok, hmk⟩ := M.tchk_zeroP hE
  obtain ⟨N, T, rfl, rfl, hi, hN1, hN2, hNT, hNp⟩ := M.okS_nat hok
  rw [Int.toNat_natCast] at hmk
  obtain ⟨h3, hp5⟩ := M.pos_of hi
  have WH := Lib.hid fun w (b : Below W.heap.size W w) => tWhole_any P T N v m w hn1 hn2 (hm.below b) hE
  have RC := Lib.hid fun w (b : Below W.heap.size W w) => rtcheck_any P N T v m w hP hn1 hn2 ht1 ht2 (hm.below b)
  rw [hE] at RC
  have hw1 : IntKind.i64.wrap ((T : Int) + 1) = (T : Int) + 1 := by rw [IntKind.wrap_i64]; omega
  have WZ := Lib.hid fun w (b : Below W.heap.size W w) => within_any P vz z w (hz.below b) (c := 2) (by rw [hwz]; rfl)
  obtain ⟨ww, eww⟩ : ∃ ww, ww = M.wholeK P m (T + 1) := ⟨_, rfl⟩
  rw [← eww] at WH
  obtain ⟨A, cap, rfl, _⟩ := mat_view6 hm
  obtain ⟨Az, cz, rfl⟩ := nums_slice' hz
  obtain ⟨Aq, cq, rfl⟩ := nums_slice' hq
  obtain ⟨ZL, eZL⟩ : ∃ ZL, ZL = z.length := ⟨_, rfl⟩
  obtain ⟨QL, eQL⟩ : ∃ QL, QL = q.length := ⟨_, rfl⟩
  rw [← eZL, ← eQL]
  rw [← eZL] at WZ
  rw [← eZL] at hzl
  rw [← eQL] at hql
  simp only [Int.toNat_natCast] at hzl hql
  have hd1 : decide ((ZL : Int) > (T : Int) + 1) = false := by rw [decide_eq_false_iff_not]; omega
  have hd2 : decide ((QL : Int) > (T : Int) + 1) = false := by rw [decide_eq_false_iff_not]; omega
  have S0 := SC.start W P N T Az Aq ZL cz QL cq
  obtain ⟨x0, x1, x2, x3, x4⟩ := (⟨S0.c0, S0.c1, S0.c2, S0.d0, S0.d1⟩ : _ ∧ _ ∧ _ ∧ _ ∧ _)
  clear hm hz hq hE hok hmk hi eww eZL eQL hwz hzl hql
  unfold suV at WH RC ⊢
  go_enter Try.func10, Try.ntmps10
  go_wp2_with fail
  (with_reducible refine (WH.out _ S0.below).mono ?_)
  rintro e w1 ⟨v1, rfl, hn, hb⟩
  have S1 := S0.next hb
  clear x0 x1 x2 x3 x4
  obtain ⟨A1, k1, rfl⟩ := nums_slice' hn
  clear hn
  clear hb
  obtain ⟨x0, x1, x2, x3, x4⟩ := (⟨S1.c0, S1.c1, S1.c2, S1.d0, S1.d1⟩ : _ ∧ _ ∧ _ ∧ _ ∧ _)
  go_wp2_with fail
  (with_reducible refine (WZ.out _ S1.below).mono ?_)
  rintro e w' ⟨rfl, rfl⟩
  go_wp2_with fail
  (with_reducible refine (RC.out _ S1.below).mono ?_)
  rintro e w2 ⟨rfl, hb⟩
  have S2 := S1.next hb
  clear x0 x1 x2 x3 x4
  clear hb
  obtain ⟨x0, x1, x2, x3, x4⟩ := (⟨S2.c0, S2.c1, S2.c2, S2.d0, S2.d1⟩ : _ ∧ _ ∧ _ ∧ _ ∧ _)
  go_wp2_with fail
  (with_reducible refine (alive7_any _).mono ?_)
  rintro e w3 ⟨rfl, hb⟩
  have S3 := S2.next hb
  clear x0 x1 x2 x3 x4
  clear hb
  obtain ⟨x0, x1, x2, x3, x4⟩ := (⟨S3.c0, S3.c1, S3.c2, S3.d0, S3.d1⟩ : _ ∧ _ ∧ _ ∧ _ ∧ _)
  go_wp2_with fail
  go_ret
  exact ⟨rfl, S3.below⟩

set_option maxHeartbeats 4000000 in
theorem qout (W : World) (P : Nat) (n t : Int) (hP : P < 18446744073709551616) (hn1 : -9223372036854775808 ≤ n) (hn2 : n ≤ 9223372036854775807) (ht1 : -9223372036854775808 ≤ t) (ht2 : t ≤ 9223372036854775807) (v : Value) (m : List (List Nat)) (hm : Mat W v m) (vz : Value) (z : List Nat) (vq : Value) (q : List Nat) (hz : Nums W vz z) (hq : Nums W vq q) (hE : M.tchk P n t m = 0) (hzl : z.length ≤ t.toNat + 1) (hql : q.length ≤ t.toNat + 1) (hwz : M.within P z = true) (hwq : M.within P q = false) :
    Calls Try.prog 10 #[suV P n t, v, .agg #[vz, vq]] W fun e w' => e = .returned (.bool true) ∧ Below W.heap.size W w' := by
  have hud : ∀ b : Bool, undef ≠ Value.bool b := fun b h => by cases h
  obtain ⟨hok, hmk⟩ := M.tchk_zeroP hE
  obtain ⟨N, T, rfl, rfl, hi, hN1, hN2, hNT, hNp⟩ := M.okS_nat hok
  rw [Int.toNat_natCast] at hmk
  obtain ⟨h3, hp5⟩ := M.pos_of hi
  have WH := Lib.hid fun w (b : Below W.heap.size W w) => tWhole_any P T N v m w hn1 hn2 (hm.below b) hE
  have RC := Lib.hid fun w (b : Below W.heap.size W w) => rtcheck_any P N T v m w hP hn1 hn2 ht1 ht2 (hm.below b)
  rw [hE] at RC
  have hw1 : IntKind.i64.wrap ((T : Int) + 1) = (T : Int) + 1 := by rw [IntKind.wrap_i64]; omega
  have WZ := Lib.hid fun w (b : Below W.heap.size W w) => within_any P vz z w (hz.below b) (c := 0) (by rw [hwz]; rfl)
  have WQ := Lib.hid fun w (b : Below W.heap.size W w) => within_any P vq q w (hq.below b) (c := 2) (by rw [hwq]; rfl)
  obtain ⟨ww, eww⟩ : ∃ ww, ww = M.wholeK P m (T + 1) := ⟨_, rfl⟩
  rw [← eww] at WH
  obtain ⟨A, cap, rfl, _⟩ := mat_view6 hm
  obtain ⟨Az, cz, rfl⟩ := nums_slice' hz
  obtain ⟨Aq, cq, rfl⟩ := nums_slice' hq
  obtain ⟨ZL, eZL⟩ : ∃ ZL, ZL = z.length := ⟨_, rfl⟩
  obtain ⟨QL, eQL⟩ : ∃ QL, QL = q.length := ⟨_, rfl⟩
  rw [← eZL, ← eQL]
  rw [← eZL] at WZ
  rw [← eQL] at WQ
  rw [← eZL] at hzl
  rw [← eQL] at hql
  simp only [Int.toNat_natCast] at hzl hql
  have hd1 : decide ((ZL : Int) > (T : Int) + 1) = false := by rw [decide_eq_false_iff_not]; omega
  have hd2 : decide ((QL : Int) > (T : Int) + 1) = false := by rw [decide_eq_false_iff_not]; omega
  have S0 := SC.start W P N T Az Aq ZL cz QL cq
  obtain ⟨x0, x1, x2, x3, x4⟩ := (⟨S0.c0, S0.c1, S0.c2, S0.d0, S0.d1⟩ : _ ∧ _ ∧ _ ∧ _ ∧ _)
  clear hm hz hq hE hok hmk hi eww eZL eQL hwz hwq hzl hql
  unfold suV at WH RC ⊢
  go_enter Try.func10, Try.ntmps10
  go_wp2_with fail
  (with_reducible refine (WH.out _ S0.below).mono ?_)
  rintro e w1 ⟨v1, rfl, hn, hb⟩
  have S1 := S0.next hb
  clear x0 x1 x2 x3 x4
  obtain ⟨A1, k1, rfl⟩ := nums_slice' hn
  clear hn
  clear hb
  obtain ⟨x0, x1, x2, x3, x4⟩ := (⟨S1.c0, S1.c1, S1.c2, S1.d0, S1.d1⟩ : _ ∧ _ ∧ _ ∧ _ ∧ _)
  go_wp2_with fail
  (with_reducible refine (WZ.out _ S1.below).mono ?_)
  rintro e w' ⟨rfl, rfl⟩
  go_wp2_with fail
  (with_reducible refine (WQ.out _ S1.below).mono ?_)
  rintro e w' ⟨rfl, rfl⟩
  go_wp2_with fail
  (with_reducible refine (RC.out _ S1.below).mono ?_)
  rintro e w2 ⟨rfl, hb⟩
  have S2 := S1.next hb
  clear x0 x1 x2 x3 x4
  clear hb
  obtain ⟨x0, x1, x2, x3, x4⟩ := (⟨S2.c0, S2.c1, S2.c2, S2.d0, S2.d1⟩ : _ ∧ _ ∧ _ ∧ _ ∧ _)
  go_wp2_with fail
  (with_reducible refine (alive7_any _).mono ?_)
  rintro e w3 ⟨rfl, hb⟩
  have S3 := S2.next hb
  clear x0 x1 x2 x3 x4
  clear hb
  obtain ⟨x0, x1, x2, x3, x4⟩ := (⟨S3.c0, S3.c1, S3.c2, S3.d0, S3.d1⟩ : _ ∧ _ ∧ _ ∧ _ ∧ _)
  go_wp2_with fail
  go_ret
  exact ⟨rfl, S3.below⟩

set_option maxHeartbeats 4000000 in
theorem good (W : World) (P : Nat) (n t : Int) (hP : P < 18446744073709551616) (hn1 : -9223372036854775808 ≤ n) (hn2 : n ≤ 9223372036854775807) (ht1 : -9223372036854775808 ≤ t) (ht2 : t ≤ 9223372036854775807) (v : Value) (m : List (List Nat)) (hm : Mat W v m) (vz : Value) (z : List Nat) (vq : Value) (q : List Nat) (hz : Nums W vz z) (hq : Nums W vq q) (hE : M.tchk P n t m = 0) (hzl : z.length ≤ t.toNat + 1) (hql : q.length ≤ t.toNat + 1) (hwz : M.within P z = true) (hwq : M.within P q = true) :
    Calls Try.prog 10 #[suV P n t, v, .agg #[vz, vq]] W fun e w' => e = .returned (.bool true) ∧ Below W.heap.size W w' := by
  have hud : ∀ b : Bool, undef ≠ Value.bool b := fun b h => by cases h
  obtain ⟨hok, hmk⟩ := M.tchk_zeroP hE
  obtain ⟨N, T, rfl, rfl, hi, hN1, hN2, hNT, hNp⟩ := M.okS_nat hok
  rw [Int.toNat_natCast] at hmk
  obtain ⟨h3, hp5⟩ := M.pos_of hi
  have WH := Lib.hid fun w (b : Below W.heap.size W w) => tWhole_any P T N v m w hn1 hn2 (hm.below b) hE
  have RC := Lib.hid fun w (b : Below W.heap.size W w) => rtcheck_any P N T v m w hP hn1 hn2 ht1 ht2 (hm.below b)
  rw [hE] at RC
  have hw1 : IntKind.i64.wrap ((T : Int) + 1) = (T : Int) + 1 := by rw [IntKind.wrap_i64]; omega
  have WZ := Lib.hid fun w (b : Below W.heap.size W w) => within_any P vz z w (hz.below b) (c := 0) (by rw [hwz]; rfl)
  have WQ := Lib.hid fun w (b : Below W.heap.size W w) => within_any P vq q w (hq.below b) (c := 0) (by rw [hwq]; rfl)
  simp only [Int.toNat_natCast] at hzl hql
  have hf0 := hmk.lt 0 (by omega)
  have hf0l := hmk.rows 0 (by omega)
  have hwd := M.whole_deg hmk
  have hww : M.within P (M.wholeK P m (T + 1)) = true := M.wholeK_within (by omega) m _
  have hw0 : M.pev P (M.wholeK P m (T + 1)) 0 = M.pev P (m.getD 0 []) 0 := by rw [M.wholeK_pev, M.hiK_low]
  obtain ⟨A, cap, rfl, _⟩ := mat_view6 hm
  obtain ⟨bl, ol, rfl, hbl, hcl⟩ := (mat_row hm).2 (by have := hmk.len; omega)
  obtain ⟨A0, k0, ck0, hn0, _⟩ := hcl 0 (by have := hmk.len; omega)
  rw [Nat.add_zero] at ck0
  have hm0 : 0 < m.length := by have := hmk.len; omega
  obtain ⟨f0, ef0⟩ : ∃ f0, f0 = m.getD 0 [] := ⟨_, rfl⟩
  rw [← ef0] at hf0 hf0l hw0 ck0 hn0
  obtain ⟨ww, eww⟩ : ∃ ww, ww = M.wholeK P m (T + 1) := ⟨_, rfl⟩
  rw [← eww] at WH hwd hww hw0
  have hpq : M.within P (M.pmul P z q) = true := M.poly_within (by omega) _ _
  have hpql : (M.pmul P z q).length ≤ 20 := Nat.le_trans (M.poly_len _ _ _) (by omega)
  have hall : M.within P (M.padd P (M.pmul P z q) ww) = true := M.poly_within (by omega) _ _
  have hlen1 := M.masked_len (p := P) hzl hql hwd
  have hzero := M.masked_zero (p := P) (by omega) (Z := z) (Q := q) (w := ww) hf0 hw0
  have RMU := Lib.hid fun w (b : Below W.heap.size W w) => rmul_any P vz vq z q w (by omega) hp5 hwz hwq (by omega) (by omega) (hz.below b) (hq.below b)
  have RAD := Lib.hid fun w V V2 (h1 : Nums w V (M.pmul P z q)) (h2 : Nums w V2 ww) => radd_any P V V2 (M.pmul P z q) ww w (by omega) hp5 hpq hww (by omega) (by omega) h1 h2
  obtain ⟨al, eal⟩ : ∃ al, al = M.padd P (M.pmul P z q) ww := ⟨_, rfl⟩
  rw [← eal] at RAD hall hlen1 hzero
  have EVA := Lib.hid fun w v (h : Nums w v al) => (show Calls Try.prog 32 #[.int .u64 P, v, .int .u64 0] w _ from reval_any P 0 v al w (by omega) hp5 (by omega) hall h)
  obtain ⟨a0, ea0⟩ : ∃ a0, a0 = M.pev P al 0 := ⟨_, rfl⟩
  rw [← ea0] at EVA hzero
  have ha0 : a0 < P := by rw [ea0]; exact Nat.mod_lt _ (by omega)
  have hdeg := M.masked_deg (p := P) a0 f0
  have hs0 : M.within P [a0] = true := by simp [M.within, ha0]
  have RSU := Lib.hid fun w V V2 (h1 : Nums w V [a0]) (h2 : Nums w V2 f0) => rsub_any P V V2 [a0] f0 w (by omega) hp5 hs0 hf0 (by simp) (by omega) h1 h2
  have hzzw : M.within P (M.psub P [a0] f0) = true := M.poly_within (by omega) _ _
  obtain ⟨zz, ezz⟩ : ∃ zz, zz = M.psub P [a0] f0 := ⟨_, rfl⟩
  rw [← ezz] at RSU hdeg hzero hzzw
  have EVZZ := Lib.hid fun w v (h : Nums w v zz) => (show Calls Try.prog 32 #[.int .u64 P, v, .int .u64 0] w _ from reval_any P 0 v zz w (by omega) hp5 (by omega) hzzw h)
  have EVZ := Lib.hid fun w v (h : Nums w v z) => (show Calls Try.prog 32 #[.int .u64 P, v, .int .u64 0] w _ from reval_any P 0 v z w (by omega) hp5 (by omega) hwz h)
  have EVQ := Lib.hid fun w v (h : Nums w v q) => (show Calls Try.prog 32 #[.int .u64 P, v, .int .u64 0] w _ from reval_any P 0 v q w (by omega) hp5 (by omega) hwq h)
  obtain ⟨pz, epz⟩ : ∃ pz, pz = M.pev P z 0 := ⟨_, rfl⟩
  obtain ⟨pq, epq⟩ : ∃ pq, pq = M.pev P q 0 := ⟨_, rfl⟩
  rw [hzero, ← epz, ← epq] at EVZZ
  rw [← epz] at EVZ
  rw [← epq] at EVQ
  have hpz : pz < P := by rw [epz]; exact Nat.mod_lt _ (by omega)
  have hpq2 : pq < P := by rw [epq]; exact Nat.mod_lt _ (by omega)
  have MU := Lib.hid fun w => refMul_any P pz pq w (by omega) hp5 hpz hpq2
  obtain ⟨pr, epr⟩ : ∃ pr, pr = pz * pq % P := ⟨_, rfl⟩
  rw [← epr] at EVZZ MU
  have TR := Lib.hid fun w v (h : Nums w v f0) => rtrim_any v f0 w h
  obtain ⟨tf, etf⟩ : ∃ tf, tf = M.trim f0 := ⟨_, rfl⟩
  rw [← etf] at TR hdeg
  have LC := Lib.hid fun w (b : Below W.heap.size W w) => (b.cell (p := ⟨bl, ol, none⟩) hbl).trans ck0
  obtain ⟨L0, eL0⟩ : ∃ L0, L0 = f0.length := ⟨_, rfl⟩
  rw [← eL0] at LC hn0
  have N0 := Lib.hid hn0
  have NZ := Lib.hid hz
  have NQ := Lib.hid hq
  have HD1 := Lib.hid hlen1
  have HD2 := Lib.hid hdeg
  have HA0 := Lib.hid ha0
  obtain ⟨Az, cz, rfl⟩ := nums_slice' hz
  obtain ⟨Aq, cq, rfl⟩ := nums_slice' hq
  obtain ⟨ZL, eZL⟩ : ∃ ZL, ZL = z.length := ⟨_, rfl⟩
  obtain ⟨QL, eQL⟩ : ∃ QL, QL = q.length := ⟨_, rfl⟩
  rw [← eZL] at WZ NZ RMU
  rw [← eQL] at WQ NQ RMU
  rw [← eZL, ← eQL]
  have hd1 : decide ((ZL : Int) > (T : Int) + 1) = false := by rw [decide_eq_false_iff_not]; omega
  have hd2 : decide ((QL : Int) > (T : Int) + 1) = false := by rw [decide_eq_false_iff_not]; omega
  have S0 := SC.start W P N T Az Aq ZL cz QL cq
  obtain ⟨x0, x1, x2, x3, x4⟩ := (⟨S0.c0, S0.c1, S0.c2, S0.d0, S0.d1⟩ : _ ∧ _ ∧ _ ∧ _ ∧ _)
  clear hm hz hq hE hok hmk hi eww eZL eQL hwz hwq hzl hql hf0 hf0l hwd hww hw0 hcl ck0 hn0 ef0 hpq hpql hall hlen1 hzero eal ea0 ha0 hdeg hs0 hzzw ezz epz epq hpz hpq2 epr etf eL0
  unfold suV at WH RC ⊢
  go_enter Try.func10, Try.ntmps10
  go_wp2_with fail
  (with_reducible refine (WH.out _ S0.below).mono ?_)
  rintro e w1 ⟨v1, rfl, hn, hb⟩
  have S1 := S0.next hb
  clear x0 x1 x2 x3 x4
  have NW := Lib.hid hn
  obtain ⟨A1, k1, rfl⟩ := nums_slice' hn
  clear hn
  clear hb
  obtain ⟨x0, x1, x2, x3, x4⟩ := (⟨S1.c0, S1.c1, S1.c2, S1.d0, S1.d1⟩ : _ ∧ _ ∧ _ ∧ _ ∧ _)
  go_wp2_with fail
  (with_reducible refine (WZ.out _ S1.below).mono ?_)
  rintro e w' ⟨rfl, rfl⟩
  go_wp2_with fail
  (with_reducible refine (WQ.out _ S1.below).mono ?_)
  rintro e w' ⟨rfl, rfl⟩
  go_wp2_with fail
  go_region_held3 (fun w' => w'.cell? ⟨W.heap.size, 0, none⟩ = some (.int .u64 (P : Nat)) ∧ w'.cell? ⟨W.heap.size, 1, none⟩ = some (.int .i64 (N : Nat)) ∧ w'.cell? ⟨W.heap.size, 2, none⟩ = some (.int .i64 (T : Nat)) ∧ w'.cell? ⟨W.heap.size + 1, 0, none⟩ = some (.slice Az ZL cz) ∧ w'.cell? ⟨W.heap.size + 1, 1, none⟩ = some (.slice Aq QL cq))
    (first | exact ⟨S3.c0, S3.c1, S3.c2, S3.d0, S3.d1⟩ | exact ⟨S2.c0, S2.c1, S2.c2, S2.d0, S2.d1⟩ | exact ⟨S1.drew.c0, S1.drew.c1, S1.drew.c2, S1.drew.d0, S1.drew.d1⟩ | go_keep)
    (first | (go_at_call 40; (with_reducible refine (RMU.out _ (S1.drew).below).mono ?_); rintro e w2 ⟨v2, rfl, hn2, hb2⟩; have S2 := (S1.drew).next hb2) | (go_at_call 39; (with_reducible refine (RAD.out _ _ _ hn2 ((NW.out.below (Below.refl _ _).drew).below hb2)).mono ?_); rintro e w3 ⟨v3, rfl, hn3, hb3⟩; have S3 := (S2).next hb3))
  clear x0 x1 x2 x3 x4
  have NA := Lib.hid hn3
  obtain ⟨A3, k3, rfl⟩ := nums_slice' hn3
  clear hn2 hn3 hb2 hb3
  obtain ⟨x0, x1, x2, x3, x4⟩ := (⟨S3.c0, S3.c1, S3.c2, S3.d0, S3.d1⟩ : _ ∧ _ ∧ _ ∧ _ ∧ _)
  have y0 := LC.out _ S3.below
  have S3a := (S3.alloc (.cells #[.int .u64 (a0 : Nat)] 22)).drew
  have N1 := Lib.hid ((nums1 w3 a0 (by have := HA0.out; omega)).below (Below.refl _ _).drew)
  have NF := Lib.hid (N0.out.below S3a.below)
  have NA4 := Lib.hid ((NA.out.below (balloc w3 (.cells #[.int .u64 (a0 : Nat)] 22))).below (Below.refl _ _).drew)
  go_wp2_with fail
  go_region_held3 (fun w' => w'.cell? ⟨W.heap.size, 0, none⟩ = some (.int .u64 (P : Nat)) ∧ w'.cell? ⟨W.heap.size, 1, none⟩ = some (.int .i64 (N : Nat)) ∧ w'.cell? ⟨W.heap.size, 2, none⟩ = some (.int .i64 (T : Nat)) ∧ w'.cell? ⟨W.heap.size + 1, 0, none⟩ = some (.slice Az ZL cz) ∧ w'.cell? ⟨W.heap.size + 1, 1, none⟩ = some (.slice Aq QL cq) ∧ w'.cell? ⟨bl, ol, none⟩ = some (.slice A0 L0 k0))
    (first | exact ⟨S4.c0, S4.c1, S4.c2, S4.d0, S4.d1, LC.out _ S4.below⟩ | exact ⟨S3a.c0, S3a.c1, S3a.c2, S3a.d0, S3a.d1, LC.out _ S3a.below⟩ | exact ⟨S3.drew.c0, S3.drew.c1, S3.drew.c2, S3.drew.d0, S3.drew.d1, LC.out _ S3.drew.below⟩ | go_keep)
    (first | (go_at_call 32; (with_reducible refine (EVA.out _ _ (NA.out.below (Below.refl _ _).drew)).mono ?_); rintro e w' ⟨rfl, rfl⟩) | (go_at_call 41; (with_reducible refine (RSU.out _ _ _ N1.out NF.out).mono ?_); rintro e w4 ⟨v4, rfl, hn4, hb4⟩; have S4 := (S3a).next hb4))
  clear x0 x1 x2 x3 x4 y0
  have NZZ := Lib.hid hn4
  have NA5 := Lib.hid (NA4.out.below hb4)
  obtain ⟨A4, k4, rfl⟩ := nums_slice' hn4
  clear hn4 hb4 S3a
  obtain ⟨x0, x1, x2, x3, x4⟩ := (⟨S4.c0, S4.c1, S4.c2, S4.d0, S4.d1⟩ : _ ∧ _ ∧ _ ∧ _ ∧ _)
  have y0 := LC.out _ S4.below
  obtain ⟨ZZL, eZZL⟩ : ∃ ZZL, ZZL = zz.length := ⟨_, rfl⟩
  obtain ⟨ALL, eALL⟩ : ∃ ALL, ALL = al.length := ⟨_, rfl⟩
  obtain ⟨TFL, eTFL⟩ : ∃ TFL, TFL = tf.length := ⟨_, rfl⟩
  have hq1 := HD1.out
  have hq2 := HD2.out
  rw [← eALL] at hq1
  rw [← eZZL, ← eTFL] at hq2
  rw [← eZZL] at NZZ ⊢
  rw [← eALL]
  have hw2 : IntKind.i64.wrap (2 * (T : Int)) = 2 * (T : Int) := by rw [IntKind.wrap_i64]; omega
  have hw3 : IntKind.i64.wrap (2 * (T : Int) + 1) = 2 * (T : Int) + 1 := by rw [IntKind.wrap_i64]; omega
  have hdw : decide ((ALL : Int) ≤ 2 * (T : Int) + 1) = true := by rw [decide_eq_true_eq]; omega
  have hdz : decide ((ZZL : Int) ≤ max 1 (TFL : Int)) = true := by rw [decide_eq_true_eq]; omega
  have hrr : ((pr : Int) == (pr : Int)) = true := by simp
  have ETF := Lib.hid eTFL
  clear eZZL eALL eTFL hq1 hq2
  have C1 := Lib.hid (EVZZ.out _ _ (NZZ.out.below (Below.refl _ _).drew))
  have C2 := Lib.hid (EVZ.out _ _ (NZ.out.below S4.drew.below))
  have C3 := Lib.hid (EVQ.out _ _ (NQ.out.below S4.drew.below))
  have C4 := Lib.hid (TR.out _ _ (N0.out.below S4.drew.below))
  go_wp2_with fail
  go_region_held3 (fun w' => w'.cell? ⟨W.heap.size, 0, none⟩ = some (.int .u64 (P : Nat)) ∧ w'.cell? ⟨W.heap.size, 1, none⟩ = some (.int .i64 (N : Nat)) ∧ w'.cell? ⟨W.heap.size, 2, none⟩ = some (.int .i64 (T : Nat)) ∧ w'.cell? ⟨W.heap.size + 1, 0, none⟩ = some (.slice Az ZL cz) ∧ w'.cell? ⟨W.heap.size + 1, 1, none⟩ = some (.slice Aq QL cq) ∧ w'.cell? ⟨bl, ol, none⟩ = some (.slice A0 L0 k0))
    (first | exact ⟨S6.c0, S6.c1, S6.c2, S6.d0, S6.d1, LC.out _ S6.below⟩ | exact ⟨S5.c0, S5.c1, S5.c2, S5.d0, S5.d1, LC.out _ S5.below⟩ | exact ⟨S4.drew.c0, S4.drew.c1, S4.drew.c2, S4.drew.d0, S4.drew.d1, LC.out _ S4.drew.below⟩ | go_keep)
    (first | (go_at_call 32; (with_reducible refine (C1.out).mono ?_); rintro e w' ⟨rfl, rfl⟩) | (go_at_call 32; (with_reducible refine (C2.out).mono ?_); rintro e w' ⟨rfl, rfl⟩) | (go_at_call 32; (with_reducible refine (C3.out).mono ?_); rintro e w' ⟨rfl, rfl⟩) | (go_at_call 42; (with_reducible refine (MU.out _).mono ?_); rintro e w' ⟨rfl, rfl⟩) | (go_at_call 43; (with_reducible refine (C4.out).mono ?_); rintro e w5 ⟨v5, rfl, hn5, hb5⟩; have S5 := (S4.drew).next hb5; obtain ⟨A5, k5, rfl⟩ := nums_slice' hn5; rw [← ETF.out]) | (go_at_call 16; (with_reducible refine (alive7_any _).mono ?_); rintro e w6 ⟨rfl, hb6⟩; have S6 := (S5).next hb6))
  clear x0 x1 x2 x3 x4 y0
  obtain ⟨x0, x1, x2, x3, x4⟩ := (⟨S6.c0, S6.c1, S6.c2, S6.d0, S6.d1⟩ : _ ∧ _ ∧ _ ∧ _ ∧ _)
  have y0 := LC.out _ S6.below
  go_wp2_with fail
  go_ret
  exact ⟨rfl, S6.below⟩

theorem walk (W : World) (P : Nat) (n t : Int) (hP : P < 18446744073709551616) (hn1 : -9223372036854775808 ≤ n) (hn2 : n ≤ 9223372036854775807) (ht1 : -9223372036854775808 ≤ t) (ht2 : t ≤ 9223372036854775807) (v : Value) (m : List (List Nat)) (hm : Mat W v m) (vz : Value) (z : List Nat) (vq : Value) (q : List Nat) (hz : Nums W vz z) (hq : Nums W vq q) :
    Calls Try.prog 10 #[suV P n t, v, .agg #[vz, vq]] W fun e w' => e = .returned (.bool true) ∧ Below W.heap.size W w' := by
  by_cases hE : M.tchk P n t m = 0
  · by_cases hzl : z.length ≤ t.toNat + 1
    · by_cases hql : q.length ≤ t.toNat + 1
      · cases hwz : M.within P z with
        | false => exact zout W P n t hP hn1 hn2 ht1 ht2 v m hm vz z vq q hz hq hE hzl hql hwz
        | true =>
          cases hwq : M.within P q with
          | false => exact qout W P n t hP hn1 hn2 ht1 ht2 v m hm vz z vq q hz hq hE hzl hql hwz hwq
          | true => exact good W P n t hP hn1 hn2 ht1 ht2 v m hm vz z vq q hz hq hE hzl hql hwz hwq
      · exact qlong W P n t hP hn1 hn2 ht1 ht2 v m hm vz z vq q hz hq hE hzl (by omega)
    · exact zlong W P n t hP hn1 hn2 ht1 ht2 v m hm vz z vq q hz hq hE (by omega)
  · exact no W P n t hP hn1 hn2 ht1 ht2 v m hm vz z vq q hz hq hE
end twiceProductW
end Go.Proofs.Ytfkepkdfpjaniaa
