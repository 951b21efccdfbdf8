/-
  The walk of TwiceValues: Low, High and Whole against the reference's.
-/
import Derived.Test.YtfkepkdfpjaniaaSb7
import Derived.Test.YtfkepkdfpjaniaaTr2
namespace Go.Proofs.Ytfkepkdfpjaniaa
open Go.RowKit
set_option linter.unusedVariables false
set_option maxRecDepth 100000

theorem M.tchk_zeroV {p : Nat} {n t : Int} {m : List (List Nat)} (h : M.tchk p n t m = 0) : M.okS p n t = true ∧ M.TOk p (t.toNat + 1) m := by
  unfold M.tchk at h
  split at h
  · rename_i h1; exact ⟨h1, M.mform_zero h⟩
  · cases h
namespace twiceValuesW
set_option maxHeartbeats 2000000 in
theorem no (W : World) (P : Nat) (n t : Int) (hP : P < 18446744073709551616) (hn1 : -9223372036854775808 ≤ n) (hn2 : n ≤ 9223372036854775807) (ht1 : -9223372036854775808 ≤ t) (ht2 : t ≤ 9223372036854775807) (v : Value) (m : List (List Nat)) (hm : Mat W v m) (x : Nat) (hx : x < 18446744073709551616) (hE : M.tchk P n t m ≠ 0) :
    Calls Try.prog 5 #[suV P n t, v, .int .u64 x] W fun e w' => e = .returned (.bool true) ∧ Below W.heap.size W w' := by
  have hud : ∀ b : Bool, undef ≠ Value.bool b := fun b h => by cases h
  have LO := Lib.hid fun w (b : Below W.heap.size W w) => tlow_bad P x n t v m w hP hn1 hn2 ht1 ht2 (hm.below b) hE
  have HI := Lib.hid fun w (b : Below W.heap.size W w) => thigh_bad P x n t v m w hP hn1 hn2 ht1 ht2 (hm.below b) hE
  have WH := Lib.hid fun w (b : Below W.heap.size W w) => tWhole_bad P n t v m w hP hn1 hn2 ht1 ht2 (hm.below b) hE
  have RC := Lib.hid fun w (b : Below W.heap.size W w) => rtcheck_any P n t v m w hP hn1 hn2 ht1 ht2 (hm.below b)
  obtain ⟨c, ec⟩ : ∃ c, c = M.tchk P n t m := ⟨_, rfl⟩
  rw [← ec] at LO HI WH RC hE
  have hcb : (c != 0) = true := by rw [bne_iff_ne]; exact hE
  have HC := Lib.hid hE
  obtain ⟨A, cap, rfl, _⟩ := mat_view6 hm
  have S0 := SB.start W P n t
  obtain ⟨x0, x1, x2⟩ := (⟨S0.c0, S0.c1, S0.c2⟩ : _ ∧ _ ∧ _)
  clear hm ec hE
  unfold suV at LO HI WH RC ⊢
  go_enter Try.func5, Try.ntmps5
  go_wp2_with fail
  (with_reducible refine (LO.out _ S0.below).mono ?_)
  rintro e w1 ⟨rfl, hb⟩
  have S1 := S0.next hb
  clear hb x0 x1 x2
  obtain ⟨x0, x1, x2⟩ := (⟨S1.c0, S1.c1, S1.c2⟩ : _ ∧ _ ∧ _)
  go_wp2_with fail
  (with_reducible refine (HI.out _ S1.below).mono ?_)
  rintro e w2 ⟨rfl, hb⟩
  have S2 := S1.next hb
  clear hb x0 x1 x2
  obtain ⟨x0, x1, x2⟩ := (⟨S2.c0, S2.c1, S2.c2⟩ : _ ∧ _ ∧ _)
  go_wp2_with fail
  (with_reducible refine (WH.out _ S2.below).mono ?_)
  rintro e w3 ⟨rfl, hb⟩
  have S3 := S2.next hb
  clear hb x0 x1 x2
  obtain ⟨x0, x1, x2⟩ := (⟨S3.c0, S3.c1, S3.c2⟩ : _ ∧ _ ∧ _)
  go_wp2_with fail
  (with_reducible refine (RC.out _ S3.below).mono ?_)
  rintro e w4 ⟨rfl, hb⟩
  have S4 := S3.next hb
  clear hb x0 x1 x2
  obtain ⟨x0, x1, x2⟩ := (⟨S4.c0, S4.c1, S4.c2⟩ : _ ∧ _ ∧ _)
  go_wp2_with fail
  (with_reducible refine (number7_bad c 0 _ HC.out).mono ?_)
  rintro e w' ⟨rfl, rfl⟩
  go_wp2_with fail
  (with_reducible refine (number7_bad c 0 _ HC.out).mono ?_)
  rintro e w' ⟨rfl, rfl⟩
  go_wp2_with fail
  (with_reducible refine (list7_bad c (.slice none 0 0) _ HC.out ⟨_, _, _, rfl⟩).mono ?_)
  rintro e w' ⟨rfl, rfl⟩
  go_wp2_with fail
  (with_reducible refine (alive7_any _).mono ?_)
  rintro e w5 ⟨rfl, hb⟩
  have S5 := S4.next hb
  clear hb x0 x1 x2
  obtain ⟨x0, x1, x2⟩ := (⟨S5.c0, S5.c1, S5.c2⟩ : _ ∧ _ ∧ _)
  go_wp2_with fail
  go_ret
  exact ⟨rfl, S5.below⟩

set_option maxHeartbeats 2000000 in
theorem far (W : World) (P : Nat) (n t : Int) (hP : P < 18446744073709551616) (hn1 : -9223372036854775808 ≤ n) (hn2 : n ≤ 9223372036854775807) (ht1 : -9223372036854775808 ≤ t) (ht2 : t ≤ 9223372036854775807) (v : Value) (m : List (List Nat)) (hm : Mat W v m) (x : Nat) (hx : x < 18446744073709551616) (hE : M.tchk P n t m = 0) (hge : P ≤ x) :
    Calls Try.prog 5 #[suV P n t, v, .int .u64 x] W fun e w' => e = .returned (.bool true) ∧ Below W.heap.size W w' := by
  have hud : ∀ b : Bool, undef ≠ Value.bool b := fun b h => by cases h
  obtain ⟨hok, hmk⟩ := M.tchk_zeroV hE
  obtain ⟨N, T, rfl, rfl, hi, hN1, hN2, hNT, hNp⟩ := M.okS_nat hok
  rw [Int.toNat_natCast] at hmk
  obtain ⟨h3, hp5⟩ := M.pos_of hi
  have LO := Lib.hid fun w (b : Below W.heap.size W w) => tlow_any P T x N v m w hn1 hn2 hx (hm.below b) hE
  have HI := Lib.hid fun w (b : Below W.heap.size W w) => thigh_any P T x N v m w hn1 hn2 hx (hm.below b) hE
  have WH := Lib.hid fun w (b : Below W.heap.size W w) => tWhole_any P T N v m w hn1 hn2 (hm.below b) hE
  have RC := Lib.hid fun w (b : Below W.heap.size W w) => rtcheck_any P N T v m w hP hn1 hn2 ht1 ht2 (hm.below b)
  rw [hE] at RC
  have RW := Lib.hid fun w (b : Below W.heap.size W w) => rwhole_any P T N v m w h3 hp5 (by omega) hmk (hm.below b)
  unfold AtEnd at LO HI
  obtain ⟨ww, eww⟩ : ∃ ww, ww = M.wholeK P m (T + 1) := ⟨_, rfl⟩
  rw [← eww] at WH RW HI
  obtain ⟨A0, eA0⟩ : ∃ A0, A0 = M.pev P (m.getD 0 []) x := ⟨_, rfl⟩
  obtain ⟨B0, eB0⟩ : ∃ B0, B0 = M.pev P ww x := ⟨_, rfl⟩
  rw [← eA0] at LO
  rw [← eB0] at HI
  have hd : decide ((x : Int) ≥ (P : Int)) = true := by rw [decide_eq_true_eq]; omega
  have HX := Lib.hid hge
  obtain ⟨A, cap, rfl, _⟩ := mat_view6 hm
  have S0 := SB.start W P N T
  obtain ⟨x0, x1, x2⟩ := (⟨S0.c0, S0.c1, S0.c2⟩ : _ ∧ _ ∧ _)
  clear hm hmk hok hE hi eww eA0 eB0
  unfold suV at LO HI WH RC RW ⊢
  go_enter Try.func5, Try.ntmps5
  go_wp2_with fail
  (with_reducible refine (LO.out _ S0.below).mono ?_)
  rintro e w1 ⟨⟨h, _⟩ | ⟨-, rfl⟩, hb⟩
  case inl => exact absurd h (by have := HX.out; omega)
  have S1 := S0.next hb
  clear hb x0 x1 x2
  obtain ⟨x0, x1, x2⟩ := (⟨S1.c0, S1.c1, S1.c2⟩ : _ ∧ _ ∧ _)
  go_wp2_with fail
  (with_reducible refine (HI.out _ S1.below).mono ?_)
  rintro e w2 ⟨⟨h, _⟩ | ⟨-, rfl⟩, hb⟩
  case inl => exact absurd h (by have := HX.out; omega)
  have S2 := S1.next hb
  clear hb x0 x1 x2
  obtain ⟨x0, x1, x2⟩ := (⟨S2.c0, S2.c1, S2.c2⟩ : _ ∧ _ ∧ _)
  go_wp2_with fail
  (with_reducible refine (WH.out _ S2.below).mono ?_)
  rintro e w3 ⟨v3, rfl, hn, hb⟩
  have S3 := S2.next hb
  have HN := Lib.hid hn
  obtain ⟨A3, c3, rfl⟩ := nums_slice' hn
  clear hn
  clear hb x0 x1 x2
  obtain ⟨x0, x1, x2⟩ := (⟨S3.c0, S3.c1, S3.c2⟩ : _ ∧ _ ∧ _)
  go_wp2_with fail
  (with_reducible refine (RC.out _ S3.below).mono ?_)
  rintro e w4 ⟨rfl, hb⟩
  have S4 := S3.next hb
  have HN4 := Lib.hid (HN.out.below hb)
  clear hb x0 x1 x2
  obtain ⟨x0, x1, x2⟩ := (⟨S4.c0, S4.c1, S4.c2⟩ : _ ∧ _ ∧ _)
  go_wp2_with fail
  (with_reducible refine (RW.out _ S4.below).mono ?_)
  rintro e w5 ⟨v5, rfl, hn, hb⟩
  have S5 := S4.next hb
  have HN5 := Lib.hid (HN4.out.below hb)
  have HN6 := Lib.hid hn
  obtain ⟨A6, c6, rfl⟩ := nums_slice' hn
  clear hn
  clear hb x0 x1 x2
  obtain ⟨x0, x1, x2⟩ := (⟨S5.c0, S5.c1, S5.c2⟩ : _ ∧ _ ∧ _)
  go_wp2_with fail
  (with_reducible refine (list7_good _ _ ww _ HN5.out HN6.out).mono ?_)
  rintro e w6 ⟨rfl, hb⟩
  have S6 := S5.next hb
  clear hb x0 x1 x2
  obtain ⟨x0, x1, x2⟩ := (⟨S6.c0, S6.c1, S6.c2⟩ : _ ∧ _ ∧ _)
  go_wp2_with fail
  (with_reducible refine (number7_bad 2 0 _ (by decide)).mono ?_)
  rintro e w' ⟨rfl, rfl⟩
  go_wp2_with fail
  (with_reducible refine (number7_bad 2 0 _ (by decide)).mono ?_)
  rintro e w' ⟨rfl, rfl⟩
  go_wp2_with fail
  go_ret
  exact ⟨rfl, S6.below⟩

set_option maxHeartbeats 2000000 in
theorem good (W : World) (P : Nat) (n t : Int) (hP : P < 18446744073709551616) (hn1 : -9223372036854775808 ≤ n) (hn2 : n ≤ 9223372036854775807) (ht1 : -9223372036854775808 ≤ t) (ht2 : t ≤ 9223372036854775807) (v : Value) (m : List (List Nat)) (hm : Mat W v m) (x : Nat) (hx : x < 18446744073709551616) (hE : M.tchk P n t m = 0) (hlt : x < P) :
    Calls Try.prog 5 #[suV P n t, v, .int .u64 x] W fun e w' => e = .returned (.bool true) ∧ Below W.heap.size W w' := by
  have hud : ∀ b : Bool, undef ≠ Value.bool b := fun b h => by cases h
  obtain ⟨hok, hmk⟩ := M.tchk_zeroV hE
  obtain ⟨N, T, rfl, rfl, hi, hN1, hN2, hNT, hNp⟩ := M.okS_nat hok
  rw [Int.toNat_natCast] at hmk
  obtain ⟨h3, hp5⟩ := M.pos_of hi
  have LO := Lib.hid fun w (b : Below W.heap.size W w) => tlow_any P T x N v m w hn1 hn2 hx (hm.below b) hE
  have HI := Lib.hid fun w (b : Below W.heap.size W w) => thigh_any P T x N v m w hn1 hn2 hx (hm.below b) hE
  have WH := Lib.hid fun w (b : Below W.heap.size W w) => tWhole_any P T N v m w hn1 hn2 (hm.below b) hE
  have RC := Lib.hid fun w (b : Below W.heap.size W w) => rtcheck_any P N T v m w hP hn1 hn2 ht1 ht2 (hm.below b)
  rw [hE] at RC
  have RW := Lib.hid fun w (b : Below W.heap.size W w) => rwhole_any P T N v m w h3 hp5 (by omega) hmk (hm.below b)
  unfold AtEnd at LO HI
  have RL := Lib.hid fun w (b : Below W.heap.size W w) => rlow_any P T x N v m w h3 hp5 hlt hmk (hm.below b)
  have RH := Lib.hid fun w (b : Below W.heap.size W w) => rhigh_any P T x N v m w h3 hp5 (by omega) hlt hmk (hm.below b)
  rw [← M.wholeK_pev] at RH
  obtain ⟨ww, eww⟩ : ∃ ww, ww = M.wholeK P m (T + 1) := ⟨_, rfl⟩
  rw [← eww] at WH RW HI RH
  obtain ⟨A0, eA0⟩ : ∃ A0, A0 = M.pev P (m.getD 0 []) x := ⟨_, rfl⟩
  obtain ⟨B0, eB0⟩ : ∃ B0, B0 = M.pev P ww x := ⟨_, rfl⟩
  rw [← eA0] at LO RL
  rw [← eB0] at HI RH
  have hd : decide ((x : Int) ≥ (P : Int)) = false := by rw [decide_eq_false_iff_not]; omega
  have HX := Lib.hid hlt
  obtain ⟨A, cap, rfl, _⟩ := mat_view6 hm
  have S0 := SB.start W P N T
  obtain ⟨x0, x1, x2⟩ := (⟨S0.c0, S0.c1, S0.c2⟩ : _ ∧ _ ∧ _)
  clear hm hmk hok hE hi eww eA0 eB0
  unfold suV at LO HI WH RC RW RL RH ⊢
  go_enter Try.func5, Try.ntmps5
  go_wp2_with fail
  (with_reducible refine (LO.out _ S0.below).mono ?_)
  rintro e w1 ⟨⟨-, rfl⟩ | ⟨h, _⟩, hb⟩
  case inr => exact absurd h (by have := HX.out; omega)
  have S1 := S0.next hb
  clear hb x0 x1 x2
  obtain ⟨x0, x1, x2⟩ := (⟨S1.c0, S1.c1, S1.c2⟩ : _ ∧ _ ∧ _)
  go_wp2_with fail
  (with_reducible refine (HI.out _ S1.below).mono ?_)
  rintro e w2 ⟨⟨-, rfl⟩ | ⟨h, _⟩, hb⟩
  case inr => exact absurd h (by have := HX.out; omega)
  have S2 := S1.next hb
  clear hb x0 x1 x2
  obtain ⟨x0, x1, x2⟩ := (⟨S2.c0, S2.c1, S2.c2⟩ : _ ∧ _ ∧ _)
  go_wp2_with fail
  (with_reducible refine (WH.out _ S2.below).mono ?_)
  rintro e w3 ⟨v3, rfl, hn, hb⟩
  have S3 := S2.next hb
  have HN := Lib.hid hn
  obtain ⟨A3, c3, rfl⟩ := nums_slice' hn
  clear hn
  clear hb x0 x1 x2
  obtain ⟨x0, x1, x2⟩ := (⟨S3.c0, S3.c1, S3.c2⟩ : _ ∧ _ ∧ _)
  go_wp2_with fail
  (with_reducible refine (RC.out _ S3.below).mono ?_)
  rintro e w4 ⟨rfl, hb⟩
  have S4 := S3.next hb
  have HN4 := Lib.hid (HN.out.below hb)
  clear hb x0 x1 x2
  obtain ⟨x0, x1, x2⟩ := (⟨S4.c0, S4.c1, S4.c2⟩ : _ ∧ _ ∧ _)
  go_wp2_with fail
  (with_reducible refine (RW.out _ S4.below).mono ?_)
  rintro e w5 ⟨v5, rfl, hn, hb⟩
  have S5 := S4.next hb
  have HN5 := Lib.hid (HN4.out.below hb)
  have HN6 := Lib.hid hn
  obtain ⟨A6, c6, rfl⟩ := nums_slice' hn
  clear hn
  clear hb x0 x1 x2
  obtain ⟨x0, x1, x2⟩ := (⟨S5.c0, S5.c1, S5.c2⟩ : _ ∧ _ ∧ _)
  go_wp2_with fail
  (with_reducible refine (list7_good _ _ ww _ HN5.out HN6.out).mono ?_)
  rintro e w6 ⟨rfl, hb⟩
  have S6 := S5.next hb
  clear hb x0 x1 x2
  obtain ⟨x0, x1, x2⟩ := (⟨S6.c0, S6.c1, S6.c2⟩ : _ ∧ _ ∧ _)
  go_wp2_with fail
  (with_reducible refine (RL.out _ S6.below).mono ?_)
  rintro e w7 ⟨rfl, hb⟩
  have S7 := S6.next hb
  clear hb x0 x1 x2
  obtain ⟨x0, x1, x2⟩ := (⟨S7.c0, S7.c1, S7.c2⟩ : _ ∧ _ ∧ _)
  go_wp2_with fail
  (with_reducible refine (number7_good _ _).mono ?_)
  rintro e w' ⟨rfl, rfl⟩
  go_wp2_with fail
  (with_reducible refine (RH.out _ S7.below).mono ?_)
  rintro e w8 ⟨rfl, hb⟩
  have S8 := S7.next hb
  clear hb x0 x1 x2
  obtain ⟨x0, x1, x2⟩ := (⟨S8.c0, S8.c1, S8.c2⟩ : _ ∧ _ ∧ _)
  go_wp2_with fail
  (with_reducible refine (number7_good _ _).mono ?_)
  rintro e w' ⟨rfl, rfl⟩
  go_wp2_with fail
  go_ret
  exact ⟨rfl, S8.below⟩

theorem walk (W : World) (P : Nat) (n t : Int) (hP : P < 18446744073709551616) (hn1 : -9223372036854775808 ≤ n) (hn2 : n ≤ 9223372036854775807) (ht1 : -9223372036854775808 ≤ t) (ht2 : t ≤ 9223372036854775807) (v : Value) (m : List (List Nat)) (hm : Mat W v m) (x : Nat) (hx : x < 18446744073709551616) :
    Calls Try.prog 5 #[suV P n t, v, .int .u64 x] W fun e w' => e = .returned (.bool true) ∧ Below W.heap.size W w' := by
  by_cases hE : M.tchk P n t m = 0
  · by_cases hlt : x < P
    · exact good W P n t hP hn1 hn2 ht1 ht2 v m hm x hx hE hlt
    · exact far W P n t hP hn1 hn2 ht1 ht2 v m hm x hx hE (by omega)
  · exact no W P n t hP hn1 hn2 ht1 ht2 v m hm x hx hE
end twiceValuesW
end Go.Proofs.Ytfkepkdfpjaniaa
