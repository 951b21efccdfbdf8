/-
  The walk of TwiceMakes: Make against the numbers of the tape, reduced.
-/
import Derived.Test.YtfkepkdfpjaniaaSb7
import Derived.Test.YtfkepkdfpjaniaaTr3
namespace Go.Proofs.Ytfkepkdfpjaniaa
open Go.RowKit
set_option linter.unusedVariables false
set_option maxRecDepth 100000

namespace twiceMakesW
set_option maxHeartbeats 2000000 in
theorem no (W : World) (P : Nat) (n t : Int) (hP : P < 18446744073709551616) (hn1 : -9223372036854775808 ≤ n) (hn2 : n ≤ 9223372036854775807) (ht1 : -9223372036854775808 ≤ t) (ht2 : t ≤ 9223372036854775807) (s : Nat) (hs : s < 18446744073709551616) (v : Value) (zs : List Nat) (hv : Nums W v zs) (hok : M.okS P n t = false) :
    Calls Try.prog 4 #[suV P n t, .int .u64 s, v] W fun e w' => e = .returned (.bool true) ∧ Below W.heap.size W w' := by
  have hud : ∀ b : Bool, undef ≠ Value.bool b := fun b h => by cases h
  have MK := Lib.hid fun w (b : Below W.heap.size W w) => tmake_setup P s n t v zs w hP hn1 hn2 ht1 ht2 (hv.below b) hok
  have RS := Lib.hid fun w => rsetup_any P n t w hP hn1 hn2 ht1 ht2
  rw [show M.errS P n t = 2 by unfold M.errS; rw [hok]; rfl] at RS
  obtain ⟨A, cap, rfl⟩ := nums_slice' hv
  have S0 := SB.start W P n t
  obtain ⟨x0, x1, x2⟩ := (⟨S0.c0, S0.c1, S0.c2⟩ : _ ∧ _ ∧ _)
  clear hv hok
  unfold suV at MK RS ⊢
  go_enter Try.func4, Try.ntmps4
  go_wp2_with fail
  (with_reducible refine (MK.out _ S0.below).mono ?_)
  rintro e w1 ⟨rfl, hb⟩
  have S1 := S0.next hb
  clear hb x0 x1 x2
  obtain ⟨x0, x1, x2⟩ := (⟨S1.c0, S1.c1, S1.c2⟩ : _ ∧ _ ∧ _)
  go_wp2_with fail
  (with_reducible refine (RS.out _).mono ?_)
  rintro e w2 ⟨rfl, hb⟩
  have S2 := S1.next hb
  clear hb x0 x1 x2
  obtain ⟨x0, x1, x2⟩ := (⟨S2.c0, S2.c1, S2.c2⟩ : _ ∧ _ ∧ _)
  go_wp2_with fail
  (with_reducible refine (is7_bad 2 (.slice none 0 0) _ (by decide) ⟨_, _, _, rfl⟩).mono ?_)
  rintro e w' ⟨rfl, rfl⟩
  go_wp2_with fail
  (with_reducible refine (alive7_any _).mono ?_)
  rintro e w3 ⟨rfl, hb⟩
  have S3 := S2.next hb
  clear hb x0 x1 x2
  obtain ⟨x0, x1, x2⟩ := (⟨S3.c0, S3.c1, S3.c2⟩ : _ ∧ _ ∧ _)
  go_wp2_with fail
  go_ret
  exact ⟨rfl, S3.below⟩

set_option maxHeartbeats 2000000 in
theorem arg (W : World) (P : Nat) (n t : Int) (hP : P < 18446744073709551616) (hn1 : -9223372036854775808 ≤ n) (hn2 : n ≤ 9223372036854775807) (ht1 : -9223372036854775808 ≤ t) (ht2 : t ≤ 9223372036854775807) (s : Nat) (hs : s < 18446744073709551616) (v : Value) (zs : List Nat) (hv : Nums W v zs) (hok : M.okS P n t = true) (hsp : P ≤ s) :
    Calls Try.prog 4 #[suV P n t, .int .u64 s, v] W fun e w' => e = .returned (.bool true) ∧ Below W.heap.size W w' := by
  have hud : ∀ b : Bool, undef ≠ Value.bool b := fun b h => by cases h
  have MK := Lib.hid fun w (b : Below W.heap.size W w) => tmake_arg P s n t v zs w hP hn1 hn2 ht1 ht2 (hv.below b) hok hs hsp
  have RS := Lib.hid fun w => rsetup_any P n t w hP hn1 hn2 ht1 ht2
  rw [show M.errS P n t = 0 by unfold M.errS; rw [hok]; rfl] at RS
  have hd : decide ((s : Int) ≥ (P : Int)) = true := by rw [decide_eq_true_eq]; omega
  obtain ⟨A, cap, rfl⟩ := nums_slice' hv
  have S0 := SB.start W P n t
  obtain ⟨x0, x1, x2⟩ := (⟨S0.c0, S0.c1, S0.c2⟩ : _ ∧ _ ∧ _)
  clear hv hok
  unfold suV at MK RS ⊢
  go_enter Try.func4, Try.ntmps4
  go_wp2_with fail
  (with_reducible refine (MK.out _ S0.below).mono ?_)
  rintro e w1 ⟨rfl, hb⟩
  have S1 := S0.next hb
  clear hb x0 x1 x2
  obtain ⟨x0, x1, x2⟩ := (⟨S1.c0, S1.c1, S1.c2⟩ : _ ∧ _ ∧ _)
  go_wp2_with fail
  (with_reducible refine (RS.out _).mono ?_)
  rintro e w2 ⟨rfl, hb⟩
  have S2 := S1.next hb
  clear hb x0 x1 x2
  obtain ⟨x0, x1, x2⟩ := (⟨S2.c0, S2.c1, S2.c2⟩ : _ ∧ _ ∧ _)
  go_wp2_with fail
  (with_reducible refine (is7_bad 2 (.slice none 0 0) _ (by decide) ⟨_, _, _, rfl⟩).mono ?_)
  rintro e w' ⟨rfl, rfl⟩
  go_wp2_with fail
  (with_reducible refine (alive7_any _).mono ?_)
  rintro e w3 ⟨rfl, hb⟩
  have S3 := S2.next hb
  clear hb x0 x1 x2
  obtain ⟨x0, x1, x2⟩ := (⟨S3.c0, S3.c1, S3.c2⟩ : _ ∧ _ ∧ _)
  go_wp2_with fail
  go_ret
  exact ⟨rfl, S3.below⟩

set_option maxHeartbeats 2000000 in
theorem good (W : World) (P : Nat) (n t : Int) (hP : P < 18446744073709551616) (hn1 : -9223372036854775808 ≤ n) (hn2 : n ≤ 9223372036854775807) (ht1 : -9223372036854775808 ≤ t) (ht2 : t ≤ 9223372036854775807) (s : Nat) (hs : s < 18446744073709551616) (v : Value) (zs : List Nat) (hv : Nums W v zs) (hok : M.okS P n t = true) (hsp : s < P) :
    Calls Try.prog 4 #[suV P n t, .int .u64 s, v] W fun e w' => e = .returned (.bool true) ∧ Below W.heap.size W w' := by
  have hud : ∀ b : Bool, undef ≠ Value.bool b := fun b h => by cases h
  obtain ⟨N, T, rfl, rfl, hi, hN1, hN2, hNT, hNp⟩ := M.okS_nat hok
  obtain ⟨h3, hp5⟩ := M.pos_of hi
  have MK := Lib.hid fun w (b : Below W.heap.size W w) => tmake_any P s T N v zs w hn1 hn2 (hv.below b) hok hsp
  have RS := Lib.hid fun w => rsetup_any P N T w hP hn1 hn2 ht1 ht2
  rw [show M.errS P N T = 0 by unfold M.errS; rw [hok]; rfl] at RS
  have RM := Lib.hid fun w (b : Below W.heap.size W w) => rmake7_any P s T N v zs w h3 hp5 (by omega) hsp (hv.below b)
  have hML : (M.mmade P s T zs T).length ≤ 1000 := by rw [M.mmade_len]; omega
  obtain ⟨mm, emm⟩ : ∃ mm, mm = M.mmade P s T zs T := ⟨_, rfl⟩
  obtain ⟨rs, ers⟩ : ∃ rs, rs = zs.drop (T + T * (T + 1)) := ⟨_, rfl⟩
  rw [← emm, ← ers] at MK RM
  rw [← emm] at hML
  have hd : decide ((s : Int) ≥ (P : Int)) = false := by rw [decide_eq_false_iff_not]; omega
  obtain ⟨A, cap, rfl⟩ := nums_slice' hv
  have S0 := SB.start W P N T
  obtain ⟨x0, x1, x2⟩ := (⟨S0.c0, S0.c1, S0.c2⟩ : _ ∧ _ ∧ _)
  clear hv hok emm ers hi
  unfold suV at MK RS RM ⊢
  go_enter Try.func4, Try.ntmps4
  go_wp2_with fail
  (with_reducible refine (MK.out _ S0.below).mono ?_)
  rintro e w1 ⟨v1, v2, rfl, hm, hn, hb⟩
  have S1 := S0.next hb
  have HM := Lib.hid hm
  have HN := Lib.hid hn
  obtain ⟨A1, c1, rfl, _⟩ := mat_view6 hm
  obtain ⟨A2, c2, rfl⟩ := nums_slice' hn
  clear hm hn
  clear hb x0 x1 x2
  obtain ⟨x0, x1, x2⟩ := (⟨S1.c0, S1.c1, S1.c2⟩ : _ ∧ _ ∧ _)
  go_wp2_with fail
  (with_reducible refine (RS.out _).mono ?_)
  rintro e w2 ⟨rfl, hb⟩
  have S2 := S1.next hb
  have HM2 := Lib.hid (HM.out.below hb)
  have HN2 := Lib.hid (HN.out.below hb)
  clear hb x0 x1 x2
  obtain ⟨x0, x1, x2⟩ := (⟨S2.c0, S2.c1, S2.c2⟩ : _ ∧ _ ∧ _)
  go_wp2_with fail
  (with_reducible refine (RM.out _ S2.below).mono ?_)
  rintro e w3 ⟨v3, v4, rfl, hm, hn, hb⟩
  have S3 := S2.next hb
  have HM3 := Lib.hid (HM2.out.below hb)
  have HN3 := Lib.hid (HN2.out.below hb)
  have HM4 := Lib.hid hm
  have HN4 := Lib.hid hn
  obtain ⟨A3, c3, rfl, _⟩ := mat_view6 hm
  obtain ⟨A4, c4, rfl⟩ := nums_slice' hn
  clear hm hn
  clear hb x0 x1 x2
  obtain ⟨x0, x1, x2⟩ := (⟨S3.c0, S3.c1, S3.c2⟩ : _ ∧ _ ∧ _)
  go_wp2_with fail
  (with_reducible refine (is7_good _ _ mm _ hML HM3.out HM4.out).mono ?_)
  rintro e w4 ⟨rfl, hb⟩
  have S4 := S3.next hb
  have HN5 := Lib.hid (HN3.out.below hb)
  have HN6 := Lib.hid (HN4.out.below hb)
  clear hb x0 x1 x2
  obtain ⟨x0, x1, x2⟩ := (⟨S4.c0, S4.c1, S4.c2⟩ : _ ∧ _ ∧ _)
  go_wp2_with fail
  (with_reducible refine (same_any _ _ rs _ HN5.out HN6.out).mono ?_)
  rintro e w5 ⟨rfl, hb⟩
  have S5 := S4.next hb
  clear hb x0 x1 x2
  obtain ⟨x0, x1, x2⟩ := (⟨S5.c0, S5.c1, S5.c2⟩ : _ ∧ _ ∧ _)
  go_wp2_with fail
  go_ret
  exact ⟨rfl, S5.below⟩

theorem walk (W : World) (P : Nat) (n t : Int) (hP : P < 18446744073709551616) (hn1 : -9223372036854775808 ≤ n) (hn2 : n ≤ 9223372036854775807) (ht1 : -9223372036854775808 ≤ t) (ht2 : t ≤ 9223372036854775807) (s : Nat) (hs : s < 18446744073709551616) (v : Value) (zs : List Nat) (hv : Nums W v zs) :
    Calls Try.prog 4 #[suV P n t, .int .u64 s, v] W fun e w' => e = .returned (.bool true) ∧ Below W.heap.size W w' := by
  cases hok : M.okS P n t with
  | false => exact no W P n t hP hn1 hn2 ht1 ht2 s hs v zs hv hok
  | true =>
    by_cases hsp : P ≤ s
    · exact arg W P n t hP hn1 hn2 ht1 ht2 s hs v zs hv hok hsp
    · exact good W P n t hP hn1 hn2 ht1 ht2 s hs v zs hv hok (by omega)
end twiceMakesW
end Go.Proofs.Ytfkepkdfpjaniaa
