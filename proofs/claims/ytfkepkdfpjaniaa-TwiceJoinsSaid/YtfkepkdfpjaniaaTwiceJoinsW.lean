/-
  The walk of TwiceJoins: Join against the value of the polynomial of the values.
-/
import Derived.Test.YtfkepkdfpjaniaaSb7
import Derived.Test.YtfkepkdfpjaniaaRA
import Derived.Deep.RegionHeld3
namespace Go.Proofs.Ytfkepkdfpjaniaa
open Go.RowKit
set_option linter.unusedVariables false
set_option maxRecDepth 100000

namespace twiceJoinsW
set_option maxHeartbeats 2000000 in
theorem no (W : World) (P : Nat) (n t : Int) (hP : P < 18446744073709551616) (hn1 : -9223372036854775808 ≤ n) (hn2 : n ≤ 9223372036854775807) (ht1 : -9223372036854775808 ≤ t) (ht2 : t ≤ 9223372036854775807) (v : Value) (f : List Nat) (hv : Nums W v f) (x : Nat) (hx : x < 18446744073709551616) (hok : M.okS P n t = false) :
    Calls Try.prog 6 #[suV P n t, v, .int .u64 x] W fun e w' => e = .returned (.bool true) ∧ Below W.heap.size W w' := by
  have hud : ∀ b : Bool, undef ≠ Value.bool b := fun b h => by cases h
  have MK := Lib.hid fun w (b : Below W.heap.size W w) => tjoin_setup P x n t v f w hP hn1 hn2 ht1 ht2 (hv.below b) hok
  have RS := Lib.hid fun w => rsetup_any P n t w hP hn1 hn2 ht1 ht2
  rw [show M.errS P n t = 2 by unfold M.errS; rw [hok]; rfl] at RS
  obtain ⟨A, cap, rfl⟩ := nums_slice' hv
  have S0 := SB.start W P n t
  obtain ⟨x0, x1, x2⟩ := (⟨S0.c0, S0.c1, S0.c2⟩ : _ ∧ _ ∧ _)
  clear hv hok
  unfold suV at MK RS ⊢
  go_enter Try.func6, Try.ntmps6
  go_wp2_with fail
  (with_reducible refine (MK.out _ S0.below).mono ?_)
  rintro e w1 ⟨rfl, hb⟩
  have S1 := S0.next hb
  clear hb x0 x1 x2
  obtain ⟨x0, x1, x2⟩ := (⟨S1.c0, S1.c1, S1.c2⟩ : _ ∧ _ ∧ _)
  go_wp2_with fail
  (with_reducible refine (RS.out _).mono ?_)
  rintro e w2 ⟨rfl, hb⟩
  have S2 := S1.next hb
  clear hb x0 x1 x2
  obtain ⟨x0, x1, x2⟩ := (⟨S2.c0, S2.c1, S2.c2⟩ : _ ∧ _ ∧ _)
  go_wp2_with fail
  (with_reducible refine (number7_bad 2 0 _ (by decide)).mono ?_)
  rintro e w' ⟨rfl, rfl⟩
  go_wp2_with fail
  (with_reducible refine (alive7_any _).mono ?_)
  rintro e w3 ⟨rfl, hb⟩
  have S3 := S2.next hb
  clear hb x0 x1 x2
  obtain ⟨x0, x1, x2⟩ := (⟨S3.c0, S3.c1, S3.c2⟩ : _ ∧ _ ∧ _)
  go_wp2_with fail
  go_ret
  exact ⟨rfl, S3.below⟩

set_option maxHeartbeats 2000000 in
theorem long (W : World) (P : Nat) (n t : Int) (hP : P < 18446744073709551616) (hn1 : -9223372036854775808 ≤ n) (hn2 : n ≤ 9223372036854775807) (ht1 : -9223372036854775808 ≤ t) (ht2 : t ≤ 9223372036854775807) (v : Value) (f : List Nat) (hv : Nums W v f) (x : Nat) (hx : x < 18446744073709551616) (hok : M.okS P n t = true) (hl : f.length ≠ t.toNat + 1) (hbad : ¬ (f.length = t.toNat + 1 ∧ M.within P f = true ∧ x < P)) :
    Calls Try.prog 6 #[suV P n t, v, .int .u64 x] W fun e w' => e = .returned (.bool true) ∧ Below W.heap.size W w' := by
  have hud : ∀ b : Bool, undef ≠ Value.bool b := fun b h => by cases h
  obtain ⟨N, T, rfl, rfl, hi, hN1, hN2, hNT, hNp⟩ := M.okS_nat hok
  obtain ⟨h3, hp5⟩ := M.pos_of hi
  have MK := Lib.hid fun w (b : Below W.heap.size W w) => tjoin_any P T x N v f w hn1 hn2 hx (hv.below b) hok
  have RS := Lib.hid fun w => rsetup_any P N T w hP hn1 hn2 ht1 ht2
  rw [show M.errS P N T = 0 by unfold M.errS; rw [hok]; rfl] at RS
  have hw1 : IntKind.i64.wrap ((T : Int) + 1) = (T : Int) + 1 := by rw [IntKind.wrap_i64]; omega
  rw [Int.toNat_natCast] at hbad
  unfold JoinEnd at MK
  rw [Int.toNat_natCast] at hl
  have hb1 : ((f.length : Int) != (T : Int) + 1) = true := by rw [bne_iff_ne]; omega
  obtain ⟨A, cap, rfl⟩ := nums_slice' hv
  have S0 := SB.start W P N T
  obtain ⟨x0, x1, x2⟩ := (⟨S0.c0, S0.c1, S0.c2⟩ : _ ∧ _ ∧ _)
  have HBAD := Lib.hid hbad
  clear hv hok hi hbad hl
  unfold suV at MK RS ⊢
  go_enter Try.func6, Try.ntmps6
  go_wp2_with fail
  (with_reducible refine (MK.out _ S0.below).mono ?_)
  rintro e w1 ⟨⟨a1, a2, a3, _⟩ | ⟨_, rfl⟩, hb⟩
  case inl => exact absurd ⟨a1, a2, a3⟩ HBAD.out
  have S1 := S0.next hb
  clear hb x0 x1 x2
  obtain ⟨x0, x1, x2⟩ := (⟨S1.c0, S1.c1, S1.c2⟩ : _ ∧ _ ∧ _)
  go_wp2_with fail
  (with_reducible refine (RS.out _).mono ?_)
  rintro e w2 ⟨rfl, hb⟩
  have S2 := S1.next hb
  clear hb x0 x1 x2
  obtain ⟨x0, x1, x2⟩ := (⟨S2.c0, S2.c1, S2.c2⟩ : _ ∧ _ ∧ _)
  go_wp2_with fail
  (with_reducible refine (number7_bad 2 0 _ (by decide)).mono ?_)
  rintro e w' ⟨rfl, rfl⟩
  go_wp2_with fail
  (with_reducible refine (alive7_any _).mono ?_)
  rintro e w3 ⟨rfl, hb⟩
  have S3 := S2.next hb
  clear hb x0 x1 x2
  obtain ⟨x0, x1, x2⟩ := (⟨S3.c0, S3.c1, S3.c2⟩ : _ ∧ _ ∧ _)
  go_wp2_with fail
  go_ret
  exact ⟨rfl, S3.below⟩

set_option maxHeartbeats 2000000 in
theorem out (W : World) (P : Nat) (n t : Int) (hP : P < 18446744073709551616) (hn1 : -9223372036854775808 ≤ n) (hn2 : n ≤ 9223372036854775807) (ht1 : -9223372036854775808 ≤ t) (ht2 : t ≤ 9223372036854775807) (v : Value) (f : List Nat) (hv : Nums W v f) (x : Nat) (hx : x < 18446744073709551616) (hok : M.okS P n t = true) (hl : f.length = t.toNat + 1) (hw : M.within P f = false) (hbad : ¬ (f.length = t.toNat + 1 ∧ M.within P f = true ∧ x < P)) :
    Calls Try.prog 6 #[suV P n t, v, .int .u64 x] W fun e w' => e = .returned (.bool true) ∧ Below W.heap.size W w' := by
  have hud : ∀ b : Bool, undef ≠ Value.bool b := fun b h => by cases h
  obtain ⟨N, T, rfl, rfl, hi, hN1, hN2, hNT, hNp⟩ := M.okS_nat hok
  obtain ⟨h3, hp5⟩ := M.pos_of hi
  have MK := Lib.hid fun w (b : Below W.heap.size W w) => tjoin_any P T x N v f w hn1 hn2 hx (hv.below b) hok
  have RS := Lib.hid fun w => rsetup_any P N T w hP hn1 hn2 ht1 ht2
  rw [show M.errS P N T = 0 by unfold M.errS; rw [hok]; rfl] at RS
  have hw1 : IntKind.i64.wrap ((T : Int) + 1) = (T : Int) + 1 := by rw [IntKind.wrap_i64]; omega
  rw [Int.toNat_natCast] at hbad
  unfold JoinEnd at MK
  have WI := Lib.hid fun w (b : Below W.heap.size W w) => within_any P v f w (hv.below b) (c := 2) (by rw [hw]; rfl)
  rw [Int.toNat_natCast] at hl
  have hb1 : ((f.length : Int) != (T : Int) + 1) = false := by rw [bne_eq_false_iff_eq]; omega
  obtain ⟨A, cap, rfl⟩ := nums_slice' hv
  have S0 := SB.start W P N T
  obtain ⟨x0, x1, x2⟩ := (⟨S0.c0, S0.c1, S0.c2⟩ : _ ∧ _ ∧ _)
  have HBAD := Lib.hid hbad
  clear hv hok hi hbad hl hw
  unfold suV at MK RS ⊢
  go_enter Try.func6, Try.ntmps6
  go_wp2_with fail
  (with_reducible refine (MK.out _ S0.below).mono ?_)
  rintro e w1 ⟨⟨a1, a2, a3, _⟩ | ⟨_, rfl⟩, hb⟩
  case inl => exact absurd ⟨a1, a2, a3⟩ HBAD.out
  have S1 := S0.next hb
  clear hb x0 x1 x2
  obtain ⟨x0, x1, x2⟩ := (⟨S1.c0, S1.c1, S1.c2⟩ : _ ∧ _ ∧ _)
  go_wp2_with fail
  (with_reducible refine (RS.out _).mono ?_)
  rintro e w2 ⟨rfl, hb⟩
  have S2 := S1.next hb
  clear hb x0 x1 x2
  obtain ⟨x0, x1, x2⟩ := (⟨S2.c0, S2.c1, S2.c2⟩ : _ ∧ _ ∧ _)
  go_wp2_with fail
  refine (WI.out _ S2.below).mono ?_
  rintro e w' ⟨rfl, rfl⟩
  go_wp2_with fail
  (with_reducible refine (number7_bad 2 0 _ (by decide)).mono ?_)
  rintro e w' ⟨rfl, rfl⟩
  go_wp2_with fail
  (with_reducible refine (alive7_any _).mono ?_)
  rintro e w3 ⟨rfl, hb⟩
  have S3 := S2.next hb
  clear hb x0 x1 x2
  obtain ⟨x0, x1, x2⟩ := (⟨S3.c0, S3.c1, S3.c2⟩ : _ ∧ _ ∧ _)
  go_wp2_with fail
  go_ret
  exact ⟨rfl, S3.below⟩

set_option maxHeartbeats 2000000 in
theorem far (W : World) (P : Nat) (n t : Int) (hP : P < 18446744073709551616) (hn1 : -9223372036854775808 ≤ n) (hn2 : n ≤ 9223372036854775807) (ht1 : -9223372036854775808 ≤ t) (ht2 : t ≤ 9223372036854775807) (v : Value) (f : List Nat) (hv : Nums W v f) (x : Nat) (hx : x < 18446744073709551616) (hok : M.okS P n t = true) (hl : f.length = t.toNat + 1) (hw : M.within P f = true) (hge : P ≤ x) (hbad : ¬ (f.length = t.toNat + 1 ∧ M.within P f = true ∧ x < P)) :
    Calls Try.prog 6 #[suV P n t, v, .int .u64 x] W fun e w' => e = .returned (.bool true) ∧ Below W.heap.size W w' := by
  have hud : ∀ b : Bool, undef ≠ Value.bool b := fun b h => by cases h
  obtain ⟨N, T, rfl, rfl, hi, hN1, hN2, hNT, hNp⟩ := M.okS_nat hok
  obtain ⟨h3, hp5⟩ := M.pos_of hi
  have MK := Lib.hid fun w (b : Below W.heap.size W w) => tjoin_any P T x N v f w hn1 hn2 hx (hv.below b) hok
  have RS := Lib.hid fun w => rsetup_any P N T w hP hn1 hn2 ht1 ht2
  rw [show M.errS P N T = 0 by unfold M.errS; rw [hok]; rfl] at RS
  have hw1 : IntKind.i64.wrap ((T : Int) + 1) = (T : Int) + 1 := by rw [IntKind.wrap_i64]; omega
  rw [Int.toNat_natCast] at hbad
  unfold JoinEnd at MK
  have WI := Lib.hid fun w (b : Below W.heap.size W w) => within_any P v f w (hv.below b) (c := 0) (by rw [hw]; rfl)
  rw [Int.toNat_natCast] at hl
  have hb1 : ((f.length : Int) != (T : Int) + 1) = false := by rw [bne_eq_false_iff_eq]; omega
  have hd : decide ((x : Int) ≥ (P : Int)) = true := by rw [decide_eq_true_eq]; omega
  obtain ⟨A, cap, rfl⟩ := nums_slice' hv
  have S0 := SB.start W P N T
  obtain ⟨x0, x1, x2⟩ := (⟨S0.c0, S0.c1, S0.c2⟩ : _ ∧ _ ∧ _)
  have HBAD := Lib.hid hbad
  clear hv hok hi hbad hl hw
  unfold suV at MK RS ⊢
  go_enter Try.func6, Try.ntmps6
  go_wp2_with fail
  (with_reducible refine (MK.out _ S0.below).mono ?_)
  rintro e w1 ⟨⟨a1, a2, a3, _⟩ | ⟨_, rfl⟩, hb⟩
  case inl => exact absurd ⟨a1, a2, a3⟩ HBAD.out
  have S1 := S0.next hb
  clear hb x0 x1 x2
  obtain ⟨x0, x1, x2⟩ := (⟨S1.c0, S1.c1, S1.c2⟩ : _ ∧ _ ∧ _)
  go_wp2_with fail
  (with_reducible refine (RS.out _).mono ?_)
  rintro e w2 ⟨rfl, hb⟩
  have S2 := S1.next hb
  clear hb x0 x1 x2
  obtain ⟨x0, x1, x2⟩ := (⟨S2.c0, S2.c1, S2.c2⟩ : _ ∧ _ ∧ _)
  go_wp2_with fail
  refine (WI.out _ S2.below).mono ?_
  rintro e w' ⟨rfl, rfl⟩
  go_wp2_with fail
  (with_reducible refine (number7_bad 2 0 _ (by decide)).mono ?_)
  rintro e w' ⟨rfl, rfl⟩
  go_wp2_with fail
  (with_reducible refine (alive7_any _).mono ?_)
  rintro e w3 ⟨rfl, hb⟩
  have S3 := S2.next hb
  clear hb x0 x1 x2
  obtain ⟨x0, x1, x2⟩ := (⟨S3.c0, S3.c1, S3.c2⟩ : _ ∧ _ ∧ _)
  go_wp2_with fail
  go_ret
  exact ⟨rfl, S3.below⟩

set_option maxHeartbeats 2000000 in
theorem good (W : World) (P : Nat) (n t : Int) (hP : P < 18446744073709551616) (hn1 : -9223372036854775808 ≤ n) (hn2 : n ≤ 9223372036854775807) (ht1 : -9223372036854775808 ≤ t) (ht2 : t ≤ 9223372036854775807) (v : Value) (f : List Nat) (hv : Nums W v f) (x : Nat) (hx : x < 18446744073709551616) (hok : M.okS P n t = true) (hl : f.length = t.toNat + 1) (hw : M.within P f = true) (hlt : x < P) (hbad : (f.length = t.toNat + 1 ∧ M.within P f = true ∧ x < P)) :
    Calls Try.prog 6 #[suV P n t, v, .int .u64 x] W fun e w' => e = .returned (.bool true) ∧ Below W.heap.size W w' := by
  have hud : ∀ b : Bool, undef ≠ Value.bool b := fun b h => by cases h
  obtain ⟨N, T, rfl, rfl, hi, hN1, hN2, hNT, hNp⟩ := M.okS_nat hok
  obtain ⟨h3, hp5⟩ := M.pos_of hi
  have MK := Lib.hid fun w (b : Below W.heap.size W w) => tjoin_any P T x N v f w hn1 hn2 hx (hv.below b) hok
  have RS := Lib.hid fun w => rsetup_any P N T w hP hn1 hn2 ht1 ht2
  rw [show M.errS P N T = 0 by unfold M.errS; rw [hok]; rfl] at RS
  have hw1 : IntKind.i64.wrap ((T : Int) + 1) = (T : Int) + 1 := by rw [IntKind.wrap_i64]; omega
  rw [Int.toNat_natCast] at hbad
  unfold JoinEnd at MK
  have WI := Lib.hid fun w (b : Below W.heap.size W w) => within_any P v f w (hv.below b) (c := 0) (by rw [hw]; rfl)
  obtain ⟨PV, ePV⟩ : ∃ PV, PV = M.pev P f x := ⟨_, rfl⟩
  have EV := Lib.hid fun w (b : Below W.heap.size W w) => reval_any P x v f w (by omega) hp5 hlt hw (hv.below b)
  rw [← ePV] at MK EV
  clear ePV
  rw [Int.toNat_natCast] at hl
  have hb1 : ((f.length : Int) != (T : Int) + 1) = false := by rw [bne_eq_false_iff_eq]; omega
  have hd : decide ((x : Int) ≥ (P : Int)) = false := by rw [decide_eq_false_iff_not]; omega
  obtain ⟨A, cap, rfl⟩ := nums_slice' hv
  have S0 := SB.start W P N T
  obtain ⟨x0, x1, x2⟩ := (⟨S0.c0, S0.c1, S0.c2⟩ : _ ∧ _ ∧ _)
  have HBAD := Lib.hid hbad
  clear hv hok hi hbad hl hw
  unfold suV at MK RS ⊢
  go_enter Try.func6, Try.ntmps6
  go_wp2_with fail
  (with_reducible refine (MK.out _ S0.below).mono ?_)
  rintro e w1 ⟨⟨-, -, -, rfl⟩ | ⟨a1, _⟩, hb⟩
  case inr => exact absurd HBAD.out a1
  have S1 := S0.next hb
  clear hb x0 x1 x2
  obtain ⟨x0, x1, x2⟩ := (⟨S1.c0, S1.c1, S1.c2⟩ : _ ∧ _ ∧ _)
  go_wp2_with fail
  (with_reducible refine (RS.out _).mono ?_)
  rintro e w2 ⟨rfl, hb⟩
  have S2 := S1.next hb
  clear hb x0 x1 x2
  obtain ⟨x0, x1, x2⟩ := (⟨S2.c0, S2.c1, S2.c2⟩ : _ ∧ _ ∧ _)
  go_wp2_with fail
  refine (WI.out _ S2.below).mono ?_
  rintro e w' ⟨rfl, rfl⟩
  go_wp2_with fail
  (with_reducible refine (EV.out _ S2.below).mono ?_)
  rintro e w' ⟨rfl, rfl⟩
  go_wp2_with fail
  (with_reducible refine (number7_good _ _).mono ?_)
  rintro e w' ⟨rfl, rfl⟩
  go_wp2_with fail
  go_ret
  exact ⟨rfl, S2.below⟩

theorem walk (W : World) (P : Nat) (n t : Int) (hP : P < 18446744073709551616) (hn1 : -9223372036854775808 ≤ n) (hn2 : n ≤ 9223372036854775807) (ht1 : -9223372036854775808 ≤ t) (ht2 : t ≤ 9223372036854775807) (v : Value) (f : List Nat) (hv : Nums W v f) (x : Nat) (hx : x < 18446744073709551616) :
    Calls Try.prog 6 #[suV P n t, v, .int .u64 x] W fun e w' => e = .returned (.bool true) ∧ Below W.heap.size W w' := by
  cases hok : M.okS P n t with
  | false => exact no W P n t hP hn1 hn2 ht1 ht2 v f hv x hx hok
  | true =>
    by_cases hl : f.length = t.toNat + 1
    · cases hw : M.within P f with
      | false => exact out W P n t hP hn1 hn2 ht1 ht2 v f hv x hx hok hl hw (fun h => by rw [hw] at h; exact absurd h.2.1 (by decide))
      | true =>
        by_cases hlt : x < P
        · exact good W P n t hP hn1 hn2 ht1 ht2 v f hv x hx hok hl hw hlt ⟨hl, hw, hlt⟩
        · exact far W P n t hP hn1 hn2 ht1 ht2 v f hv x hx hok hl hw (by omega) (fun h => hlt h.2.2)
    · exact long W P n t hP hn1 hn2 ht1 ht2 v f hv x hx hok hl (fun h => hl h.1)
end twiceJoinsW
end Go.Proofs.Ytfkepkdfpjaniaa
