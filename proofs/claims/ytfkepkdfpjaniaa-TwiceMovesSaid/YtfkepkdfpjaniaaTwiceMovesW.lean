/-
  The walk of TwiceMoves: Moved against the reference's.
-/
import Derived.Test.YtfkepkdfpjaniaaSb7
import Derived.Test.YtfkepkdfpjaniaaTw4
import Derived.Test.YtfkepkdfpjaniaaTr4
namespace Go.Proofs.Ytfkepkdfpjaniaa
open Go.RowKit
set_option linter.unusedVariables false
set_option maxRecDepth 100000

theorem M.shortE_of (p T : Nat) (f : List Nat) : M.shortE p T f = if T + 1 < f.length then 3 else if M.within p f = true then 0 else 2 := rfl
namespace twiceMovesW
set_option maxHeartbeats 4000000 in
theorem no (W : World) (P : Nat) (n t : Int) (hP : P < 18446744073709551616) (hn1 : -9223372036854775808 ≤ n) (hn2 : n ≤ 9223372036854775807) (ht1 : -9223372036854775808 ≤ t) (ht2 : t ≤ 9223372036854775807) (v : Value) (m : List (List Nat)) (hm : Mat W v m) (vz : Value) (z : List Nat) (vq : Value) (q : List Nat) (hz : Nums W vz z) (hq : Nums W vq q) (hE : M.tchk P n t m ≠ 0) :
    Calls Try.prog 7 #[suV P n t, v, .agg #[vz, vq]] W fun e w' => e = .returned (.bool true) ∧ Below W.heap.size W w' := by
  have hud : ∀ b : Bool, undef ≠ Value.bool b := fun b h => by cases h
  have MV := Lib.hid fun w (b : Below W.heap.size W w) => tmoved_chk P n t v vz vq m z q w hP hn1 hn2 ht1 ht2 (hm.below b) (hz.below b) (hq.below b) hE
  have RC := Lib.hid fun w (b : Below W.heap.size W w) => rtcheck_any P n t v m w hP hn1 hn2 ht1 ht2 (hm.below b)
  obtain ⟨c, ec⟩ : ∃ c, c = M.tchk P n t m := ⟨_, rfl⟩
  rw [← ec] at MV RC hE
  have hcb : (c == 0) = false := by rw [beq_eq_false_iff_ne]; exact hE
  have hcb2 : (c != 0) = true := by rw [bne_iff_ne]; exact hE
  have HC := Lib.hid hE
  obtain ⟨A, cap, rfl, _⟩ := mat_view6 hm
  obtain ⟨Az, cz, rfl⟩ := nums_slice' hz
  obtain ⟨Aq, cq, rfl⟩ := nums_slice' hq
  obtain ⟨ZL, eZL⟩ : ∃ ZL, ZL = z.length := ⟨_, rfl⟩
  obtain ⟨QL, eQL⟩ : ∃ QL, QL = q.length := ⟨_, rfl⟩
  rw [← eZL, ← eQL] at MV
  rw [← eZL, ← eQL]
  have S0 := SC.start W P n t Az Aq ZL cz QL cq
  obtain ⟨x0, x1, x2, x3, x4⟩ := (⟨S0.c0, S0.c1, S0.c2, S0.d0, S0.d1⟩ : _ ∧ _ ∧ _ ∧ _ ∧ _)
  clear hm hz hq ec hE eZL eQL
  unfold suV at MV RC ⊢
  go_enter Try.func7, Try.ntmps7
  go_wp2_with fail
  (with_reducible refine (MV.out _ S0.below).mono ?_)
  rintro e w1 ⟨rfl, hb⟩
  have S1 := S0.next hb
  clear hb x0 x1 x2 x3 x4
  obtain ⟨x0, x1, x2, x3, x4⟩ := (⟨S1.c0, S1.c1, S1.c2, S1.d0, S1.d1⟩ : _ ∧ _ ∧ _ ∧ _ ∧ _)
  go_wp2_with fail
  (with_reducible refine (RC.out _ S1.below).mono ?_)
  rintro e w2 ⟨rfl, hb⟩
  have S2 := S1.next hb
  clear hb x0 x1 x2 x3 x4
  obtain ⟨x0, x1, x2, x3, x4⟩ := (⟨S2.c0, S2.c1, S2.c2, S2.d0, S2.d1⟩ : _ ∧ _ ∧ _ ∧ _ ∧ _)
  go_wp2_with fail
  obtain ⟨W3, eW3⟩ : ∃ W3, W3 = w2.alloc (.cells #[.slice Az ZL cz, .slice Aq QL cq] 31) := ⟨_, rfl⟩
  have hb3 : Below w2.heap.size w2 W3 := by rw [eW3]; exact balloc w2 _
  have l0 : W3.cell? ⟨w2.heap.size, 0, none⟩ = some (.slice Az ZL cz) := by rw [eW3]; simp
  have l1 : W3.cell? ⟨w2.heap.size, 1, none⟩ = some (.slice Aq QL cq) := by rw [eW3]; simp
  have hs3 : w2.heap.size < W3.heap.size := by rw [eW3]; simp
  have S3 := S2.next hb3
  rw [← eW3]
  clear eW3 hb3 x0 x1 x2 x3 x4
  go_loopw [31, 9] (fun ti tb wr => ∃ k : Nat, k ≤ 2 ∧ ti = .int .i64 k ∧ tb = .int .i64 c ∧ Below W3.heap.size W3 wr) (fun ti _ _ => 2 - (intOf ti).toNat)
  case atStart => exact ⟨0, by omega, rfl, rfl, Below.refl _ _⟩
  case round =>
    obtain ⟨k, hk, rfl, rfl, hB⟩ := hrel
    have HB := Lib.hid hB
    rcases (by omega : k = 0 ∨ k = 1 ∨ k = 2) with rfl | rfl | rfl
    · have e0 := (hB.cell (p := ⟨w2.heap.size, 0, none⟩) hs3).trans l0
      clear hB
      go_wp2_with fail
      go_roundw
      case rel => exact ⟨1, by omega, by go_num, rfl, HB.out⟩
      case measure => simp [intOf]
    · have e0 := (hB.cell (p := ⟨w2.heap.size, 1, none⟩) hs3).trans l1
      clear hB
      go_wp2_with fail
      go_roundw
      case rel => exact ⟨2, by omega, by go_num, rfl, HB.out⟩
      case measure => simp [intOf]
    · have S4 := S3.next hB
      clear hB
      obtain ⟨x0, x1, x2, x3, x4⟩ := (⟨S4.c0, S4.c1, S4.c2, S4.d0, S4.d1⟩ : _ ∧ _ ∧ _ ∧ _ ∧ _)
      go_wp2_with fail
      (with_reducible refine (is7_bad c (.slice none 0 0) _ HC.out ⟨_, _, _, rfl⟩).mono ?_)
      rintro e w' ⟨rfl, rfl⟩
      go_wp2_with fail
      (with_reducible refine (alive7_any _).mono ?_)
      rintro e w5 ⟨rfl, hb⟩
      have S5 := S4.next hb
      clear hb x0 x1 x2 x3 x4
      obtain ⟨x0, x1, x2, x3, x4⟩ := (⟨S5.c0, S5.c1, S5.c2, S5.d0, S5.d1⟩ : _ ∧ _ ∧ _ ∧ _ ∧ _)
      go_wp2_with fail
      go_ret
      exact ⟨rfl, S5.below⟩

set_option maxHeartbeats 4000000 in
theorem bad (W : World) (P : Nat) (n t : Int) (hP : P < 18446744073709551616) (hn1 : -9223372036854775808 ≤ n) (hn2 : n ≤ 9223372036854775807) (ht1 : -9223372036854775808 ≤ t) (ht2 : t ≤ 9223372036854775807) (v : Value) (m : List (List Nat)) (hm : Mat W v m) (vz : Value) (z : List Nat) (vq : Value) (q : List Nat) (hz : Nums W vz z) (hq : Nums W vq q) (hE : M.tchk P n t m = 0) (hme : M.mvE P n t m z q ≠ 0) :
    Calls Try.prog 7 #[suV P n t, v, .agg #[vz, vq]] W fun e w' => e = .returned (.bool true) ∧ Below W.heap.size W w' := by
  have hud : ∀ b : Bool, undef ≠ Value.bool b := fun b h => by cases h
  obtain ⟨hok, hmk⟩ := M.tchk_zero hE
  obtain ⟨N, T, rfl, rfl, hi, hN1, hN2, hNT, hNp⟩ := M.okS_nat hok
  rw [Int.toNat_natCast] at hmk
  obtain ⟨h3, hp5⟩ := M.pos_of hi
  have MV := Lib.hid fun w (b : Below W.heap.size W w) => tmoved_any P T N v vz vq m z q w hn1 hn2 (hm.below b) (hz.below b) (hq.below b) hE
  have RC := Lib.hid fun w (b : Below W.heap.size W w) => rtcheck_any P N T v m w hP hn1 hn2 ht1 ht2 (hm.below b)
  rw [hE] at RC
  have HEV := Lib.hid (show M.mvE P N T m z q = if M.shortE P T z = 0 then M.shortE P T q else M.shortE P T z by unfold M.mvE; rw [if_pos hE, Int.toNat_natCast])
  have HSZ := Lib.hid (M.shortE_of P T z)
  have HSQ := Lib.hid (M.shortE_of P T q)
  have WZ := Lib.hid fun w (b : Below W.heap.size W w) => within_any P vz z w (hz.below b) (c := if M.within P z = true then 0 else 2) (by cases M.within P z <;> rfl)
  have WQ := Lib.hid fun w (b : Below W.heap.size W w) => within_any P vq q w (hq.below b) (c := if M.within P q = true then 0 else 2) (by cases M.within P q <;> rfl)
  have HME := Lib.hid hme
  have hw1 : IntKind.i64.wrap ((T : Int) + 1) = (T : Int) + 1 := by rw [IntKind.wrap_i64]; omega
  obtain ⟨cc, ecc⟩ : ∃ cc, cc = M.mvE P N T m z q := ⟨_, rfl⟩
  obtain ⟨sz, esz⟩ : ∃ sz, sz = M.shortE P T z := ⟨_, rfl⟩
  obtain ⟨sq, esq⟩ : ∃ sq, sq = M.shortE P T q := ⟨_, rfl⟩
  rw [← ecc] at MV HEV HME
  rw [← esz] at HEV HSZ
  rw [← esq] at HEV HSQ
  obtain ⟨wz, ewz⟩ : ∃ wz : Int, wz = if M.within P z = true then 0 else 2 := ⟨_, rfl⟩
  obtain ⟨wq, ewq⟩ : ∃ wq : Int, wq = if M.within P q = true then 0 else 2 := ⟨_, rfl⟩
  rw [← ewz] at WZ HSZ
  rw [← ewq] at WQ HSQ
  obtain ⟨A, cap, rfl, _⟩ := mat_view6 hm
  obtain ⟨Az, cz, rfl⟩ := nums_slice' hz
  obtain ⟨Aq, cq, rfl⟩ := nums_slice' hq
  obtain ⟨ZL, eZL⟩ : ∃ ZL, ZL = z.length := ⟨_, rfl⟩
  obtain ⟨QL, eQL⟩ : ∃ QL, QL = q.length := ⟨_, rfl⟩
  rw [← eZL] at MV WZ HSZ
  rw [← eQL] at MV WQ HSQ
  rw [← eZL, ← eQL]
  have S0 := SC.start W P N T Az Aq ZL cz QL cq
  obtain ⟨x0, x1, x2, x3, x4⟩ := (⟨S0.c0, S0.c1, S0.c2, S0.d0, S0.d1⟩ : _ ∧ _ ∧ _ ∧ _ ∧ _)
  clear hm hz hq hE hme hok hmk hi ecc esz esq ewz ewq eZL eQL
  unfold suV at MV RC ⊢
  go_enter Try.func7, Try.ntmps7
  go_wp2_with fail
  (with_reducible refine (MV.out _ S0.below).mono ?_)
  rintro e w1 (⟨-, rfl, hb⟩ | ⟨h, _⟩)
  case inr => exact absurd h HME.out
  have S1 := S0.next hb
  clear hb x0 x1 x2 x3 x4
  obtain ⟨x0, x1, x2, x3, x4⟩ := (⟨S1.c0, S1.c1, S1.c2, S1.d0, S1.d1⟩ : _ ∧ _ ∧ _ ∧ _ ∧ _)
  go_wp2_with fail
  (with_reducible refine (RC.out _ S1.below).mono ?_)
  rintro e w2 ⟨rfl, hb⟩
  have S2 := S1.next hb
  clear hb x0 x1 x2 x3 x4
  obtain ⟨x0, x1, x2, x3, x4⟩ := (⟨S2.c0, S2.c1, S2.c2, S2.d0, S2.d1⟩ : _ ∧ _ ∧ _ ∧ _ ∧ _)
  go_wp2_with fail
  obtain ⟨W3, eW3⟩ : ∃ W3, W3 = w2.alloc (.cells #[.slice Az ZL cz, .slice Aq QL cq] 31) := ⟨_, rfl⟩
  have hb3 : Below w2.heap.size w2 W3 := by rw [eW3]; exact balloc w2 _
  have l0 : W3.cell? ⟨w2.heap.size, 0, none⟩ = some (.slice Az ZL cz) := by rw [eW3]; simp
  have l1 : W3.cell? ⟨w2.heap.size, 1, none⟩ = some (.slice Aq QL cq) := by rw [eW3]; simp
  have hs3 : w2.heap.size < W3.heap.size := by rw [eW3]; simp
  have S3 := S2.next hb3
  rw [← eW3]
  have hb3' := hb3
  clear eW3 hb3 x0 x1 x2 x3 x4
  go_loopw [31, 9] (fun ti tb wr => ∃ (k : Nat) (b : Int), k ≤ 2 ∧ ti = .int .i64 k ∧ tb = .int .i64 b ∧ (k = 0 → b = 0) ∧ (k = 1 → b = sz) ∧ (k = 2 → b = cc) ∧ Below W3.heap.size W3 wr) (fun ti _ _ => 2 - (intOf ti).toNat)
  case atStart => exact ⟨0, 0, by omega, rfl, rfl, fun _ => rfl, fun h => absurd h (by omega), fun h => absurd h (by omega), Below.refl _ _⟩
  case round =>
    obtain ⟨k, b, hk, rfl, rfl, hb0, hb1, hb2, hB⟩ := hrel
    have HB := Lib.hid hB
    have S4 := S3.next hB
    rcases (by omega : k = 0 ∨ k = 1 ∨ k = 2) with rfl | rfl | rfl
    · obtain rfl := hb0 rfl
      have e0 := (hB.cell (p := ⟨w2.heap.size, 0, none⟩) hs3).trans l0
      have x0 := S4.c0
      have x2 := S4.c2
      clear hB hb0 hb1 hb2
      by_cases hlong : T + 1 < ZL
      · have hd : decide ((ZL : Int) > (T : Int) + 1) = true := by rw [decide_eq_true_eq]; omega
        have HR := Lib.hid (show sz = 3 by rw [HSZ.out, if_pos hlong])
        clear hlong
        go_wp2_with fail
        go_roundw
        case rel => exact ⟨1, 3, by omega, by go_num, rfl, fun h => absurd h (by omega), fun _ => HR.out.symm, fun h => absurd h (by omega), HB.out⟩
        case measure => simp [intOf]
      · have hd : decide ((ZL : Int) > (T : Int) + 1) = false := by rw [decide_eq_false_iff_not]; omega
        have HR := Lib.hid (show sz = wz by rw [HSZ.out, if_neg hlong])
        have HW := Lib.hid (WZ.out _ S4.below)
        clear hlong
        go_wp2_with fail
        (with_reducible refine HW.out.mono ?_)
        rintro e w' ⟨rfl, rfl⟩
        go_wp2_with fail
        go_roundw
        case rel => exact ⟨1, wz, by omega, by go_num, rfl, fun h => absurd h (by omega), fun _ => HR.out.symm, fun h => absurd h (by omega), HB.out⟩
        case measure => simp [intOf]
    · have hbz := hb1 rfl
      have e0 := (hB.cell (p := ⟨w2.heap.size, 1, none⟩) hs3).trans l1
      have x0 := S4.c0
      have x2 := S4.c2
      clear hB hb0 hb1 hb2
      by_cases hz0 : b = 0
      · have HZ0 := Lib.hid (show sz = 0 by rw [← hbz]; exact hz0)
        clear hbz
        subst hz0
        by_cases hlong : T + 1 < QL
        · have hd : decide ((QL : Int) > (T : Int) + 1) = true := by rw [decide_eq_true_eq]; omega
          have HR := Lib.hid (show sq = 3 by rw [HSQ.out, if_pos hlong])
          clear hlong
          go_wp2_with fail
          go_roundw
          case rel => exact ⟨2, 3, by omega, by go_num, rfl, fun h => absurd h (by omega), fun h => absurd h (by omega), fun _ => by rw [HEV.out, if_pos HZ0.out, HR.out], HB.out⟩
          case measure => simp [intOf]
        · have hd : decide ((QL : Int) > (T : Int) + 1) = false := by rw [decide_eq_false_iff_not]; omega
          have HR := Lib.hid (show sq = wq by rw [HSQ.out, if_neg hlong])
          have HW := Lib.hid (WQ.out _ S4.below)
          clear hlong
          go_wp2_with fail
          (with_reducible refine HW.out.mono ?_)
          rintro e w' ⟨rfl, rfl⟩
          go_wp2_with fail
          go_roundw
          case rel => exact ⟨2, wq, by omega, by go_num, rfl, fun h => absurd h (by omega), fun h => absurd h (by omega), fun _ => by rw [HEV.out, if_pos HZ0.out, HR.out], HB.out⟩
          case measure => simp [intOf]
      · have hc1 : (b == 0) = false := by rw [beq_eq_false_iff_ne]; exact hz0
        have HBZ := Lib.hid hbz
        have HZ0 := Lib.hid hz0
        clear hbz hz0
        go_wp2_with fail
        go_roundw
        case rel => exact ⟨2, b, by omega, by go_num, rfl, fun h => absurd h (by omega), fun h => absurd h (by omega), fun _ => by rw [HEV.out, if_neg (by rw [← HBZ.out]; exact HZ0.out), HBZ.out], HB.out⟩
        case measure => simp [intOf]
    · obtain rfl := hb2 rfl
      clear hb0 hb1 hb2
      obtain ⟨x0, x1, x2, x3, x4⟩ := (⟨S4.c0, S4.c1, S4.c2, S4.d0, S4.d1⟩ : _ ∧ _ ∧ _ ∧ _ ∧ _)
      have hcb : (b != 0) = true := by rw [bne_iff_ne]; exact HME.out
      clear hB
      go_wp2_with fail
      (with_reducible refine (is7_bad b (.slice none 0 0) _ HME.out ⟨_, _, _, rfl⟩).mono ?_)
      rintro e w' ⟨rfl, rfl⟩
      go_wp2_with fail
      (with_reducible refine (alive7_any _).mono ?_)
      rintro e w5 ⟨rfl, hb⟩
      have S5 := S4.next hb
      clear hb x0 x1 x2 x3 x4
      obtain ⟨x0, x1, x2, x3, x4⟩ := (⟨S5.c0, S5.c1, S5.c2, S5.d0, S5.d1⟩ : _ ∧ _ ∧ _ ∧ _ ∧ _)
      go_wp2_with fail
      go_ret
      exact ⟨rfl, S5.below⟩

set_option maxHeartbeats 4000000 in
theorem good (W : World) (P : Nat) (n t : Int) (hP : P < 18446744073709551616) (hn1 : -9223372036854775808 ≤ n) (hn2 : n ≤ 9223372036854775807) (ht1 : -9223372036854775808 ≤ t) (ht2 : t ≤ 9223372036854775807) (v : Value) (m : List (List Nat)) (hm : Mat W v m) (vz : Value) (z : List Nat) (vq : Value) (q : List Nat) (hz : Nums W vz z) (hq : Nums W vq q) (hE : M.tchk P n t m = 0) (hme : M.mvE P n t m z q = 0) :
    Calls Try.prog 7 #[suV P n t, v, .agg #[vz, vq]] W fun e w' => e = .returned (.bool true) ∧ Below W.heap.size W w' := by
  have hud : ∀ b : Bool, undef ≠ Value.bool b := fun b h => by cases h
  obtain ⟨hok, hmk⟩ := M.tchk_zero hE
  obtain ⟨N, T, rfl, rfl, hi, hN1, hN2, hNT, hNp⟩ := M.okS_nat hok
  rw [Int.toNat_natCast] at hmk
  obtain ⟨h3, hp5⟩ := M.pos_of hi
  have MV := Lib.hid fun w (b : Below W.heap.size W w) => tmoved_any P T N v vz vq m z q w hn1 hn2 (hm.below b) (hz.below b) (hq.below b) hE
  have RC := Lib.hid fun w (b : Below W.heap.size W w) => rtcheck_any P N T v m w hP hn1 hn2 ht1 ht2 (hm.below b)
  rw [hE] at RC
  have HEV := Lib.hid (show M.mvE P N T m z q = if M.shortE P T z = 0 then M.shortE P T q else M.shortE P T z by unfold M.mvE; rw [if_pos hE, Int.toNat_natCast])
  have HSZ := Lib.hid (M.shortE_of P T z)
  have HSQ := Lib.hid (M.shortE_of P T q)
  have WZ := Lib.hid fun w (b : Below W.heap.size W w) => within_any P vz z w (hz.below b) (c := if M.within P z = true then 0 else 2) (by cases M.within P z <;> rfl)
  have WQ := Lib.hid fun w (b : Below W.heap.size W w) => within_any P vq q w (hq.below b) (c := if M.within P q = true then 0 else 2) (by cases M.within P q <;> rfl)
  have RM := Lib.hid fun w (b : Below W.heap.size W w) (h1 : M.within P z = true) (h2 : z.length ≤ T + 1) (h3' : M.within P q = true) (h4 : q.length ≤ T + 1) => rmoved_any P T N v vz vq m z q w h3 hp5 (by omega) hmk h1 h2 h3' h4 (hm.below b) (hz.below b) (hq.below b)
  have hML : (M.mmoved P m z q (T + 1)).length ≤ 1000 := by rw [mmoved_len]; omega
  obtain ⟨mm, emm⟩ : ∃ mm, mm = M.mmoved P m z q (T + 1) := ⟨_, rfl⟩
  rw [← emm] at MV RM hML
  have HML := Lib.hid hML
  have HZF := Lib.hid fun (h : M.shortE P T z = 0) => M.shortE_zero h
  have HQF := Lib.hid fun (h : M.shortE P T q = 0) => M.shortE_zero h
  have HME := Lib.hid hme
  have hw1 : IntKind.i64.wrap ((T : Int) + 1) = (T : Int) + 1 := by rw [IntKind.wrap_i64]; omega
  obtain ⟨cc, ecc⟩ : ∃ cc, cc = M.mvE P N T m z q := ⟨_, rfl⟩
  obtain ⟨sz, esz⟩ : ∃ sz, sz = M.shortE P T z := ⟨_, rfl⟩
  obtain ⟨sq, esq⟩ : ∃ sq, sq = M.shortE P T q := ⟨_, rfl⟩
  rw [← ecc] at MV HEV HME
  rw [← esz] at HEV HSZ HZF
  rw [← esq] at HEV HSQ HQF
  obtain ⟨wz, ewz⟩ : ∃ wz : Int, wz = if M.within P z = true then 0 else 2 := ⟨_, rfl⟩
  obtain ⟨wq, ewq⟩ : ∃ wq : Int, wq = if M.within P q = true then 0 else 2 := ⟨_, rfl⟩
  rw [← ewz] at WZ HSZ
  rw [← ewq] at WQ HSQ
  obtain ⟨A, cap, rfl, _⟩ := mat_view6 hm
  obtain ⟨Az, cz, rfl⟩ := nums_slice' hz
  obtain ⟨Aq, cq, rfl⟩ := nums_slice' hq
  obtain ⟨ZL, eZL⟩ : ∃ ZL, ZL = z.length := ⟨_, rfl⟩
  obtain ⟨QL, eQL⟩ : ∃ QL, QL = q.length := ⟨_, rfl⟩
  rw [← eZL] at MV WZ HSZ RM HZF
  rw [← eQL] at MV WQ HSQ RM HQF
  rw [← eZL, ← eQL]
  have S0 := SC.start W P N T Az Aq ZL cz QL cq
  obtain ⟨x0, x1, x2, x3, x4⟩ := (⟨S0.c0, S0.c1, S0.c2, S0.d0, S0.d1⟩ : _ ∧ _ ∧ _ ∧ _ ∧ _)
  clear hm hz hq hE hme hok hmk hi ecc esz esq ewz ewq eZL eQL emm hML
  unfold suV at MV RC RM ⊢
  go_enter Try.func7, Try.ntmps7
  go_wp2_with fail
  (with_reducible refine (MV.out _ S0.below).mono ?_)
  rintro e w1 (⟨h, _⟩ | ⟨-, v1, rfl, hm1, hb⟩)
  case inl => exact absurd HME.out h
  have S1 := S0.next hb
  have HM1 := Lib.hid hm1
  obtain ⟨A1, k1, rfl, _⟩ := mat_view6 hm1
  clear hm1
  clear hb x0 x1 x2 x3 x4
  obtain ⟨x0, x1, x2, x3, x4⟩ := (⟨S1.c0, S1.c1, S1.c2, S1.d0, S1.d1⟩ : _ ∧ _ ∧ _ ∧ _ ∧ _)
  go_wp2_with fail
  (with_reducible refine (RC.out _ S1.below).mono ?_)
  rintro e w2 ⟨rfl, hb⟩
  have S2 := S1.next hb
  have HM2 := Lib.hid (HM1.out.below hb)
  clear hb x0 x1 x2 x3 x4
  obtain ⟨x0, x1, x2, x3, x4⟩ := (⟨S2.c0, S2.c1, S2.c2, S2.d0, S2.d1⟩ : _ ∧ _ ∧ _ ∧ _ ∧ _)
  go_wp2_with fail
  obtain ⟨W3, eW3⟩ : ∃ W3, W3 = w2.alloc (.cells #[.slice Az ZL cz, .slice Aq QL cq] 31) := ⟨_, rfl⟩
  have hb3 : Below w2.heap.size w2 W3 := by rw [eW3]; exact balloc w2 _
  have l0 : W3.cell? ⟨w2.heap.size, 0, none⟩ = some (.slice Az ZL cz) := by rw [eW3]; simp
  have l1 : W3.cell? ⟨w2.heap.size, 1, none⟩ = some (.slice Aq QL cq) := by rw [eW3]; simp
  have hs3 : w2.heap.size < W3.heap.size := by rw [eW3]; simp
  have S3 := S2.next hb3
  rw [← eW3]
  have hb3' := hb3
  clear eW3 hb3 x0 x1 x2 x3 x4
  go_loopw [31, 9] (fun ti tb wr => ∃ (k : Nat) (b : Int), k ≤ 2 ∧ ti = .int .i64 k ∧ tb = .int .i64 b ∧ (k = 0 → b = 0) ∧ (k = 1 → b = sz) ∧ (k = 2 → b = cc) ∧ Below W3.heap.size W3 wr) (fun ti _ _ => 2 - (intOf ti).toNat)
  case atStart => exact ⟨0, 0, by omega, rfl, rfl, fun _ => rfl, fun h => absurd h (by omega), fun h => absurd h (by omega), Below.refl _ _⟩
  case round =>
    obtain ⟨k, b, hk, rfl, rfl, hb0, hb1, hb2, hB⟩ := hrel
    have HB := Lib.hid hB
    have S4 := S3.next hB
    rcases (by omega : k = 0 ∨ k = 1 ∨ k = 2) with rfl | rfl | rfl
    · obtain rfl := hb0 rfl
      have e0 := (hB.cell (p := ⟨w2.heap.size, 0, none⟩) hs3).trans l0
      have x0 := S4.c0
      have x2 := S4.c2
      clear hB hb0 hb1 hb2
      by_cases hlong : T + 1 < ZL
      · have hd : decide ((ZL : Int) > (T : Int) + 1) = true := by rw [decide_eq_true_eq]; omega
        have HR := Lib.hid (show sz = 3 by rw [HSZ.out, if_pos hlong])
        clear hlong
        go_wp2_with fail
        go_roundw
        case rel => exact ⟨1, 3, by omega, by go_num, rfl, fun h => absurd h (by omega), fun _ => HR.out.symm, fun h => absurd h (by omega), HB.out⟩
        case measure => simp [intOf]
      · have hd : decide ((ZL : Int) > (T : Int) + 1) = false := by rw [decide_eq_false_iff_not]; omega
        have HR := Lib.hid (show sz = wz by rw [HSZ.out, if_neg hlong])
        have HW := Lib.hid (WZ.out _ S4.below)
        clear hlong
        go_wp2_with fail
        (with_reducible refine HW.out.mono ?_)
        rintro e w' ⟨rfl, rfl⟩
        go_wp2_with fail
        go_roundw
        case rel => exact ⟨1, wz, by omega, by go_num, rfl, fun h => absurd h (by omega), fun _ => HR.out.symm, fun h => absurd h (by omega), HB.out⟩
        case measure => simp [intOf]
    · have hbz := hb1 rfl
      have e0 := (hB.cell (p := ⟨w2.heap.size, 1, none⟩) hs3).trans l1
      have x0 := S4.c0
      have x2 := S4.c2
      clear hB hb0 hb1 hb2
      by_cases hz0 : b = 0
      · have HZ0 := Lib.hid (show sz = 0 by rw [← hbz]; exact hz0)
        clear hbz
        subst hz0
        by_cases hlong : T + 1 < QL
        · have hd : decide ((QL : Int) > (T : Int) + 1) = true := by rw [decide_eq_true_eq]; omega
          have HR := Lib.hid (show sq = 3 by rw [HSQ.out, if_pos hlong])
          clear hlong
          go_wp2_with fail
          go_roundw
          case rel => exact ⟨2, 3, by omega, by go_num, rfl, fun h => absurd h (by omega), fun h => absurd h (by omega), fun _ => by rw [HEV.out, if_pos HZ0.out, HR.out], HB.out⟩
          case measure => simp [intOf]
        · have hd : decide ((QL : Int) > (T : Int) + 1) = false := by rw [decide_eq_false_iff_not]; omega
          have HR := Lib.hid (show sq = wq by rw [HSQ.out, if_neg hlong])
          have HW := Lib.hid (WQ.out _ S4.below)
          clear hlong
          go_wp2_with fail
          (with_reducible refine HW.out.mono ?_)
          rintro e w' ⟨rfl, rfl⟩
          go_wp2_with fail
          go_roundw
          case rel => exact ⟨2, wq, by omega, by go_num, rfl, fun h => absurd h (by omega), fun h => absurd h (by omega), fun _ => by rw [HEV.out, if_pos HZ0.out, HR.out], HB.out⟩
          case measure => simp [intOf]
      · have hc1 : (b == 0) = false := by rw [beq_eq_false_iff_ne]; exact hz0
        have HBZ := Lib.hid hbz
        have HZ0 := Lib.hid hz0
        clear hbz hz0
        go_wp2_with fail
        go_roundw
        case rel => exact ⟨2, b, by omega, by go_num, rfl, fun h => absurd h (by omega), fun h => absurd h (by omega), fun _ => by rw [HEV.out, if_neg (by rw [← HBZ.out]; exact HZ0.out), HBZ.out], HB.out⟩
        case measure => simp [intOf]
    · obtain rfl := hb2 rfl
      clear hb0 hb1 hb2
      obtain ⟨x0, x1, x2, x3, x4⟩ := (⟨S4.c0, S4.c1, S4.c2, S4.d0, S4.d1⟩ : _ ∧ _ ∧ _ ∧ _ ∧ _)
      have hcc := HME.out
      have HZ0 := Lib.hid (show sz = 0 by have h := HEV.out; rw [hcc] at h; by_cases h0 : sz = 0; exact h0; rw [if_neg h0] at h; exact h.symm)
      have HQ0 := Lib.hid (show sq = 0 by have h := HEV.out; rw [hcc, if_pos HZ0.out] at h; exact h.symm)
      subst hcc
      have HM4 := Lib.hid ((HM2.out.below hb3').below hB)
      clear hB
      go_wp2_with fail
      (with_reducible refine (RM.out _ S4.below (HZF.out HZ0.out).2 (HZF.out HZ0.out).1 (HQF.out HQ0.out).2 (HQF.out HQ0.out).1).mono ?_)
      rintro e w5 ⟨v5, rfl, hm5, hb⟩
      have S5 := S4.next hb
      have HM5 := Lib.hid (HM4.out.below hb)
      have HM6 := Lib.hid hm5
      obtain ⟨A5, k5, rfl, _⟩ := mat_view6 hm5
      clear hm5
      clear hb x0 x1 x2 x3 x4
      obtain ⟨x0, x1, x2, x3, x4⟩ := (⟨S5.c0, S5.c1, S5.c2, S5.d0, S5.d1⟩ : _ ∧ _ ∧ _ ∧ _ ∧ _)
      go_wp2_with fail
      (with_reducible refine (is7_good _ _ mm _ HML.out HM5.out HM6.out).mono ?_)
      rintro e w6 ⟨rfl, hb⟩
      have S6 := S5.next hb
      clear hb x0 x1 x2 x3 x4
      obtain ⟨x0, x1, x2, x3, x4⟩ := (⟨S6.c0, S6.c1, S6.c2, S6.d0, S6.d1⟩ : _ ∧ _ ∧ _ ∧ _ ∧ _)
      go_wp2_with fail
      (with_reducible refine (alive7_any _).mono ?_)
      rintro e w7 ⟨rfl, hb⟩
      have S7 := S6.next hb
      clear hb x0 x1 x2 x3 x4
      obtain ⟨x0, x1, x2, x3, x4⟩ := (⟨S7.c0, S7.c1, S7.c2, S7.d0, S7.d1⟩ : _ ∧ _ ∧ _ ∧ _ ∧ _)
      go_wp2_with fail
      go_ret
      exact ⟨rfl, S7.below⟩

theorem walk (W : World) (P : Nat) (n t : Int) (hP : P < 18446744073709551616) (hn1 : -9223372036854775808 ≤ n) (hn2 : n ≤ 9223372036854775807) (ht1 : -9223372036854775808 ≤ t) (ht2 : t ≤ 9223372036854775807) (v : Value) (m : List (List Nat)) (hm : Mat W v m) (vz : Value) (z : List Nat) (vq : Value) (q : List Nat) (hz : Nums W vz z) (hq : Nums W vq q) :
    Calls Try.prog 7 #[suV P n t, v, .agg #[vz, vq]] W fun e w' => e = .returned (.bool true) ∧ Below W.heap.size W w' := by
  by_cases hE : M.tchk P n t m = 0
  · by_cases hme : M.mvE P n t m z q = 0
    · exact good W P n t hP hn1 hn2 ht1 ht2 v m hm vz z vq q hz hq hE hme
    · exact bad W P n t hP hn1 hn2 ht1 ht2 v m hm vz z vq q hz hq hE hme
  · exact no W P n t hP hn1 hn2 ht1 ht2 v m hm vz z vq q hz hq hE
end twiceMovesW
end Go.Proofs.Ytfkepkdfpjaniaa
