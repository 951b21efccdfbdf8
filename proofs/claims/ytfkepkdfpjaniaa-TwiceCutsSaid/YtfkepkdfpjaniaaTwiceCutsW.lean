/-
  The walk of TwiceCuts: Cut against the reference's.
-/
import Derived.Test.YtfkepkdfpjaniaaSb7
import Derived.Test.YtfkepkdfpjaniaaTr5
namespace Go.Proofs.Ytfkepkdfpjaniaa
open Go.RowKit
set_option linter.unusedVariables false
set_option maxRecDepth 100000

theorem ints_slice7 {w : World} {v : Value} {l : List Int} (h : IntsZ w v l) : ∃ A cap, v = .slice A l.length cap := by
  obtain ⟨_, _, A, cap, e, _⟩ := h
  exact ⟨A, cap, e⟩
namespace M
theorem errW_ok {p : Nat} {f : List Nat} (h : errW p f = 0) : f.length ≤ 201 ∧ within p f = true := by
  unfold errW at h
  split at h
  · cases h
  · split at h
    · rename_i h2; exact ⟨by omega, h2⟩
    · cases h
theorem cut_unique {p : Nat} {xs z z' q q' r r' d : List Nat} (hi : isP p = true) (hz : NoZ xs) (hn : xs.Nodup) (hw : within p xs = true) (h1 : AwayK p xs xs.length z) (h2 : AwayK p xs xs.length z') (h3 : IsDiv p d z q r) (h4 : IsDiv p d z' q' r') : z = z' ∧ q = q' ∧ r = r' := by
  have e := AwayK.unique hi hz hn hw h1 h2
  subst e
  have hz0 : 0 < z.length := Nat.pos_of_ne_zero fun h => h1.ne (by rw [List.length_eq_zero_iff.1 h]; rfl)
  have := isDiv_unique hi (lead_of h1.1 h1.2.1 hz0) (fun _ => rfl) h3 h4
  exact ⟨rfl, this.1, this.2⟩
end M
namespace twiceCutsW
set_option maxHeartbeats 4000000 in
theorem no (W : World) (P : Nat) (n t : Int) (hP : P < 18446744073709551616) (hn1 : -9223372036854775808 ≤ n) (hn2 : n ≤ 9223372036854775807) (ht1 : -9223372036854775808 ≤ t) (ht2 : t ≤ 9223372036854775807) (v : Value) (l : List Int) (hl : IntsZ W v l) (vd : Value) (d : List Nat) (hd : Nums W vd d) (hE : M.errC P n t l ≠ 0) :
    Calls Try.prog 8 #[suV P n t, v, vd] W fun e w' => e = .returned (.bool true) ∧ Below W.heap.size W w' := by
  have hud : ∀ b : Bool, undef ≠ Value.bool b := fun b h => by cases h
  have MV := Lib.hid fun w (b : Below W.heap.size W w) => tcut_bad P n t v vd l d w hP hn1 hn2 ht1 ht2 (hl.below b) (hd.below b) hE
  have RC := Lib.hid fun w (b : Below W.heap.size W w) => rcorrupted_any P n t v l w hP hn1 hn2 ht1 ht2 (hl.below b)
  obtain ⟨c, ec⟩ : ∃ c, c = M.errC P n t l := ⟨_, rfl⟩
  rw [← ec] at MV RC hE
  have hcb : (c == 0) = false := by rw [beq_eq_false_iff_ne]; exact hE
  have hcb2 : (c != 0) = true := by rw [bne_iff_ne]; exact hE
  have HC := Lib.hid hE
  obtain ⟨Av, kv, rfl⟩ := ints_slice7 hl
  obtain ⟨Ad, kd, rfl⟩ := nums_slice' hd
  have S0 := SB.start W P n t
  obtain ⟨x0, x1, x2⟩ := (⟨S0.c0, S0.c1, S0.c2⟩ : _ ∧ _ ∧ _)
  clear hl hd ec hE
  unfold suV at MV RC ⊢
  go_enter Try.func8, Try.ntmps8
  go_wp2_with fail
  (with_reducible refine (MV.out _ S0.below).mono ?_)
  rintro e w1 ⟨rfl, hb⟩
  have S1 := S0.next hb
  clear hb x0 x1 x2
  obtain ⟨x0, x1, x2⟩ := (⟨S1.c0, S1.c1, S1.c2⟩ : _ ∧ _ ∧ _)
  go_wp2_with fail
  (with_reducible refine (RC.out _ S1.below).mono ?_)
  rintro e w2 ⟨rfl, hb⟩
  have S2 := S1.next hb
  clear hb x0 x1 x2
  obtain ⟨x0, x1, x2⟩ := (⟨S2.c0, S2.c1, S2.c2⟩ : _ ∧ _ ∧ _)
  go_wp2_with fail
  (with_reducible refine (list7_bad c (.slice none 0 0) _ HC.out ⟨_, _, _, rfl⟩).mono ?_)
  rintro e w' ⟨rfl, rfl⟩
  go_wp2_with fail
  (with_reducible refine (alive7_any _).mono ?_)
  rintro e w3 ⟨rfl, hb⟩
  have S3 := S2.next hb
  clear hb x0 x1 x2
  obtain ⟨x0, x1, x2⟩ := (⟨S3.c0, S3.c1, S3.c2⟩ : _ ∧ _ ∧ _)
  go_wp2_with fail
  go_ret
  exact ⟨rfl, S3.below⟩

set_option maxHeartbeats 4000000 in
theorem far (W : World) (P : Nat) (n t : Int) (hP : P < 18446744073709551616) (hn1 : -9223372036854775808 ≤ n) (hn2 : n ≤ 9223372036854775807) (ht1 : -9223372036854775808 ≤ t) (ht2 : t ≤ 9223372036854775807) (v : Value) (l : List Int) (hl : IntsZ W v l) (vd : Value) (d : List Nat) (hd : Nums W vd d) (hE : M.errC P n t l = 0) (hW : M.errW P d ≠ 0) :
    Calls Try.prog 8 #[suV P n t, v, vd] W fun e w' => e = .returned (.bool true) ∧ Below W.heap.size W w' := by
  have hud : ∀ b : Bool, undef ≠ Value.bool b := fun b h => by cases h
  obtain ⟨hok, hll, hrs⟩ := M.errC_zero hE
  obtain ⟨N, T, rfl, rfl, hi, hN1, hN2, hNT, hNp⟩ := M.okS_nat hok
  obtain ⟨h3, hp5⟩ := M.pos_of hi
  have MV := Lib.hid fun w (b : Below W.heap.size W w) => tcut_any P T N v vd l d w hn1 hn2 (hl.below b) (hd.below b) hE
  have RC := Lib.hid fun w (b : Below W.heap.size W w) => rcorrupted_any P N T v l w hP hn1 hn2 ht1 ht2 (hl.below b)
  rw [hE] at RC
  have WD := Lib.hid fun w (b : Below W.heap.size W w) => rwithin_any P vd d w (hd.below b)
  unfold CutEnd at MV
  obtain ⟨c, ec⟩ : ∃ c, c = M.errW P d := ⟨_, rfl⟩
  rw [← ec] at MV WD hW
  have HC := Lib.hid hW
  obtain ⟨Av, kv, rfl⟩ := ints_slice7 hl
  obtain ⟨Ad, kd, rfl⟩ := nums_slice' hd
  have S0 := SB.start W P N T
  obtain ⟨x0, x1, x2⟩ := (⟨S0.c0, S0.c1, S0.c2⟩ : _ ∧ _ ∧ _)
  clear hl hd ec hE hok hll hrs hi
  have hcb2 : (c != 0) = true := by rw [bne_iff_ne]; exact hW
  clear hW
  unfold suV at MV RC ⊢
  go_enter Try.func8, Try.ntmps8
  go_wp2_with fail
  (with_reducible refine (MV.out _ S0.below).mono ?_)
  rintro e w1 ⟨hb, ⟨-, rfl⟩ | ⟨h, _⟩⟩
  case inr => exact absurd h HC.out
  have S1 := S0.next hb
  clear hb x0 x1 x2
  obtain ⟨x0, x1, x2⟩ := (⟨S1.c0, S1.c1, S1.c2⟩ : _ ∧ _ ∧ _)
  go_wp2_with fail
  (with_reducible refine (RC.out _ S1.below).mono ?_)
  rintro e w2 ⟨rfl, hb⟩
  have S2 := S1.next hb
  clear hb x0 x1 x2
  obtain ⟨x0, x1, x2⟩ := (⟨S2.c0, S2.c1, S2.c2⟩ : _ ∧ _ ∧ _)
  go_wp2_with fail
  (with_reducible refine (WD.out _ S2.below).mono ?_)
  rintro e w' ⟨rfl, rfl⟩
  go_wp2_with fail
  (with_reducible refine (list7_bad c (.slice none 0 0) _ HC.out ⟨_, _, _, rfl⟩).mono ?_)
  rintro e w' ⟨rfl, rfl⟩
  go_wp2_with fail
  (with_reducible refine (alive7_any _).mono ?_)
  rintro e w3 ⟨rfl, hb⟩
  have S3 := S2.next hb
  clear hb x0 x1 x2
  obtain ⟨x0, x1, x2⟩ := (⟨S3.c0, S3.c1, S3.c2⟩ : _ ∧ _ ∧ _)
  go_wp2_with fail
  go_ret
  exact ⟨rfl, S3.below⟩

set_option maxHeartbeats 4000000 in
theorem good (W : World) (P : Nat) (n t : Int) (hP : P < 18446744073709551616) (hn1 : -9223372036854775808 ≤ n) (hn2 : n ≤ 9223372036854775807) (ht1 : -9223372036854775808 ≤ t) (ht2 : t ≤ 9223372036854775807) (v : Value) (l : List Int) (hl : IntsZ W v l) (vd : Value) (d : List Nat) (hd : Nums W vd d) (hE : M.errC P n t l = 0) (hW : M.errW P d = 0) :
    Calls Try.prog 8 #[suV P n t, v, vd] W fun e w' => e = .returned (.bool true) ∧ Below W.heap.size W w' := by
  have hud : ∀ b : Bool, undef ≠ Value.bool b := fun b h => by cases h
  obtain ⟨hok, hll, hrs⟩ := M.errC_zero hE
  obtain ⟨N, T, rfl, rfl, hi, hN1, hN2, hNT, hNp⟩ := M.okS_nat hok
  obtain ⟨h3, hp5⟩ := M.pos_of hi
  have MV := Lib.hid fun w (b : Below W.heap.size W w) => tcut_any P T N v vd l d w hn1 hn2 (hl.below b) (hd.below b) hE
  have RC := Lib.hid fun w (b : Below W.heap.size W w) => rcorrupted_any P N T v l w hP hn1 hn2 ht1 ht2 (hl.below b)
  rw [hE] at RC
  have WD := Lib.hid fun w (b : Below W.heap.size W w) => rwithin_any P vd d w (hd.below b)
  unfold CutEnd at MV
  have RM := Lib.hid fun w (b : Below W.heap.size W w) => rcut_any P T N v vd l d w hi hrs (by omega) (by omega) (M.errW_ok hW).1 (M.errW_ok hW).2 (hl.below b) (hd.below b)
  have HUN := Lib.hid fun z z' q q' r r' (h1 : M.AwayK P (M.pts l) (M.pts l).length z) (h2 : M.AwayK P (M.pts l) (M.pts l).length z') (h4 : M.IsDiv P (M.trim d) z q r) (h5 : M.IsDiv P (M.trim d) z' q' r') => M.cut_unique hi (M.pts_noz hrs) (M.pts_nodup hrs) (M.pts_within hrs (show (N : Int) < (P : Int) by omega)) h1 h2 h4 h5
  obtain ⟨c, ec⟩ : ∃ c, c = M.errW P d := ⟨_, rfl⟩
  rw [← ec] at MV WD hW
  have HC := Lib.hid hW
  obtain ⟨Av, kv, rfl⟩ := ints_slice7 hl
  obtain ⟨Ad, kd, rfl⟩ := nums_slice' hd
  have S0 := SB.start W P N T
  obtain ⟨x0, x1, x2⟩ := (⟨S0.c0, S0.c1, S0.c2⟩ : _ ∧ _ ∧ _)
  clear hl hd ec hE hok hll hrs hi
  subst hW
  unfold suV at MV RC RM ⊢
  go_enter Try.func8, Try.ntmps8
  go_wp2_with fail
  (with_reducible refine (MV.out _ S0.below).mono ?_)
  rintro e w1 ⟨hb, ⟨h, _⟩ | ⟨-, z, q, r, haw, hdv, ⟨hr, rfl⟩ | ⟨hr, vz, vq, rfl, hz, hq⟩⟩⟩
  case inl => exact absurd rfl h
  · skip
    have S1 := S0.next hb
    clear x0 x1 x2
    obtain ⟨x0, x1, x2⟩ := (⟨S1.c0, S1.c1, S1.c2⟩ : _ ∧ _ ∧ _)
    have HAW := Lib.hid haw
    have HDV := Lib.hid hdv
    have HR := Lib.hid hr
    clear hb haw hdv hr
    go_wp2_with fail
    (with_reducible refine (RC.out _ S1.below).mono ?_)
    rintro e w2 ⟨rfl, hb⟩
    have S2 := S1.next hb
    clear hb x0 x1 x2
    obtain ⟨x0, x1, x2⟩ := (⟨S2.c0, S2.c1, S2.c2⟩ : _ ∧ _ ∧ _)
    go_wp2_with fail
    (with_reducible refine (WD.out _ S2.below).mono ?_)
    rintro e w' ⟨rfl, rfl⟩
    go_wp2_with fail
    (with_reducible refine (RM.out _ S2.below).mono ?_)
    rintro e w3 ⟨v3, v4, z', q', r', rfl, hz3, hq3, haw, hdv, hb⟩
    have S3 := S2.next hb
    obtain ⟨rfl, rfl, rfl⟩ := HUN.out _ _ _ _ _ _ HAW.out haw HDV.out hdv
    have HZ3 := Lib.hid hz3
    have HQ3 := Lib.hid hq3
    obtain ⟨A3, k3, rfl⟩ := nums_slice' hz3
    obtain ⟨A4, k4, rfl⟩ := nums_slice' hq3
    have hdr : decide (r.length = 0) = false := by rw [decide_eq_false_iff_not]; exact fun h => HR.out (List.length_eq_zero_iff.1 h)
    rw [hdr]
    clear hz3 hq3 haw hdv hdr
    clear hb x0 x1 x2
    obtain ⟨x0, x1, x2⟩ := (⟨S3.c0, S3.c1, S3.c2⟩ : _ ∧ _ ∧ _)
    go_wp2_with fail
    (with_reducible refine (list7_bad 12 (.slice none 0 0) _ (by decide) ⟨_, _, _, rfl⟩).mono ?_)
    rintro e w' ⟨rfl, rfl⟩
    go_wp2_with fail
    (with_reducible refine (alive7_any _).mono ?_)
    rintro e w4 ⟨rfl, hb⟩
    have S4 := S3.next hb
    clear hb x0 x1 x2
    obtain ⟨x0, x1, x2⟩ := (⟨S4.c0, S4.c1, S4.c2⟩ : _ ∧ _ ∧ _)
    go_wp2_with fail
    go_ret
    exact ⟨rfl, S4.below⟩
  · skip
    have S1 := S0.next hb
    clear x0 x1 x2
    obtain ⟨x0, x1, x2⟩ := (⟨S1.c0, S1.c1, S1.c2⟩ : _ ∧ _ ∧ _)
    have HAW := Lib.hid haw
    have HDV := Lib.hid hdv
    have HR := Lib.hid hr
    have HZ := Lib.hid hz
    have HQ := Lib.hid hq
    obtain ⟨A1, k1, rfl⟩ := nums_slice' hz
    obtain ⟨A2, k2, rfl⟩ := nums_slice' hq
    clear hz hq
    clear hb haw hdv hr
    go_wp2_with fail
    (with_reducible refine (RC.out _ S1.below).mono ?_)
    rintro e w2 ⟨rfl, hb⟩
    have S2 := S1.next hb
    have HZ2 := Lib.hid (HZ.out.below hb)
    have HQ2 := Lib.hid (HQ.out.below hb)
    clear hb x0 x1 x2
    obtain ⟨x0, x1, x2⟩ := (⟨S2.c0, S2.c1, S2.c2⟩ : _ ∧ _ ∧ _)
    go_wp2_with fail
    (with_reducible refine (WD.out _ S2.below).mono ?_)
    rintro e w' ⟨rfl, rfl⟩
    go_wp2_with fail
    (with_reducible refine (RM.out _ S2.below).mono ?_)
    rintro e w3 ⟨v3, v4, z', q', r', rfl, hz3, hq3, haw, hdv, hb⟩
    have S3 := S2.next hb
    obtain ⟨rfl, rfl, rfl⟩ := HUN.out _ _ _ _ _ _ HAW.out haw HDV.out hdv
    have HZ3 := Lib.hid hz3
    have HQ3 := Lib.hid hq3
    have HZ4 := Lib.hid (HZ2.out.below hb)
    have HQ4 := Lib.hid (HQ2.out.below hb)
    obtain ⟨A3, k3, rfl⟩ := nums_slice' hz3
    obtain ⟨A4, k4, rfl⟩ := nums_slice' hq3
    have hdr : decide (r.length = 0) = true := by simp [HR.out]
    rw [hdr]
    clear hz3 hq3 haw hdv hdr
    clear hb x0 x1 x2
    obtain ⟨x0, x1, x2⟩ := (⟨S3.c0, S3.c1, S3.c2⟩ : _ ∧ _ ∧ _)
    go_wp2_with fail
    (with_reducible refine (list7_good _ _ z _ HZ4.out HZ3.out).mono ?_)
    rintro e w4 ⟨rfl, hb⟩
    have S4 := S3.next hb
    have HQ5 := Lib.hid (HQ4.out.below hb)
    have HQ6 := Lib.hid (HQ3.out.below hb)
    clear hb x0 x1 x2
    obtain ⟨x0, x1, x2⟩ := (⟨S4.c0, S4.c1, S4.c2⟩ : _ ∧ _ ∧ _)
    go_wp2_with fail
    (with_reducible refine (same_any _ _ q _ HQ5.out HQ6.out).mono ?_)
    rintro e w5 ⟨rfl, hb⟩
    have S5 := S4.next hb
    clear hb x0 x1 x2
    obtain ⟨x0, x1, x2⟩ := (⟨S5.c0, S5.c1, S5.c2⟩ : _ ∧ _ ∧ _)
    go_wp2_with fail
    go_ret
    exact ⟨rfl, S5.below⟩

theorem walk (W : World) (P : Nat) (n t : Int) (hP : P < 18446744073709551616) (hn1 : -9223372036854775808 ≤ n) (hn2 : n ≤ 9223372036854775807) (ht1 : -9223372036854775808 ≤ t) (ht2 : t ≤ 9223372036854775807) (v : Value) (l : List Int) (hl : IntsZ W v l) (vd : Value) (d : List Nat) (hd : Nums W vd d) :
    Calls Try.prog 8 #[suV P n t, v, vd] W fun e w' => e = .returned (.bool true) ∧ Below W.heap.size W w' := by
  by_cases hE : M.errC P n t l = 0
  · by_cases hW : M.errW P d = 0
    · exact good W P n t hP hn1 hn2 ht1 ht2 v l hl vd d hd hE hW
    · exact far W P n t hP hn1 hn2 ht1 ht2 v l hl vd d hd hE hW
  · exact no W P n t hP hn1 hn2 ht1 ht2 v l hl vd d hd hE
end twiceCutsW
end Go.Proofs.Ytfkepkdfpjaniaa
