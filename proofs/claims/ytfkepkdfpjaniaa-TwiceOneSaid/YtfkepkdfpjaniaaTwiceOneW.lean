/-
  The walk of TwiceOne: one secret, two degrees.
-/
import Derived.Test.YtfkepkdfpjaniaaSb7
import Derived.Test.YtfkepkdfpjaniaaRA
import Derived.Deep.RegionHeld3
import Derived.Test.YtfkepkdfpjaniaaLex2
namespace Go.Proofs.Ytfkepkdfpjaniaa
open Go.RowKit
set_option linter.unusedVariables false
set_option maxRecDepth 100000

theorem mat_row7 {w : World} {A : Option Addr} {n cap : Nat} {m : List (List Nat)} (hn : m.length = n) (h : Mat w (.slice A n cap) m) : n = m.length ∧ (0 < n → ∃ b off, A = some ⟨b, off, none⟩ ∧ b < w.heap.size ∧
    ∀ i, i < n → ∃ Au cu, w.cell? ⟨b, off + i, none⟩ = some (.slice Au (m.getD i []).length cu) ∧ Nums w (.slice Au (m.getD i []).length cu) (m.getD i [])) := by
  subst hn
  refine ⟨rfl, fun h0 => ?_⟩
  obtain ⟨b, off, e, hb, hc⟩ := (mat_row h).2 h0
  exact ⟨b, off, e, hb, fun i hi => by obtain ⟨Au, cu, c1, c2, _⟩ := hc i hi; exact ⟨Au, cu, c1, c2⟩⟩
namespace twiceOneW
set_option maxHeartbeats 4000000 in
theorem no (W : World) (P : Nat) (n t : Int) (hP : P < 18446744073709551616) (hn1 : -9223372036854775808 ≤ n) (hn2 : n ≤ 9223372036854775807) (ht1 : -9223372036854775808 ≤ t) (ht2 : t ≤ 9223372036854775807) (s : Nat) (hs : s < 18446744073709551616) (vz : Value) (z : List Nat) (vq : Value) (q : List Nat) (hz : Nums W vz z) (hq : Nums W vq q) (hok : M.okS P n t = false) :
    Calls Try.prog 9 #[suV P n t, .int .u64 s, .agg #[vz, vq]] W fun e w' => e = .returned (.bool true) ∧ Below W.heap.size W w' := by
  have hud : ∀ b : Bool, undef ≠ Value.bool b := fun b h => by cases h
  have MK := Lib.hid fun w (b : Below W.heap.size W w) => tmake_setup P s n t vq q w hP hn1 hn2 ht1 ht2 (hq.below b) hok
  obtain ⟨Az, cz, rfl⟩ := nums_slice' hz
  obtain ⟨Aq, cq, rfl⟩ := nums_slice' hq
  obtain ⟨ZL, eZL⟩ : ∃ ZL, ZL = z.length := ⟨_, rfl⟩
  obtain ⟨QL, eQL⟩ : ∃ QL, QL = q.length := ⟨_, rfl⟩
  rw [← eQL] at MK
  rw [← eZL, ← eQL]
  have S0 := SC.start W P n t Az Aq ZL cz QL cq
  obtain ⟨x0, x1, x2, x3, x4⟩ := (⟨S0.c0, S0.c1, S0.c2, S0.d0, S0.d1⟩ : _ ∧ _ ∧ _ ∧ _ ∧ _)
  clear hz hq hok eZL eQL
  unfold suV at MK ⊢
  go_enter Try.func9, Try.ntmps9
  go_wp2_with fail
  (with_reducible refine (MK.out _ S0.below).mono ?_)
  rintro e w1 ⟨rfl, hb⟩
  have S1 := S0.next hb
  clear hb x0 x1 x2 x3 x4
  obtain ⟨x0, x1, x2, x3, x4⟩ := (⟨S1.c0, S1.c1, S1.c2, S1.d0, S1.d1⟩ : _ ∧ _ ∧ _ ∧ _ ∧ _)
  go_wp2_with fail
  try dsimp only [List.append]
  refine wp_region_lex (S := fun w' => w'.cell? ⟨W.heap.size, 0, none⟩ = some (.int .u64 (P : Nat)) ∧ w'.cell? ⟨W.heap.size + 1, 0, none⟩ = some (.slice Az ZL cz)) (by kernel_rfl) (by kernel_rfl) (fun _ _ _ _ _ h => h) (⟨x0, x3⟩) ?_
  repeat (first
    | (refine LexH.pass (by rfl) ?_; (try simp only [Act.put, List.setIfInBounds_toArray, List.set_cons_zero, List.set_cons_succ]))
    | (refine LexH.yield (v := ?_) (by rfl) ?_ ?_; rotate_left 1; (· intro w hSw; (try dsimp only at hSw); go_simp; try with_reducible rfl); (try simp only [Act.put, List.setIfInBounds_toArray, List.set_cons_zero, List.set_cons_succ]))
    )
  refine LexH.nil ?_
  have S2 := S1.drew
  clear x0 x1 x2 x3 x4
  obtain ⟨x0, x1, x2, x3, x4⟩ := (⟨S2.c0, S2.c1, S2.c2, S2.d0, S2.d1⟩ : _ ∧ _ ∧ _ ∧ _ ∧ _)
  go_wp2_with fail
  (with_reducible refine (alive7_any _).mono ?_)
  rintro e w3 ⟨rfl, hb⟩
  have S3 := S2.next hb
  clear hb x0 x1 x2 x3 x4
  obtain ⟨x0, x1, x2, x3, x4⟩ := (⟨S3.c0, S3.c1, S3.c2, S3.d0, S3.d1⟩ : _ ∧ _ ∧ _ ∧ _ ∧ _)
  go_wp2_with fail
  go_ret
  exact ⟨rfl, S3.below⟩

set_option maxHeartbeats 4000000 in
theorem arg (W : World) (P : Nat) (n t : Int) (hP : P < 18446744073709551616) (hn1 : -9223372036854775808 ≤ n) (hn2 : n ≤ 9223372036854775807) (ht1 : -9223372036854775808 ≤ t) (ht2 : t ≤ 9223372036854775807) (s : Nat) (hs : s < 18446744073709551616) (vz : Value) (z : List Nat) (vq : Value) (q : List Nat) (hz : Nums W vz z) (hq : Nums W vq q) (hok : M.okS P n t = true) (hsp : P ≤ s) :
    Calls Try.prog 9 #[suV P n t, .int .u64 s, .agg #[vz, vq]] W fun e w' => e = .returned (.bool true) ∧ Below W.heap.size W w' := by
  have hud : ∀ b : Bool, undef ≠ Value.bool b := fun b h => by cases h
  have MK := Lib.hid fun w (b : Below W.heap.size W w) => tmake_arg P s n t vq q w hP hn1 hn2 ht1 ht2 (hq.below b) hok hs hsp
  obtain ⟨Az, cz, rfl⟩ := nums_slice' hz
  obtain ⟨Aq, cq, rfl⟩ := nums_slice' hq
  obtain ⟨ZL, eZL⟩ : ∃ ZL, ZL = z.length := ⟨_, rfl⟩
  obtain ⟨QL, eQL⟩ : ∃ QL, QL = q.length := ⟨_, rfl⟩
  rw [← eQL] at MK
  rw [← eZL, ← eQL]
  have S0 := SC.start W P n t Az Aq ZL cz QL cq
  obtain ⟨x0, x1, x2, x3, x4⟩ := (⟨S0.c0, S0.c1, S0.c2, S0.d0, S0.d1⟩ : _ ∧ _ ∧ _ ∧ _ ∧ _)
  clear hz hq hok eZL eQL
  unfold suV at MK ⊢
  go_enter Try.func9, Try.ntmps9
  go_wp2_with fail
  (with_reducible refine (MK.out _ S0.below).mono ?_)
  rintro e w1 ⟨rfl, hb⟩
  have S1 := S0.next hb
  clear hb x0 x1 x2 x3 x4
  obtain ⟨x0, x1, x2, x3, x4⟩ := (⟨S1.c0, S1.c1, S1.c2, S1.d0, S1.d1⟩ : _ ∧ _ ∧ _ ∧ _ ∧ _)
  go_wp2_with fail
  try dsimp only [List.append]
  refine wp_region_lex (S := fun w' => w'.cell? ⟨W.heap.size, 0, none⟩ = some (.int .u64 (P : Nat)) ∧ w'.cell? ⟨W.heap.size + 1, 0, none⟩ = some (.slice Az ZL cz)) (by kernel_rfl) (by kernel_rfl) (fun _ _ _ _ _ h => h) (⟨x0, x3⟩) ?_
  repeat (first
    | (refine LexH.pass (by rfl) ?_; (try simp only [Act.put, List.setIfInBounds_toArray, List.set_cons_zero, List.set_cons_succ]))
    | (refine LexH.yield (v := ?_) (by rfl) ?_ ?_; rotate_left 1; (· intro w hSw; (try dsimp only at hSw); go_simp; try with_reducible rfl); (try simp only [Act.put, List.setIfInBounds_toArray, List.set_cons_zero, List.set_cons_succ]))
    )
  refine LexH.nil ?_
  have S2 := S1.drew
  clear x0 x1 x2 x3 x4
  obtain ⟨x0, x1, x2, x3, x4⟩ := (⟨S2.c0, S2.c1, S2.c2, S2.d0, S2.d1⟩ : _ ∧ _ ∧ _ ∧ _ ∧ _)
  go_wp2_with fail
  (with_reducible refine (alive7_any _).mono ?_)
  rintro e w3 ⟨rfl, hb⟩
  have S3 := S2.next hb
  clear hb x0 x1 x2 x3 x4
  obtain ⟨x0, x1, x2, x3, x4⟩ := (⟨S3.c0, S3.c1, S3.c2, S3.d0, S3.d1⟩ : _ ∧ _ ∧ _ ∧ _ ∧ _)
  go_wp2_with fail
  go_ret
  exact ⟨rfl, S3.below⟩

set_option maxHeartbeats 4000000 in
theorem long (W : World) (P : Nat) (n t : Int) (hP : P < 18446744073709551616) (hn1 : -9223372036854775808 ≤ n) (hn2 : n ≤ 9223372036854775807) (ht1 : -9223372036854775808 ≤ t) (ht2 : t ≤ 9223372036854775807) (s : Nat) (hs : s < 18446744073709551616) (vz : Value) (z : List Nat) (vq : Value) (q : List Nat) (hz : Nums W vz z) (hq : Nums W vq q) (hok : M.okS P n t = true) (hsp : s < P) (hl : z.length ≠ 1) :
    Calls Try.prog 9 #[suV P n t, .int .u64 s, .agg #[vz, vq]] W fun e w' => e = .returned (.bool true) ∧ Below W.heap.size W w' := by
  have hud : ∀ b : Bool, undef ≠ Value.bool b := fun b h => by cases h
  obtain ⟨N, T, rfl, rfl, hi, hN1, hN2, hNT, hNp⟩ := M.okS_nat hok
  obtain ⟨h3, hp5⟩ := M.pos_of hi
  have MK := Lib.hid fun w (b : Below W.heap.size W w) => tmake_any P s T N vq q w hn1 hn2 (hq.below b) hok hsp
  obtain ⟨mm, emm⟩ : ∃ mm, mm = M.mmade P s T q T := ⟨_, rfl⟩
  rw [← emm] at MK
  obtain ⟨rs, ers⟩ : ∃ rs, rs = q.drop (T + T * (T + 1)) := ⟨_, rfl⟩
  rw [← ers] at MK
  obtain ⟨Az, cz, rfl⟩ := nums_slice' hz
  obtain ⟨Aq, cq, rfl⟩ := nums_slice' hq
  obtain ⟨ZL, eZL⟩ : ∃ ZL, ZL = z.length := ⟨_, rfl⟩
  obtain ⟨QL, eQL⟩ : ∃ QL, QL = q.length := ⟨_, rfl⟩
  rw [← eQL] at MK
  rw [← eZL, ← eQL]
  have hb1 : ((ZL : Int) != 1) = true := by rw [bne_iff_ne]; omega
  have S0 := SC.start W P N T Az Aq ZL cz QL cq
  obtain ⟨x0, x1, x2, x3, x4⟩ := (⟨S0.c0, S0.c1, S0.c2, S0.d0, S0.d1⟩ : _ ∧ _ ∧ _ ∧ _ ∧ _)
  clear hz hq hok hi emm ers eZL eQL hl
  unfold suV at MK ⊢
  go_enter Try.func9, Try.ntmps9
  go_wp2_with fail
  (with_reducible refine (MK.out _ S0.below).mono ?_)
  rintro e w1 ⟨v1, v2, rfl, hm, hn, hb⟩
  have S1 := S0.next hb
  obtain ⟨A1, k1, rfl, _⟩ := mat_view6 hm
  obtain ⟨A2, k2, rfl⟩ := nums_slice' hn
  clear hm hn
  clear hb x0 x1 x2 x3 x4
  obtain ⟨x0, x1, x2, x3, x4⟩ := (⟨S1.c0, S1.c1, S1.c2, S1.d0, S1.d1⟩ : _ ∧ _ ∧ _ ∧ _ ∧ _)
  go_wp2_with fail
  try dsimp only [List.append]
  refine wp_region_lex (S := fun w' => w'.cell? ⟨W.heap.size, 0, none⟩ = some (.int .u64 (P : Nat)) ∧ w'.cell? ⟨W.heap.size + 1, 0, none⟩ = some (.slice Az ZL cz)) (by kernel_rfl) (by kernel_rfl) (fun _ _ _ _ _ h => h) (⟨x0, x3⟩) ?_
  repeat (first
    | (refine LexH.pass (by rfl) ?_; (try simp only [Act.put, List.setIfInBounds_toArray, List.set_cons_zero, List.set_cons_succ]))
    | (refine LexH.yield (v := ?_) (by rfl) ?_ ?_; rotate_left 1; (· intro w hSw; (try dsimp only at hSw); go_simp; try with_reducible rfl); (try simp only [Act.put, List.setIfInBounds_toArray, List.set_cons_zero, List.set_cons_succ]))
    )
  refine LexH.nil ?_
  have S2 := S1.drew
  clear x0 x1 x2 x3 x4
  obtain ⟨x0, x1, x2, x3, x4⟩ := (⟨S2.c0, S2.c1, S2.c2, S2.d0, S2.d1⟩ : _ ∧ _ ∧ _ ∧ _ ∧ _)
  go_wp2_with fail
  (with_reducible refine (alive7_any _).mono ?_)
  rintro e w3 ⟨rfl, hb⟩
  have S3 := S2.next hb
  clear hb x0 x1 x2 x3 x4
  obtain ⟨x0, x1, x2, x3, x4⟩ := (⟨S3.c0, S3.c1, S3.c2, S3.d0, S3.d1⟩ : _ ∧ _ ∧ _ ∧ _ ∧ _)
  go_wp2_with fail
  go_ret
  exact ⟨rfl, S3.below⟩

set_option maxHeartbeats 4000000 in
theorem far (W : World) (P : Nat) (n t : Int) (hP : P < 18446744073709551616) (hn1 : -9223372036854775808 ≤ n) (hn2 : n ≤ 9223372036854775807) (ht1 : -9223372036854775808 ≤ t) (ht2 : t ≤ 9223372036854775807) (s : Nat) (hs : s < 18446744073709551616) (vz : Value) (z : List Nat) (vq : Value) (q : List Nat) (hz : Nums W vz z) (hq : Nums W vq q) (hok : M.okS P n t = true) (hsp : s < P) (hl : z.length = 1) (hge : ∀ y, z = [y] → P ≤ y) :
    Calls Try.prog 9 #[suV P n t, .int .u64 s, .agg #[vz, vq]] W fun e w' => e = .returned (.bool true) ∧ Below W.heap.size W w' := by
  have hud : ∀ b : Bool, undef ≠ Value.bool b := fun b h => by cases h
  obtain ⟨N, T, rfl, rfl, hi, hN1, hN2, hNT, hNp⟩ := M.okS_nat hok
  obtain ⟨h3, hp5⟩ := M.pos_of hi
  have MK := Lib.hid fun w (b : Below W.heap.size W w) => tmake_any P s T N vq q w hn1 hn2 (hq.below b) hok hsp
  obtain ⟨mm, emm⟩ : ∃ mm, mm = M.mmade P s T q T := ⟨_, rfl⟩
  rw [← emm] at MK
  obtain ⟨rs, ers⟩ : ∃ rs, rs = q.drop (T + T * (T + 1)) := ⟨_, rfl⟩
  rw [← ers] at MK
  obtain ⟨y, rfl⟩ : ∃ y, z = [y] := by match z, hl with | [y], _ => exact ⟨y, rfl⟩
  have hyl : y < 18446744073709551616 := hz.1 y (by simp)
  obtain ⟨Az0, cz, e, _, _, hcz⟩ := nums_view hz
  obtain ⟨bz, oz, rfl, hbz, hcz2⟩ := hcz (by simp)
  have hcy := hcz2 0 (by simp)
  rw [Nat.add_zero] at hcy
  rw [show ([y] : List Nat).getD 0 0 = y from rfl] at hcy
  rw [show ([y] : List Nat).length = 1 from rfl] at e
  subst e
  have HYC := Lib.hid fun w (b : Below W.heap.size W w) => (b.cell (p := ⟨bz, oz, none⟩) hbz).trans hcy
  obtain ⟨Aq, cq, rfl⟩ := nums_slice' hq
  obtain ⟨QL, eQL⟩ : ∃ QL, QL = q.length := ⟨_, rfl⟩
  rw [← eQL] at MK
  rw [← eQL]
  skip
  have hd : decide ((y : Int) ≥ (P : Int)) = true := by rw [decide_eq_true_eq]; have := hge y rfl; omega
  have hge' : P ≤ y := hge y rfl
  have S0 := SC.start W P N T (some ⟨bz, oz, none⟩) Aq 1 cz QL cq
  obtain ⟨x0, x1, x2, x3, x4⟩ := (⟨S0.c0, S0.c1, S0.c2, S0.d0, S0.d1⟩ : _ ∧ _ ∧ _ ∧ _ ∧ _)
  clear hz hq hok hi emm ers eQL hl hcz hcz2 hcy hge
  unfold suV at MK ⊢
  go_enter Try.func9, Try.ntmps9
  go_wp2_with fail
  (with_reducible refine (MK.out _ S0.below).mono ?_)
  rintro e w1 ⟨v1, v2, rfl, hm, hn, hb⟩
  have S1 := S0.next hb
  obtain ⟨A1, k1, rfl, _⟩ := mat_view6 hm
  obtain ⟨A2, k2, rfl⟩ := nums_slice' hn
  clear hm hn
  have y0 := HYC.out _ S1.below
  clear hb x0 x1 x2 x3 x4
  obtain ⟨x0, x1, x2, x3, x4⟩ := (⟨S1.c0, S1.c1, S1.c2, S1.d0, S1.d1⟩ : _ ∧ _ ∧ _ ∧ _ ∧ _)
  go_wp2_with fail
  try dsimp only [List.append]
  refine wp_region_lex (S := fun w' => w'.cell? ⟨W.heap.size, 0, none⟩ = some (.int .u64 (P : Nat)) ∧ w'.cell? ⟨W.heap.size + 1, 0, none⟩ = some (.slice (some ⟨bz, oz, none⟩) 1 cz) ∧ w'.cell? ⟨bz, oz, none⟩ = some (.int .u64 (y : Nat))) (by kernel_rfl) (by kernel_rfl) (fun _ _ _ _ _ h => h) (⟨x0, x3, y0⟩) ?_
  repeat (first
    | (refine LexH.pass (by rfl) ?_; (try simp only [Act.put, List.setIfInBounds_toArray, List.set_cons_zero, List.set_cons_succ]))
    | (refine LexH.yield (v := ?_) (by rfl) ?_ ?_; rotate_left 1; (· intro w hSw; (try dsimp only at hSw); go_simp; try with_reducible rfl); (try simp only [Act.put, List.setIfInBounds_toArray, List.set_cons_zero, List.set_cons_succ]))
    )
  refine LexH.nil ?_
  have S2 := S1.drew
  clear x0 x1 x2 x3 x4
  obtain ⟨x0, x1, x2, x3, x4⟩ := (⟨S2.c0, S2.c1, S2.c2, S2.d0, S2.d1⟩ : _ ∧ _ ∧ _ ∧ _ ∧ _)
  go_wp2_with fail
  (with_reducible refine (alive7_any _).mono ?_)
  rintro e w3 ⟨rfl, hb⟩
  have S3 := S2.next hb
  clear hb x0 x1 x2 x3 x4
  obtain ⟨x0, x1, x2, x3, x4⟩ := (⟨S3.c0, S3.c1, S3.c2, S3.d0, S3.d1⟩ : _ ∧ _ ∧ _ ∧ _ ∧ _)
  go_wp2_with fail
  go_ret
  exact ⟨rfl, S3.below⟩

set_option maxHeartbeats 4000000 in
theorem good (W : World) (P : Nat) (n t : Int) (hP : P < 18446744073709551616) (hn1 : -9223372036854775808 ≤ n) (hn2 : n ≤ 9223372036854775807) (ht1 : -9223372036854775808 ≤ t) (ht2 : t ≤ 9223372036854775807) (s : Nat) (hs : s < 18446744073709551616) (vz : Value) (z : List Nat) (vq : Value) (q : List Nat) (hz : Nums W vz z) (hq : Nums W vq q) (hok : M.okS P n t = true) (hsp : s < P) (hl : z.length = 1) (hlt : ∀ y, z = [y] → y < P) :
    Calls Try.prog 9 #[suV P n t, .int .u64 s, .agg #[vz, vq]] W fun e w' => e = .returned (.bool true) ∧ Below W.heap.size W w' := by
  have hud : ∀ b : Bool, undef ≠ Value.bool b := fun b h => by cases h
  obtain ⟨N, T, rfl, rfl, hi, hN1, hN2, hNT, hNp⟩ := M.okS_nat hok
  obtain ⟨h3, hp5⟩ := M.pos_of hi
  have MK := Lib.hid fun w (b : Below W.heap.size W w) => tmake_any P s T N vq q w hn1 hn2 (hq.below b) hok hsp
  have hmk := M.mmade_ok (T := T) (show 0 < P by omega) hsp q
  have hch : M.tchk P N T (M.mmade P s T q T) = 0 := by rw [M.tchk_of hok]; exact M.mform_ok hmk
  have hsec : M.pev P ((M.mmade P s T q T).getD 0 []) 0 = s := M.mmade_secret hsp q T
  have hwd := M.whole_deg hmk
  have hlow : M.pev P (M.wholeK P (M.mmade P s T q T) (T + 1)) 0 = s := by rw [M.wholeK_pev, M.hiK_low, hsec]
  obtain ⟨mm, emm⟩ : ∃ mm, mm = M.mmade P s T q T := ⟨_, rfl⟩
  rw [← emm] at MK hmk hch hsec hwd hlow
  obtain ⟨rs, ers⟩ : ∃ rs, rs = q.drop (T + T * (T + 1)) := ⟨_, rfl⟩
  rw [← ers] at MK
  obtain ⟨y, rfl⟩ : ∃ y, z = [y] := by match z, hl with | [y], _ => exact ⟨y, rfl⟩
  have hyl : y < 18446744073709551616 := hz.1 y (by simp)
  obtain ⟨Az0, cz, e, _, _, hcz⟩ := nums_view hz
  obtain ⟨bz, oz, rfl, hbz, hcz2⟩ := hcz (by simp)
  have hcy := hcz2 0 (by simp)
  rw [Nat.add_zero] at hcy
  rw [show ([y] : List Nat).getD 0 0 = y from rfl] at hcy
  rw [show ([y] : List Nat).length = 1 from rfl] at e
  subst e
  have HYC := Lib.hid fun w (b : Below W.heap.size W w) => (b.cell (p := ⟨bz, oz, none⟩) hbz).trans hcy
  obtain ⟨Aq, cq, rfl⟩ := nums_slice' hq
  obtain ⟨QL, eQL⟩ : ∃ QL, QL = q.length := ⟨_, rfl⟩
  rw [← eQL] at MK
  rw [← eQL]
  skip
  have hyp : y < P := hlt y rfl
  have hd : decide ((y : Int) ≥ (P : Int)) = false := by rw [decide_eq_false_iff_not]; omega
  have LO := Lib.hid fun w v (h : Mat w v mm) => tlow_any P T 0 N v mm w hn1 hn2 (by omega) h hch
  have HI := Lib.hid fun x w v (h : Mat w v mm) (hx : x < 18446744073709551616) => thigh_any P T x N v mm w hn1 hn2 hx h hch
  have WH := Lib.hid fun w v (h : Mat w v mm) => tWhole_any P T N v mm w hn1 hn2 h hch
  have EV := Lib.hid fun w v f (h1 : M.within P f = true) (h : Nums w v f) => reval_any P y v f w (by omega) hp5 hyp h1 h
  have JO := Lib.hid fun w v f (h : Nums w v f) => tjoin_any P T y N v f w hn1 hn2 hyl h hok
  unfold AtEnd at LO HI
  unfold JoinEnd at JO
  rw [hsec] at LO
  have HOK := Lib.hid hmk
  have HLOW := Lib.hid hlow
  have hvals : M.pev P (M.wholeK P mm (T + 1)) y = M.pev P (M.tabM (T + 1) fun k => M.pev P (mm.getD k []) y) y := by rw [M.wholeK_pev, M.hiK_vals]; rfl
  have hvw : M.within P (M.tabM (T + 1) fun k => M.pev P (mm.getD k []) y) = true := M.within_tabM fun k _ => Nat.mod_lt _ (by omega)
  have hww : M.within P (M.wholeK P mm (T + 1)) = true := M.wholeK_within (by omega) mm _
  obtain ⟨ww, eww⟩ : ∃ ww, ww = M.wholeK P mm (T + 1) := ⟨_, rfl⟩
  rw [← eww] at HI WH HLOW hwd hvals hww
  have HI0 := Lib.hid fun w v (h : Mat w v mm) => HI.out 0 w v h (by omega)
  rw [HLOW.out] at HI0
  have HVS := Lib.hid hvals
  have HVW := Lib.hid hvw
  have HWW := Lib.hid hww
  have HWD := Lib.hid hwd
  have S0 := SC.start W P N T (some ⟨bz, oz, none⟩) Aq 1 cz QL cq
  obtain ⟨x0, x1, x2, x3, x4⟩ := (⟨S0.c0, S0.c1, S0.c2, S0.d0, S0.d1⟩ : _ ∧ _ ∧ _ ∧ _ ∧ _)
  have hml : mm.length = T + 1 := hmk.len
  have HML := Lib.hid hml
  clear hz hq hok hi emm ers eQL hl hcz hcz2 hcy hlt hvals hvw hww hwd hlow hsec hch hmk eww hml
  unfold suV at MK LO HI HI0 WH JO ⊢
  go_enter Try.func9, Try.ntmps9
  go_wp2_with fail
  (with_reducible refine (MK.out _ S0.below).mono ?_)
  rintro e w1 ⟨v1, v2, rfl, hm, hn, hb⟩
  have S1 := S0.next hb
  have HM1 := Lib.hid hm
  obtain ⟨A1, k1, rfl, _⟩ := mat_view6 hm
  obtain ⟨A2, k2, rfl⟩ := nums_slice' hn
  rw [HML.out] at HM1 ⊢
  clear hm hn
  have y0 := HYC.out _ S1.below
  clear hb x0 x1 x2 x3 x4
  obtain ⟨x0, x1, x2, x3, x4⟩ := (⟨S1.c0, S1.c1, S1.c2, S1.d0, S1.d1⟩ : _ ∧ _ ∧ _ ∧ _ ∧ _)
  go_wp2_with fail
  try dsimp only [List.append]
  refine wp_region_lex (S := fun w' => w'.cell? ⟨W.heap.size, 0, none⟩ = some (.int .u64 (P : Nat)) ∧ w'.cell? ⟨W.heap.size + 1, 0, none⟩ = some (.slice (some ⟨bz, oz, none⟩) 1 cz) ∧ w'.cell? ⟨bz, oz, none⟩ = some (.int .u64 (y : Nat))) (by kernel_rfl) (by kernel_rfl) (fun _ _ _ _ _ h => h) (⟨x0, x3, y0⟩) ?_
  repeat (first
    | (refine LexH.pass (by rfl) ?_; (try simp only [Act.put, List.setIfInBounds_toArray, List.set_cons_zero, List.set_cons_succ]))
    | (refine LexH.yield (v := ?_) (by rfl) ?_ ?_; rotate_left 1; (· intro w hSw; (try dsimp only at hSw); go_simp; try with_reducible rfl); (try simp only [Act.put, List.setIfInBounds_toArray, List.set_cons_zero, List.set_cons_succ]))
    )
  refine LexH.nil ?_
  have S2 := S1.drew
  have HM2 := Lib.hid (HM1.out.below (Below.refl _ _).drew)
  clear x0 x1 x2 x3 x4 y0
  obtain ⟨x0, x1, x2, x3, x4⟩ := (⟨S2.c0, S2.c1, S2.c2, S2.d0, S2.d1⟩ : _ ∧ _ ∧ _ ∧ _ ∧ _)
  go_wp2_with fail
  refine (LO.out _ _ HM2.out).mono ?_
  rintro e w3 ⟨⟨-, rfl⟩ | ⟨h, _⟩, hb⟩
  case inr => exact absurd h (by omega)
  have S3 := S2.next hb
  have HM3 := Lib.hid (HM2.out.below hb)
  clear hb x0 x1 x2 x3 x4
  obtain ⟨x0, x1, x2, x3, x4⟩ := (⟨S3.c0, S3.c1, S3.c2, S3.d0, S3.d1⟩ : _ ∧ _ ∧ _ ∧ _ ∧ _)
  go_wp2_with fail
  refine (HI0.out _ _ HM3.out).mono ?_
  rintro e w4 ⟨⟨-, rfl⟩ | ⟨h, _⟩, hb⟩
  case inr => exact absurd h (by omega)
  have S4 := S3.next hb
  have HM4 := Lib.hid (HM3.out.below hb)
  clear hb x0 x1 x2 x3 x4
  obtain ⟨x0, x1, x2, x3, x4⟩ := (⟨S4.c0, S4.c1, S4.c2, S4.d0, S4.d1⟩ : _ ∧ _ ∧ _ ∧ _ ∧ _)
  go_wp2_with fail
  (with_reducible refine (WH.out _ _ HM4.out).mono ?_)
  rintro e w5 ⟨v5, rfl, hn, hb⟩
  have S5 := S4.next hb
  have HM5 := Lib.hid (HM4.out.below hb)
  have HN5 := Lib.hid hn
  obtain ⟨A5, k5, rfl⟩ := nums_slice' hn
  clear hn
  clear hb x0 x1 x2 x3 x4
  obtain ⟨x0, x1, x2, x3, x4⟩ := (⟨S5.c0, S5.c1, S5.c2, S5.d0, S5.d1⟩ : _ ∧ _ ∧ _ ∧ _ ∧ _)
  go_wp2_with fail
  have hB0 := Below.refl w5.heap.size w5
  have ylt : bz < W.heap.size := hbz
  clear x0 x1 x2 x3 x4
  go_loopw [70, 16] (fun ti tv wr => ∃ k : Nat, k ≤ T + 1 ∧ ti = .int .i64 k ∧ wr.ownsRow w5.heap.size 22 1 tv k (vals (M.tabM k fun k => M.pev P (mm.getD k []) y)) ∧ Below w5.heap.size w5 wr) (fun ti _ _ => T + 1 - (intOf ti).toNat)
  case atStart => exact ⟨0, by omega, rfl, World.ownsRow_nil _ _ _ _, hB0⟩
  case round =>
    obtain ⟨k, hk, rfl, hown, hB⟩ := hrel
    have HO := Lib.hid hown
    have HB := Lib.hid hB
    have S6 := S5.next hB
    have HM6 := Lib.hid (HM5.out.below hB)
    have HN6 := Lib.hid (HN5.out.below hB)
    have y0 := HYC.out _ S6.below
    clear hown hB hB0
    obtain ⟨x0, x1, x2, x3, x4⟩ := (⟨S6.c0, S6.c1, S6.c2, S6.d0, S6.d1⟩ : _ ∧ _ ∧ _ ∧ _ ∧ _)
    by_cases hlt : k < T + 1
    · obtain ⟨b, off, rfl, hbl, hcells⟩ := (mat_row7 HML.out HM6.out).2 (by omega)
      obtain ⟨Au, cu, ck, hnk⟩ := hcells k hlt
      have hwk := HOK.out.lt k hlt
      have hev := EV.out wr.drew _ (mm.getD k []) hwk (hnk.below (Below.refl _ _).drew)
      have hsn : vals (M.tabM (k + 1) fun k => M.pev P (mm.getD k []) y) = vals (M.tabM k fun k => M.pev P (mm.getD k []) y) ++ vals [M.pev P (mm.getD k []) y] := by unfold M.tabM vals; rw [List.range_succ]; simp
      have hpl : M.pev P (mm.getD k []) y < 18446744073709551616 := Nat.lt_trans (Nat.mod_lt _ (by omega)) hP
      obtain ⟨X, eX⟩ : ∃ X, X = M.pev P (mm.getD k []) y := ⟨_, rfl⟩
      rw [← eX] at hev hsn hpl
      obtain ⟨L, eL⟩ : ∃ L, L = (mm.getD k []).length := ⟨_, rfl⟩
      rw [← eL] at ck hev
      have HEV := Lib.hid hev
      have HSN := Lib.hid hsn
      have hbs : w5.heap.size ≤ wr.heap.size := HB.out.size
      have hzs := S6.lt
      have hzs1 := S6.lt1
      have hyz : bz < wr.heap.size := Nat.lt_of_lt_of_le ylt S6.below.size
      have HO7 := Lib.hid (show ((wr.alloc (.cells #[.int .u64 (X : Nat)] 22)).drew).ownsRow w5.heap.size 22 1 _ _ _ from HO.out.alloc _)
      have N17 := Lib.hid ((nums1 wr X hpl).below (Below.refl _ _).drew)
      have B17 := Lib.hid (balloc wr (.cells #[.int .u64 (X : Nat)] 22)).drew
      clear hcells hnk hwk hev hsn eX eL
      go_wp2_with fail
      try dsimp only [List.append]
      refine wp_region_lex (S := fun w' => w'.cell? ⟨W.heap.size, 0, none⟩ = some (.int .u64 (P : Nat)) ∧ w'.cell? ⟨W.heap.size + 1, 0, none⟩ = some (.slice (some ⟨bz, oz, none⟩) 1 cz) ∧ w'.cell? ⟨bz, oz, none⟩ = some (.int .u64 (y : Nat))) (by kernel_rfl) (by kernel_rfl) (fun _ _ _ _ _ h => h) (⟨x0, x3, y0⟩) ?_
      repeat (first
        | (refine LexH.pass (by rfl) ?_; (try simp only [Act.put, List.setIfInBounds_toArray, List.set_cons_zero, List.set_cons_succ]))
        | (refine LexH.yield (v := ?_) (by rfl) ?_ ?_; rotate_left 1; (· intro w hSw; (try dsimp only at hSw); go_simp; try with_reducible rfl); (try simp only [Act.put, List.setIfInBounds_toArray, List.set_cons_zero, List.set_cons_succ]))
        | (refine LexH.alone (by rfl) (by kernel_rfl) (fun K hKK => ?_); (refine wp_append_nums6 _ _ rfl w5.heap.size _ k _ (by rfl) HO7.out _ [X] (by rfl) N17.out (by simp; omega) (by have := HB.out.size; simp; omega) ?_); intro v' w7 hown' hb7; have c7 : Below w5.heap.size wr w7 := (B17.out.mono hbs).trans hb7; refine hKK.out _ _ ⟨(c7.cell (p := ⟨W.heap.size, 0, none⟩) S5.lt).trans x0, (c7.cell (p := ⟨W.heap.size + 1, 0, none⟩) S5.lt1).trans x3, (c7.cell (p := ⟨bz, oz, none⟩) (Nat.lt_of_lt_of_le ylt S5.below.size)).trans y0⟩ (fun hHeld => ?_); clear hKK K hHeld; (try simp only [Act.put, List.setIfInBounds_toArray, List.set_cons_zero, List.set_cons_succ]))
        | (refine LexH.alone (by rfl) (by kernel_rfl) (fun K hKK => ?_); go_simp; go_at_call 32; (with_reducible refine (HEV.out).mono ?_); rintro e w' ⟨rfl, rfl⟩; go_wp2_with fail; refine hKK.out _ _ (⟨x0, x3, y0⟩) (fun hHeld => ?_); clear hKK K hHeld; (try simp only [Act.put, List.setIfInBounds_toArray, List.set_cons_zero, List.set_cons_succ]))
        | (refine LexH.alone (by rfl) (by kernel_rfl) (fun K hKK => ?_); go_simp; refine hKK.out _ _ (by go_keep) (fun hHeld => ?_); clear hKK K hHeld; (try simp only [Act.put, List.setIfInBounds_toArray, List.set_cons_zero, List.set_cons_succ])))
      refine LexH.nil ?_
      have HOW := Lib.hid (show w7.ownsRow w5.heap.size 22 1 v' (k + 1) (vals (M.tabM (k + 1) fun k => M.pev P (mm.getD k []) y)) by rw [HSN.out]; exact hown')
      have HB7 := Lib.hid (HB.out.trans c7)
      clear hown' hb7 c7
      go_wp2_with fail
      go_roundw
      case rel => exact ⟨k + 1, by omega, by go_num, HOW.out, HB7.out⟩
      case measure => simp [intOf]; omega
    · obtain rfl : k = T + 1 := by omega
      have hN := nums_of_owns HO.out (fun x hx => by have := List.all_eq_true.1 HVW.out x hx; have h2 : x < P := (by simpa using this); omega) (by rw [tab_len]; omega)
      obtain ⟨vals7, ev7⟩ : ∃ vals7, vals7 = M.tabM (T + 1) fun k => M.pev P (mm.getD k []) y := ⟨_, rfl⟩
      have hvl : vals7.length = T + 1 := by rw [ev7, tab_len]
      rw [← ev7] at hN HVW HVS
      have HNV := Lib.hid hN
      obtain ⟨Av, kv, rfl⟩ := nums_slice' hN
      have HVL := Lib.hid hvl
      rw [hvl] at HNV ⊢
      have JO6 := Lib.hid ((JO.out wr.drew _ vals7 (HNV.out.below (Below.refl _ _).drew)).mono (R' := fun e w' => e = .returned (.tuple #[.int .u64 (M.pev P vals7 y : Nat), .int .i64 0]) ∧ Below wr.drew.heap.size wr.drew w') (fun e w' h => by rcases h with ⟨⟨-, -, -, h⟩ | ⟨h, -⟩, hb⟩; exact ⟨h, hb⟩; exact absurd ⟨hvl, HVW.out, hyp⟩ h))
      obtain ⟨VV, eVV⟩ : ∃ VV, VV = M.pev P ww y := ⟨_, rfl⟩
      rw [← eVV] at HVS
      rw [← HVS.out] at JO6
      have HI6 := Lib.hid fun w v (h : Mat w v mm) => (HI.out y w v h hyl).mono (R' := fun e w' => e = .returned (.tuple #[.int .u64 (M.pev P ww y : Nat), .int .i64 0]) ∧ Below w.heap.size w w') (fun e w' h => by rcases h with ⟨⟨-, h⟩ | ⟨h, -⟩, hb⟩; exact ⟨h, hb⟩; exact absurd h (by omega))
      rw [← eVV] at HI6
      have EV6 := Lib.hid fun w v (h : Nums w v ww) => EV.out w v ww HWW.out h
      rw [← eVV] at EV6
      obtain ⟨WL, eWL⟩ : ∃ WL, WL = ww.length := ⟨_, rfl⟩
      have hWL : WL ≤ 2 * T + 1 := by rw [eWL]; exact HWD.out
      rw [← eWL] at HN6 ⊢
      have hw2 : IntKind.i64.wrap (2 * (T : Int)) = 2 * (T : Int) := by rw [IntKind.wrap_i64]; omega
      have hw3 : IntKind.i64.wrap (2 * (T : Int) + 1) = 2 * (T : Int) + 1 := by rw [IntKind.wrap_i64]; omega
      have hdw : decide ((WL : Int) ≤ 2 * (T : Int) + 1) = true := by rw [decide_eq_true_eq]; omega
      have hss : ((s : Int) == (s : Int)) = true := by simp
      have hvv : ((VV : Int) == (VV : Int)) = true := by simp
      clear hN hvl ev7 eVV HO eWL hWL LO HI WH MK EV JO HI0 HVS HVW HWW HOK HLOW HWD HB
      go_wp2_with fail
      try dsimp only [List.append]
      refine wp_region_lex (S := fun w' => w'.cell? ⟨W.heap.size, 0, none⟩ = some (.int .u64 (P : Nat)) ∧ w'.cell? ⟨W.heap.size, 1, none⟩ = some (.int .i64 (N : Nat)) ∧ w'.cell? ⟨W.heap.size, 2, none⟩ = some (.int .i64 (T : Nat)) ∧ w'.cell? ⟨W.heap.size + 1, 0, none⟩ = some (.slice (some ⟨bz, oz, none⟩) 1 cz) ∧ w'.cell? ⟨bz, oz, none⟩ = some (.int .u64 (y : Nat))) (by kernel_rfl) (by kernel_rfl) (fun _ _ _ _ _ h => h) (⟨x0, x1, x2, x3, y0⟩) ?_
      repeat (first
        | (refine LexH.pass (by rfl) ?_; (try simp only [Act.put, List.setIfInBounds_toArray, List.set_cons_zero, List.set_cons_succ]))
        | (refine LexH.yield (v := ?_) (by rfl) ?_ ?_; rotate_left 1; (· intro w hSw; (try dsimp only at hSw); go_simp; try with_reducible rfl); (try simp only [Act.put, List.setIfInBounds_toArray, List.set_cons_zero, List.set_cons_succ]))
        | (refine LexH.alone (by rfl) (by kernel_rfl) (fun K hKK => ?_); go_simp; go_at_call 30; (with_reducible refine (JO6.out).mono ?_); rintro e w8 ⟨rfl, hb8⟩; have S8 := S6.drew.next hb8; go_wp2_with fail; refine hKK.out _ _ (⟨S8.c0, S8.c1, S8.c2, S8.d0, HYC.out _ S8.below⟩) (fun hHeld => ?_); clear hKK K hHeld; (try simp only [Act.put, List.setIfInBounds_toArray, List.set_cons_zero, List.set_cons_succ]))
        )
      refine LexH.nil ?_
      have HM8 := Lib.hid ((HM6.out.below (Below.refl _ _).drew).below hb8)
      have HN8 := Lib.hid ((HN6.out.below (Below.refl _ _).drew).below hb8)
      clear x0 x1 x2 x3 x4 y0 hb8
      obtain ⟨x0, x1, x2, x3, x4⟩ := (⟨S8.c0, S8.c1, S8.c2, S8.d0, S8.d1⟩ : _ ∧ _ ∧ _ ∧ _ ∧ _)
      have y0 := HYC.out _ S8.below
      go_wp2_with fail
      have HI8 := Lib.hid (HI6.out _ _ (HM8.out.below (Below.refl _ _).drew))
      try dsimp only [List.append]
      refine wp_region_lex (S := fun w' => w'.cell? ⟨W.heap.size, 0, none⟩ = some (.int .u64 (P : Nat)) ∧ w'.cell? ⟨W.heap.size, 1, none⟩ = some (.int .i64 (N : Nat)) ∧ w'.cell? ⟨W.heap.size, 2, none⟩ = some (.int .i64 (T : Nat)) ∧ w'.cell? ⟨W.heap.size + 1, 0, none⟩ = some (.slice (some ⟨bz, oz, none⟩) 1 cz) ∧ w'.cell? ⟨bz, oz, none⟩ = some (.int .u64 (y : Nat))) (by kernel_rfl) (by kernel_rfl) (fun _ _ _ _ _ h => h) (⟨x0, x1, x2, x3, y0⟩) ?_
      repeat (first
        | (refine LexH.pass (by rfl) ?_; (try simp only [Act.put, List.setIfInBounds_toArray, List.set_cons_zero, List.set_cons_succ]))
        | (refine LexH.yield (v := ?_) (by rfl) ?_ ?_; rotate_left 1; (· intro w hSw; (try dsimp only at hSw); go_simp; try with_reducible rfl); (try simp only [Act.put, List.setIfInBounds_toArray, List.set_cons_zero, List.set_cons_succ]))
        | (refine LexH.alone (by rfl) (by kernel_rfl) (fun K hKK => ?_); go_simp; go_at_call 23; (with_reducible refine (HI8.out).mono ?_); rintro e w9 ⟨rfl, hb9⟩; have S9 := S8.drew.next hb9; go_wp2_with fail; refine hKK.out _ _ (⟨S9.c0, S9.c1, S9.c2, S9.d0, HYC.out _ S9.below⟩) (fun hHeld => ?_); clear hKK K hHeld; (try simp only [Act.put, List.setIfInBounds_toArray, List.set_cons_zero, List.set_cons_succ]))
        )
      refine LexH.nil ?_
      have HN9 := Lib.hid ((HN8.out.below (Below.refl _ _).drew).below hb9)
      clear x0 x1 x2 x3 x4 y0 hb9
      obtain ⟨x0, x1, x2, x3, x4⟩ := (⟨S9.c0, S9.c1, S9.c2, S9.d0, S9.d1⟩ : _ ∧ _ ∧ _ ∧ _ ∧ _)
      have y0 := HYC.out _ S9.below
      go_wp2_with fail
      have EV9 := Lib.hid (EV6.out _ _ (HN9.out.below (Below.refl _ _).drew))
      try dsimp only [List.append]
      refine wp_region_lex (S := fun w' => w'.cell? ⟨W.heap.size, 0, none⟩ = some (.int .u64 (P : Nat)) ∧ w'.cell? ⟨W.heap.size, 1, none⟩ = some (.int .i64 (N : Nat)) ∧ w'.cell? ⟨W.heap.size, 2, none⟩ = some (.int .i64 (T : Nat)) ∧ w'.cell? ⟨W.heap.size + 1, 0, none⟩ = some (.slice (some ⟨bz, oz, none⟩) 1 cz) ∧ w'.cell? ⟨bz, oz, none⟩ = some (.int .u64 (y : Nat))) (by kernel_rfl) (by kernel_rfl) (fun _ _ _ _ _ h => h) (⟨x0, x1, x2, x3, y0⟩) ?_
      repeat (first
        | (refine LexH.pass (by rfl) ?_; (try simp only [Act.put, List.setIfInBounds_toArray, List.set_cons_zero, List.set_cons_succ]))
        | (refine LexH.yield (v := ?_) (by rfl) ?_ ?_; rotate_left 1; (· intro w hSw; (try dsimp only at hSw); go_simp; try with_reducible rfl); (try simp only [Act.put, List.setIfInBounds_toArray, List.set_cons_zero, List.set_cons_succ]))
        | (refine LexH.alone (by rfl) (by kernel_rfl) (fun K hKK => ?_); go_simp; go_at_call 32; (with_reducible refine (EV9.out).mono ?_); rintro e w' ⟨rfl, rfl⟩; go_wp2_with fail; refine hKK.out _ _ (⟨x0, x1, x2, x3, y0⟩) (fun hHeld => ?_); clear hKK K hHeld; (try simp only [Act.put, List.setIfInBounds_toArray, List.set_cons_zero, List.set_cons_succ]))
        | (refine LexH.alone (by rfl) (by kernel_rfl) (fun K hKK => ?_); go_simp; go_at_call 16; (with_reducible refine (alive7_any _).mono ?_); rintro e w10 ⟨rfl, hb10⟩; have S10 := S9.drew.next hb10; go_wp2_with fail; refine hKK.out _ _ (⟨S10.c0, S10.c1, S10.c2, S10.d0, HYC.out _ S10.below⟩) (fun hHeld => ?_); clear hKK K hHeld; (try simp only [Act.put, List.setIfInBounds_toArray, List.set_cons_zero, List.set_cons_succ]))
        )
      refine LexH.nil ?_
      go_wp2_with fail
      go_ret
      exact ⟨rfl, S10.below⟩

theorem walk (W : World) (P : Nat) (n t : Int) (hP : P < 18446744073709551616) (hn1 : -9223372036854775808 ≤ n) (hn2 : n ≤ 9223372036854775807) (ht1 : -9223372036854775808 ≤ t) (ht2 : t ≤ 9223372036854775807) (s : Nat) (hs : s < 18446744073709551616) (vz : Value) (z : List Nat) (vq : Value) (q : List Nat) (hz : Nums W vz z) (hq : Nums W vq q) :
    Calls Try.prog 9 #[suV P n t, .int .u64 s, .agg #[vz, vq]] W fun e w' => e = .returned (.bool true) ∧ Below W.heap.size W w' := by
  cases hok : M.okS P n t with
  | false => exact no W P n t hP hn1 hn2 ht1 ht2 s hs vz z vq q hz hq hok
  | true =>
    by_cases hsp : s < P
    · by_cases hl : z.length = 1
      · by_cases hlt : ∀ y, z = [y] → y < P
        · exact good W P n t hP hn1 hn2 ht1 ht2 s hs vz z vq q hz hq hok hsp hl hlt
        · exact far W P n t hP hn1 hn2 ht1 ht2 s hs vz z vq q hz hq hok hsp hl (fun y hy => Nat.le_of_not_lt fun h => hlt fun y' hy' => by rw [hy] at hy'; cases hy'; exact h)
      · exact long W P n t hP hn1 hn2 ht1 ht2 s hs vz z vq q hz hq hok hsp hl
    · exact arg W P n t hP hn1 hn2 ht1 ht2 s hs vz z vq q hz hq hok (by omega)
end twiceOneW
end Go.Proofs.Ytfkepkdfpjaniaa
