/-
  Package twice of the program: Whole, Low, High.
-/
import Derived.Test.YtfkepkdfpjaniaaTw12
import Derived.Test.YtfkepkdfpjaniaaTw5
import Derived.Test.YtfkepkdfpjaniaaTw6
namespace Go.Proofs.Ytfkepkdfpjaniaa
open Go.RowKit
set_option linter.unusedVariables false
set_option maxRecDepth 100000

theorem M.tchk_zero7 {p : Nat} {n : Int} {T : Nat} {m : List (List Nat)} (h : M.tchk p n T m = 0) : M.okS p n T = true ∧ M.TOk p (T + 1) m := by
  unfold M.tchk at h
  split at h
  · rename_i h1; exact ⟨h1, M.mform_zero h⟩
  · cases h

set_option maxHeartbeats 1000000 in
theorem tWhole_bad (p : Nat) (n0 t : Int) (v : Value) (m : List (List Nat)) (w : World) (hp : p < 18446744073709551616) (hn1 : -9223372036854775808 ≤ n0) (hn2 : n0 ≤ 9223372036854775807) (ht1 : -9223372036854775808 ≤ t) (ht2 : t ≤ 9223372036854775807) (hv : Mat w v m) (hE : M.tchk p n0 t m ≠ 0) :
    Calls Try.prog 24 #[suV p n0 t, v] w (Fails2 w (M.tchk p n0 t m)) := by
  have HC := Lib.hid fun W (h : Below w.heap.size w W) => tcheck_any p n0 t v m W hp hn1 hn2 ht1 ht2 (hv.below h)
  obtain ⟨A, cap, rfl, _⟩ := mat_view6 hv
  obtain ⟨c, ec⟩ : ∃ c, c = M.tchk p n0 t m := ⟨_, rfl⟩
  rw [← ec] at HC hE ⊢
  have hcb : (c != 0) = true := by rw [bne_iff_ne]; exact hE
  clear hv ec hE
  unfold suV at HC ⊢
  go_enter Try.func24, Try.ntmps24
  go_wp2_with fail
  refine (HC.out _ (balloc w _)).mono ?_
  rintro e w1 ⟨rfl, hb⟩
  have B1 := Lib.hid (bnext (balloc w _) hb)
  clear hb
  go_wp2_with fail
  go_ret2
  exact ⟨rfl, B1.out⟩

set_option maxHeartbeats 1000000 in
theorem tWhole_any (p T : Nat) (n0 : Int) (v : Value) (m : List (List Nat)) (w : World) (hn1 : -9223372036854775808 ≤ n0) (hn2 : n0 ≤ 9223372036854775807) (hv : Mat w v m) (hE : M.tchk p n0 T m = 0) :
    Calls Try.prog 24 #[suV p n0 T, v] w (Gives2 w (M.wholeK p m (T + 1))) := by
  obtain ⟨hok, hm⟩ := M.tchk_zero7 hE
  obtain ⟨N, T', rfl, eT, hi, hN1, hN2, hNT, hNp⟩ := M.okS_nat hok
  obtain rfl : T = T' := by omega
  clear eT
  obtain ⟨h3, hp5⟩ := M.pos_of hi
  have HC := Lib.hid fun W (h : Below w.heap.size w W) => tcheck_any p N T v m W (by omega) hn1 hn2 (by omega) (by omega) (hv.below h)
  rw [hE] at HC
  have HW := Lib.hid fun W (h : Below w.heap.size w W) => twhole_any p (T + 1) v m W hi (by omega) hm (hv.below h)
  obtain ⟨A, cap, rfl, _⟩ := mat_view6 hv
  have hcb0 : ((0 : Int) != 0) = false := rfl
  obtain ⟨q, eq⟩ : ∃ q, q = M.wholeK p m (T + 1) := ⟨_, rfl⟩
  rw [← eq] at HW ⊢
  clear hv hE hm hok eq hi
  unfold suV at HC ⊢
  go_enter Try.func24, Try.ntmps24
  go_wp2_with fail
  refine (HC.out _ (balloc w _)).mono ?_
  rintro e w1 ⟨rfl, hb⟩
  have c0 := (hb.cell (p := ⟨w.heap.size, 0, none⟩) (by simp)).trans (show (w.alloc (.cells #[.int .u64 p, .int .i64 (N : Nat), .int .i64 (T : Nat)] 24)).cell? ⟨w.heap.size, 0, none⟩ = some (.int .u64 (p : Nat)) by simp)
  have hB1 := bnext (balloc w _) hb
  have B1 := Lib.hid hB1
  have HW1 := Lib.hid (HW.out _ hB1)
  clear hb hB1
  go_wp2_with fail
  refine HW1.out.mono ?_
  rintro e w2 ⟨v2, rfl, hn2, hb2⟩
  have B2 := Lib.hid (bnext B1.out hb2)
  have N2 := Lib.hid hn2
  obtain ⟨A2, c2, rfl⟩ := nums_slice' hn2
  clear hn2 hb2
  go_wp2_with fail
  go_ret2
  exact ⟨_, rfl, N2.out, B2.out⟩

set_option maxHeartbeats 400000 in
theorem tlow1_any (b : Nat) (v : Value) (m : List (List Nat)) (w : World) (hl : 0 < m.length) (hv : Mat w v m) (hb : w.cell? ⟨b, 0, none⟩ = some v) :
    Calls Try.prog 58 #[.pointer (some ⟨b, 0, none⟩)] w (Gives2 w (m.getD 0 [])) := by
  obtain ⟨A, cap, rfl, _⟩ := mat_view6 hv
  obtain ⟨bb, off, rfl, hbb, hcells⟩ := (mat_row hv).2 hl
  obtain ⟨Au, cu, ck, hn, _⟩ := hcells 0 hl
  rw [Nat.add_zero] at ck
  obtain ⟨f, ef⟩ : ∃ f, f = m.getD 0 [] := ⟨_, rfl⟩
  rw [← ef] at ck hn ⊢
  have HN := Lib.hid hn
  obtain ⟨L, eL⟩ : ∃ L, L = f.length := ⟨_, rfl⟩
  rw [← eL] at ck HN
  have hl2 : (0 : Int) < (m.length : Nat) := by omega
  clear hv hcells hn ef eL
  go_enter Try.func58, Try.ntmps58
  go_wp2_with fail
  go_ret2
  exact ⟨_, rfl, HN.out, Below.refl _ _⟩
set_option maxHeartbeats 1000000 in
theorem thigh1_any (p T bs b : Nat) (n0 : Int) (v : Value) (m : List (List Nat)) (w : World) (hi : M.isP p = true) (hT : T ≤ 3) (hm : M.TOk p (T + 1) m) (hv : Mat w v m) (hs : w.cell? ⟨bs, 0, none⟩ = some (.int .u64 (p : Nat))) (hb : w.cell? ⟨b, 0, none⟩ = some v) :
    Calls Try.prog 59 #[.pointer (some ⟨bs, 0, none⟩), .pointer (some ⟨b, 0, none⟩)] w (Gives2 w (M.wholeK p m (T + 1))) := by
  have HW := Lib.hid (twhole_any p (T + 1) v m w hi (by omega) hm hv)
  obtain ⟨A, cap, rfl, _⟩ := mat_view6 hv
  obtain ⟨q, eq⟩ : ∃ q, q = M.wholeK p m (T + 1) := ⟨_, rfl⟩
  rw [← eq] at HW ⊢
  clear hv hm eq hi
  go_enter Try.func59, Try.ntmps59
  go_wp2_with fail
  refine HW.out.mono ?_
  rintro e w2 ⟨v2, rfl, hn2, hb2⟩
  have B2 := Lib.hid hb2
  have N2 := Lib.hid hn2
  obtain ⟨A2, c2, rfl⟩ := nums_slice' hn2
  clear hn2 hb2
  go_wp2_with fail
  go_ret2
  exact ⟨_, rfl, N2.out, B2.out⟩

/-- what valueAt answers: the value, or ErrArg -/
def AtEnd (p x : Nat) (f : List Nat) (w : World) (e : Ending) (w' : World) : Prop :=
  ((x < p ∧ e = .returned (.tuple #[.int .u64 (M.pev p f x : Nat), .int .i64 0])) ∨ (p ≤ x ∧ e = .returned (.tuple #[.int .u64 0, .int .i64 2]))) ∧ Below w.heap.size w w'

set_option maxHeartbeats 1000000 in
theorem vlow_bad (p x : Nat) (n0 t : Int) (v : Value) (m : List (List Nat)) (b : Nat) (w : World) (hp : p < 18446744073709551616) (hn1 : -9223372036854775808 ≤ n0) (hn2 : n0 ≤ 9223372036854775807) (ht1 : -9223372036854775808 ≤ t) (ht2 : t ≤ 9223372036854775807) (hv : Mat w v m) (hE : M.tchk p n0 t m ≠ 0) :
    Calls Try.prog 57 #[suV p n0 t, v, .int .u64 x, .func (.func 58) #[] #[.pointer (some ⟨b, 0, none⟩)]] w fun e w' => e = .returned (.tuple #[.int .u64 0, .int .i64 (M.tchk p n0 t m)]) ∧ Below w.heap.size w w' := by
  have HC := Lib.hid fun W (h : Below w.heap.size w W) => tcheck_any p n0 t v m W hp hn1 hn2 ht1 ht2 (hv.below h)
  obtain ⟨A, cap, rfl, _⟩ := mat_view6 hv
  obtain ⟨c, ec⟩ : ∃ c, c = M.tchk p n0 t m := ⟨_, rfl⟩
  rw [← ec] at HC hE ⊢
  have hcb : (c != 0) = true := by rw [bne_iff_ne]; exact hE
  clear hv ec hE
  unfold suV at HC ⊢
  go_enter Try.func57, Try.ntmps57
  go_wp2_with fail
  refine (HC.out _ (balloc w _)).mono ?_
  rintro e w1 ⟨rfl, hb⟩
  have B1 := Lib.hid (bnext (balloc w _) hb)
  clear hb
  go_wp2_with fail
  go_ret2
  exact ⟨rfl, B1.out⟩

set_option maxHeartbeats 2000000 in
theorem vlow_any (p T x : Nat) (n0 : Int) (v : Value) (m : List (List Nat)) (b : Nat) (w : World) (hn1 : -9223372036854775808 ≤ n0) (hn2 : n0 ≤ 9223372036854775807) (hx : x < 18446744073709551616) (hv : Mat w v m) (hE : M.tchk p n0 T m = 0) (hb : w.cell? ⟨b, 0, none⟩ = some v) (hbl : b < w.heap.size) :
    Calls Try.prog 57 #[suV p n0 T, v, .int .u64 x, .func (.func 58) #[] #[.pointer (some ⟨b, 0, none⟩)]] w (AtEnd p x (m.getD 0 []) w) := by
  obtain ⟨hok, hm⟩ := M.tchk_zero7 hE
  obtain ⟨N, T', rfl, eT, hi, hN1, hN2, hNT, hNp⟩ := M.okS_nat hok
  obtain rfl : T = T' := by omega
  clear eT
  obtain ⟨h3, hp5⟩ := M.pos_of hi
  have hml := hm.len
  have HC := Lib.hid fun W (h : Below w.heap.size w W) => tcheck_any p N T v m W (by omega) hn1 hn2 (by omega) (by omega) (hv.below h)
  rw [hE] at HC
  have HW := Lib.hid fun W (h : Below w.heap.size w W) => tlow1_any b v m W (by omega) (hv.below h) ((h.cell (p := ⟨b, 0, none⟩) hbl).trans hb)
  obtain ⟨q, eq⟩ : ∃ q, q = m.getD 0 [] := ⟨_, rfl⟩
  have hqw : M.within p q = true := by rw [eq]; exact hm.lt 0 (by omega)
  have hql : q.length ≤ 201 := by rw [eq]; have := hm.rows 0 (by omega); omega
  have HEV := Lib.hid fun W V (h : Nums W V q) => eval_end p x V q W hi hql hx h
  rw [hqw] at HEV
  rw [← eq] at HW ⊢
  obtain ⟨A, cap, rfl, _⟩ := mat_view6 hv
  have hcb0 : ((0 : Int) != 0) = false := rfl
  unfold AtEnd
  obtain ⟨PV, ePV⟩ : ∃ PV, PV = M.pev p q x := ⟨_, rfl⟩
  rw [← ePV] at HEV ⊢
  clear hv hE hm hok eq hi hqw hql ePV hml hb hbl
  unfold suV at HC ⊢
  go_enter Try.func57, Try.ntmps57
  go_wp2_with fail
  refine (HC.out _ (balloc w _)).mono ?_
  rintro e w1 ⟨rfl, hb⟩
  have hz1 : w.heap.size < w1.heap.size := by have := hb.size; simp at this; omega
  have c0 := (hb.cell (p := ⟨w.heap.size, 0, none⟩) (by simp)).trans (show (w.alloc (.cells #[.int .u64 p, .int .i64 (N : Nat), .int .i64 (T : Nat)] 24)).cell? ⟨w.heap.size, 0, none⟩ = some (.int .u64 (p : Nat)) by simp)
  have hB1 := bnext (balloc w _) hb
  have B1 := Lib.hid hB1
  have HW1 := Lib.hid (HW.out _ hB1)
  clear hb hB1
  go_wp2_with fail
  refine HW1.out.mono ?_
  rintro e w2 ⟨v2, rfl, hn2, hb2⟩
  have B2 := Lib.hid (bnext B1.out hb2)
  have c1 := (hb2.cell (p := ⟨w.heap.size, 0, none⟩) hz1).trans c0
  have HE2 := Lib.hid (HEV.out _ _ hn2)
  obtain ⟨A2, c2, rfl⟩ := nums_slice' hn2
  clear hn2 hb2
  go_wp2_with fail
  refine HE2.out.mono ?_
  rintro e w3 ⟨⟨_, a2, rfl⟩ | ⟨a2, rfl⟩, hb3⟩
  · have B3 := Lib.hid (bnext B2.out hb3)
    clear hb3
    go_wp2_with fail
    go_ret2
    exact ⟨.inl ⟨a2, rfl⟩, B3.out⟩
  · have B3 := Lib.hid (bnext B2.out hb3)
    have ha : p ≤ x := by simpa using a2
    clear hb3 a2
    go_wp2_with fail
    go_ret2
    exact ⟨.inr ⟨ha, rfl⟩, B3.out⟩

set_option maxHeartbeats 1000000 in
theorem vhigh_bad (p x : Nat) (n0 t : Int) (v : Value) (m : List (List Nat)) (bs b : Nat) (w : World) (hp : p < 18446744073709551616) (hn1 : -9223372036854775808 ≤ n0) (hn2 : n0 ≤ 9223372036854775807) (ht1 : -9223372036854775808 ≤ t) (ht2 : t ≤ 9223372036854775807) (hv : Mat w v m) (hE : M.tchk p n0 t m ≠ 0) :
    Calls Try.prog 57 #[suV p n0 t, v, .int .u64 x, .func (.func 59) #[] #[.pointer (some ⟨bs, 0, none⟩), .pointer (some ⟨b, 0, none⟩)]] w fun e w' => e = .returned (.tuple #[.int .u64 0, .int .i64 (M.tchk p n0 t m)]) ∧ Below w.heap.size w w' := by
  have HC := Lib.hid fun W (h : Below w.heap.size w W) => tcheck_any p n0 t v m W hp hn1 hn2 ht1 ht2 (hv.below h)
  obtain ⟨A, cap, rfl, _⟩ := mat_view6 hv
  obtain ⟨c, ec⟩ : ∃ c, c = M.tchk p n0 t m := ⟨_, rfl⟩
  rw [← ec] at HC hE ⊢
  have hcb : (c != 0) = true := by rw [bne_iff_ne]; exact hE
  clear hv ec hE
  unfold suV at HC ⊢
  go_enter Try.func57, Try.ntmps57
  go_wp2_with fail
  refine (HC.out _ (balloc w _)).mono ?_
  rintro e w1 ⟨rfl, hb⟩
  have B1 := Lib.hid (bnext (balloc w _) hb)
  clear hb
  go_wp2_with fail
  go_ret2
  exact ⟨rfl, B1.out⟩

set_option maxHeartbeats 2000000 in
theorem vhigh_any (p T x : Nat) (n0 : Int) (v : Value) (m : List (List Nat)) (bs b : Nat) (w : World) (hn1 : -9223372036854775808 ≤ n0) (hn2 : n0 ≤ 9223372036854775807) (hx : x < 18446744073709551616) (hv : Mat w v m) (hE : M.tchk p n0 T m = 0) (hs : w.cell? ⟨bs, 0, none⟩ = some (.int .u64 (p : Nat))) (hb : w.cell? ⟨b, 0, none⟩ = some v) (hbl : b < w.heap.size) (hsl : bs < w.heap.size) :
    Calls Try.prog 57 #[suV p n0 T, v, .int .u64 x, .func (.func 59) #[] #[.pointer (some ⟨bs, 0, none⟩), .pointer (some ⟨b, 0, none⟩)]] w (AtEnd p x (M.wholeK p m (T + 1)) w) := by
  obtain ⟨hok, hm⟩ := M.tchk_zero7 hE
  obtain ⟨N, T', rfl, eT, hi, hN1, hN2, hNT, hNp⟩ := M.okS_nat hok
  obtain rfl : T = T' := by omega
  clear eT
  obtain ⟨h3, hp5⟩ := M.pos_of hi
  have hml := hm.len
  have HC := Lib.hid fun W (h : Below w.heap.size w W) => tcheck_any p N T v m W (by omega) hn1 hn2 (by omega) (by omega) (hv.below h)
  rw [hE] at HC
  have HW := Lib.hid fun W (h : Below w.heap.size w W) => thigh1_any p T bs b N v m W hi (by omega) hm (hv.below h) ((h.cell (p := ⟨bs, 0, none⟩) hsl).trans hs) ((h.cell (p := ⟨b, 0, none⟩) hbl).trans hb)
  obtain ⟨q, eq⟩ : ∃ q, q = M.wholeK p m (T + 1) := ⟨_, rfl⟩
  have hqw : M.within p q = true := by rw [eq]; exact M.wholeK_within (by omega) m _
  have hql : q.length ≤ 201 := by rw [eq]; have := M.whole_deg hm; omega
  have HEV := Lib.hid fun W V (h : Nums W V q) => eval_end p x V q W hi hql hx h
  rw [hqw] at HEV
  rw [← eq] at HW ⊢
  obtain ⟨A, cap, rfl, _⟩ := mat_view6 hv
  have hcb0 : ((0 : Int) != 0) = false := rfl
  unfold AtEnd
  obtain ⟨PV, ePV⟩ : ∃ PV, PV = M.pev p q x := ⟨_, rfl⟩
  rw [← ePV] at HEV ⊢
  clear hv hE hm hok eq hi hqw hql ePV hml hb hs hbl hsl
  unfold suV at HC ⊢
  go_enter Try.func57, Try.ntmps57
  go_wp2_with fail
  refine (HC.out _ (balloc w _)).mono ?_
  rintro e w1 ⟨rfl, hb⟩
  have hz1 : w.heap.size < w1.heap.size := by have := hb.size; simp at this; omega
  have c0 := (hb.cell (p := ⟨w.heap.size, 0, none⟩) (by simp)).trans (show (w.alloc (.cells #[.int .u64 p, .int .i64 (N : Nat), .int .i64 (T : Nat)] 24)).cell? ⟨w.heap.size, 0, none⟩ = some (.int .u64 (p : Nat)) by simp)
  have hB1 := bnext (balloc w _) hb
  have B1 := Lib.hid hB1
  have HW1 := Lib.hid (HW.out _ hB1)
  clear hb hB1
  go_wp2_with fail
  refine HW1.out.mono ?_
  rintro e w2 ⟨v2, rfl, hn2, hb2⟩
  have B2 := Lib.hid (bnext B1.out hb2)
  have c1 := (hb2.cell (p := ⟨w.heap.size, 0, none⟩) hz1).trans c0
  have HE2 := Lib.hid (HEV.out _ _ hn2)
  obtain ⟨A2, c2, rfl⟩ := nums_slice' hn2
  clear hn2 hb2
  go_wp2_with fail
  refine HE2.out.mono ?_
  rintro e w3 ⟨⟨_, a2, rfl⟩ | ⟨a2, rfl⟩, hb3⟩
  · have B3 := Lib.hid (bnext B2.out hb3)
    clear hb3
    go_wp2_with fail
    go_ret2
    exact ⟨.inl ⟨a2, rfl⟩, B3.out⟩
  · have B3 := Lib.hid (bnext B2.out hb3)
    have ha : p ≤ x := by simpa using a2
    clear hb3 a2
    go_wp2_with fail
    go_ret2
    exact ⟨.inr ⟨ha, rfl⟩, B3.out⟩
end Go.Proofs.Ytfkepkdfpjaniaa
namespace Go.Proofs.Ytfkepkdfpjaniaa
open Go.RowKit
set_option linter.unusedVariables false
set_option maxRecDepth 100000

set_option maxHeartbeats 1000000 in
theorem tlow_bad (p x : Nat) (n0 t : Int) (v : Value) (m : List (List Nat)) (w : World) (hp : p < 18446744073709551616) (hn1 : -9223372036854775808 ≤ n0) (hn2 : n0 ≤ 9223372036854775807) (ht1 : -9223372036854775808 ≤ t) (ht2 : t ≤ 9223372036854775807) (hv : Mat w v m) (hE : M.tchk p n0 t m ≠ 0) :
    Calls Try.prog 22 #[suV p n0 t, v, .int .u64 x] w fun e w' => e = .returned (.tuple #[.int .u64 0, .int .i64 (M.tchk p n0 t m)]) ∧ Below w.heap.size w w' := by
  have HC := Lib.hid fun W b (h : Below w.heap.size w W) => vlow_bad p x n0 t v m b W hp hn1 hn2 ht1 ht2 (hv.below h) hE
  obtain ⟨A, cap, rfl, _⟩ := mat_view6 hv
  have hB0 := (balloc w (.cells #[.int .u64 p, .int .i64 n0, .int .i64 t] 24)).trans ((balloc (w.alloc (.cells #[.int .u64 p, .int .i64 n0, .int .i64 t] 24)) (.cells #[.slice A m.length cap] 25)).mono (by simp))
  have HB0 := Lib.hid hB0
  obtain ⟨c, ec⟩ : ∃ c, c = M.tchk p n0 t m := ⟨_, rfl⟩
  rw [← ec] at HC ⊢
  clear hv ec hE hB0
  unfold suV at HC ⊢
  go_enter Try.func22, Try.ntmps22
  go_wp2_with fail
  refine (HC.out _ _ HB0.out).mono ?_
  rintro e w1 ⟨rfl, hb⟩
  have B1 := Lib.hid (bnext HB0.out hb)
  clear hb
  go_wp2_with fail
  go_ret2
  exact ⟨rfl, B1.out⟩

set_option maxHeartbeats 1000000 in
theorem tlow_any (p T x : Nat) (n0 : Int) (v : Value) (m : List (List Nat)) (w : World) (hn1 : -9223372036854775808 ≤ n0) (hn2 : n0 ≤ 9223372036854775807) (hx : x < 18446744073709551616) (hv : Mat w v m) (hE : M.tchk p n0 T m = 0) :
    Calls Try.prog 22 #[suV p n0 T, v, .int .u64 x] w (AtEnd p x (m.getD 0 []) w) := by
  obtain ⟨A, cap, rfl, _⟩ := mat_view6 hv
  have hB0 := (balloc w (.cells #[.int .u64 p, .int .i64 n0, .int .i64 (T : Nat)] 24)).trans ((balloc (w.alloc (.cells #[.int .u64 p, .int .i64 n0, .int .i64 (T : Nat)] 24)) (.cells #[.slice A m.length cap] 25)).mono (by simp))
  have HB0 := Lib.hid hB0
  have HC := Lib.hid (vlow_any p T x n0 _ m (w.heap.size + 1) _ hn1 hn2 hx (hv.below hB0) hE (by simp) (by simp))
  unfold AtEnd at HC ⊢
  obtain ⟨PV, ePV⟩ : ∃ PV, PV = M.pev p (m.getD 0 []) x := ⟨_, rfl⟩
  rw [← ePV] at HC ⊢
  clear hv hE ePV hB0
  unfold suV at HC ⊢
  go_enter Try.func22, Try.ntmps22
  go_wp2_with fail
  refine HC.out.mono ?_
  rintro e w1 ⟨⟨a2, rfl⟩ | ⟨a2, rfl⟩, hb⟩
  · have B1 := Lib.hid (bnext HB0.out hb)
    clear hb
    go_wp2_with fail
    go_ret2
    exact ⟨.inl ⟨a2, rfl⟩, B1.out⟩
  · have B1 := Lib.hid (bnext HB0.out hb)
    have A2 := Lib.hid a2
    clear hb a2
    go_wp2_with fail
    go_ret2
    exact ⟨.inr ⟨A2.out, rfl⟩, B1.out⟩
set_option maxHeartbeats 1000000 in
theorem thigh_bad (p x : Nat) (n0 t : Int) (v : Value) (m : List (List Nat)) (w : World) (hp : p < 18446744073709551616) (hn1 : -9223372036854775808 ≤ n0) (hn2 : n0 ≤ 9223372036854775807) (ht1 : -9223372036854775808 ≤ t) (ht2 : t ≤ 9223372036854775807) (hv : Mat w v m) (hE : M.tchk p n0 t m ≠ 0) :
    Calls Try.prog 23 #[suV p n0 t, v, .int .u64 x] w fun e w' => e = .returned (.tuple #[.int .u64 0, .int .i64 (M.tchk p n0 t m)]) ∧ Below w.heap.size w w' := by
  have HC := Lib.hid fun W b b2 (h : Below w.heap.size w W) => vhigh_bad p x n0 t v m b b2 W hp hn1 hn2 ht1 ht2 (hv.below h) hE
  obtain ⟨A, cap, rfl, _⟩ := mat_view6 hv
  have hB0 := (balloc w (.cells #[.int .u64 p, .int .i64 n0, .int .i64 t] 24)).trans ((balloc (w.alloc (.cells #[.int .u64 p, .int .i64 n0, .int .i64 t] 24)) (.cells #[.slice A m.length cap] 25)).mono (by simp))
  have HB0 := Lib.hid hB0
  obtain ⟨c, ec⟩ : ∃ c, c = M.tchk p n0 t m := ⟨_, rfl⟩
  rw [← ec] at HC ⊢
  clear hv ec hE hB0
  unfold suV at HC ⊢
  go_enter Try.func23, Try.ntmps23
  go_wp2_with fail
  refine (HC.out _ _ _ HB0.out).mono ?_
  rintro e w1 ⟨rfl, hb⟩
  have B1 := Lib.hid (bnext HB0.out hb)
  clear hb
  go_wp2_with fail
  go_ret2
  exact ⟨rfl, B1.out⟩

set_option maxHeartbeats 1000000 in
theorem thigh_any (p T x : Nat) (n0 : Int) (v : Value) (m : List (List Nat)) (w : World) (hn1 : -9223372036854775808 ≤ n0) (hn2 : n0 ≤ 9223372036854775807) (hx : x < 18446744073709551616) (hv : Mat w v m) (hE : M.tchk p n0 T m = 0) :
    Calls Try.prog 23 #[suV p n0 T, v, .int .u64 x] w (AtEnd p x (M.wholeK p m (T + 1)) w) := by
  obtain ⟨A, cap, rfl, _⟩ := mat_view6 hv
  have hB0 := (balloc w (.cells #[.int .u64 p, .int .i64 n0, .int .i64 (T : Nat)] 24)).trans ((balloc (w.alloc (.cells #[.int .u64 p, .int .i64 n0, .int .i64 (T : Nat)] 24)) (.cells #[.slice A m.length cap] 25)).mono (by simp))
  have HB0 := Lib.hid hB0
  have HC := Lib.hid (vhigh_any p T x n0 _ m w.heap.size (w.heap.size + 1) _ hn1 hn2 hx (hv.below hB0) hE (by simp) (by simp) (by simp) (by simp; omega))
  unfold AtEnd at HC ⊢
  obtain ⟨PV, ePV⟩ : ∃ PV, PV = M.pev p (M.wholeK p m (T + 1)) x := ⟨_, rfl⟩
  rw [← ePV] at HC ⊢
  clear hv hE ePV hB0
  unfold suV at HC ⊢
  go_enter Try.func23, Try.ntmps23
  go_wp2_with fail
  refine HC.out.mono ?_
  rintro e w1 ⟨⟨a2, rfl⟩ | ⟨a2, rfl⟩, hb⟩
  · have B1 := Lib.hid (bnext HB0.out hb)
    clear hb
    go_wp2_with fail
    go_ret2
    exact ⟨.inl ⟨a2, rfl⟩, B1.out⟩
  · have B1 := Lib.hid (bnext HB0.out hb)
    have A2 := Lib.hid a2
    clear hb a2
    go_wp2_with fail
    go_ret2
    exact ⟨.inr ⟨A2.out, rfl⟩, B1.out⟩
end Go.Proofs.Ytfkepkdfpjaniaa
