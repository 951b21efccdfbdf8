/-
  The walk of the law ShareOnly.
-/
import Derived.Test.YtgoognipljknjaaLaw4a
import Derived.Test.YtgoognipljknjaaOnlyM
import Derived.Test.YtgoognipljknjaaBox2
import Derived.Test.YtgoognipljknjaaSameB
namespace Go.Proofs.Ytgoognipljknjaa.shareOnlyW
open Go.RowKit
set_option linter.unusedVariables false
set_option maxRecDepth 100000

set_option maxHeartbeats 2000000 in
theorem no (w : World) (p : Nat) (n t : Int) (hp : p < 18446744073709551616) (hn1 : -9223372036854775808 ≤ n) (hn2 : n ≤ 9223372036854775807) (ht1 : -9223372036854775808 ≤ t) (ht2 : t ≤ 9223372036854775807) (vl vs : Value) (l : List Int) (ss : List Nat) (hvl : IntsZ w vl l) (hvs : Nums w vs ss) (va : Value) (z1 : List Nat) (hva : Nums w va z1) (vb : Value) (z2 : List Nat) (hvb : Nums w vb z2) (h : M.errS p n t ≠ 0) :
    Calls Try.prog 13 #[suV p n t, .agg #[vl, vs], .agg #[va, vb]] w fun e w' => e = .returned (.bool true) ∧ Below w.heap.size w w' := by
  have h2 := fun W => rsetup_any p n t W hp hn1 hn2 ht1 ht2
  obtain ⟨c, ec⟩ : ∃ c, M.errS p n t = c := ⟨_, rfl⟩
  rw [ec] at h2 h
  have H2 := Lib.hid h2
  have hs1 : (c != 0) = true := by rw [bne_iff_ne]; exact h
  have HL := Lib.hid hvl
  have HQ := Lib.hid hva
  have HR := Lib.hid hvb
  have hud : ∀ b : Bool, undef ≠ Value.bool b := fun b h => by cases h
  have hll := hvl.2.1
  obtain ⟨Aa, ca, rfl⟩ := nums_slice' hva
  obtain ⟨Ab, cb, rfl⟩ := nums_slice' hvb
  obtain ⟨As, cs, rfl⟩ := nums_slice' hvs
  obtain ⟨_, _, Al, cl, rfl, _⟩ := hvl
  unfold suV at H2 ⊢
  clear h2 hva hvb hvs h ec
  have hB0 := (bnext (bnext (balloc w (.cells #[.int .u64 p, .int .i64 n, .int .i64 t] 40)) (balloc (w.alloc (.cells #[.int .u64 p, .int .i64 n, .int .i64 t] 40)) (.cells #[.slice Al l.length cl, .slice As ss.length cs] 82))) (balloc ((w.alloc (.cells #[.int .u64 p, .int .i64 n, .int .i64 t] 40)).alloc (.cells #[.slice Al l.length cl, .slice As ss.length cs] 82)) (.cells #[.slice Aa z1.length ca, .slice Ab z2.length cb] 89)))
  have hK0 := (((((((kept3 w (w.heap.size) (by simp) (.int .u64 p) (.int .i64 n) (.int .i64 t) 40)).alloc _).app (kept2 (w.alloc (.cells #[.int .u64 p, .int .i64 n, .int .i64 t] 40)) (w.heap.size + 1) (by simp) (.slice Al l.length cl) (.slice As ss.length cs) 82))).alloc _).app (kept2 ((w.alloc (.cells #[.int .u64 p, .int .i64 n, .int .i64 t] 40)).alloc (.cells #[.slice Al l.length cl, .slice As ss.length cs] 82)) (w.heap.size + 1 + 1) (by simp) (.slice Aa z1.length ca) (.slice Ab z2.length cb) 89))
  obtain ⟨w0, hw0⟩ : ∃ w0, (((w.alloc (.cells #[.int .u64 p, .int .i64 n, .int .i64 t] 40)).alloc (.cells #[.slice Al l.length cl, .slice As ss.length cs] 82)).alloc (.cells #[.slice Aa z1.length ca, .slice Ab z2.length cb] 89)) = w0 := ⟨_, rfl⟩
  rw [hw0] at hB0 hK0
  have B0 := Lib.hid hB0
  have K0 := Lib.hid hK0
  clear hB0 hK0
  obtain ⟨d0_0, d0_1, d0_2, d0_3, d0_4, d0_5, d0_6⟩ := K0.out.c7
  go_enter Try.func13, Try.ntmps13
  go_wp2_with fail
  clear hw0
  have L_0 := Lib.hid (HL.out.below B0.out)
  have Q_0 := Lib.hid (HQ.out.below B0.out)
  have R_0 := Lib.hid (HR.out.below B0.out)
  refine (H2.out _).mono ?_
  rintro e w1 ⟨rfl, hb1⟩
  have B1 := Lib.hid (bnext B0.out hb1)
  have K1 := Lib.hid (K0.out.below hb1)
  have L_1 := Lib.hid (L_0.out.below hb1)
  have Q_1 := Lib.hid (Q_0.out.below hb1)
  have R_1 := Lib.hid (R_0.out.below hb1)
  clear hb1  d0_0 d0_1 d0_2 d0_3 d0_4 d0_5 d0_6
  obtain ⟨d1_0, d1_1, d1_2, d1_3, d1_4, d1_5, d1_6⟩ := K1.out.c7
  go_wp2_with fail
  refine (alive_any _).mono ?_
  rintro e w2 ⟨rfl, hb2⟩
  have B2 := Lib.hid (bnext B1.out hb2)
  have K2 := Lib.hid (K1.out.below hb2)
  have L_2 := Lib.hid (L_1.out.below hb2)
  have Q_2 := Lib.hid (Q_1.out.below hb2)
  have R_2 := Lib.hid (R_1.out.below hb2)
  clear hb2  d1_0 d1_1 d1_2 d1_3 d1_4 d1_5 d1_6
  obtain ⟨d2_0, d2_1, d2_2, d2_3, d2_4, d2_5, d2_6⟩ := K2.out.c7
  go_wp2_with fail
  go_ret
  exact ⟨rfl, B2.out⟩

set_option maxHeartbeats 2000000 in
theorem long (w : World) (p N : Nat) (t : Int) (hok : M.okS p (N : Int) t = true) (vl vs : Value) (l : List Int) (ss : List Nat) (hvl : IntsZ w vl l) (hvs : Nums w vs ss) (va : Value) (z1 : List Nat) (hva : Nums w va z1) (vb : Value) (z2 : List Nat) (hvb : Nums w vb z2) (h : ¬ l.length < N) :
    Calls Try.prog 13 #[suV p N t, .agg #[vl, vs], .agg #[va, vb]] w fun e w' => e = .returned (.bool true) ∧ Below w.heap.size w w' := by
  obtain ⟨hi, hn1, hn2, ht1, ht2, hnp⟩ := M.okS_iff.1 hok
  obtain ⟨h3, hp⟩ := M.pos_of hi
  have hset := fun W => rsetup_any p (N : Int) t W (by omega) (by omega) (by omega) (by omega) (by omega)
  rw [← M.errS_ok hok] at hset
  have H2 := Lib.hid hset
  have hs0 : ((0 : Int) != 0) = false := rfl
  have HL := Lib.hid hvl
  have HQ := Lib.hid hva
  have HR := Lib.hid hvb
  have hud : ∀ b : Bool, undef ≠ Value.bool b := fun b h => by cases h
  have hll := hvl.2.1
  obtain ⟨Aa, ca, rfl⟩ := nums_slice' hva
  obtain ⟨Ab, cb, rfl⟩ := nums_slice' hvb
  obtain ⟨As, cs, rfl⟩ := nums_slice' hvs
  obtain ⟨_, _, Al, cl, rfl, _⟩ := hvl
  unfold suV at H2 ⊢
  clear hset hva hvb hvs hi hok
  have hB0 := (bnext (bnext (balloc w (.cells #[.int .u64 p, .int .i64 N, .int .i64 t] 40)) (balloc (w.alloc (.cells #[.int .u64 p, .int .i64 N, .int .i64 t] 40)) (.cells #[.slice Al l.length cl, .slice As ss.length cs] 82))) (balloc ((w.alloc (.cells #[.int .u64 p, .int .i64 N, .int .i64 t] 40)).alloc (.cells #[.slice Al l.length cl, .slice As ss.length cs] 82)) (.cells #[.slice Aa z1.length ca, .slice Ab z2.length cb] 89)))
  have hK0 := (((((((kept3 w (w.heap.size) (by simp) (.int .u64 p) (.int .i64 N) (.int .i64 t) 40)).alloc _).app (kept2 (w.alloc (.cells #[.int .u64 p, .int .i64 N, .int .i64 t] 40)) (w.heap.size + 1) (by simp) (.slice Al l.length cl) (.slice As ss.length cs) 82))).alloc _).app (kept2 ((w.alloc (.cells #[.int .u64 p, .int .i64 N, .int .i64 t] 40)).alloc (.cells #[.slice Al l.length cl, .slice As ss.length cs] 82)) (w.heap.size + 1 + 1) (by simp) (.slice Aa z1.length ca) (.slice Ab z2.length cb) 89))
  obtain ⟨w0, hw0⟩ : ∃ w0, (((w.alloc (.cells #[.int .u64 p, .int .i64 N, .int .i64 t] 40)).alloc (.cells #[.slice Al l.length cl, .slice As ss.length cs] 82)).alloc (.cells #[.slice Aa z1.length ca, .slice Ab z2.length cb] 89)) = w0 := ⟨_, rfl⟩
  rw [hw0] at hB0 hK0
  have B0 := Lib.hid hB0
  have K0 := Lib.hid hK0
  clear hB0 hK0
  obtain ⟨d0_0, d0_1, d0_2, d0_3, d0_4, d0_5, d0_6⟩ := K0.out.c7
  go_enter Try.func13, Try.ntmps13
  go_wp2_with fail
  clear hw0
  have L_0 := Lib.hid (HL.out.below B0.out)
  have Q_0 := Lib.hid (HQ.out.below B0.out)
  have R_0 := Lib.hid (HR.out.below B0.out)
  refine (H2.out _).mono ?_
  rintro e w1 ⟨rfl, hb1⟩
  have B1 := Lib.hid (bnext B0.out hb1)
  have K1 := Lib.hid (K0.out.below hb1)
  have L_1 := Lib.hid (L_0.out.below hb1)
  have Q_1 := Lib.hid (Q_0.out.below hb1)
  have R_1 := Lib.hid (R_0.out.below hb1)
  clear hb1  d0_0 d0_1 d0_2 d0_3 d0_4 d0_5 d0_6
  obtain ⟨d1_0, d1_1, d1_2, d1_3, d1_4, d1_5, d1_6⟩ := K1.out.c7
  go_wp2_with fail
  refine (alive_any _).mono ?_
  rintro e w2 ⟨rfl, hb2⟩
  have B2 := Lib.hid (bnext B1.out hb2)
  have K2 := Lib.hid (K1.out.below hb2)
  have L_2 := Lib.hid (L_1.out.below hb2)
  have Q_2 := Lib.hid (Q_1.out.below hb2)
  have R_2 := Lib.hid (R_1.out.below hb2)
  clear hb2  d1_0 d1_1 d1_2 d1_3 d1_4 d1_5 d1_6
  obtain ⟨d2_0, d2_1, d2_2, d2_3, d2_4, d2_5, d2_6⟩ := K2.out.c7
  go_wp2_with fail
  go_ret
  exact ⟨rfl, B2.out⟩

set_option maxHeartbeats 2000000 in
theorem fall (w : World) (p N : Nat) (t : Int) (hok : M.okS p (N : Int) t = true) (vl vs : Value) (l : List Int) (ss : List Nat) (hvl : IntsZ w vl l) (hvs : Nums w vs ss) (va : Value) (z1 : List Nat) (hva : Nums w va z1) (vb : Value) (z2 : List Nat) (hvb : Nums w vb z2) (h : l.length < N) (hr : M.rising (N : Int) l = false) :
    Calls Try.prog 13 #[suV p N t, .agg #[vl, vs], .agg #[va, vb]] w fun e w' => e = .returned (.bool true) ∧ Below w.heap.size w w' := by
  obtain ⟨hi, hn1, hn2, ht1, ht2, hnp⟩ := M.okS_iff.1 hok
  obtain ⟨h3, hp⟩ := M.pos_of hi
  have hset := fun W => rsetup_any p (N : Int) t W (by omega) (by omega) (by omega) (by omega) (by omega)
  rw [← M.errS_ok hok] at hset
  have H2 := Lib.hid hset
  have hs0 : ((0 : Int) != 0) = false := rfl
  have h3' := fun W (hL : IntsZ W vl l) => rrising_any (N : Int) vl l W (by omega) (by omega) hL
  rw [hr] at h3'
  have H3 := Lib.hid h3'
  have HL := Lib.hid hvl
  have HQ := Lib.hid hva
  have HR := Lib.hid hvb
  have hud : ∀ b : Bool, undef ≠ Value.bool b := fun b h => by cases h
  have hll := hvl.2.1
  obtain ⟨Aa, ca, rfl⟩ := nums_slice' hva
  obtain ⟨Ab, cb, rfl⟩ := nums_slice' hvb
  obtain ⟨As, cs, rfl⟩ := nums_slice' hvs
  obtain ⟨_, _, Al, cl, rfl, _⟩ := hvl
  unfold suV at H2 ⊢
  clear hset h3' hva hvb hvs hi hok hr
  have hB0 := (bnext (bnext (balloc w (.cells #[.int .u64 p, .int .i64 N, .int .i64 t] 40)) (balloc (w.alloc (.cells #[.int .u64 p, .int .i64 N, .int .i64 t] 40)) (.cells #[.slice Al l.length cl, .slice As ss.length cs] 82))) (balloc ((w.alloc (.cells #[.int .u64 p, .int .i64 N, .int .i64 t] 40)).alloc (.cells #[.slice Al l.length cl, .slice As ss.length cs] 82)) (.cells #[.slice Aa z1.length ca, .slice Ab z2.length cb] 89)))
  have hK0 := (((((((kept3 w (w.heap.size) (by simp) (.int .u64 p) (.int .i64 N) (.int .i64 t) 40)).alloc _).app (kept2 (w.alloc (.cells #[.int .u64 p, .int .i64 N, .int .i64 t] 40)) (w.heap.size + 1) (by simp) (.slice Al l.length cl) (.slice As ss.length cs) 82))).alloc _).app (kept2 ((w.alloc (.cells #[.int .u64 p, .int .i64 N, .int .i64 t] 40)).alloc (.cells #[.slice Al l.length cl, .slice As ss.length cs] 82)) (w.heap.size + 1 + 1) (by simp) (.slice Aa z1.length ca) (.slice Ab z2.length cb) 89))
  obtain ⟨w0, hw0⟩ : ∃ w0, (((w.alloc (.cells #[.int .u64 p, .int .i64 N, .int .i64 t] 40)).alloc (.cells #[.slice Al l.length cl, .slice As ss.length cs] 82)).alloc (.cells #[.slice Aa z1.length ca, .slice Ab z2.length cb] 89)) = w0 := ⟨_, rfl⟩
  rw [hw0] at hB0 hK0
  have B0 := Lib.hid hB0
  have K0 := Lib.hid hK0
  clear hB0 hK0
  obtain ⟨d0_0, d0_1, d0_2, d0_3, d0_4, d0_5, d0_6⟩ := K0.out.c7
  go_enter Try.func13, Try.ntmps13
  go_wp2_with fail
  clear hw0
  have L_0 := Lib.hid (HL.out.below B0.out)
  have Q_0 := Lib.hid (HQ.out.below B0.out)
  have R_0 := Lib.hid (HR.out.below B0.out)
  refine (H2.out _).mono ?_
  rintro e w1 ⟨rfl, hb1⟩
  have B1 := Lib.hid (bnext B0.out hb1)
  have K1 := Lib.hid (K0.out.below hb1)
  have L_1 := Lib.hid (L_0.out.below hb1)
  have Q_1 := Lib.hid (Q_0.out.below hb1)
  have R_1 := Lib.hid (R_0.out.below hb1)
  clear hb1  d0_0 d0_1 d0_2 d0_3 d0_4 d0_5 d0_6
  obtain ⟨d1_0, d1_1, d1_2, d1_3, d1_4, d1_5, d1_6⟩ := K1.out.c7
  go_wp2_with fail
  refine (H3.out _ L_1.out).mono ?_
  rintro e w' ⟨rfl, rfl⟩
  go_wp2_with fail
  refine (alive_any _).mono ?_
  rintro e w2 ⟨rfl, hb2⟩
  have B2 := Lib.hid (bnext B1.out hb2)
  have K2 := Lib.hid (K1.out.below hb2)
  have L_2 := Lib.hid (L_1.out.below hb2)
  have Q_2 := Lib.hid (Q_1.out.below hb2)
  have R_2 := Lib.hid (R_1.out.below hb2)
  clear hb2  d1_0 d1_1 d1_2 d1_3 d1_4 d1_5 d1_6
  obtain ⟨d2_0, d2_1, d2_2, d2_3, d2_4, d2_5, d2_6⟩ := K2.out.c7
  go_wp2_with fail
  go_ret
  exact ⟨rfl, B2.out⟩

/-- the first k tapes are of the right length and within the field -/
def TokM (p : Nat) (l : List Int) (z1 z2 : List Nat) (k : Nat) : Prop := (0 < k → z1.length = l.length ∧ M.within p z1 = true) ∧ (1 < k → z2.length = l.length ∧ M.within p z2 = true)

theorem still {w0 w w' : World} {g : Nat} {v0 v1 v2 v3 : Value} (h : w.cell? ⟨g, 0, none⟩ = some v0 ∧ w.cell? ⟨g, 1, none⟩ = some v1 ∧ w.cell? ⟨w0.heap.size + 1 + 1, 0, none⟩ = some v2 ∧ w.cell? ⟨w0.heap.size + 1 + 1, 1, none⟩ = some v3) (hb : Below w.heap.size w w') (hg : g < w.heap.size) :
    w'.cell? ⟨g, 0, none⟩ = some v0 ∧ w'.cell? ⟨g, 1, none⟩ = some v1 ∧ w'.cell? ⟨w0.heap.size + 1 + 1, 0, none⟩ = some v2 ∧ w'.cell? ⟨w0.heap.size + 1 + 1, 1, none⟩ = some v3 :=
  ⟨(hb.cell (p := ⟨g, 0, none⟩) hg).trans h.1, (hb.cell (p := ⟨g, 1, none⟩) hg).trans h.2.1, (hb.cell (World.block_lt_of_cell? _ _ h.2.2.1)).trans h.2.2.1, (hb.cell (World.block_lt_of_cell? _ _ h.2.2.2)).trans h.2.2.2⟩

set_option maxHeartbeats 8000000 in
theorem ok (w : World) (p N : Nat) (t : Int) (hok : M.okS p (N : Int) t = true) (vl vs : Value) (l : List Int) (ss : List Nat) (hvl : IntsZ w vl l) (hvs : Nums w vs ss) (va : Value) (z1 : List Nat) (hva : Nums w va z1) (vb : Value) (z2 : List Nat) (hvb : Nums w vb z2) (h : l.length < N) (hr : M.RisesTo (N : Int) l l.length) :
    Calls Try.prog 13 #[suV p N t, .agg #[vl, vs], .agg #[va, vb]] w fun e w' => e = .returned (.bool true) ∧ Below w.heap.size w w' := by
  obtain ⟨hi, hn1, hn2, ht1, ht2, hnp⟩ := M.okS_iff.1 hok
  obtain ⟨h3, hp⟩ := M.pos_of hi
  have hset := fun W => rsetup_any p (N : Int) t W (by omega) (by omega) (by omega) (by omega) (by omega)
  rw [← M.errS_ok hok] at hset
  have H2 := Lib.hid hset
  have hs0 : ((0 : Int) != 0) = false := rfl
  have h3' := fun W (hL : IntsZ W vl l) => rrising_any (N : Int) vl l W (by omega) (by omega) hL
  rw [M.rising_iff.2 hr] at h3'
  have H3 := Lib.hid h3'
  have hd1 : ¬ ((N : Int) - 1 < (l.length : Nat)) := by omega
  have HMK := Lib.hid fun W v z (hW : Nums W v z) => make_ok p 1 l.length (N : Int) t v z W hok (by omega) (by omega) hW
  have HSH := Lib.hid fun W v z (hW : Nums W v (M.mk p 1 l.length z)) => shares_ok p N t v (M.mk p 1 l.length z) W hok hW (M.chk_of hi (by have := M.mk_len p 1 l.length z; omega) (M.mk_within (by omega) _ _))
  have HW0 := Lib.hid fun W v z (hz : M.within p z = true) (hW : Nums W v z) => within_any p v z W hW (c := 0) (by rw [hz]; rfl)
  have HW1 := Lib.hid fun W v z (hz : M.within p z = false) (hW : Nums W v z) => within_any p v z W hW (c := 2) (by rw [hz]; rfl)
  have HSD := Lib.hid fun va vb zs ys W (ha : Nums W va zs) (hb : Nums W vb ys) => same_dec va vb zs ys W ha hb
  obtain ⟨G, eG⟩ : ∃ G : Nat → List Nat, G = fun i => M.gotL p (M.mk p 1 l.length (if i = 0 then z1 else z2)) l := ⟨_, rfl⟩
  have HGL := Lib.hid (show ∀ (i : Nat), (G i).length = l.length from fun i => by rw [eG]; exact M.gotL_len _ _ _)
  have hGm : ∀ z, ∀ x ∈ M.gotL p (M.mk p 1 l.length z) l, x < 18446744073709551616 := fun z x hx => by
    obtain ⟨y, _, rfl⟩ := List.mem_map.1 hx
    have := M.pev_lt (p := p) (M.mk p 1 l.length z) y (by omega)
    omega
  have HGZ := Lib.hid (show ∀ (i : Nat), ∀ x ∈ G i, x < 18446744073709551616 from fun i x hx => by rw [eG] at hx; exact hGm _ x hx)
  have hst : ∀ (z : List Nat) (j q : Nat), j < l.length → l.getD j 0 = (q : Int) + 1 → vals ((M.gotL p (M.mk p 1 l.length z) l).take (j + 1)) = vals ((M.gotL p (M.mk p 1 l.length z) l).take j) ++ vals [(M.shs p N (M.mk p 1 l.length z)).getD q 0] := fun z j q hj hq => by
    have hg := M.gotL_get p (M.mk p 1 l.length z) l hj
    have h2 := (M.rises_range hr hj).2
    rw [hq] at hg
    rw [show ((q : Int) + 1).toNat = q + 1 by omega, ← M.shs_at (p := p) (N := N) (M.mk p 1 l.length z) (show q < N by omega)] at hg
    have hjl : j < (M.gotL p (M.mk p 1 l.length z) l).length := by rw [M.gotL_len]; exact hj
    rw [← hg, List.take_succ_eq_append_getElem hjl, List.getD_eq_getElem?_getD, List.getElem?_eq_getElem hjl]
    unfold vals; rw [List.map_append]; rfl
  have HST0 := Lib.hid (show ∀ (j q : Nat), j < l.length → l.getD j 0 = (q : Int) + 1 → vals ((G 0).take (j + 1)) = vals ((G 0).take j) ++ vals [(M.shs p N (M.mk p 1 l.length z1)).getD q 0] from fun j q h1 h2 => by rw [eG]; exact hst z1 j q h1 h2)
  have HST1 := Lib.hid (show ∀ (j q : Nat), j < l.length → l.getD j 0 = (q : Int) + 1 → vals ((G 1).take (j + 1)) = vals ((G 1).take j) ++ vals [(M.shs p N (M.mk p 1 l.length z2)).getD q 0] from fun j q h1 h2 => by rw [eG]; exact hst z2 j q h1 h2)
  have HZ := Lib.hid (show ∀ (z : List Nat) (q : Nat), (M.shs p N (M.mk p 1 l.length z)).getD q 0 < 18446744073709551616 from fun z q => by
    by_cases hq : q < N
    · rw [M.shs_at _ hq]
      have := M.pev_lt (p := p) (M.mk p 1 l.length z) (q + 1) (by omega)
      omega
    · rw [M.getD_ge (by rw [M.shsb_len]; omega)]; omega)
  have HRG := Lib.hid (fun i (hi : i < l.length) => M.rises_range hr hi)
  obtain ⟨Tok, eT⟩ : ∃ Tok : Nat → Prop, Tok = TokM p l z1 z2 := ⟨_, rfl⟩
  have HTS := Lib.hid (show Tok 0 by rw [eT]; exact ⟨fun h => absurd h (by omega), fun h => absurd h (by omega)⟩)
  have HTN0 := Lib.hid (show Tok 0 → z1.length = l.length → M.within p z1 = true → Tok 1 from fun _ h1 h2 => by rw [eT]; exact ⟨fun _ => ⟨h1, h2⟩, fun h => absurd h (by omega)⟩)
  have HTN1 := Lib.hid (show Tok 1 → z2.length = l.length → M.within p z2 = true → Tok 2 from fun h0 h1 h2 => by rw [eT] at h0 ⊢; exact ⟨fun _ => h0.1 (by omega), fun _ => ⟨h1, h2⟩⟩)
  have HDEC := Lib.hid (show Tok 2 → decide (G 0 = G 1) = decide (z1 = z2) from fun h => by
    rw [eT] at h
    obtain ⟨⟨a1, a2⟩, b1, b2⟩ := And.intro (h.1 (by omega)) (h.2 (by omega))
    rw [decide_eq_decide, eG]
    exact ⟨fun e => M.tapes_eq hi hr (by omega) rfl a2 b2 a1 b1 e, fun e => by subst e; rfl⟩)
  have HL := Lib.hid hvl
  have HQ := Lib.hid hva
  have HR := Lib.hid hvb
  have hud : ∀ b : Bool, undef ≠ Value.bool b := fun b h => by cases h
  have hll := hvl.2.1
  obtain ⟨Aa, ca, rfl⟩ := nums_slice' hva
  obtain ⟨Ab, cb, rfl⟩ := nums_slice' hvb
  obtain ⟨As, cs, rfl⟩ := nums_slice' hvs
  obtain ⟨_, _, Al, cl, rfl, _⟩ := hvl
  unfold suV at H2 HMK HSH ⊢
  clear hset h3' hva hvb hvs hok hi hr hst hGm eG eT
  have hB0 := (bnext (bnext (balloc w (.cells #[.int .u64 p, .int .i64 N, .int .i64 t] 40)) (balloc (w.alloc (.cells #[.int .u64 p, .int .i64 N, .int .i64 t] 40)) (.cells #[.slice Al l.length cl, .slice As ss.length cs] 82))) (balloc ((w.alloc (.cells #[.int .u64 p, .int .i64 N, .int .i64 t] 40)).alloc (.cells #[.slice Al l.length cl, .slice As ss.length cs] 82)) (.cells #[.slice Aa z1.length ca, .slice Ab z2.length cb] 89)))
  have hK0 := (((((((kept3 w (w.heap.size) (by simp) (.int .u64 p) (.int .i64 N) (.int .i64 t) 40)).alloc _).app (kept2 (w.alloc (.cells #[.int .u64 p, .int .i64 N, .int .i64 t] 40)) (w.heap.size + 1) (by simp) (.slice Al l.length cl) (.slice As ss.length cs) 82))).alloc _).app (kept2 ((w.alloc (.cells #[.int .u64 p, .int .i64 N, .int .i64 t] 40)).alloc (.cells #[.slice Al l.length cl, .slice As ss.length cs] 82)) (w.heap.size + 1 + 1) (by simp) (.slice Aa z1.length ca) (.slice Ab z2.length cb) 89))
  obtain ⟨w0, hw0⟩ : ∃ w0, (((w.alloc (.cells #[.int .u64 p, .int .i64 N, .int .i64 t] 40)).alloc (.cells #[.slice Al l.length cl, .slice As ss.length cs] 82)).alloc (.cells #[.slice Aa z1.length ca, .slice Ab z2.length cb] 89)) = w0 := ⟨_, rfl⟩
  rw [hw0] at hB0 hK0
  have B0 := Lib.hid hB0
  have K0 := Lib.hid hK0
  clear hB0 hK0
  obtain ⟨d0_0, d0_1, d0_2, d0_3, d0_4, d0_5, d0_6⟩ := K0.out.c7
  go_enter Try.func13, Try.ntmps13
  go_wp2_with fail
  clear hw0
  have L_0 := Lib.hid (HL.out.below B0.out)
  have Q_0 := Lib.hid (HQ.out.below B0.out)
  have R_0 := Lib.hid (HR.out.below B0.out)
  refine (H2.out _).mono ?_
  rintro e w1 ⟨rfl, hb1⟩
  have B1 := Lib.hid (bnext B0.out hb1)
  have K1 := Lib.hid (K0.out.below hb1)
  have L_1 := Lib.hid (L_0.out.below hb1)
  have Q_1 := Lib.hid (Q_0.out.below hb1)
  have R_1 := Lib.hid (R_0.out.below hb1)
  clear hb1  d0_0 d0_1 d0_2 d0_3 d0_4 d0_5 d0_6
  obtain ⟨d1_0, d1_1, d1_2, d1_3, d1_4, d1_5, d1_6⟩ := K1.out.c7
  go_wp2_with fail
  refine (H3.out _ L_1.out).mono ?_
  rintro e w' ⟨rfl, rfl⟩
  have X0 := Box2.new w1
  have hb2 := balloc w1 (.cells #[.slice none 0 0, .slice none 0 0] 89)
  obtain ⟨w2, hw2⟩ : ∃ w2, w1.alloc (.cells #[.slice none 0 0, .slice none 0 0] 89) = w2 := ⟨_, rfl⟩
  obtain ⟨g, eg⟩ : ∃ g, w1.heap.size = g := ⟨_, rfl⟩
  rw [hw2] at X0 hb2
  have KK2 := Lib.hid (K1.out.below hb2)
  rw [eg] at X0 hb2
  have X2 := Lib.hid X0
  have HB2 := Lib.hid hb2
  have EG := Lib.hid eg
  clear X0 hb2 d1_0 d1_1 d1_2 d1_3 d1_4 d1_5 d1_6
  obtain ⟨d2_0, d2_1, d2_2, d2_3, d2_4, d2_5, d2_6⟩ := KK2.out.c7
  go_wp2_with fail
  clear hw2 d2_0 d2_1 d2_2 d2_3 d2_4 d2_5 d2_6
  go_loopw [41] (fun ti wr => ∃ k : Nat, k ≤ 2 ∧ ti = .int .i64 k ∧ Got G g k wr ∧ Below g w1 wr ∧ Tok k) (fun ti _ => 2 - (intOf ti).toNat)
  case atStart => exact ⟨0, by omega, rfl, Got.start X2.out, HB2.out, HTS.out⟩
  case round =>
    obtain ⟨k, hk, rfl, hG, hB, hT⟩ := hrel
    have HG := Lib.hid hG
    have HBr := Lib.hid hB
    have HT := Lib.hid hT
    have hB1 : Below w1.heap.size w1 wr := by rw [EG.out]; exact hB
    have KR := Lib.hid (K1.out.below hB1)
    have LR := Lib.hid (L_1.out.below hB1)
    have QR := Lib.hid (Q_1.out.below hB1)
    have RR := Lib.hid (R_1.out.below hB1)
    have BR := Lib.hid (bnext B1.out hB1)
    clear hB1 hG hB hT
    obtain ⟨dr_0, dr_1, dr_2, dr_3, dr_4, dr_5, dr_6⟩ := KR.out.c7
    have hk3 : k = 0 ∨ k = 1 ∨ k = 2 := by omega
    clear hk
    rcases hk3 with rfl | rfl | rfl
    · skip
      have ix : ∀ w, (Instr.index 89 (.agg #[.slice Aa z1.length ca, .slice Ab z2.length cb]) (.int .i64 0)).run Try.prog w = .ok (.slice Aa z1.length ca) w := fun _ => by kernel_rfl
      by_cases hlen : z1.length = l.length
      · by_cases hw : M.within p z1 = true
        · skip
          have HLEN := Lib.hid hlen
          have HWT := Lib.hid hw
          have hne : ((l.length : Int) != l.length) = false := by simp
          have HWz := Lib.hid (HW0.out wr _ _ hw QR.out)
          have HMz := Lib.hid (HMK.out wr _ _ QR.out)
          rw [hlen] at ix HWz HMz ⊢
          clear hlen hw
          go_wp2_with fail
          refine HWz.out.mono ?_
          rintro e w' ⟨rfl, rfl⟩
          go_wp2_with fail
          refine HMz.out.mono ?_
          rintro e w3 ⟨v3, u3, rfl, hF, hU, hb3⟩
          have HB3 := Lib.hid hb3
          have F_3 := Lib.hid hF
          have K3 := Lib.hid (KR.out.below hb3)
          clear hb3 hF hU HWz HMz dr_0 dr_1 dr_2 dr_3 dr_4 dr_5 dr_6
          obtain ⟨d3_0, d3_1, d3_2, d3_3, d3_4, d3_5, d3_6⟩ := K3.out.c7
          go_wp2_with fail
          refine (HSH.out _ _ _ F_3.out).mono ?_
          rintro e w5 ⟨v5, rfl, hX, hb5⟩
          have HB5 := Lib.hid (bnext HB3.out hb5)
          have X_5 := Lib.hid hX
          have K5 := Lib.hid (K3.out.below hb5)
          have HG5 := Lib.hid (HG.out.below HB5.out)
          have HBB := Lib.hid (show Below g w1 w5 from HBr.out.trans (HB5.out.mono (by rw [← EG.out]; exact HBr.out.size)))
          clear hb5 hX d3_0 d3_1 d3_2 d3_3 d3_4 d3_5 d3_6 HB3 F_3 K3
          obtain ⟨d5_0, d5_1, d5_2, d5_3, d5_4, d5_5, d5_6⟩ := K5.out.c7
          obtain ⟨Ax, cx, ex⟩ := nums_slice' X_5.out
          rw [M.shsb_len] at ex
          subst ex
          obtain ⟨cs, hx5, h1, h2⟩ := HG5.out
          have XB := Lib.hid hx5
          have HN1 := Lib.hid h1
          have HN2 := Lib.hid h2
          clear hx5 h1 h2 HG5
          have hNN : ((N : Int) != N) = false := by simp
          go_wp2_with fail
          clear d5_0 d5_1 d5_2 d5_3 d5_4 d5_5 d5_6
          have hgB : g < w5.heap.size := XB.out.lt
          have HGB := Lib.hid hgB
          go_loopw [87] (fun tj wi => ∃ j : Nat, j ≤ l.length ∧ tj = .int .i64 j ∧ Inn g 0 w5.heap.size cs w5 (G 0) j wi ∧ Below g w1 wi) (fun tj _ => l.length - (intOf tj).toNat)
          case atStart => exact ⟨0, by omega, rfl, Inn.start XB.out (HN2.out 0 (by omega) (by omega)), HBB.out⟩
          case round =>
            obtain ⟨j, hj, rfl, hI, hB⟩ := hrel
            have HI := Lib.hid hI
            have HBi := Lib.hid hB
            clear hI hB
            by_cases hlt : j < l.length
            · obtain ⟨⟨cs', v, hx, ho, hv, hown⟩, hbut⟩ := HI.out
              have HX := Lib.hid hx
              have HO := Lib.hid ho
              have HV := Lib.hid hv
              have HOW := Lib.hid hown
              have HBT := Lib.hid hbut
              obtain ⟨b, off, rfl, hb, hc0⟩ := intsZ_cell L_1.out hlt
              have hc := (HBi.out.cell (p := ⟨b, off + j, none⟩) (by rw [← EG.out]; exact hb)).trans hc0
              obtain ⟨g1, g2⟩ := HRG.out j hlt
              obtain ⟨q, hq⟩ : ∃ q : Nat, l.getD j 0 = (q : Int) + 1 := ⟨(l.getD j 0 - 1).toNat, by omega⟩
              have hqN : q < N := by omega
              obtain ⟨b5, off5, rfl, hb5, hc5⟩ := nums_cell X_5.out (i := q) (by rw [M.shsb_len]; exact hqN)
              have e5 := (hbut.cell (p := ⟨b5, off5 + q, none⟩) hb5 (XB.out.off hc5)).trans hc5
              have hvs := HST0.out j q hlt hq
              rw [hq] at hc
              obtain ⟨z, ez⟩ : ∃ z, z = (M.shs p N (M.mk p 1 l.length z1)).getD q 0 := ⟨_, rfl⟩
              rw [← ez] at e5 hvs
              have HVS := Lib.hid hvs
              have hz64 := HZ.out z1 q
              rw [← ez] at hz64
              have x0 := hx.cell hv
              have hg1 : g ≠ wr.heap.size := by have := hx.lt; omega
              have hg2 : g < wr.heap.size := hx.lt
              have hb5g := XB.out.off hc5
              have hjl : (j : Int) < (l.length : Nat) := by omega
              have hqn : (q : Int) < (N : Nat) := by omega
              have hw0 : IntKind.i64.wrap (q : Int) = q := IntWalk.i64_in _ (by omega)
              have hw1 : IntKind.i64.wrap ((q : Int) + 1 - 1) = q := by rw [Int.add_sub_cancel]; exact hw0
              have hq0 : (0 : Int) ≤ (q : Nat) := by omega
              have hle1 : j + [z].length ≤ 17592186043904 := by simp; omega
              clear ez hc5 hc0 g1 g2 hq hvs hx ho hv hown hbut
              go_wp2_with fail
              go_region_law ((refine step_append_nums rfl _ _ rfl w5.heap.size _ _ _ rfl (HOW.out.drew.alloc _) _ [z] rfl (nums1 wr.drew z hz64) hle1 (Nat.le_trans HBT.out.1 (by simp)) ?_; intro v' w4 hown4 hb4; obtain ⟨A4, n4, c4, rfl⟩ := own_slice hown4; have hbw : Below w5.heap.size wr w4 := (((Below.refl _ wr).drew).alloc HBT.out.1 _).trans hb4; have hx4 := HX.out.below hbw HGB.out; have x4 := hx4.cell HV.out; have f4 := hx4.frozen 0; have e54 := (hbw.cell (p := ⟨b5, off5 + q, none⟩) hb5).trans e5; have e55 := (World.cell?_setCell_other w4 ⟨g, 0, none⟩ ⟨b5, off5 + q, none⟩ (.slice A4 n4 c4) (by intro e; have := congrArg Addr.block e; simp at this; omega)).trans e54))
              all_goals
                have HIS := Lib.hid (Inn.step (v := v) HX.out HO.out HBT.out (by omega) HGB.out HVS.out hown4 hbw)
                have HBS := Lib.hid ((HBi.out.trans (hbw.mono (Nat.le_of_lt HGB.out))).setCell (p := ⟨g, 0, none⟩) (Nat.le_refl _) (.slice A4 n4 c4))
                clear hown4 hb4 hbw hx4 x4 f4 e54 e55 x0 e5 hb5g hg1 hg2
                go_wp2_with fail
                go_roundw
                case rel => exact ⟨j + 1, by omega, by go_num, HIS.out, HBS.out⟩
                case measure => simp [intOf]; omega
            · obtain rfl : j = l.length := by omega
              have hI := HI.out
              have hGl := HGL.out 0
              rw [← hGl] at hI
              have HGN := Lib.hid (Got.next XB.out HN1.out HN2.out (by omega) hI (HGZ.out 0) (by rw [hGl]; omega))
              clear hI hGl
              go_wp2_with fail
              go_roundw
              case rel => exact ⟨1, by omega, by go_num, HGN.out, HBi.out, HTN0.out HT.out HLEN.out HWT.out⟩
              case measure => simp [intOf]; try omega
        · skip
          have hw' : M.within p z1 = false := by simpa using hw
          have HWz := Lib.hid (HW1.out wr _ _ hw' QR.out)
          have hne : ((l.length : Int) != l.length) = false := by simp
          rw [hlen] at ix HWz ⊢
          clear hlen hw hw'
          go_wp2_with fail
          refine HWz.out.mono ?_
          rintro e w' ⟨rfl, rfl⟩
          go_wp2_with fail
          refine (alive_any _).mono ?_
          rintro e w4 ⟨rfl, hb⟩
          have B4 := Lib.hid (bnext BR.out hb)
          clear hb
          go_wp2_with fail
          go_ret
          exact ⟨rfl, B4.out⟩
      · skip
        have hne : ((z1.length : Int) != l.length) = true := by rw [bne_iff_ne]; omega
        obtain ⟨zl, ezl⟩ : ∃ zl, zl = z1.length := ⟨_, rfl⟩
        rw [← ezl] at ix hne ⊢
        clear ezl hlen
        go_wp2_with fail
        refine (alive_any _).mono ?_
        rintro e w4 ⟨rfl, hb⟩
        have B4 := Lib.hid (bnext BR.out hb)
        clear hb
        go_wp2_with fail
        go_ret
        exact ⟨rfl, B4.out⟩
    · skip
      have ix : ∀ w, (Instr.index 89 (.agg #[.slice Aa z1.length ca, .slice Ab z2.length cb]) (.int .i64 1)).run Try.prog w = .ok (.slice Ab z2.length cb) w := fun _ => by kernel_rfl
      by_cases hlen : z2.length = l.length
      · by_cases hw : M.within p z2 = true
        · skip
          have HLEN := Lib.hid hlen
          have HWT := Lib.hid hw
          have hne : ((l.length : Int) != l.length) = false := by simp
          have HWz := Lib.hid (HW0.out wr _ _ hw RR.out)
          have HMz := Lib.hid (HMK.out wr _ _ RR.out)
          rw [hlen] at ix HWz HMz ⊢
          clear hlen hw
          go_wp2_with fail
          refine HWz.out.mono ?_
          rintro e w' ⟨rfl, rfl⟩
          go_wp2_with fail
          refine HMz.out.mono ?_
          rintro e w3 ⟨v3, u3, rfl, hF, hU, hb3⟩
          have HB3 := Lib.hid hb3
          have F_3 := Lib.hid hF
          have K3 := Lib.hid (KR.out.below hb3)
          clear hb3 hF hU HWz HMz dr_0 dr_1 dr_2 dr_3 dr_4 dr_5 dr_6
          obtain ⟨d3_0, d3_1, d3_2, d3_3, d3_4, d3_5, d3_6⟩ := K3.out.c7
          go_wp2_with fail
          refine (HSH.out _ _ _ F_3.out).mono ?_
          rintro e w5 ⟨v5, rfl, hX, hb5⟩
          have HB5 := Lib.hid (bnext HB3.out hb5)
          have X_5 := Lib.hid hX
          have K5 := Lib.hid (K3.out.below hb5)
          have HG5 := Lib.hid (HG.out.below HB5.out)
          have HBB := Lib.hid (show Below g w1 w5 from HBr.out.trans (HB5.out.mono (by rw [← EG.out]; exact HBr.out.size)))
          clear hb5 hX d3_0 d3_1 d3_2 d3_3 d3_4 d3_5 d3_6 HB3 F_3 K3
          obtain ⟨d5_0, d5_1, d5_2, d5_3, d5_4, d5_5, d5_6⟩ := K5.out.c7
          obtain ⟨Ax, cx, ex⟩ := nums_slice' X_5.out
          rw [M.shsb_len] at ex
          subst ex
          obtain ⟨cs, hx5, h1, h2⟩ := HG5.out
          have XB := Lib.hid hx5
          have HN1 := Lib.hid h1
          have HN2 := Lib.hid h2
          clear hx5 h1 h2 HG5
          have hNN : ((N : Int) != N) = false := by simp
          go_wp2_with fail
          clear d5_0 d5_1 d5_2 d5_3 d5_4 d5_5 d5_6
          have hgB : g < w5.heap.size := XB.out.lt
          have HGB := Lib.hid hgB
          go_loopw [87] (fun tj wi => ∃ j : Nat, j ≤ l.length ∧ tj = .int .i64 j ∧ Inn g 1 w5.heap.size cs w5 (G 1) j wi ∧ Below g w1 wi) (fun tj _ => l.length - (intOf tj).toNat)
          case atStart => exact ⟨0, by omega, rfl, Inn.start XB.out (HN2.out 1 (by omega) (by omega)), HBB.out⟩
          case round =>
            obtain ⟨j, hj, rfl, hI, hB⟩ := hrel
            have HI := Lib.hid hI
            have HBi := Lib.hid hB
            clear hI hB
            by_cases hlt : j < l.length
            · obtain ⟨⟨cs', v, hx, ho, hv, hown⟩, hbut⟩ := HI.out
              have HX := Lib.hid hx
              have HO := Lib.hid ho
              have HV := Lib.hid hv
              have HOW := Lib.hid hown
              have HBT := Lib.hid hbut
              obtain ⟨b, off, rfl, hb, hc0⟩ := intsZ_cell L_1.out hlt
              have hc := (HBi.out.cell (p := ⟨b, off + j, none⟩) (by rw [← EG.out]; exact hb)).trans hc0
              obtain ⟨g1, g2⟩ := HRG.out j hlt
              obtain ⟨q, hq⟩ : ∃ q : Nat, l.getD j 0 = (q : Int) + 1 := ⟨(l.getD j 0 - 1).toNat, by omega⟩
              have hqN : q < N := by omega
              obtain ⟨b5, off5, rfl, hb5, hc5⟩ := nums_cell X_5.out (i := q) (by rw [M.shsb_len]; exact hqN)
              have e5 := (hbut.cell (p := ⟨b5, off5 + q, none⟩) hb5 (XB.out.off hc5)).trans hc5
              have hvs := HST1.out j q hlt hq
              rw [hq] at hc
              obtain ⟨z, ez⟩ : ∃ z, z = (M.shs p N (M.mk p 1 l.length z2)).getD q 0 := ⟨_, rfl⟩
              rw [← ez] at e5 hvs
              have HVS := Lib.hid hvs
              have hz64 := HZ.out z2 q
              rw [← ez] at hz64
              have x0 := hx.cell hv
              have hg1 : g ≠ wr.heap.size := by have := hx.lt; omega
              have hg2 : g < wr.heap.size := hx.lt
              have hb5g := XB.out.off hc5
              have hjl : (j : Int) < (l.length : Nat) := by omega
              have hqn : (q : Int) < (N : Nat) := by omega
              have hw0 : IntKind.i64.wrap (q : Int) = q := IntWalk.i64_in _ (by omega)
              have hw1 : IntKind.i64.wrap ((q : Int) + 1 - 1) = q := by rw [Int.add_sub_cancel]; exact hw0
              have hq0 : (0 : Int) ≤ (q : Nat) := by omega
              have hle1 : j + [z].length ≤ 17592186043904 := by simp; omega
              clear ez hc5 hc0 g1 g2 hq hvs hx ho hv hown hbut
              go_wp2_with fail
              go_region_law ((refine step_append_nums rfl _ _ rfl w5.heap.size _ _ _ rfl (HOW.out.drew.alloc _) _ [z] rfl (nums1 wr.drew z hz64) hle1 (Nat.le_trans HBT.out.1 (by simp)) ?_; intro v' w4 hown4 hb4; obtain ⟨A4, n4, c4, rfl⟩ := own_slice hown4; have hbw : Below w5.heap.size wr w4 := (((Below.refl _ wr).drew).alloc HBT.out.1 _).trans hb4; have hx4 := HX.out.below hbw HGB.out; have x4 := hx4.cell HV.out; have f4 := hx4.frozen 1; have e54 := (hbw.cell (p := ⟨b5, off5 + q, none⟩) hb5).trans e5; have e55 := (World.cell?_setCell_other w4 ⟨g, 1, none⟩ ⟨b5, off5 + q, none⟩ (.slice A4 n4 c4) (by intro e; have := congrArg Addr.block e; simp at this; omega)).trans e54))
              all_goals
                have HIS := Lib.hid (Inn.step (v := v) HX.out HO.out HBT.out (by omega) HGB.out HVS.out hown4 hbw)
                have HBS := Lib.hid ((HBi.out.trans (hbw.mono (Nat.le_of_lt HGB.out))).setCell (p := ⟨g, 1, none⟩) (Nat.le_refl _) (.slice A4 n4 c4))
                clear hown4 hb4 hbw hx4 x4 f4 e54 e55 x0 e5 hb5g hg1 hg2
                go_wp2_with fail
                go_roundw
                case rel => exact ⟨j + 1, by omega, by go_num, HIS.out, HBS.out⟩
                case measure => simp [intOf]; omega
            · obtain rfl : j = l.length := by omega
              have hI := HI.out
              have hGl := HGL.out 1
              rw [← hGl] at hI
              have HGN := Lib.hid (Got.next XB.out HN1.out HN2.out (by omega) hI (HGZ.out 1) (by rw [hGl]; omega))
              clear hI hGl
              go_wp2_with fail
              go_roundw
              case rel => exact ⟨2, by omega, by go_num, HGN.out, HBi.out, HTN1.out HT.out HLEN.out HWT.out⟩
              case measure => simp [intOf]; try omega
        · skip
          have hw' : M.within p z2 = false := by simpa using hw
          have HWz := Lib.hid (HW1.out wr _ _ hw' RR.out)
          have hne : ((l.length : Int) != l.length) = false := by simp
          rw [hlen] at ix HWz ⊢
          clear hlen hw hw'
          go_wp2_with fail
          refine HWz.out.mono ?_
          rintro e w' ⟨rfl, rfl⟩
          go_wp2_with fail
          refine (alive_any _).mono ?_
          rintro e w4 ⟨rfl, hb⟩
          have B4 := Lib.hid (bnext BR.out hb)
          clear hb
          go_wp2_with fail
          go_ret
          exact ⟨rfl, B4.out⟩
      · skip
        have hne : ((z2.length : Int) != l.length) = true := by rw [bne_iff_ne]; omega
        obtain ⟨zl, ezl⟩ : ∃ zl, zl = z2.length := ⟨_, rfl⟩
        rw [← ezl] at ix hne ⊢
        clear ezl hlen
        go_wp2_with fail
        refine (alive_any _).mono ?_
        rintro e w4 ⟨rfl, hb⟩
        have B4 := Lib.hid (bnext BR.out hb)
        clear hb
        go_wp2_with fail
        go_ret
        exact ⟨rfl, B4.out⟩
    · skip
      have HGR := Lib.hid (show g < wr.heap.size by obtain ⟨cs, hx, _⟩ := HG.out; exact hx.lt)
      obtain ⟨v0, v1, x0, x1, n0, n1⟩ := HG.out.done
      obtain ⟨A0, c0, e0⟩ := nums_slice' n0
      obtain ⟨A1, c1, e1⟩ := nums_slice' n1
      rw [HGL.out] at e0 e1
      subst e0 e1
      have HE := Lib.hid (HDEC.out HT.out)
      have M0 := Lib.hid n0
      have M1 := Lib.hid n1
      clear n0 n1
      go_wp2_with fail
      have hsa := fun W h0 h1 => HSD.out (.slice A0 l.length c0) (.slice A1 l.length c1) (G 0) (G 1) W h0 h1
      have hsb := fun W h0 h1 => HSD.out (.slice Aa z1.length ca) (.slice Ab z2.length cb) z1 z2 W h0 h1
      obtain ⟨r, er⟩ : ∃ r, decide (z1 = z2) = r := ⟨_, rfl⟩
      have he := HE.out
      rw [er] at he hsb
      rw [he] at hsa
      have HSA := Lib.hid hsa
      have HSB := Lib.hid hsb
      have hrr : (r == r) = true := by simp
      clear hsa hsb he er HE
      have hK := KR.out
      have hB := BR.out
      go_region_held3 (fun W' => W'.cell? ⟨g, 0, none⟩ = some (.slice A0 l.length c0) ∧ W'.cell? ⟨g, 1, none⟩ = some (.slice A1 l.length c1) ∧ W'.cell? ⟨w.heap.size + 1 + 1, 0, none⟩ = some (.slice Aa z1.length ca) ∧ W'.cell? ⟨w.heap.size + 1 + 1, 1, none⟩ = some (.slice Ab z2.length cb))
        (first | (exact ⟨x0, x1, dr_5, dr_6⟩) | go_keep | (exact y6) | (exact y7) | (exact y8))
        (first
          | (go_at_call 30; refine (alive_any _).mono ?_; rintro e w8 ⟨rfl, hb8⟩; have q8 := q7.below hb8; have b8 := bnext b7 hb8; have y8 := still (w0 := w) y7 hb8 hs7)
          | (go_at_call 22; refine (HSB.out _ QQ6 RR6).mono ?_; rintro e w7 ⟨rfl, hb7⟩; have q7 := q6.below hb7; have b7 := bnext b6 hb7; have hs7 := Nat.lt_of_lt_of_le hs6 hb7.size; have y7 := still (w0 := w) y6 hb7 hs6)
          | (go_at_call 22; refine (HSA.out _ (M0.out.below (Below.refl _ _).drew) (M1.out.below (Below.refl _ _).drew)).mono ?_; rintro e w6 ⟨rfl, hb6⟩; have hb60 : Below wr.heap.size wr w6 := (Below.refl wr.heap.size wr).drew.trans hb6; have q6 := hK.below hb60; have b6 := bnext hB hb60; have hs6 := Nat.lt_of_lt_of_le HGR.out hb60.size; have y6 := still (w0 := w) ⟨x0, x1, dr_5, dr_6⟩ hb60 HGR.out; have QQ6 := QR.out.below hb60; have RR6 := RR.out.below hb60))
      all_goals
        have B8 := Lib.hid b8
        clear hK hB hb6 hb60 q6 y6 b6 QQ6 RR6 hb7 q7 b7 y7 hb8 q8 b8 y8 x0 x1 dr_0 dr_1 dr_2 dr_3 dr_4 dr_5 dr_6
        go_wp2_with fail
        go_ret
        exact ⟨rfl, B8.out⟩

theorem walk (w : World) (p : Nat) (n t : Int) (hp : p < 18446744073709551616) (hn1 : -9223372036854775808 ≤ n) (hn2 : n ≤ 9223372036854775807) (ht1 : -9223372036854775808 ≤ t) (ht2 : t ≤ 9223372036854775807) (vl vs : Value) (l : List Int) (ss : List Nat) (hvl : IntsZ w vl l) (hvs : Nums w vs ss) (va : Value) (z1 : List Nat) (hva : Nums w va z1) (vb : Value) (z2 : List Nat) (hvb : Nums w vb z2) :
    Calls Try.prog 13 #[suV p n t, .agg #[vl, vs], .agg #[va, vb]] w fun e w' => e = .returned (.bool true) ∧ Below w.heap.size w w' := by
  cases hs : M.okS p n t with
  | false => exact no w p n t hp hn1 hn2 ht1 ht2 vl vs l ss hvl hvs va z1 hva vb z2 hvb (by unfold M.errS; rw [hs]; decide)
  | true =>
    obtain ⟨N, rfl⟩ := Int.eq_ofNat_of_zero_le (show 0 ≤ n by have := (M.okS_iff.1 hs).2.1; omega)
    by_cases h : l.length < N
    · cases hr : M.rising (N : Int) l with
      | false => exact fall w p N t hs vl vs l ss hvl hvs va z1 hva vb z2 hvb h hr
      | true => exact ok w p N t hs vl vs l ss hvl hvs va z1 hva vb z2 hvb h (M.rising_iff.1 hr)
    · exact long w p N t hs vl vs l ss hvl hvs va z1 hva vb z2 hvb h
end Go.Proofs.Ytgoognipljknjaa.shareOnlyW
