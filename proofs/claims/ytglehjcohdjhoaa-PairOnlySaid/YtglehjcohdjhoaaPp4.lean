/-
  Package pair of the program: Tape, Row, At.
-/
import Derived.Test.YtglehjcohdjhoaaPr8
import Derived.Test.YtglehjcohdjhoaaPp2
import Derived.Test.YtglehjcohdjhoaaLF
import Derived.Test.YtglehjcohdjhoaaLG
namespace Go.Proofs.Ytglehjcohdjhoaa
open Go.RowKit
set_option linter.unusedVariables false
set_option maxRecDepth 100000

set_option maxHeartbeats 2000000 in
theorem ptape_good (p T : Nat) (v : Value) (m : List (List Nat)) (w : World) (h3 : 3 ≤ p) (hp : p ≤ 65537) (hip : M.isP p = true) (hT : T ≤ 3) (hm : M.POk p (T + 1) m) (hv : Mat w v m) :
    Calls Try.prog 25 #[.int .u64 p, .int .i64 T, v] w fun e w' => (M.pchk p T m ≠ 0 ∧ e = .returned (.tuple #[.int .u64 0, .slice none 0 0, .int .i64 (M.pchk p T m)]) ∧ Below w.heap.size w w') ∨
      (M.pchk p T m = 0 ∧ ∃ v', e = .returned (.tuple #[.int .u64 (M.el m 0 0 : Nat), v', .int .i64 0]) ∧ Nums w' v' (M.tapeK (T + 1) (M.el m) (T + 1)).tail ∧ Below w.heap.size w w') := by
  have hud : ∀ b : Bool, undef ≠ Value.bool b := fun b h => by cases h
  have hck := M.pchk_ok hip hT hm
  have CH := Lib.hid (pcheck_any p T v m w (by omega) (by omega) (by omega) hv)
  rw [hck] at CH
  have HCK := Lib.hid hck
  obtain ⟨A, cap, rfl, _⟩ := mat_view6 hv
  have hml := hm.len
  obtain ⟨n, en⟩ : ∃ n, n = T + 1 := ⟨_, rfl⟩
  rw [← en] at hm hml ⊢
  have hn : 0 < n := by omega
  have hn4 : n ≤ 4 := by omega
  rw [hml] at hv CH ⊢
  have hrw := (mat_row hv).2
  obtain ⟨b, off, rfl, hbl, hcells⟩ := hrw (by omega)
  have HC := Lib.hid hcells
  have HM := Lib.hid hm
  have HML := Lib.hid hml
  have hcb : ((0 : Int) != 0) = false := rfl
  clear hv hm hrw hml hcells hck en
  go_enter Try.func25, Try.ntmps25
  go_wp2_with fail
  refine CH.out.mono ?_
  rintro e w1 ⟨rfl, hb⟩
  have B1 := Lib.hid hb
  clear hb
  go_wp2_with fail
  go_loopw [22, 10] (fun ti tv wr => ∃ k : Nat, k ≤ n ∧ ti = .int .i64 k ∧ wr.ownsRow w.heap.size 22 1 tv (M.triR n k) (vals (M.tapeK n (M.el m) k)) ∧ Below w.heap.size w wr) (fun ti _ _ => n - (intOf ti).toNat)
  case atStart => exact ⟨0, by omega, rfl, World.ownsRow_nil _ _ _ _, B1.out⟩
  case round =>
    obtain ⟨k, hk, rfl, ho, hB⟩ := hrel
    have HO := Lib.hid ho
    have HB := Lib.hid hB
    clear ho hB
    by_cases hlt : k < n
    · obtain ⟨Au, cu, cc, hnu, hrr⟩ := HC.out k (by rw [HML.out]; exact hlt)
      rw [HM.out.rows k hlt] at cc hnu hrr
      obtain ⟨g2, o2, rfl, hg2, hcel⟩ := hrr (by omega)
      have c1 := (HB.out.cell (p := ⟨b, off + k, none⟩) hbl).trans cc
      have hcu : n ≤ cu := by
        obtain ⟨_, c', e, hc, _⟩ := nums_view hnu
        simp only [Value.slice.injEq] at e
        have := HM.out.rows k hlt
        omega
      have n1 : ¬ cu = k := by omega
      have n2 : (k : Int) ≤ (n : Nat) := by omega
      have n3 : k ≤ n := hk
      have n4 : (n : Int) ≤ (cu : Nat) := by omega
      have HN := Lib.hid (show Nums wr (.slice (some ⟨g2, o2 + k, none⟩) (n - k) (cu - k)) (M.tabM (n - k) fun j => M.el m k (k + j)) from
        ⟨fun x hx => by
          obtain ⟨j, hj, rfl⟩ := List.mem_map.1 hx
          have := List.mem_range.1 hj
          have := HM.out.el_lt (i := k) (k := k + j) hlt (by omega)
          omega, by simp [M.tabM]; omega, .inr ⟨g2, o2 + k, cu - k, by simp [M.tabM], by simp [M.tabM]; omega, by have := HB.out.size; omega, fun j hj => by
            simp [M.tabM] at hj
            rw [M.tabM_at _ (by omega), Nat.add_assoc]
            exact (HB.out.cell (p := ⟨g2, o2 + (k + j), none⟩) hg2).trans (hcel (k + j) (by omega))⟩⟩)
      clear cc hnu hrr hcel
      have htr := HO.out
      go_wp2_with (at_builtin; refine wpList_append_nums (by rfl) _ _ rfl _ _ _ _ (by rfl) HO.out _ _ (by rfl) HN.out (by simp [M.tabM]; have := M.triR_mono (n := n) hk; have := M.triR_small hn4; have : n * (n + 1) ≤ 4 * 5 := Nat.mul_le_mul hn4 (by omega); omega) HB.out.size ?_; intro v2 w2 ho2 hb2)
      have HO2 := Lib.hid (show w2.ownsRow w.heap.size 22 1 v2 (M.triR n (k + 1)) (vals (M.tapeK n (M.el m) (k + 1))) by
        have e1 : M.triR n (k + 1) = M.triR n k + (M.tabM (n - k) fun j => M.el m k (k + j)).length := by simp [M.tabM, M.triR]
        rw [e1, M.tapeK, vals_app]
        exact ho2)
      have HB2 := Lib.hid (HB.out.trans hb2)
      clear ho2 hb2 htr
      go_roundw
      case rel => exact ⟨k + 1, by omega, by go_num, HO2.out, HB2.out⟩
      case measure => simp [intOf]; omega
    · obtain rfl : k = n := by omega
      have hN : M.triR k k ≤ 10 := by
        have := M.triR_small hn4
        have : k * (k + 1) ≤ 4 * 5 := Nat.mul_le_mul hn4 (by omega)
        omega
      have hN1 : 1 ≤ M.triR k k := by
        have := M.triR_mono (n := k) (show 1 ≤ k by omega)
        have e : M.triR k 1 = k := by simp [M.triR]
        omega
      have hT := M.tapeK_len k (M.el m) k
      have hT0 := M.tapeK_get k (M.el m) k 0 0 (by omega) (by omega)
      rw [show M.triR k 0 + 0 = 0 from rfl, Nat.zero_add] at hT0
      have hTl := M.tapeK_lt (p := p) (n := k) (F := M.el m) (fun i j hi hj => HM.out.el_lt hi hj) k (Nat.le_refl _)
      obtain ⟨T, eT⟩ : ∃ T, T = M.tapeK k (M.el m) k := ⟨_, rfl⟩
      rw [← eT] at HO hT hT0 hTl
      have HET := Lib.hid eT
      obtain ⟨N, eN⟩ : ∃ N, N = M.triR k k := ⟨_, rfl⟩
      rw [← eN] at HO hN hN1 hT
      obtain ⟨g, cp, rfl, hg, hgs⟩ := HO.out.form (by omega)
      obtain ⟨_, hcp, _, hrow⟩ := row_of_owns (zs := T) HO.out
      have c0 := hrow.cell (j := 0) (by omega)
      rw [hT0] at c0
      have HT0 := Lib.hid hT0
      have HTT := Lib.hid (show Nums wr (.slice (some ⟨g, 1, none⟩) (N - 1) (cp - 1)) T.tail from
        ⟨fun x hx => by have := within_lt6 hTl x (List.mem_of_mem_tail hx); omega, by simp; omega, .inr ⟨g, 1, cp - 1, by rw [List.length_tail, hT], by rw [List.length_tail]; omega, hgs, fun j hj => by
          rw [List.length_tail] at hj
          have := hrow.cell (j := 1 + j) (by omega)
          rw [this]
          congr 2
          simp [List.getD_eq_getElem?_getD, Nat.add_comm]⟩⟩)
      have HNIL := Lib.hid (show N = 1 → T.tail = [] from fun h => List.eq_nil_of_length_eq_zero (by rw [List.length_tail]; omega))
      have HB3 := Lib.hid HB.out
      clear hT hT0 hTl hrow eT eN HO HB
      by_cases hc1 : cp = 1
      · subst hc1
        have HN0 := Lib.hid (HNIL.out (by omega))
        obtain rfl : N = 1 := by omega
        clear HNIL
        go_wp2_with fail
        go_quiet (fail)
        go_wp2_with fail
        go_ret3
        refine .inr ⟨HCK.out, _, rfl, ?_, below_drewN HB3.out _⟩
        rw [← HET.out, HN0.out]
        exact ⟨by simp, by simp, .inl ⟨_, _, rfl, rfl, fun h => by cases h⟩⟩
      · have hc2 : ¬ (cp : Int) = 1 := by omega
        go_wp2_with fail
        go_quiet (fail)
        go_wp2_with fail
        go_ret3
        exact .inr ⟨HCK.out, _, rfl, by rw [← HET.out]; exact HTT.out.below (below_drewN (Below.refl _ _) _), below_drewN HB3.out _⟩

set_option maxHeartbeats 400000 in
theorem ptape_any (p : Nat) (t : Int) (v : Value) (m : List (List Nat)) (w : World) (hp : p < 18446744073709551616) (h1 : -9223372036854775808 ≤ t) (h2 : t ≤ 9223372036854775807) (hv : Mat w v m) :
    Calls Try.prog 25 #[.int .u64 p, .int .i64 t, v] w fun e w' => (M.pchk p t m ≠ 0 ∧ e = .returned (.tuple #[.int .u64 0, .slice none 0 0, .int .i64 (M.pchk p t m)]) ∧ Below w.heap.size w w') ∨
      (M.pchk p t m = 0 ∧ ∃ v', e = .returned (.tuple #[.int .u64 (M.el m 0 0 : Nat), v', .int .i64 0]) ∧ Nums w' v' (M.tapeK (t.toNat + 1) (M.el m) (t.toNat + 1)).tail ∧ Below w.heap.size w w') := by
  by_cases h : M.pchk p t m = 0
  · obtain ⟨T, rfl, hT, hi, ho⟩ := M.pchk_zero h
    obtain ⟨h3, hp5⟩ := M.pos_of hi
    rw [Int.toNat_natCast]
    exact ptape_good p T v m w h3 hp5 hi hT ho hv
  · have CH := Lib.hid (pcheck_any p t v m w hp h1 h2 hv)
    obtain ⟨A, cap, rfl, _⟩ := mat_view6 hv
    obtain ⟨c, ec⟩ : ∃ c, c = M.pchk p t m := ⟨_, rfl⟩
    rw [← ec] at h CH ⊢
    have hcb : (c != 0) = true := by rw [bne_iff_ne]; exact h
    have HN := Lib.hid h
    clear ec h hv
    go_enter Try.func25, Try.ntmps25
    go_wp2_with fail
    refine CH.out.mono ?_
    rintro e w1 ⟨rfl, hb⟩
    have B1 := Lib.hid hb
    clear hb
    go_wp2_with fail
    go_ret3
    exact .inl ⟨HN.out, rfl, B1.out⟩

/-- what Row and At refuse -/
def M.rowC (p : Nat) (t : Int) (m : List (List Nat)) (x : Nat) : Int := if M.pchk p t m = 0 then (if p ≤ x then 2 else 0) else M.pchk p t m
def M.atC (p : Nat) (t : Int) (m : List (List Nat)) (x y : Nat) : Int := if M.rowC p t m x = 0 then (if p ≤ y then 2 else 0) else M.rowC p t m x
theorem M.POk.chk_row {p n : Nat} {m : List (List Nat)} (h : M.POk p n m) (hi : M.isP p = true) (hn : n ≤ 200) {i : Nat} (hin : i < n) : M.chk p (m.getD i []) 201 = 0 := M.chk_of hi (by rw [h.rows i hin]; omega) (h.lt i hin)
/-- a row's value is the column's, since the matrix is symmetric -/
theorem M.POk.pev_row {p n : Nat} {m : List (List Nat)} (h : M.POk p n m) {i : Nat} (hi : i < n) (x : Nat) : M.pev p (m.getD i []) x = M.colv p n (M.el m) x i := by
  unfold M.colv M.pv M.pev
  refine M.evN_mod _ _ _ fun j => ?_
  rw [M.tabM_get]
  split
  · rename_i hj
    rw [← h.sym i j hi hj]; rfl
  · rename_i hj
    rw [List.getD_eq_getElem?_getD, List.getElem?_eq_none (by rw [h.rows i hi]; omega)]; rfl
theorem M.rowp_trim (p n : Nat) (F : Nat → Nat → Nat) (x : Nat) (hp : 0 < p) : M.trim (M.tabM n (M.colv p n F x)) = M.rowp p n F x := by
  refine M.trim_eq_of (M.poly_trim _ _ _) fun i => ?_
  rw [M.rowp_get hp, M.tabM_get]

set_option maxHeartbeats 2000000 in
theorem prow_good (p T : Nat) (v : Value) (m : List (List Nat)) (x : Nat) (w : World) (h3 : 3 ≤ p) (hp : p ≤ 65537) (hip : M.isP p = true) (hT : T ≤ 3) (hm : M.POk p (T + 1) m) (hx : x < p) (hv : Mat w v m) :
    Calls Try.prog 29 #[.int .u64 p, .int .i64 T, v, .int .u64 x] w fun e w' => Below w.heap.size w w' ∧ ((M.rowC p T m x ≠ 0 ∧ e = .returned (.tuple #[.slice none 0 0, .int .i64 (M.rowC p T m x)])) ∨
      (M.rowC p T m x = 0 ∧ ∃ v', e = .returned (.tuple #[v', .int .i64 0]) ∧ Nums w' v' (M.rowp p (T + 1) (M.el m) x))) := by
  have hud : ∀ b : Bool, undef ≠ Value.bool b := fun b h => by cases h
  have hck := M.pchk_ok hip hT hm
  have CH := Lib.hid (pcheck_any p T v m w (by omega) (by omega) (by omega) hv)
  rw [hck] at CH
  have HCK := Lib.hid (show M.rowC p T m x = 0 by unfold M.rowC; rw [if_pos hck, if_neg (by omega)])
  obtain ⟨A, cap, rfl, _⟩ := mat_view6 hv
  have hml := hm.len
  obtain ⟨n, en⟩ : ∃ n, n = T + 1 := ⟨_, rfl⟩
  rw [← en] at hm hml ⊢
  have hn : 0 < n := by omega
  have hn4 : n ≤ 4 := by omega
  have HEV := Lib.hid fun (i : Nat) (hi : i < n) (u : Value) (w : World) (hu : Nums w u (m.getD i [])) => eval_ok p x u (m.getD i []) w hx hu (hm.chk_row hip (by omega) hi)
  have HPV := Lib.hid fun (i : Nat) (hi : i < n) => hm.pev_row hi x
  have hlt : ∀ i, M.colv p n (M.el m) x i < p := fun i => M.pv_lt (by omega) _ _ _
  have HTR := Lib.hid fun (u : Value) (w : World) (hu : Nums w u (M.tabM n (M.colv p n (M.el m) x))) => trim2_ok p u _ w hu (M.chk_of hip (by simp [M.tabM]; omega) (M.within_tabM fun i _ => hlt i))
  rw [M.rowp_trim p n _ x (by omega)] at HTR
  have HLT := Lib.hid hlt
  rw [hml] at hv CH ⊢
  have hrw := (mat_row hv).2
  obtain ⟨b, off, rfl, hbl, hcells⟩ := hrw (by omega)
  have HC := Lib.hid hcells
  have HML := Lib.hid hml
  have HRW := Lib.hid hm.rows
  have hcb : ((0 : Int) != 0) = false := rfl
  obtain ⟨cu, hmu, hmurow⟩ := make6_u64 n (by omega)
  have HMR := Lib.hid hmurow
  obtain ⟨c, ec⟩ : ∃ c, c = M.colv p n (M.el m) x := ⟨_, rfl⟩
  rw [← ec] at HPV HTR HLT
  clear hv hm hrw hml hcells hck en hlt ec hmurow
  go_enter Try.func29, Try.ntmps29
  go_wp2_with fail
  refine CH.out.mono ?_
  rintro e w1 ⟨rfl, hb⟩
  have B1 := Lib.hid hb
  clear hb
  go_wp2_with fail
  have R0 := Lib.hid ((HMR.out w1).congr (F' := someOf c 0) fun j _ => by simp [someOf])
  have BA := Lib.hid (B1.out.alloc B1.out.size (.cells cu 22))
  have hB1 := B1.out.size
  clear hmu
  go_loopw [27] (fun t wr => ∃ k : Nat, k ≤ n ∧ t = .int .i64 k ∧ Row wr w1.heap.size n (someOf c k) ∧ Below w.heap.size w wr) (fun t _ => n - (intOf t).toNat)
  case atStart => exact ⟨0, by omega, rfl, R0.out, BA.out⟩
  case round =>
    obtain ⟨k, hk, rfl, hr, hB⟩ := hrel
    have HR := Lib.hid hr
    have HB := Lib.hid hB
    clear hr hB R0 BA
    by_cases hlt : k < n
    · obtain ⟨Au, cu2, ck, hN, _⟩ := HC.out k (by rw [HML.out]; exact hlt)
      have ck2 := (HB.out.cell (p := ⟨b, off + k, none⟩) hbl).trans ck
      have HE := Lib.hid (HEV.out k hlt _ _ (hN.below HB.out))
      rw [HPV.out k hlt] at HE
      rw [HRW.out k hlt] at ck2 HE
      have hst := fun i => someOf_step c k i
      obtain ⟨y, ey⟩ : ∃ y, y = c k := ⟨_, rfl⟩
      rw [← ey] at HE hst
      have HST := Lib.hid hst
      clear ck hN hst ey
      go_wp2_with fail
      refine HE.out.mono ?_
      rintro e w3 ⟨rfl, hb3⟩
      have HR3 := Lib.hid (HR.out.below hb3 HR.out.lt)
      have c3 := HR3.out.cell hlt
      have f3 := HR3.out.free k
      have HR4 := Lib.hid ((HR3.out.set hlt y).congr fun i _ => HST.out i)
      have HB4 := Lib.hid ((bnext HB.out hb3).setCell (p := ⟨w1.heap.size, k, none⟩) hB1 (.int .u64 (y : Nat)))
      have hi1 : (k : Int) < (n : Nat) := by omega
      clear hb3 HR3
      go_wp2_with fail
      go_roundw
      case rel => exact ⟨k + 1, by omega, by go_num, HR4.out, HB4.out⟩
      case measure => simp [intOf]; omega
    · obtain rfl : k = n := by omega
      have HN := Lib.hid (show Nums wr (.slice (some ⟨w1.heap.size, 0, none⟩) k k) (M.tabM k c) from (HR.out.congr (F' := c) fun i hi => by simp [someOf, hi]).nums (Nat.le_refl _) (Nat.le_refl _) (by omega) fun i _ => by have := HLT.out i; omega)
      have HT := Lib.hid (HTR.out _ _ HN.out)
      go_wp2_with fail
      refine HT.out.mono ?_
      rintro e w3 ⟨v3, rfl, hn3, hb3⟩
      have B4 := Lib.hid (bnext HB.out hb3)
      have HN3 := Lib.hid hn3
      clear hb3 hn3
      go_wp2_with fail
      go_ret2
      exact ⟨B4.out, .inr ⟨HCK.out, _, rfl, HN3.out⟩⟩

set_option maxHeartbeats 2000000 in
theorem prow_far (p T : Nat) (v : Value) (m : List (List Nat)) (x : Nat) (w : World) (h3 : 3 ≤ p) (hp : p ≤ 65537) (hip : M.isP p = true) (hT : T ≤ 3) (hm : M.POk p (T + 1) m) (hx : x < 18446744073709551616) (hxp : p ≤ x) (hv : Mat w v m) :
    Calls Try.prog 29 #[.int .u64 p, .int .i64 T, v, .int .u64 x] w fun e w' => Below w.heap.size w w' ∧ ((M.rowC p T m x ≠ 0 ∧ e = .returned (.tuple #[.slice none 0 0, .int .i64 (M.rowC p T m x)])) ∨
      (M.rowC p T m x = 0 ∧ ∃ v', e = .returned (.tuple #[v', .int .i64 0]) ∧ Nums w' v' (M.rowp p (T + 1) (M.el m) x))) := by
  have hud : ∀ b : Bool, undef ≠ Value.bool b := fun b h => by cases h
  have hck := M.pchk_ok hip hT hm
  have CH := Lib.hid (pcheck_any p T v m w (by omega) (by omega) (by omega) hv)
  rw [hck] at CH
  have HCK := Lib.hid (show M.rowC p T m x = 2 by unfold M.rowC; rw [if_pos hck, if_pos hxp])
  obtain ⟨A, cap, rfl, _⟩ := mat_view6 hv
  have hml := hm.len
  obtain ⟨n, en⟩ : ∃ n, n = T + 1 := ⟨_, rfl⟩
  rw [← en] at hm hml ⊢
  have hn : 0 < n := by omega
  have hn4 : n ≤ 4 := by omega
  have HEV := Lib.hid fun (u : Value) (w : World) (hu : Nums w u (m.getD 0 [])) => eval_arg p x u (m.getD 0 []) w hx hxp hu (hm.chk_row hip (by omega) hn)
  rw [hml] at hv CH ⊢
  have hrw := (mat_row hv).2
  obtain ⟨b, off, rfl, hbl, hcells⟩ := hrw (by omega)
  have hcb : ((0 : Int) != 0) = false := rfl
  obtain ⟨cu, hmu, hmurow⟩ := make6_u64 n (by omega)
  obtain ⟨Au, cu2, ck, hN, _⟩ := hcells 0 (by rw [hml]; exact hn)
  rw [Nat.add_zero] at ck
  rw [hm.rows 0 hn] at ck hN
  have HN := Lib.hid hN
  clear hv hm hrw hml hcells hck en hmurow hN
  go_enter Try.func29, Try.ntmps29
  go_wp2_with fail
  refine CH.out.mono ?_
  rintro e w1 ⟨rfl, hb⟩
  have B1 := Lib.hid hb
  clear hb
  go_wp2_with fail
  have BA := Lib.hid (B1.out.alloc B1.out.size (.cells cu 22))
  clear hmu
  go_loopw [27] (fun t wr => t = .int .i64 0 ∧ Below w.heap.size w wr) (fun t _ => n - (intOf t).toNat)
  case atStart => exact ⟨rfl, BA.out⟩
  case round =>
    obtain ⟨rfl, hB⟩ := hrel
    have HB := Lib.hid hB
    clear hB
    have ck2 := (HB.out.cell (p := ⟨b, off, none⟩) hbl).trans ck
    have HE := Lib.hid (HEV.out _ _ (HN.out.below HB.out))
    have hi1 : (0 : Int) < (n : Nat) := by omega
    go_wp2_with fail
    refine HE.out.mono ?_
    rintro e w3 ⟨rfl, rfl⟩
    go_wp2_with fail
    go_ret2
    exact ⟨HB.out, .inl ⟨by rw [HCK.out]; decide, by rw [HCK.out]; rfl⟩⟩

set_option maxHeartbeats 400000 in
theorem prow_any (p : Nat) (t : Int) (v : Value) (m : List (List Nat)) (x : Nat) (w : World) (hp : p < 18446744073709551616) (h1 : -9223372036854775808 ≤ t) (h2 : t ≤ 9223372036854775807) (hx : x < 18446744073709551616) (hv : Mat w v m) :
    Calls Try.prog 29 #[.int .u64 p, .int .i64 t, v, .int .u64 x] w fun e w' => Below w.heap.size w w' ∧ ((M.rowC p t m x ≠ 0 ∧ e = .returned (.tuple #[.slice none 0 0, .int .i64 (M.rowC p t m x)])) ∨
      (M.rowC p t m x = 0 ∧ ∃ v', e = .returned (.tuple #[v', .int .i64 0]) ∧ Nums w' v' (M.rowp p (t.toNat + 1) (M.el m) x))) := by
  by_cases h : M.pchk p t m = 0
  · obtain ⟨T, rfl, hT, hi, ho⟩ := M.pchk_zero h
    obtain ⟨h3, hp5⟩ := M.pos_of hi
    rw [Int.toNat_natCast]
    by_cases hxp : p ≤ x
    · exact prow_far p T v m x w h3 hp5 hi hT ho hx hxp hv
    · exact prow_good p T v m x w h3 hp5 hi hT ho (by omega) hv
  · have CH := Lib.hid (pcheck_any p t v m w hp h1 h2 hv)
    have HCK := Lib.hid (show M.rowC p t m x = M.pchk p t m by unfold M.rowC; rw [if_neg h])
    obtain ⟨A, cap, rfl, _⟩ := mat_view6 hv
    obtain ⟨c, ec⟩ : ∃ c, c = M.pchk p t m := ⟨_, rfl⟩
    rw [← ec] at h CH HCK
    have hcb : (c != 0) = true := by rw [bne_iff_ne]; exact h
    have HN := Lib.hid h
    clear ec h hv
    go_enter Try.func29, Try.ntmps29
    go_wp2_with fail
    refine CH.out.mono ?_
    rintro e w1 ⟨rfl, hb⟩
    have B1 := Lib.hid hb
    clear hb
    go_wp2_with fail
    go_ret2
    exact ⟨B1.out, .inl ⟨by rw [HCK.out]; exact HN.out, by rw [HCK.out]; rfl⟩⟩

set_option maxHeartbeats 1000000 in
theorem pat_any (p : Nat) (t : Int) (v : Value) (m : List (List Nat)) (x y : Nat) (w : World) (hp : p < 18446744073709551616) (h1 : -9223372036854775808 ≤ t) (h2 : t ≤ 9223372036854775807) (hx : x < 18446744073709551616) (hy : y < 18446744073709551616) (hv : Mat w v m) :
    Calls Try.prog 28 #[.int .u64 p, .int .i64 t, v, .int .u64 x, .int .u64 y] w fun e w' => Below w.heap.size w w' ∧ ((M.atC p t m x y ≠ 0 ∧ e = .returned (.tuple #[.int .u64 0, .int .i64 (M.atC p t m x y)])) ∨
      (M.atC p t m x y = 0 ∧ e = .returned (.tuple #[.int .u64 (M.pat p (t.toNat + 1) (M.el m) x y : Nat), .int .i64 0]))) := by
  have HR := Lib.hid (prow_any p t v m x w hp h1 h2 hx hv)
  obtain ⟨A, cap, rfl, _⟩ := mat_view6 hv
  clear hv
  by_cases h : M.rowC p t m x = 0
  · obtain ⟨T, rfl, hT, hi, ho⟩ : ∃ T : Nat, t = T ∧ T ≤ 3 ∧ M.isP p = true ∧ M.POk p (T + 1) m := by
      by_cases h2 : M.pchk p t m = 0
      · exact M.pchk_zero h2
      · unfold M.rowC at h; rw [if_neg h2] at h; exact absurd h h2
    obtain ⟨h3, hp5⟩ := M.pos_of hi
    have hchk : M.chk p (M.rowp p (T + 1) (M.el m) x) 201 = 0 := M.chk_of hi (by have := M.rowp_len p (T + 1) (M.el m) x; omega) (M.poly_within (by omega) _ _)
    rw [Int.toNat_natCast] at HR ⊢
    have HAC := Lib.hid (show M.atC p T m x y = if p ≤ y then 2 else 0 by unfold M.atC; rw [if_pos h])
    have hpv := M.pev_rowp p (T + 1) (M.el m) x y
    have HPV := Lib.hid hpv
    obtain ⟨R, eR⟩ : ∃ R, R = M.rowp p (T + 1) (M.el m) x := ⟨_, rfl⟩
    rw [← eR] at HR hchk HPV
    have hcb : ((0 : Int) != 0) = false := rfl
    have H0 := Lib.hid h
    rw [h] at HR
    have HCH := Lib.hid hchk
    clear h hi ho hpv eR hchk
    by_cases hyp : p ≤ y
    · go_enter Try.func28, Try.ntmps28
      go_wp2_with fail
      refine HR.out.mono ?_
      rintro e w1 ⟨hb, ⟨h, _⟩ | ⟨_, v1, rfl, hn⟩⟩
      case inl => exact absurd rfl h
      have B1 := Lib.hid hb
      have HE := Lib.hid (eval_arg p y v1 R w1 hy hyp hn HCH.out)
      obtain ⟨A1, c1, rfl⟩ := nums_slice' hn
      clear hb hn
      go_wp2_with fail
      refine HE.out.mono ?_
      rintro e w2 ⟨rfl, rfl⟩
      go_wp2_with fail
      go_ret2
      exact ⟨B1.out, .inl ⟨by rw [HAC.out, if_pos hyp]; decide, by rw [HAC.out, if_pos hyp]; rfl⟩⟩
    · go_enter Try.func28, Try.ntmps28
      go_wp2_with fail
      refine HR.out.mono ?_
      rintro e w1 ⟨hb, ⟨h, _⟩ | ⟨_, v1, rfl, hn⟩⟩
      case inl => exact absurd rfl h
      have B1 := Lib.hid hb
      have HE := Lib.hid (eval_ok p y v1 R w1 (by omega) hn HCH.out)
      obtain ⟨A1, c1, rfl⟩ := nums_slice' hn
      clear hb hn
      go_wp2_with fail
      refine HE.out.mono ?_
      rintro e w2 ⟨rfl, hb⟩
      have B2 := Lib.hid (bnext B1.out hb)
      clear hb
      go_wp2_with fail
      go_ret2
      exact ⟨B2.out, .inr ⟨by rw [HAC.out, if_neg hyp], by rw [HPV.out]; rfl⟩⟩
  · have HAC := Lib.hid (show M.atC p t m x y = M.rowC p t m x by unfold M.atC; rw [if_neg h])
    obtain ⟨c, ec⟩ : ∃ c, c = M.rowC p t m x := ⟨_, rfl⟩
    rw [← ec] at h HR HAC
    have hcb : (c != 0) = true := by rw [bne_iff_ne]; exact h
    have HN := Lib.hid h
    clear ec h
    go_enter Try.func28, Try.ntmps28
    go_wp2_with fail
    refine HR.out.mono ?_
    rintro e w1 ⟨hb, ⟨_, rfl⟩ | ⟨h, _⟩⟩
    case inr => exact absurd h HN.out
    have B1 := Lib.hid hb
    clear hb
    go_wp2_with fail
    go_ret2
    exact ⟨B1.out, .inl ⟨by rw [HAC.out]; exact HN.out, by rw [HAC.out]; rfl⟩⟩
end Go.Proofs.Ytglehjcohdjhoaa
