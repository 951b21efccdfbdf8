/-
  Package pair of the program: the rows as polynomials; Quarrels.
-/
import Derived.Test.YtglehjcohdjhoaaPp6
namespace Go.Proofs.Ytglehjcohdjhoaa
open Go.RowKit
set_option linter.unusedVariables false
set_option maxRecDepth 100000

namespace M
/-- the error of the places and the rows -/
def polyE (p : Nat) (xs : List Nat) (rows : List (List Nat)) : Int := if isP p = true then rowsE p xs rows else 2
theorem polyE_plc {p : Nat} {xs : List Nat} {rows : List (List Nat)} (h : plcE p xs rows.length ≠ 0) : polyE p xs rows = plcE p xs rows.length := by
  unfold plcE at h ⊢
  unfold polyE rowsE
  split
  · split
    · rfl
    · split
      · rfl
      · split
        · rfl
        · rename_i h1 h2 h3 h4
          rw [if_pos h1, if_neg h2, if_neg h3, if_neg h4] at h
          exact absurd rfl h
  · rfl
theorem polyE_rows {p : Nat} {xs : List Nat} {rows : List (List Nat)} (h : plcE p xs rows.length = 0) : isP p = true ∧ polyE p xs rows = rerrK p rows rows.length ∧ xs.length ≤ 13 ∧ rows.length = xs.length := by
  unfold plcE at h
  unfold polyE rowsE
  split at h
  · rename_i h1
    split at h
    · cases h
    · rename_i h2
      split at h
      · cases h
      · rename_i h3
        split at h
        · cases h
        · rename_i h4
          rw [if_pos h1, if_neg h2, if_neg h3, if_neg h4]
          refine ⟨h1, rfl, by omega, ?_⟩
          apply Classical.byContradiction
          intro e
          exact h3 (.inl e)
  · cases h
theorem polyE_ok {p : Nat} {xs : List Nat} {rows : List (List Nat)} (h : polyE p xs rows = 0) : isP p = true ∧ ROk p xs rows := by
  unfold polyE at h
  split at h
  · exact ⟨by assumption, rowsE_zero h⟩
  · cases h
theorem rerrK_small {p : Nat} {rows : List (List Nat)} {k : Nat} (h : rerrK p rows k = 0) : ∀ i, i < k → errW p (rows.getD i []) = 0 := rerrK_zero h
def trimsQ (rows : List (List Nat)) (i : Nat) : List Nat := trim (rows.getD i [])
theorem trims_eq (rows : List (List Nat)) : (List.range rows.length).map (trimsQ rows) = rows.map trim := by
  apply List.ext_getElem
  · simp
  · intro i h1 h2
    have hi : i < rows.length := by simpa using h1
    simp [trimsQ, List.getD_eq_getElem?_getD, hi]
theorem map_trim_get (rows : List (List Nat)) (i : Nat) : (rows.map trim).getD i [] = trim (rows.getD i []) := by
  by_cases h : i < rows.length
  · simp [List.getD_eq_getElem?_getD, h]
  · simp [List.getD_eq_getElem?_getD, Nat.le_of_not_lt h, trim_nil]
end M

set_option maxHeartbeats 2000000 in
theorem ppoly_any (p : Nat) (vx vr : Value) (xs : List Nat) (rows : List (List Nat)) (w : World) (hp : p < 18446744073709551616) (hx : Nums w vx xs) (hr : Mat w vr rows) :
    Calls Try.prog 70 #[.int .u64 p, vx, vr] w fun e w' => Below w.heap.size w w' ∧ ((M.polyE p xs rows ≠ 0 ∧ e = .returned (.tuple #[.slice none 0 0, .int .i64 (M.polyE p xs rows)])) ∨
      (M.polyE p xs rows = 0 ∧ ∃ v', e = .returned (.tuple #[v', .int .i64 0]) ∧ Mat w' v' (rows.map M.trim))) := by
  have hud : ∀ b : Bool, undef ≠ Value.bool b := fun b h => by cases h
  have HPL := Lib.hid (plcE_any p vx xs rows.length w hp hx)
  obtain ⟨Ax, cx, rfl⟩ := nums_slice' hx
  obtain ⟨A, cap, rfl, _, hrl, _⟩ := mat_view6 hr
  have HR := Lib.hid (mat_row hr).2
  clear hx hr
  by_cases hc : M.plcE p xs rows.length = 0
  case neg =>
    have HE := Lib.hid (M.polyE_plc hc)
    obtain ⟨c, ec⟩ : ∃ c, c = M.plcE p xs rows.length := ⟨_, rfl⟩
    rw [← ec] at HPL HE hc
    have hcb : (c != 0) = true := by rw [bne_iff_ne]; exact hc
    have HC := Lib.hid hc
    clear ec hc
    go_enter Try.func70, Try.ntmps70
    go_wp2_with fail
    refine HPL.out.mono ?_
    rintro e w1 ⟨rfl, hb⟩
    have B1 := Lib.hid hb
    clear hb
    go_wp2_with fail
    go_ret2
    exact ⟨B1.out, .inl ⟨by rw [HE.out]; exact HC.out, by rw [HE.out]; rfl⟩⟩
  obtain ⟨hip, hE, hx13, hrx⟩ := M.polyE_rows hc
  rw [hc] at HPL
  obtain ⟨h3, hp5⟩ := M.pos_of hip
  have hn13 : rows.length ≤ 13 := by omega
  have HE := Lib.hid hE
  have hcb0 : ((0 : Int) != 0) = false := rfl
  have TRO := Lib.hid fun (i : Nat) (u : Value) (W : World) (hu : Nums W u (rows.getD i [])) (h : M.errW p (rows.getD i []) = 0) => trim2_ok p u _ W hu (by rw [← M.errW_chk hip]; exact h)
  have TRB := Lib.hid fun (i : Nat) (u : Value) (W : World) (hu : Nums W u (rows.getD i [])) (h : M.errW p (rows.getD i []) ≠ 0) => trim2_bad p u _ W hp hu (by rw [← M.errW_chk hip]; exact h)
  obtain ⟨cs, hcs, hcz, hmk⟩ := make6_rows rows.length (by omega)
  obtain ⟨n, en⟩ : ∃ n, n = rows.length := ⟨_, rfl⟩
  have EN := Lib.hid en
  rw [← en] at hmk hcs hcz hn13 HPL HE ⊢
  clear hc hE en
  go_enter Try.func70, Try.ntmps70
  go_wp2_with fail
  refine HPL.out.mono ?_
  rintro e w1 ⟨rfl, hb⟩
  have B1 := Lib.hid hb
  clear hb
  obtain ⟨bB, eB⟩ : ∃ B, B = w1.heap.size := ⟨_, rfl⟩
  obtain ⟨W0, eW0⟩ : ∃ W0, W0 = w1.alloc (.cells cs 30) := ⟨_, rfl⟩
  have hB0 : W0.heap[bB]? = some (.cells cs 30 (0, 0)) := by rw [eW0, eB]; exact heap_alloc_new w1 _
  have HL0 := Lib.hid (show LayV W0 bB n 0 (M.trimsQ rows) from ⟨cs, hB0, hcs, fun i hi => absurd hi (by omega), fun i _ hi => hcz i hi⟩)
  have HB0 := Lib.hid (show Below w.heap.size w W0 by rw [eW0]; exact bnext B1.out (balloc w1 _))
  have hBw : w.heap.size ≤ bB := by rw [eB]; exact B1.out.size
  have EW0 := Lib.hid eW0
  have EB := Lib.hid eB
  go_wp2_with fail
  rw [← EW0.out]
  simp only [← EB.out]
  clear hmk eB eW0 hB0 hcs hcz B1
  go_loopw [27] (fun t wr => ∃ k : Nat, k ≤ n ∧ t = .int .i64 k ∧ LayV wr bB n k (M.trimsQ rows) ∧ M.rerrK p rows k = 0 ∧ Below w.heap.size w wr) (fun t _ => n - (intOf t).toNat)
  case atStart => exact ⟨0, by omega, rfl, HL0.out, rfl, HB0.out⟩
  case round =>
    obtain ⟨k, hk, rfl, hLy, hz, hB⟩ := hrel
    have HLy := Lib.hid hLy
    have HZ := Lib.hid hz
    have HB := Lib.hid hB
    clear hLy hz hB HL0 HB0
    by_cases hlt : k < n
    · obtain ⟨b, off, rfl, hbl, hcells⟩ := HR.out (by rw [← EN.out]; omega)
      obtain ⟨Au, cu, ck, hN, _⟩ := hcells k (by rw [← EN.out]; exact hlt)
      have ck2 := (HB.out.cell (p := ⟨b, off + k, none⟩) hbl).trans ck
      have hN2 := hN.below HB.out
      have hnext : M.errW p (rows.getD k []) = 0 → M.rerrK p rows (k + 1) = 0 := fun h => by
        unfold M.rerrK; rw [if_pos HZ.out]; exact h
      have hstop : M.errW p (rows.getD k []) ≠ 0 → M.rerrK p rows n = M.errW p (rows.getD k []) := fun h => M.rerrK_stop HZ.out h n hlt
      have T0 := TRO.out k _ _ hN2
      have T1 := TRB.out k _ _ hN2
      obtain ⟨L, eL⟩ : ∃ L, L = (rows.getD k []).length := ⟨_, rfl⟩
      rw [← eL] at ck2 T0 T1
      have hti : M.trim (rows.getD k []) = M.trimsQ rows k := rfl
      rw [hti] at T0
      obtain ⟨q, eq⟩ : ∃ q, q = M.trimsQ rows k := ⟨_, rfl⟩
      rw [← eq] at T0
      have hchk := M.errW_chk hip (rows.getD k [])
      rw [← hchk] at T1
      have HQ := Lib.hid eq
      clear ck hN hN2 hcells eL hti eq
      by_cases he : M.errW p (rows.getD k []) = 0
      · have T := Lib.hid (T0 he)
        have HN := Lib.hid (hnext he)
        clear T0 T1 he hchk hnext hstop
        go_wp2_with fail
        refine T.out.mono ?_
        rintro e w3 ⟨v3, rfl, hn3, hb3⟩
        have HB3 := Lib.hid (bnext HB.out hb3)
        have HL3 := Lib.hid (HLy.out.below hb3)
        have HN3 := Lib.hid (HQ.out ▸ hn3 : Nums w3 v3 (M.trimsQ rows k))
        obtain ⟨A3, c3, rfl⟩ := nums_slice' hn3
        have cB := HL3.out.cell hlt
        have fB := HL3.out.free k
        have lB := HL3.out.lt
        have HL4 := Lib.hid (HL3.out.push hlt HN3.out)
        have HB4 := Lib.hid (HB3.out.setCell (p := ⟨bB, k, none⟩) hBw (.slice A3 q.length c3))
        have hkn : (k : Int) < (n : Nat) := by omega
        clear hn3 hb3
        go_wp2_with fail
        go_roundw
        case rel => exact ⟨k + 1, by omega, by go_num, HL4.out, HN.out, HB4.out⟩
        case measure => simp [intOf]; omega
      · have HS := Lib.hid (hstop he)
        obtain ⟨c, ec⟩ : ∃ c, c = M.errW p (rows.getD k []) := ⟨_, rfl⟩
        have T := T1 he
        rw [← ec] at T he HS
        have HT := Lib.hid T
        have hcb : (c != 0) = true := by rw [bne_iff_ne]; exact he
        have HC := Lib.hid he
        clear T0 T1 he hchk hnext hstop T ec
        go_wp2_with fail
        refine HT.out.mono ?_
        rintro e w3 ⟨rfl, hb3⟩
        have HB3 := Lib.hid (bnext HB.out hb3)
        clear hb3
        go_wp2_with fail
        go_ret2
        exact ⟨HB3.out, .inl ⟨by rw [HE.out, HS.out]; exact HC.out, by rw [HE.out, HS.out]; rfl⟩⟩
    · obtain rfl : k = n := by omega
      have HM := Lib.hid (HLy.out.mat (by omega))
      have e1 : (List.range k).map (M.trimsQ rows) = rows.map M.trim := by rw [EN.out]; exact M.trims_eq rows
      rw [e1] at HM
      go_wp2_with fail
      go_ret2
      exact ⟨HB.out, .inr ⟨by rw [HE.out]; exact HZ.out, _, rfl, HM.out⟩⟩

set_option maxHeartbeats 400000 in
theorem valueAt_any (p x : Nat) (v : Value) (f : List Nat) (w : World) (hx : x < p) (hv : Nums w v f) (h : M.chk p f 201 = 0) :
    Calls Try.prog 71 #[.int .u64 p, v, .int .u64 x] w fun e w' => e = .returned (.int .u64 (M.pev p f x : Nat)) ∧ Below w.heap.size w w' := by
  have HE := Lib.hid (eval_ok p x v f w hx hv h)
  obtain ⟨A, cap, rfl⟩ := nums_slice' hv
  clear hv h
  go_enter Try.func71, Try.ntmps71
  go_wp2_with fail
  refine HE.out.mono ?_
  rintro e w1 ⟨rfl, hb⟩
  have HB := Lib.hid hb
  clear hb
  go_wp2_with fail
  go_ret
  exact ⟨rfl, HB.out⟩

end Go.Proofs.Ytglehjcohdjhoaa
