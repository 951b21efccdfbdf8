/-
  The reference of package pair: Rows.
-/
import Derived.Test.YtglehjcohdjhoaaPr4
import Derived.Test.YtglehjcohdjhoaaLG
import Derived.Test.YtglehjcohdjhoaaRB
namespace Go.Proofs.Ytglehjcohdjhoaa
open Go.RowKit
set_option linter.unusedVariables false
set_option maxRecDepth 100000

namespace M
/-- the first error of the first k rows as polynomials -/
def rerrK (p : Nat) (rows : List (List Nat)) : Nat → Int
  | 0 => 0
  | k + 1 => if rerrK p rows k = 0 then errW p (rows.getD k []) else rerrK p rows k
theorem rerrK_stop {p : Nat} {rows : List (List Nat)} {k : Nat} (h : rerrK p rows k = 0) (hk : errW p (rows.getD k []) ≠ 0) : ∀ N, k < N → rerrK p rows N = errW p (rows.getD k [])
  | 0, hn => absurd hn (by omega)
  | N + 1, hn => by
    unfold rerrK
    by_cases e : k = N
    · subst e; rw [if_pos h]
    · have := rerrK_stop h hk N (by omega)
      rw [this, if_neg hk]
theorem rerrK_zero {p : Nat} {rows : List (List Nat)} : ∀ {n : Nat}, rerrK p rows n = 0 → ∀ i, i < n → errW p (rows.getD i []) = 0
  | 0, _, i, hi => absurd hi (by omega)
  | n + 1, h, i, hi => by
    unfold rerrK at h
    split at h
    · rename_i h0
      by_cases e : i = n
      · subst e; exact h
      · exact rerrK_zero h0 i (by omega)
    · rename_i h0
      exact absurd h h0
theorem rerrK_all {p : Nat} {rows : List (List Nat)} : ∀ {n : Nat}, (∀ i, i < n → errW p (rows.getD i []) = 0) → rerrK p rows n = 0
  | 0, _ => rfl
  | n + 1, h => by
    unfold rerrK
    rw [if_pos (rerrK_all fun i hi => h i (by omega))]
    exact h n (by omega)
/-- the error of X coordinates and rows -/
def rowsE (p : Nat) (xs : List Nat) (rows : List (List Nat)) : Int := if 13 < xs.length then 3 else if rows.length ≠ xs.length ∨ within p xs = false then 2 else if ¬ xs.Nodup then 6 else rerrK p rows rows.length
/-- X coordinates and rows that are in order -/
structure ROk (p : Nat) (xs : List Nat) (rows : List (List Nat)) : Prop where
  len : xs.length ≤ 13
  rl : rows.length = xs.length
  wx : within p xs = true
  nod : xs.Nodup
  row : ∀ i, i < xs.length → (rows.getD i []).length ≤ 201 ∧ within p (rows.getD i []) = true
theorem errW_zero {p : Nat} {f : List Nat} (h : errW p f = 0) : f.length ≤ 201 ∧ within p f = true := by
  unfold errW at h
  split at h
  · cases h
  · rename_i h1
    split at h
    · rename_i h2; exact ⟨by omega, h2⟩
    · cases h
theorem errW_ok {p : Nat} {f : List Nat} (h1 : f.length ≤ 201) (h2 : within p f = true) : errW p f = 0 := by
  unfold errW
  rw [if_neg (by omega), if_pos h2]
theorem rowsE_zero {p : Nat} {xs : List Nat} {rows : List (List Nat)} (h : rowsE p xs rows = 0) : ROk p xs rows := by
  unfold rowsE at h
  split at h
  · cases h
  · rename_i h1
    split at h
    · cases h
    · rename_i h2
      split at h
      · cases h
      · rename_i h3
        have hl : rows.length = xs.length := by
          apply Classical.byContradiction; intro e; exact h2 (.inl e)
        refine ⟨by omega, hl, ?_, by simpa using h3, fun i hi => errW_zero (rerrK_zero h i (by omega))⟩
        cases e : within p xs with
        | true => rfl
        | false => exact absurd (.inr e) h2
theorem rowsE_ok {p : Nat} {xs : List Nat} {rows : List (List Nat)} (h : ROk p xs rows) : rowsE p xs rows = 0 := by
  unfold rowsE
  have h1 := h.len
  rw [if_neg (by omega), if_neg (by rw [h.wx, h.rl]; simp), if_neg (by simpa using h.nod)]
  exact rerrK_all fun i hi => errW_ok (h.row i (by rw [← h.rl]; exact hi)).1 (h.row i (by rw [← h.rl]; exact hi)).2
end M

set_option maxHeartbeats 2000000 in
theorem rrows6_any (p : Nat) (vx vr : Value) (xs : List Nat) (rows : List (List Nat)) (w : World) (hx : Nums w vx xs) (hr : Mat w vr rows) :
    Calls Try.prog 40 #[.int .u64 p, vx, vr] w fun e w' => e = .returned (.int .i64 (M.rowsE p xs rows)) ∧ Below w.heap.size w w' := by
  have hud : ∀ b : Bool, undef ≠ Value.bool b := fun b h => by cases h
  have hwi := fun c hc => within_any p vx xs w hx (c := c) hc
  have htw := twice_any vx xs w hx
  have HR := Lib.hid hr
  have hxl := hx.2.1
  obtain ⟨Ax, cx, rfl⟩ := nums_slice' hx
  obtain ⟨A, cap, rfl, _⟩ := mat_view6 hr
  have HM := Lib.hid (mat_row hr).2
  have hrl := hr.1
  clear hx hr
  by_cases h13 : 13 < xs.length
  · have H := Lib.hid h13
    have h2 : (13 : Int) < (xs.length : Int) := by omega
    go_enter Try.func40, Try.ntmps40
    go_wp2_with fail
    go_ret
    exact ⟨ret1 (by unfold M.rowsE; rw [if_pos H.out]), Below.refl _ _⟩
  have h2 : ¬ (13 : Int) < (xs.length : Int) := by omega
  have H13 := Lib.hid h13
  by_cases hl : rows.length = xs.length
  case neg =>
    have hb : ((rows.length : Int) != (xs.length : Int)) = true := by rw [bne_iff_ne]; intro e; exact hl (Int.ofNat.inj e)
    have H := Lib.hid hl
    clear hl
    go_enter Try.func40, Try.ntmps40
    go_wp2_with fail
    go_ret
    exact ⟨ret1 (by unfold M.rowsE; rw [if_neg H13.out, if_pos (.inl H.out)]), Below.refl _ _⟩
  have hb : ((rows.length : Int) != (xs.length : Int)) = false := by rw [hl]; simp
  have HL := Lib.hid hl
  clear hl
  cases hw : M.within p xs with
  | false =>
    have HW := Lib.hid (hwi 2 (by rw [hw]; rfl))
    have H := Lib.hid hw
    clear hw hwi htw
    go_enter Try.func40, Try.ntmps40
    go_wp2_with fail
    refine HW.out.mono ?_
    rintro e w' ⟨rfl, rfl⟩
    go_wp2_with fail
    go_ret
    exact ⟨ret1 (by unfold M.rowsE; rw [if_neg H13.out, if_pos (.inr H.out)]), Below.refl _ _⟩
  | true =>
    have HW := Lib.hid (hwi 0 (by rw [hw]; rfl))
    have HWT := Lib.hid hw
    clear hw hwi
    by_cases hn : xs.Nodup
    case neg =>
      rw [← M.twice_yes hn] at htw
      have HT := Lib.hid htw
      have H := Lib.hid hn
      clear hn htw
      go_enter Try.func40, Try.ntmps40
      go_wp2_with fail
      refine HW.out.mono ?_
      rintro e w' ⟨rfl, rfl⟩
      go_wp2_with fail
      refine HT.out.mono ?_
      rintro e w1 ⟨rfl, hb1⟩
      have B1 := Lib.hid hb1
      clear hb1
      go_wp2_with fail
      go_ret
      exact ⟨ret1 (by unfold M.rowsE; rw [if_neg H13.out, if_neg (by rw [HWT.out, HL.out]; simp), if_pos H.out]), B1.out⟩
    rw [← M.twice_no hn] at htw
    have HT := Lib.hid htw
    have H := Lib.hid hn
    have HE := Lib.hid (show M.rowsE p xs rows = M.rerrK p rows rows.length by unfold M.rowsE; rw [if_neg h13, if_neg (by rw [HWT.out, HL.out]; simp), if_neg (by simpa using hn)])
    clear hn htw
    go_enter Try.func40, Try.ntmps40
    go_wp2_with fail
    refine HW.out.mono ?_
    rintro e w' ⟨rfl, rfl⟩
    go_wp2_with fail
    refine HT.out.mono ?_
    rintro e w1 ⟨rfl, hb1⟩
    have B1 := Lib.hid hb1
    clear hb1
    go_wp2_with fail
    go_loopw [28] (fun t wr => ∃ k : Nat, k ≤ rows.length ∧ t = .int .i64 k ∧ M.rerrK p rows k = 0 ∧ Below w.heap.size w wr) (fun t _ => rows.length - (intOf t).toNat)
    case atStart => exact ⟨0, by omega, rfl, rfl, B1.out⟩
    case round =>
      obtain ⟨k, hk, rfl, hz, hB⟩ := hrel
      have HZ := Lib.hid hz
      have HB := Lib.hid hB
      clear hz hB
      by_cases hlt : k < rows.length
      · obtain ⟨b, off, rfl, hbl, hcells⟩ := HM.out (by omega)
        obtain ⟨Au, cu, cc, hnu, _⟩ := hcells k hlt
        have ck := (HB.out.cell (p := ⟨b, off + k, none⟩) hbl).trans cc
        have HWI := Lib.hid (rwithin_any p _ _ wr (hnu.below HB.out))
        obtain ⟨L, eL⟩ : ∃ L, L = (rows.getD k []).length := ⟨_, rfl⟩
        rw [← eL] at ck HWI
        obtain ⟨c, ec⟩ : ∃ c, c = M.errW p (rows.getD k []) := ⟨_, rfl⟩
        rw [← ec] at HWI
        have EC := Lib.hid ec
        clear cc hnu hcells eL ec
        by_cases h0 : c = 0
        · have hb5 : (c != 0) = false := by simp [h0]
          have H0 := Lib.hid h0
          clear h0
          go_wp2_with fail
          refine HWI.out.mono ?_
          rintro e w' ⟨rfl, rfl⟩
          go_wp2_with fail
          go_roundw
          case rel => exact ⟨k + 1, by omega, by go_num, by unfold M.rerrK; rw [if_pos HZ.out, ← EC.out]; exact H0.out, HB.out⟩
          case measure => simp [intOf]; omega
        · have hb5 : (c != 0) = true := by rw [bne_iff_ne]; exact h0
          have H0 := Lib.hid h0
          clear h0
          go_wp2_with fail
          refine HWI.out.mono ?_
          rintro e w' ⟨rfl, rfl⟩
          go_wp2_with fail
          go_ret
          exact ⟨ret1 (by rw [HE.out, M.rerrK_stop HZ.out (by rw [← EC.out]; exact H0.out) _ hlt, EC.out]), HB.out⟩
      · obtain rfl : k = rows.length := by omega
        go_wp2_with fail
        go_ret
        exact ⟨ret1 (by rw [HE.out, HZ.out]), HB.out⟩
end Go.Proofs.Ytglehjcohdjhoaa
