/-
  Mr9, Mr10 (joined).
-/
import Derived.Test.YtfgfapbhgehfiaaXD
namespace Go.Proofs.Ytfgfapbhgehfiaa
open Go.RowKit
set_option linter.unusedVariables false
set_option maxRecDepth 100000

namespace M
def frm (p : Nat) (m : List (List Nat)) : Int :=
  if m.length < 1 ∨ 64 < m.length ∨ (m.getD 0 []).length < 1 ∨ 64 < (m.getD 0 []).length then 3
  else if ∀ i, i < m.length → (m.getD i []).length = (m.getD 0 []).length then (if ∀ i, i < m.length → within p (m.getD i []) = true then 0 else 2) else 4
def chkm (p : Nat) (m : List (List Nat)) : Int := if isP p = true then frm p m else 2
theorem chkm_no {p : Nat} (h : isP p = false) (m : List (List Nat)) : chkm p m = 2 := by unfold chkm; rw [if_neg (by simp [h])]
theorem chkm_yes {p : Nat} (h : isP p = true) (m : List (List Nat)) : chkm p m = frm p m := by unfold chkm; rw [if_pos h]
theorem frm_size {p : Nat} {m : List (List Nat)} (h : m.length < 1 ∨ 64 < m.length ∨ (m.getD 0 []).length < 1 ∨ 64 < (m.getD 0 []).length) : frm p m = 3 := by unfold frm; rw [if_pos h]
theorem frm_form {p : Nat} {m : List (List Nat)} (h : ¬ (m.length < 1 ∨ 64 < m.length ∨ (m.getD 0 []).length < 1 ∨ 64 < (m.getD 0 []).length)) {i : Nat} (hi : i < m.length) (hne : (m.getD i []).length ≠ (m.getD 0 []).length) : frm p m = 4 := by
  unfold frm; rw [if_neg h, if_neg (fun h2 => hne (h2 i hi))]
theorem frm_out {p : Nat} {m : List (List Nat)} (h : ¬ (m.length < 1 ∨ 64 < m.length ∨ (m.getD 0 []).length < 1 ∨ 64 < (m.getD 0 []).length)) (hc : ∀ i, i < m.length → (m.getD i []).length = (m.getD 0 []).length) {i : Nat} (hi : i < m.length) (hne : within p (m.getD i []) = false) : frm p m = 2 := by
  unfold frm; rw [if_neg h, if_pos hc, if_neg (fun h2 => by have := h2 i hi; rw [hne] at this; cases this)]
theorem frm_ok {p : Nat} {m : List (List Nat)} (h : ¬ (m.length < 1 ∨ 64 < m.length ∨ (m.getD 0 []).length < 1 ∨ 64 < (m.getD 0 []).length)) (hc : ∀ i, i < m.length → (m.getD i []).length = (m.getD 0 []).length) (hw : ∀ i, i < m.length → within p (m.getD i []) = true) : frm p m = 0 := by
  unfold frm; rw [if_neg h, if_pos hc, if_pos hw]
theorem chkm_ok {p : Nat} {m : List (List Nat)} (h : chkm p m = 0) : Ok p m m.length (m.getD 0 []).length := by
  unfold chkm at h
  split at h
  case isFalse => cases h
  unfold frm at h
  split at h
  · cases h
  split at h
  case isFalse => cases h
  split at h
  case isFalse => cases h
  rename_i h1 h2 h3 h4
  exact ⟨h1, rfl, by omega, by omega, by omega, by omega, h3, h4⟩
theorem Ok.chk {p R K : Nat} {m : List (List Nat)} (h : Ok p m R K) : chkm p m = 0 := by
  have h0 : (m.getD 0 []).length = K := h.cols 0 (by have := h.R1; omega)
  have h1 := h.rows
  have h2 := h.R1
  have h3 := h.R64
  have h4 := h.K1
  have h5 := h.K64
  rw [chkm_yes h.isp]
  exact frm_ok (by rw [h0, h1]; omega) (fun i hi => by rw [h0]; exact h.cols i (by omega)) (fun i hi => h.lt i (by omega))
end M

/-- how a slice of slices lies -/
theorem mat_view {w : World} {v : Value} {m : List (List Nat)} (h : Mat w v m) : ∃ A cap, v = .slice A m.length cap ∧ m.length ≤ cap ∧ m.length ≤ 17592186043904 ∧
    (0 < m.length → ∃ b off, A = some ⟨b, off, none⟩ ∧ b < w.heap.size ∧ ∀ i, i < m.length → ∃ Au cu, w.cell? ⟨b, off + i, none⟩ = some (.slice Au (m.getD i []).length cu) ∧ Nums w (.slice Au (m.getD i []).length cu) (m.getD i [])) := by
  obtain ⟨h1, A, cap, h2, h3, h4⟩ := h
  refine ⟨A, cap, h2, h3, h1, fun h0 => ?_⟩
  obtain ⟨b, off, e, hb, hc⟩ := h4 h0
  refine ⟨b, off, e, hb, fun i hi => ?_⟩
  obtain ⟨u, hu, hn⟩ := hc i hi
  obtain ⟨Au, cu, rfl, _⟩ := nums_view hn
  exact ⟨Au, cu, hu, hn⟩

set_option maxHeartbeats 400000 in
theorem isSide_any (n : Nat) (w : World) {r : Bool} (hr : decide (1 ≤ n ∧ n ≤ 64) = r) :
    Calls Try.prog 86 #[.int .i64 n] w fun e w' => e = .returned (.bool r) ∧ w = w' := by
  have HR := Lib.hid hr
  clear hr
  by_cases h1 : 1 ≤ n
  · by_cases h2 : n ≤ 64
    · have hb1 : decide ((n : Int) ≥ 1) = true := by simp; omega
      have hb2 : decide ((n : Int) ≤ 64) = true := by simp; omega
      go_enter Try.func86, Try.ntmps86
      go_wp2_with fail
      go_ret
      exact ⟨ret_bool (by rw [← HR.out]; simp <;> omega), rfl⟩
    · have hb1 : decide ((n : Int) ≥ 1) = true := by simp; omega
      have hb2 : decide ((n : Int) ≤ 64) = false := by simp; omega
      go_enter Try.func86, Try.ntmps86
      go_wp2_with fail
      go_ret
      exact ⟨ret_bool (by rw [← HR.out]; simp <;> omega), rfl⟩
  · have hb1 : decide ((n : Int) ≥ 1) = false := by simp; omega
    have hud : ∀ b : Bool, undef ≠ Value.bool b := fun b h => by cases h
    go_enter Try.func86, Try.ntmps86
    go_wp2_with fail
    go_ret
    exact ⟨ret_bool (by rw [← HR.out]; simp <;> omega), rfl⟩

set_option maxHeartbeats 400000 in
theorem geq_any (x p b : Nat) (w : World) (hb : w.cell? ⟨b, 0, none⟩ = some (.int .u64 (p : Nat))) {r : Bool} (hr : decide (p ≤ x) = r) :
    Calls Try.prog 89 #[.int .u64 x, .pointer (some ⟨b, 0, none⟩)] w fun e w' => e = .returned (.bool r) ∧ w = w' := by
  have HR := Lib.hid hr
  clear hr
  go_enter Try.func89, Try.ntmps89
  go_wp2_with fail
  go_ret
  exact ⟨ret_bool (by rw [← HR.out, Bool.eq_iff_iff]), rfl⟩

set_option maxHeartbeats 1000000 in
theorem idxGe_any (p b : Nat) (v : Value) (zs : List Nat) (w : World) (hv : Nums w v zs) (hb : w.cell? ⟨b, 0, none⟩ = some (.int .u64 (p : Nat))) :
    Calls Try.prog 95 #[v, .func (.func 89) #[] #[.pointer (some ⟨b, 0, none⟩)]] w fun e w' => (∃ x : Int, e = .returned (.int .i64 x) ∧ decide (x ≥ 0) = !M.within p zs) ∧ w = w' := by
  obtain ⟨A, cap, rfl, hcap, hlen, hC⟩ := nums_view hv
  have HV := Lib.hid hC
  clear hv hC hcap
  go_enter Try.func95, Try.ntmps95
  go_wp2_with fail
  go_loop [8] (fun t => ∃ k : Nat, k ≤ zs.length ∧ t = .int .i64 k ∧ M.within p (zs.take k) = true) (fun t => zs.length - (intOf t).toNat)
  case atStart => exact ⟨0, by omega, rfl, by simp [M.within]⟩
  case round =>
    obtain ⟨k, hk, rfl, hw⟩ := hrel
    have HW := Lib.hid hw
    clear hw
    by_cases hlt : k < zs.length
    · obtain ⟨bb, off, rfl, hbb, hcell⟩ := HV.out (by omega)
      have hc := hcell k hlt
      obtain ⟨x, hx⟩ : ∃ x, x = zs.getD k 0 := ⟨_, rfl⟩
      rw [← hx] at hc
      have HX := Lib.hid hx
      clear hx hcell
      by_cases hpx : p ≤ x
      · have HG := Lib.hid (geq_any x p b w hb (r := true) (by simp [hpx]))
        go_wp2_with fail
        refine HG.out.mono ?_
        rintro e w' ⟨rfl, rfl⟩
        go_wp2_with fail
        go_ret
        exact ⟨⟨_, rfl, by rw [M.within_not hlt (by rw [← HX.out]; exact hpx)]; simp⟩, rfl⟩
      · have HG := Lib.hid (geq_any x p b w hb (r := false) (by simp; omega))
        have hxp : x < p := by omega
        go_wp2_with fail
        refine HG.out.mono ?_
        rintro e w' ⟨rfl, rfl⟩
        go_wp2_with fail
        go_round
        case rel => exact ⟨k + 1, by omega, by go_num, M.within_take hlt HW.out (by rw [← HX.out]; exact hxp)⟩
        case measure => simp [intOf]; omega
    · go_wp2_with fail
      go_ret
      have hk' : k = zs.length := by omega
      have h := HW.out
      rw [hk', List.take_length] at h
      exact ⟨⟨_, rfl, by rw [h]; rfl⟩, rfl⟩

set_option maxHeartbeats 400000 in
theorem anyGe_any (p b : Nat) (v : Value) (zs : List Nat) (w : World) (hv : Nums w v zs) (hb : w.cell? ⟨b, 0, none⟩ = some (.int .u64 (p : Nat))) :
    Calls Try.prog 88 #[v, .func (.func 89) #[] #[.pointer (some ⟨b, 0, none⟩)]] w fun e w' => e = .returned (.bool (!M.within p zs)) ∧ w = w' := by
  have HI := Lib.hid (idxGe_any p b v zs w hv hb)
  obtain ⟨A, cap, rfl⟩ := nums_slice' hv
  clear hv
  go_enter Try.func88, Try.ntmps88
  go_wp2_with fail
  refine HI.out.mono ?_
  rintro e w' ⟨⟨x, rfl, hx⟩, rfl⟩
  have HX := Lib.hid hx
  clear hx
  go_wp2_with fail
  go_ret
  exact ⟨ret_bool HX.out, rfl⟩

set_option maxHeartbeats 400000 in
theorem allBelow_any (p : Nat) (v : Value) (zs : List Nat) (w : World) (hv : Nums w v zs) :
    Calls Try.prog 76 #[.int .u64 p, v] w fun e w' => e = .returned (.bool (M.within p zs)) ∧ Below w.heap.size w w' := by
  have HA := Lib.hid (anyGe_any p w.heap.size v zs (w.alloc (.cells #[.int .u64 (p : Nat)] 22)) (hv.below (balloc w _)) (by simp))
  have HB := Lib.hid (balloc w (.cells #[.int .u64 (p : Nat)] 22))
  obtain ⟨A, cap, rfl⟩ := nums_slice' hv
  clear hv
  go_enter Try.func76, Try.ntmps76
  go_wp2_with fail
  refine HA.out.mono ?_
  rintro e w' ⟨rfl, rfl⟩
  go_wp2_with fail
  go_ret
  exact ⟨ret_bool (by simp), HB.out⟩
end Go.Proofs.Ytfgfapbhgehfiaa
namespace Go.Proofs.Ytfgfapbhgehfiaa
open Go.RowKit
set_option linter.unusedVariables false
set_option maxRecDepth 100000

set_option maxHeartbeats 1000000 in
theorem mcheck_any (p : Nat) (v : Value) (m : List (List Nat)) (w : World) (hp : p < 18446744073709551616) (hv : Mat w v m) :
    Calls Try.prog 75 #[.int .u64 p, v] w fun e w' => e = .returned (.int .i64 (M.chkm p m)) ∧ Below w.heap.size w w' := by
  obtain ⟨A, cap, rfl, hcap, hml, hrows⟩ := mat_view hv
  have HV := Lib.hid hrows
  have hud : ∀ b : Bool, undef ≠ Value.bool b := fun b h => by cases h
  clear hv hrows
  have hc := is_any p w hp
  cases hi : M.isP p with
  | false =>
    rw [hi] at hc
    have HC := Lib.hid hc
    have HI := Lib.hid hi
    clear hi hc hp
    go_enter Try.func75, Try.ntmps75
    go_wp2_with fail
    refine HC.out.mono ?_
    rintro e w' ⟨rfl, rfl⟩
    go_wp2_with fail
    go_ret
    exact ⟨ret1 (M.chkm_no HI.out m).symm, Below.refl _ _⟩
  | true =>
    rw [hi] at hc
    have HC := Lib.hid hc
    have HI := Lib.hid hi
    clear hi hc
    by_cases hR : 1 ≤ m.length ∧ m.length ≤ 64
    case neg =>
      have HS := Lib.hid (isSide_any m.length w (r := false) (by simpa using hR))
      have HR := Lib.hid hR
      clear hR
      go_enter Try.func75, Try.ntmps75
      go_wp2_with fail
      refine HC.out.mono ?_
      rintro e w' ⟨rfl, rfl⟩
      go_wp2_with fail
      refine HS.out.mono ?_
      rintro e w' ⟨rfl, rfl⟩
      go_wp2_with fail
      go_ret
      exact ⟨ret1 (by rw [M.chkm_yes HI.out, M.frm_size (by have := HR.out; omega)]), Below.refl _ _⟩
    obtain ⟨hR1, hR64⟩ := hR
    obtain ⟨b, off, rfl, hbl, hcells⟩ := HV.out (by omega)
    have HS := Lib.hid (isSide_any m.length w (r := true) (by simp; omega))
    obtain ⟨A0, k0, c0, _⟩ := hcells 0 (by omega)
    rw [Nat.add_zero] at c0
    have HCE := Lib.hid hcells
    obtain ⟨K, eK⟩ : ∃ K, K = (m.getD 0 []).length := ⟨_, rfl⟩
    rw [← eK] at c0
    have EK := Lib.hid eK
    clear hcells eK
    by_cases hK : 1 ≤ K ∧ K ≤ 64
    case neg =>
      have HS2 := Lib.hid (isSide_any K w (r := false) (by simpa using hK))
      have HK := Lib.hid hK
      clear hK
      go_enter Try.func75, Try.ntmps75
      go_wp2_with fail
      refine HC.out.mono ?_
      rintro e w' ⟨rfl, rfl⟩
      go_wp2_with fail
      refine HS.out.mono ?_
      rintro e w' ⟨rfl, rfl⟩
      go_wp2_with fail
      refine HS2.out.mono ?_
      rintro e w' ⟨rfl, rfl⟩
      go_wp2_with fail
      go_ret
      exact ⟨ret1 (by rw [M.chkm_yes HI.out, M.frm_size (by have := HK.out; rw [← EK.out]; omega)]), Below.refl _ _⟩
    obtain ⟨hK1, hK64⟩ := hK
    have HS2 := Lib.hid (isSide_any K w (r := true) (by simp; omega))
    have HSZ := Lib.hid (show ¬ (m.length < 1 ∨ 64 < m.length ∨ (m.getD 0 []).length < 1 ∨ 64 < (m.getD 0 []).length) by rw [← EK.out]; omega)
    go_enter Try.func75, Try.ntmps75
    go_wp2_with fail
    refine HC.out.mono ?_
    rintro e w' ⟨rfl, rfl⟩
    go_wp2_with fail
    refine HS.out.mono ?_
    rintro e w' ⟨rfl, rfl⟩
    go_wp2_with fail
    refine HS2.out.mono ?_
    rintro e w' ⟨rfl, rfl⟩
    go_wp2_with fail
    go_loop [26] (fun t => ∃ k : Nat, k ≤ m.length ∧ t = .int .i64 k ∧ ∀ i, i < k → (m.getD i []).length = K) (fun t => m.length - (intOf t).toNat)
    case atStart => exact ⟨0, by omega, rfl, fun i hi => absurd hi (by omega)⟩
    case round =>
      obtain ⟨k, hk, rfl, hz⟩ := hrel
      have HZ := Lib.hid hz
      clear hz
      by_cases hlt : k < m.length
      · obtain ⟨Au, cu, ck, _⟩ := HCE.out k hlt
        obtain ⟨L, eL⟩ : ∃ L, L = (m.getD k []).length := ⟨_, rfl⟩
        rw [← eL] at ck
        have EL := Lib.hid eL
        clear eL
        by_cases hLK : L = K
        · have hb1 : ((L : Int) != (K : Int)) = false := by simp [hLK]
          have HLK := Lib.hid hLK
          clear hLK
          go_wp2_with fail
          go_round
          case rel => exact ⟨k + 1, by omega, by go_num, fun i hi => by
            by_cases e : i = k
            · rw [e, ← EL.out]; exact HLK.out
            · exact HZ.out i (by omega)⟩
          case measure => simp [intOf]; omega
        · have hb1 : ((L : Int) != (K : Int)) = true := by simp; omega
          have HLK := Lib.hid hLK
          clear hLK
          go_wp2_with fail
          go_ret
          exact ⟨ret1 (by rw [M.chkm_yes HI.out, M.frm_form HSZ.out hlt (by rw [← EK.out, ← EL.out]; exact HLK.out)]), Below.refl _ _⟩
      · obtain rfl : k = m.length := by omega
        go_wp2_with fail
        go_loopw [40] (fun t wr => ∃ k : Nat, k ≤ m.length ∧ t = .int .i64 k ∧ (∀ i, i < k → M.within p (m.getD i []) = true) ∧ Below w.heap.size w wr) (fun t _ => m.length - (intOf t).toNat)
        case atStart => exact ⟨0, by omega, rfl, fun i hi => absurd hi (by omega), Below.refl _ _⟩
        case round =>
          obtain ⟨k, hk, rfl, hz, hB⟩ := hrel
          have HZ2 := Lib.hid hz
          have HB := Lib.hid hB
          clear hz hB
          by_cases hlt : k < m.length
          · obtain ⟨Au, cu, ck, hN⟩ := HCE.out k hlt
            obtain ⟨L, eL⟩ : ∃ L, (m.getD k []).length = L := ⟨_, rfl⟩
            rw [eL] at ck hN
            clear eL
            have ck2 := (HB.out.cell (p := ⟨b, off + k, none⟩) hbl).trans ck
            have HAB := Lib.hid (allBelow_any p _ _ wr (hN.below HB.out))
            clear ck hN
            cases hw : M.within p (m.getD k []) with
            | true =>
              rw [hw] at HAB
              have HWI := Lib.hid hw
              clear hw
              go_wp2_with fail
              refine HAB.out.mono ?_
              rintro e w2 ⟨rfl, hb2⟩
              have HB2 := Lib.hid (bnext HB.out hb2)
              clear hb2
              go_wp2_with fail
              go_roundw
              case rel => exact ⟨k + 1, by omega, by go_num, fun i hi => by
                by_cases e : i = k
                · rw [e]; exact HWI.out
                · exact HZ2.out i (by omega), HB2.out⟩
              case measure => simp [intOf]; omega
            | false =>
              rw [hw] at HAB
              have HWI := Lib.hid hw
              clear hw
              go_wp2_with fail
              refine HAB.out.mono ?_
              rintro e w2 ⟨rfl, hb2⟩
              have HB2 := Lib.hid (bnext HB.out hb2)
              clear hb2
              go_wp2_with fail
              go_ret
              exact ⟨ret1 (by rw [M.chkm_yes HI.out, M.frm_out HSZ.out (fun i hi => by rw [HZ.out i hi, EK.out]) hlt HWI.out]), HB2.out⟩
          · obtain rfl : k = m.length := by omega
            go_wp2_with fail
            go_ret
            exact ⟨ret1 (by rw [M.chkm_yes HI.out, M.frm_ok HSZ.out (fun i hi => by rw [HZ.out i hi, EK.out]) HZ2.out]), HB.out⟩

end Go.Proofs.Ytfgfapbhgehfiaa
