/-
  Check of package matrix; Form and Check of the reference.
-/
import Derived.Test.YtgoognipljknjaaMr9
namespace Go.Proofs.Ytgoognipljknjaa
open Go.RowKit
set_option linter.unusedVariables false
set_option maxRecDepth 100000

set_option maxHeartbeats 1000000 in
theorem mcheck_any (p : Nat) (v : Value) (m : List (List Nat)) (w : World) (hp : p < 18446744073709551616) (hv : Mat w v m) :
    Calls Try.prog 58 #[.int .u64 p, v] w fun e w' => e = .returned (.int .i64 (M.chkm p m)) ∧ Below w.heap.size w w' := by
  obtain ⟨A, cap, rfl, hcap, hml, hrows⟩ := mat_view hv
  have HV := Lib.hid hrows
  have hud : ∀ b : Bool, undef ≠ Value.bool b := fun b h => by cases h
  clear hv hrows
  have hc := is_any p w hp
  cases hi : M.isP p with
  | false =>
    rw [hi] at hc
    have HC := Lib.hid hc
    have HI := Lib.hid hi
    clear hi hc hp
    go_enter Try.func58, Try.ntmps58
    go_wp2_with fail
    refine HC.out.mono ?_
    rintro e w' ⟨rfl, rfl⟩
    go_wp2_with fail
    go_ret
    exact ⟨ret1 (M.chkm_no HI.out m).symm, Below.refl _ _⟩
  | true =>
    rw [hi] at hc
    have HC := Lib.hid hc
    have HI := Lib.hid hi
    clear hi hc
    by_cases hR : 1 ≤ m.length ∧ m.length ≤ 64
    case neg =>
      have HS := Lib.hid (isSide_any m.length w (r := false) (by simpa using hR))
      have HR := Lib.hid hR
      clear hR
      go_enter Try.func58, Try.ntmps58
      go_wp2_with fail
      refine HC.out.mono ?_
      rintro e w' ⟨rfl, rfl⟩
      go_wp2_with fail
      refine HS.out.mono ?_
      rintro e w' ⟨rfl, rfl⟩
      go_wp2_with fail
      go_ret
      exact ⟨ret1 (by rw [M.chkm_yes HI.out, M.frm_size (by have := HR.out; omega)]), Below.refl _ _⟩
    obtain ⟨hR1, hR64⟩ := hR
    obtain ⟨b, off, rfl, hbl, hcells⟩ := HV.out (by omega)
    have HS := Lib.hid (isSide_any m.length w (r := true) (by simp; omega))
    obtain ⟨A0, k0, c0, _⟩ := hcells 0 (by omega)
    rw [Nat.add_zero] at c0
    have HCE := Lib.hid hcells
    obtain ⟨K, eK⟩ : ∃ K, K = (m.getD 0 []).length := ⟨_, rfl⟩
    rw [← eK] at c0
    have EK := Lib.hid eK
    clear hcells eK
    by_cases hK : 1 ≤ K ∧ K ≤ 64
    case neg =>
      have HS2 := Lib.hid (isSide_any K w (r := false) (by simpa using hK))
      have HK := Lib.hid hK
      clear hK
      go_enter Try.func58, Try.ntmps58
      go_wp2_with fail
      refine HC.out.mono ?_
      rintro e w' ⟨rfl, rfl⟩
      go_wp2_with fail
      refine HS.out.mono ?_
      rintro e w' ⟨rfl, rfl⟩
      go_wp2_with fail
      refine HS2.out.mono ?_
      rintro e w' ⟨rfl, rfl⟩
      go_wp2_with fail
      go_ret
      exact ⟨ret1 (by rw [M.chkm_yes HI.out, M.frm_size (by have := HK.out; rw [← EK.out]; omega)]), Below.refl _ _⟩
    obtain ⟨hK1, hK64⟩ := hK
    have HS2 := Lib.hid (isSide_any K w (r := true) (by simp; omega))
    have HSZ := Lib.hid (show ¬ (m.length < 1 ∨ 64 < m.length ∨ (m.getD 0 []).length < 1 ∨ 64 < (m.getD 0 []).length) by rw [← EK.out]; omega)
    go_enter Try.func58, Try.ntmps58
    go_wp2_with fail
    refine HC.out.mono ?_
    rintro e w' ⟨rfl, rfl⟩
    go_wp2_with fail
    refine HS.out.mono ?_
    rintro e w' ⟨rfl, rfl⟩
    go_wp2_with fail
    refine HS2.out.mono ?_
    rintro e w' ⟨rfl, rfl⟩
    go_wp2_with fail
    go_loop [26] (fun t => ∃ k : Nat, k ≤ m.length ∧ t = .int .i64 k ∧ ∀ i, i < k → (m.getD i []).length = K) (fun t => m.length - (intOf t).toNat)
    case atStart => exact ⟨0, by omega, rfl, fun i hi => absurd hi (by omega)⟩
    case round =>
      obtain ⟨k, hk, rfl, hz⟩ := hrel
      have HZ := Lib.hid hz
      clear hz
      by_cases hlt : k < m.length
      · obtain ⟨Au, cu, ck, _⟩ := HCE.out k hlt
        obtain ⟨L, eL⟩ : ∃ L, L = (m.getD k []).length := ⟨_, rfl⟩
        rw [← eL] at ck
        have EL := Lib.hid eL
        clear eL
        by_cases hLK : L = K
        · have hb1 : ((L : Int) != (K : Int)) = false := by simp [hLK]
          have HLK := Lib.hid hLK
          clear hLK
          go_wp2_with fail
          go_round
          case rel => exact ⟨k + 1, by omega, by go_num, fun i hi => by
            by_cases e : i = k
            · rw [e, ← EL.out]; exact HLK.out
            · exact HZ.out i (by omega)⟩
          case measure => simp [intOf]; omega
        · have hb1 : ((L : Int) != (K : Int)) = true := by simp; omega
          have HLK := Lib.hid hLK
          clear hLK
          go_wp2_with fail
          go_ret
          exact ⟨ret1 (by rw [M.chkm_yes HI.out, M.frm_form HSZ.out hlt (by rw [← EK.out, ← EL.out]; exact HLK.out)]), Below.refl _ _⟩
      · obtain rfl : k = m.length := by omega
        go_wp2_with fail
        go_loopw [40] (fun t wr => ∃ k : Nat, k ≤ m.length ∧ t = .int .i64 k ∧ (∀ i, i < k → M.within p (m.getD i []) = true) ∧ Below w.heap.size w wr) (fun t _ => m.length - (intOf t).toNat)
        case atStart => exact ⟨0, by omega, rfl, fun i hi => absurd hi (by omega), Below.refl _ _⟩
        case round =>
          obtain ⟨k, hk, rfl, hz, hB⟩ := hrel
          have HZ2 := Lib.hid hz
          have HB := Lib.hid hB
          clear hz hB
          by_cases hlt : k < m.length
          · obtain ⟨Au, cu, ck, hN⟩ := HCE.out k hlt
            obtain ⟨L, eL⟩ : ∃ L, (m.getD k []).length = L := ⟨_, rfl⟩
            rw [eL] at ck hN
            clear eL
            have ck2 := (HB.out.cell (p := ⟨b, off + k, none⟩) hbl).trans ck
            have HAB := Lib.hid (allBelow_any p _ _ wr (hN.below HB.out))
            clear ck hN
            cases hw : M.within p (m.getD k []) with
            | true =>
              rw [hw] at HAB
              have HWI := Lib.hid hw
              clear hw
              go_wp2_with fail
              refine HAB.out.mono ?_
              rintro e w2 ⟨rfl, hb2⟩
              have HB2 := Lib.hid (bnext HB.out hb2)
              clear hb2
              go_wp2_with fail
              go_roundw
              case rel => exact ⟨k + 1, by omega, by go_num, fun i hi => by
                by_cases e : i = k
                · rw [e]; exact HWI.out
                · exact HZ2.out i (by omega), HB2.out⟩
              case measure => simp [intOf]; omega
            | false =>
              rw [hw] at HAB
              have HWI := Lib.hid hw
              clear hw
              go_wp2_with fail
              refine HAB.out.mono ?_
              rintro e w2 ⟨rfl, hb2⟩
              have HB2 := Lib.hid (bnext HB.out hb2)
              clear hb2
              go_wp2_with fail
              go_ret
              exact ⟨ret1 (by rw [M.chkm_yes HI.out, M.frm_out HSZ.out (fun i hi => by rw [HZ.out i hi, EK.out]) hlt HWI.out]), HB2.out⟩
          · obtain rfl : k = m.length := by omega
            go_wp2_with fail
            go_ret
            exact ⟨ret1 (by rw [M.chkm_yes HI.out, M.frm_ok HSZ.out (fun i hi => by rw [HZ.out i hi, EK.out]) HZ2.out]), HB.out⟩

set_option maxHeartbeats 1000000 in
theorem rform_any (p : Nat) (v : Value) (m : List (List Nat)) (w : World) (hv : Mat w v m) :
    Calls Try.prog 54 #[.int .u64 p, v] w fun e w' => e = .returned (.int .i64 (M.frm p m)) ∧ w = w' := by
  obtain ⟨A, cap, rfl, hcap, hml, hrows⟩ := mat_view hv
  have HV := Lib.hid hrows
  have hud : ∀ b : Bool, undef ≠ Value.bool b := fun b h => by cases h
  clear hv hrows
  by_cases hR : m.length < 1
  · have HR := Lib.hid hR
    have hb1 : decide ((m.length : Int) < 1) = true := by simp; omega
    clear hR
    go_enter Try.func54, Try.ntmps54
    go_wp2_with fail
    go_ret
    exact ⟨ret1 (by rw [M.frm_size (by have := HR.out; omega)]), rfl⟩
  have hb1 : decide ((m.length : Int) < 1) = false := by simp; omega
  by_cases hR2 : 64 < m.length
  · have HR := Lib.hid hR2
    have hb2 : decide ((64 : Int) < (m.length : Int)) = true := by simp; omega
    clear hR hR2
    go_enter Try.func54, Try.ntmps54
    go_wp2_with fail
    go_ret
    exact ⟨ret1 (by rw [M.frm_size (by have := HR.out; omega)]), rfl⟩
  have hb2 : decide ((64 : Int) < (m.length : Int)) = false := by simp; omega
  have hR1 : 1 ≤ m.length := by omega
  have hR64 : m.length ≤ 64 := by omega
  clear hR hR2
  obtain ⟨b, off, rfl, hbl, hcells⟩ := HV.out (by omega)
  obtain ⟨A0, k0, c0, _⟩ := hcells 0 (by omega)
  rw [Nat.add_zero] at c0
  have HCE := Lib.hid hcells
  obtain ⟨K, eK⟩ : ∃ K, K = (m.getD 0 []).length := ⟨_, rfl⟩
  rw [← eK] at c0
  have EK := Lib.hid eK
  clear hcells eK
  by_cases hK : K < 1
  · have HK := Lib.hid hK
    have hb3 : decide ((K : Int) < 1) = true := by simp; omega
    clear hK
    go_enter Try.func54, Try.ntmps54
    go_wp2_with fail
    go_ret
    exact ⟨ret1 (by rw [M.frm_size (by have := HK.out; rw [← EK.out]; omega)]), rfl⟩
  have hb3 : decide ((K : Int) < 1) = false := by simp; omega
  by_cases hK2 : 64 < K
  · have HK := Lib.hid hK2
    have hb4 : decide ((64 : Int) < (K : Int)) = true := by simp; omega
    clear hK hK2
    go_enter Try.func54, Try.ntmps54
    go_wp2_with fail
    go_ret
    exact ⟨ret1 (by rw [M.frm_size (by have := HK.out; rw [← EK.out]; omega)]), rfl⟩
  have hb4 : decide ((64 : Int) < (K : Int)) = false := by simp; omega
  have hK1 : 1 ≤ K := by omega
  have hK64 : K ≤ 64 := by omega
  clear hK hK2
  have HSZ := Lib.hid (show ¬ (m.length < 1 ∨ 64 < m.length ∨ (m.getD 0 []).length < 1 ∨ 64 < (m.getD 0 []).length) by rw [← EK.out]; omega)
  go_enter Try.func54, Try.ntmps54
  go_wp2_with fail
  go_loop [34] (fun t => ∃ k : Nat, k ≤ m.length ∧ t = .int .i64 k ∧ ∀ i, i < k → (m.getD i []).length = K) (fun t => m.length - (intOf t).toNat)
  case atStart => exact ⟨0, by omega, rfl, fun i hi => absurd hi (by omega)⟩
  case round =>
    obtain ⟨k, hk, rfl, hz⟩ := hrel
    have HZ := Lib.hid hz
    clear hz
    by_cases hlt : k < m.length
    · obtain ⟨Au, cu, ck, _⟩ := HCE.out k hlt
      obtain ⟨L, eL⟩ : ∃ L, L = (m.getD k []).length := ⟨_, rfl⟩
      rw [← eL] at ck
      have EL := Lib.hid eL
      clear eL
      by_cases hLK : L = K
      · have hb5 : ((L : Int) != (K : Int)) = false := by simp [hLK]
        have HLK := Lib.hid hLK
        clear hLK
        go_wp2_with fail
        go_round
        case rel => exact ⟨k + 1, by omega, by go_num, fun i hi => by
          by_cases e : i = k
          · rw [e, ← EL.out]; exact HLK.out
          · exact HZ.out i (by omega)⟩
        case measure => simp [intOf]; omega
      · have hb5 : ((L : Int) != (K : Int)) = true := by simp; omega
        have HLK := Lib.hid hLK
        clear hLK
        go_wp2_with fail
        go_ret
        exact ⟨ret1 (by rw [M.frm_form HSZ.out hlt (by rw [← EK.out, ← EL.out]; exact HLK.out)]), rfl⟩
    · obtain rfl : k = m.length := by omega
      go_wp2_with fail
      go_loop [48] (fun t => ∃ k : Nat, k ≤ m.length ∧ t = .int .i64 k ∧ (∀ i, i < k → M.within p (m.getD i []) = true)) (fun t => m.length - (intOf t).toNat)
      case atStart => exact ⟨0, by omega, rfl, fun i hi => absurd hi (by omega)⟩
      case round =>
        obtain ⟨k, hk, rfl, hz⟩ := hrel
        have HZ2 := Lib.hid hz
        clear hz
        by_cases hlt : k < m.length
        · obtain ⟨Au, cu, ck, hN⟩ := HCE.out k hlt
          obtain ⟨L, eL⟩ : ∃ L, (m.getD k []).length = L := ⟨_, rfl⟩
          rw [eL] at ck hN
          clear eL
          cases hw : M.within p (m.getD k []) with
          | true =>
            have HAB := Lib.hid (within_any p _ _ w hN (c := 0) (by rw [hw]; rfl))
            have HWI := Lib.hid hw
            clear hw hN
            go_wp2_with fail
            refine HAB.out.mono ?_
            rintro e w' ⟨rfl, rfl⟩
            go_wp2_with fail
            go_round
            case rel => exact ⟨k + 1, by omega, by go_num, fun i hi => by
              by_cases e : i = k
              · rw [e]; exact HWI.out
              · exact HZ2.out i (by omega)⟩
            case measure => simp [intOf]; omega
          | false =>
            have HAB := Lib.hid (within_any p _ _ w hN (c := 2) (by rw [hw]; rfl))
            have HWI := Lib.hid hw
            clear hw hN
            go_wp2_with fail
            refine HAB.out.mono ?_
            rintro e w' ⟨rfl, rfl⟩
            go_wp2_with fail
            go_ret
            exact ⟨ret1 (by rw [M.frm_out HSZ.out (fun i hi => by rw [HZ.out i hi, EK.out]) hlt HWI.out]), rfl⟩
        · obtain rfl : k = m.length := by omega
          go_wp2_with fail
          go_ret
          exact ⟨ret1 (by rw [M.frm_ok HSZ.out (fun i hi => by rw [HZ.out i hi, EK.out]) HZ2.out]), rfl⟩
end Go.Proofs.Ytgoognipljknjaa
