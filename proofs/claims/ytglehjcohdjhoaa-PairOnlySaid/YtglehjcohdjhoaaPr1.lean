/-
  The reference of package pair: Bounds, Size, form.
-/
import Derived.Test.YtglehjcohdjhoaaPr0
import Derived.BigQuiet
namespace Go.Proofs.Ytglehjcohdjhoaa
open Go.RowKit
set_option linter.unusedVariables false
set_option maxRecDepth 100000

namespace M
def bnd (p : Nat) (t : Int) : Int := if isP p = true then (if t < 0 ∨ 3 < t then 2 else 0) else 2
theorem bnd_zero {p : Nat} {t : Int} (h : bnd p t = 0) : ∃ T : Nat, t = T ∧ T ≤ 3 ∧ isP p = true := by
  unfold bnd at h
  split at h
  · rename_i hp
    split at h
    · cases h
    · exact ⟨t.toNat, by omega, by omega, hp⟩
  · cases h
theorem bnd_ok {p T : Nat} (hp : isP p = true) (hT : T ≤ 3) : bnd p T = 0 := by
  unfold bnd
  rw [if_pos hp, if_neg (by omega)]
theorem bnd_no {p : Nat} {t : Int} (h : bnd p t ≠ 0) : bnd p t = 2 := by
  unfold bnd at h ⊢
  split at h
  · split at h
    · rename_i h1 h2
      rw [if_pos h1, if_pos h2]
    · exact absurd rfl h
  · rename_i h1
    rw [if_neg h1]
/-- how many numbers are drawn -/
def psize (t : Int) : Int := if t < 0 ∨ 3 < t then 0 else (t + 1) * (t + 2) / 2 - 1
end M
theorem rbounds_any (p : Nat) (t : Int) (w : World) (hp : p < 18446744073709551616) (h1 : -9223372036854775808 ≤ t) (h2 : t ≤ 9223372036854775807) :
    Calls Try.prog 21 #[.int .u64 p, .int .i64 t] w fun e w' => e = .returned (.int .i64 (M.bnd p t)) ∧ w = w' := by
  have hud : ∀ b : Bool, undef ≠ Value.bool b := fun b h => by cases h
  have hi := refIs_any p w hp
  cases h : M.isP p with
  | false =>
    rw [h] at hi
    have HI := Lib.hid hi
    have HH := Lib.hid h
    clear hi h hp
    go_enter Try.func21, Try.ntmps21
    go_wp2_with fail
    refine HI.out.mono ?_
    rintro e w' ⟨rfl, rfl⟩
    go_wp2_with fail
    go_ret
    exact ⟨ret1 (by unfold M.bnd; rw [if_neg (by rw [HH.out]; simp)]), rfl⟩
  | true =>
    rw [h] at hi
    have HI := Lib.hid hi
    have HH := Lib.hid h
    clear hi h hp
    by_cases h0 : t < 0
    · go_enter Try.func21, Try.ntmps21
      go_wp2_with fail
      refine HI.out.mono ?_
      rintro e w' ⟨rfl, rfl⟩
      go_wp2_with fail
      go_ret
      exact ⟨ret1 (by unfold M.bnd; rw [if_pos HH.out, if_pos (.inl h0)]), rfl⟩
    · by_cases h3 : 3 < t
      · go_enter Try.func21, Try.ntmps21
        go_wp2_with fail
        refine HI.out.mono ?_
        rintro e w' ⟨rfl, rfl⟩
        go_wp2_with fail
        go_ret
        exact ⟨ret1 (by unfold M.bnd; rw [if_pos HH.out, if_pos (.inr h3)]), rfl⟩
      · go_enter Try.func21, Try.ntmps21
        go_wp2_with fail
        refine HI.out.mono ?_
        rintro e w' ⟨rfl, rfl⟩
        go_wp2_with fail
        go_ret
        exact ⟨ret1 (by unfold M.bnd; rw [if_pos HH.out, if_neg (by omega)]), rfl⟩
theorem rsize_any (t : Int) (w : World) (h1 : -9223372036854775808 ≤ t) (h2 : t ≤ 9223372036854775807) :
    Calls Try.prog 18 #[.int .i64 t] w fun e w' => e = .returned (.int .i64 (M.psize t)) ∧ w = w' := by
  have hud : ∀ b : Bool, undef ≠ Value.bool b := fun b h => by cases h
  by_cases h : t < 0
  · go_enter Try.func18, Try.ntmps18
    go_wp2
    go_ret
    exact ⟨ret1 (by unfold M.psize; rw [if_pos (.inl h)]), rfl⟩
  · by_cases h3 : 3 < t
    · go_enter Try.func18, Try.ntmps18
      go_wp2
      go_ret
      exact ⟨ret1 (by unfold M.psize; rw [if_pos (.inr h3)]), rfl⟩
    · obtain ⟨T, rfl⟩ := Int.eq_ofNat_of_zero_le (Int.not_lt.1 h)
      have hT : T ≤ 3 := by omega
      rcases (by omega : T = 0 ∨ T = 1 ∨ T = 2 ∨ T = 3) with rfl | rfl | rfl | rfl
      all_goals
        go_enter Try.func18, Try.ntmps18
        go_wp2
        go_ret
        exact ⟨rfl, rfl⟩

set_option maxHeartbeats 4000000 in
theorem rform6_any (p T : Nat) (v : Value) (m : List (List Nat)) (w : World) (hT : T ≤ 3) (hv : Mat w v m) :
    Calls Try.prog 55 #[.int .u64 p, .int .i64 T, v] w fun e w' => e = .returned (.int .i64 (M.pform p (T + 1) m)) ∧ Below w.heap.size w w' := by
  have hud : ∀ b : Bool, undef ≠ Value.bool b := fun b h => by cases h
  obtain ⟨A, cap, rfl, _⟩ := mat_view6 hv
  have HM := Lib.hid (mat_row hv).2
  have hml := hv.1
  have hw1 : IntKind.i64.wrap ((T : Int) + 1) = (T : Int) + 1 := by rw [IntKind.wrap_i64]; omega
  clear hv
  by_cases hR : m.length = T + 1
  case neg =>
    have hb : ((m.length : Int) != (T : Int) + 1) = true := by rw [bne_iff_ne]; omega
    have HR := Lib.hid hR
    clear hR
    go_enter Try.func55, Try.ntmps55
    go_wp2_with fail
    go_ret
    exact ⟨ret1 (M.pform_len HR.out).symm, Below.refl _ _⟩
  have hb : ((m.length : Int) != (T : Int) + 1) = false := by rw [bne_eq_false_iff_eq]; omega
  have HR := Lib.hid hR
  obtain ⟨n, en⟩ : ∃ n, n = T + 1 := ⟨_, rfl⟩
  have hn4 : n ≤ 4 := by omega
  have hn0 : 0 < n := by omega
  have hnT : (n : Int) = (T : Int) + 1 := by omega
  obtain ⟨b, off, rfl, hbl, hcells⟩ := HM.out (by omega)
  have HC := Lib.hid hcells
  rw [← en] at HR ⊢
  have HNT := Lib.hid hnT
  clear hcells HM hR en hnT
  go_enter Try.func55, Try.ntmps55
  go_wp2_with fail
  go_loop [21] (fun t => ∃ k : Nat, k ≤ m.length ∧ t = .int .i64 k ∧ ∀ i, i < k → (m.getD i []).length = n) (fun t => m.length - (intOf t).toNat)
  case atStart => exact ⟨0, by omega, rfl, fun i hi => absurd hi (by omega)⟩
  case round =>
    obtain ⟨k, hk, rfl, hz⟩ := hrel
    have HZ := Lib.hid hz
    clear hz
    by_cases hlt : k < m.length
    · obtain ⟨Au, cu, ck, _⟩ := HC.out k hlt
      obtain ⟨L, eL⟩ : ∃ L, L = (m.getD k []).length := ⟨_, rfl⟩
      rw [← eL] at ck
      have EL := Lib.hid eL
      clear eL
      by_cases hLK : L = n
      · have hb5 : ((L : Int) != (T : Int) + 1) = false := by rw [bne_eq_false_iff_eq, hLK]; exact HNT.out
        have HLK := Lib.hid hLK
        clear hLK
        go_wp2_with fail
        go_round
        case rel => exact ⟨k + 1, by omega, by go_num, fun i hi => by
          by_cases e : i = k
          · rw [e, ← EL.out]; exact HLK.out
          · exact HZ.out i (by omega)⟩
        case measure => simp [intOf]; omega
      · have hb5 : ((L : Int) != (T : Int) + 1) = true := by rw [bne_iff_ne, ← HNT.out]; omega
        have HLK := Lib.hid hLK
        clear hLK
        go_wp2_with fail
        go_ret
        exact ⟨ret1 (M.pform_rows HR.out hlt (by rw [← EL.out]; exact HLK.out)).symm, Below.refl _ _⟩
    · obtain rfl : k = m.length := by omega
      go_wp2_with fail
      have HALL := Lib.hid HZ.out
      clear HZ
      go_loop [33] (fun t => ∃ k : Nat, k ≤ m.length ∧ t = .int .i64 k ∧ ∀ i, i < k → M.within p (m.getD i []) = true) (fun t => m.length - (intOf t).toNat)
      case atStart => exact ⟨0, by omega, rfl, fun i hi => absurd hi (by omega)⟩
      case round =>
        obtain ⟨k, hk, rfl, hz⟩ := hrel
        have HZ := Lib.hid hz
        clear hz
        by_cases hlt : k < m.length
        · obtain ⟨Au, cu, ck, hnk, _⟩ := HC.out k hlt
          have hwi := fun c hc => within_any p _ (m.getD k []) w hnk (c := c) hc
          obtain ⟨L, eL⟩ : ∃ L, L = (m.getD k []).length := ⟨_, rfl⟩
          rw [← eL] at ck hwi
          cases hw : M.within p (m.getD k []) with
          | false =>
            have HW := Lib.hid (hwi 2 (by rw [hw]; rfl))
            have HWF := Lib.hid hw
            clear hwi hnk hw eL
            go_wp2_with fail
            refine HW.out.mono ?_
            rintro e w' ⟨rfl, rfl⟩
            go_wp2_with fail
            go_ret
            exact ⟨ret1 (M.pform_lt HR.out HALL.out hlt HWF.out).symm, Below.refl _ _⟩
          | true =>
            have HW := Lib.hid (hwi 0 (by rw [hw]; rfl))
            have HWF := Lib.hid hw
            clear hwi hnk hw eL
            go_wp2_with fail
            refine HW.out.mono ?_
            rintro e w' ⟨rfl, rfl⟩
            go_wp2_with fail
            go_round
            case rel => exact ⟨k + 1, by omega, by go_num, fun i hi => by
              by_cases e : i = k
              · rw [e]; exact HWF.out
              · exact HZ.out i (by omega)⟩
            case measure => simp [intOf]; omega
        · obtain rfl : k = m.length := by omega
          have HALW := Lib.hid HZ.out
          clear HZ
          go_wp2_with fail
          go_loopw [46] (fun t wr => ∃ k : Nat, k ≤ m.length ∧ t = .int .i64 k ∧ (∀ i, i < k → ∀ j, j < n → M.el m i j = M.el m j i) ∧ Below w.heap.size w wr) (fun t _ => m.length - (intOf t).toNat)
          case atStart => exact ⟨0, by omega, rfl, fun i hi => absurd hi (by omega), Below.refl _ _⟩
          case round =>
            obtain ⟨k, hk, rfl, hz, hB⟩ := hrel
            have HZ := Lib.hid hz
            have HB := Lib.hid hB
            clear hz hB
            by_cases hlt : k < m.length
            · obtain ⟨A1, u1, ck, _, hr1⟩ := HC.out k hlt
              rw [HALL.out k hlt] at ck hr1
              obtain ⟨g1, o1, rfl, hg1, hc1⟩ := hr1 (by omega)
              have HC1 := Lib.hid hc1
              have CK := Lib.hid ck
              have HG1 := Lib.hid hg1
              obtain ⟨wo, hwo⟩ : ∃ x, x = wr := ⟨_, rfl⟩
              rw [← hwo] at HB ⊢
              clear hr1 hc1 ck hg1 hwo
              go_wp2_with fail
              go_loopw [51] (fun t wx => ∃ j : Nat, j ≤ m.length ∧ t = .int .i64 j ∧ (∀ i, i < j → M.el m k i = M.el m i k) ∧ Below w.heap.size w wx) (fun t _ => m.length - (intOf t).toNat)
              case atStart => exact ⟨0, by omega, rfl, fun i hi => absurd hi (by omega), HB.out⟩
              case round =>
                obtain ⟨j, hj, rfl, hy, hBX⟩ := hrel
                have HY := Lib.hid hy
                have HBX := Lib.hid hBX
                clear hy hBX
                by_cases hlj : j < m.length
                · obtain ⟨A2, u2, cj0, _, hr2⟩ := HC.out j hlj
                  rw [HALL.out j hlj] at cj0 hr2
                  obtain ⟨g2, o2, rfl, hg2, hc2⟩ := hr2 (by omega)
                  have ck := (HBX.out.cell (p := ⟨b, off + k, none⟩) hbl).trans CK.out
                  have cj := (HBX.out.cell (p := ⟨b, off + j, none⟩) hbl).trans cj0
                  have e1 := (HBX.out.cell (p := ⟨g1, o1 + j, none⟩) HG1.out).trans (HC1.out j (by rw [← HR.out]; exact hlj))
                  have e2 := (HBX.out.cell (p := ⟨g2, o2 + k, none⟩) hg2).trans (hc2 k (by rw [← HR.out]; exact hlt))
                  obtain ⟨a, ea⟩ : ∃ a, a = M.el m k j := ⟨_, rfl⟩
                  obtain ⟨c, ec⟩ : ∃ c, c = M.el m j k := ⟨_, rfl⟩
                  rw [← ea] at e1
                  rw [← ec] at e2
                  have EA := Lib.hid ea
                  have EC := Lib.hid ec
                  have hjn : j < n := by rw [← HR.out]; exact hlj
                  have hkn : k < n := by rw [← HR.out]; exact hlt
                  clear hr2 hc2 ea ec cj0
                  by_cases hac : a = c
                  · have hb6 : ((a : Int) != (c : Int)) = false := by rw [hac]; simp
                    have HAC := Lib.hid hac
                    clear hac
                    go_wp2_with fail
                    go_quiet (fail)
                    go_wp2_with fail
                    go_roundw
                    case rel => exact ⟨j + 1, by omega, by go_num, fun i hi => by
                      by_cases e : i = j
                      · rw [e, ← EA.out, ← EC.out]; exact HAC.out
                      · exact HY.out i (by omega), below_drewN HBX.out _⟩
                    case measure => simp [intOf]; omega
                  · have hb6 : ((a : Int) != (c : Int)) = true := by rw [bne_iff_ne]; intro e; exact hac (Int.ofNat.inj e)
                    have HAC := Lib.hid hac
                    clear hac
                    go_wp2_with fail
                    go_quiet (fail)
                    go_wp2_with fail
                    go_ret
                    exact ⟨ret1 (M.pform_sym HR.out HALL.out HALW.out hkn hjn (by rw [← EA.out, ← EC.out]; exact HAC.out)).symm, below_drewN HBX.out _⟩
                · obtain rfl : j = m.length := by omega
                  have HY2 := Lib.hid HY.out
                  clear HY
                  go_wp2_with fail
                  go_roundw
                  case rel => exact ⟨k + 1, by omega, by go_num, fun i hi j hj => by
                    by_cases e : i = k
                    · rw [e]; exact HY2.out j (by rw [HR.out]; exact hj)
                    · exact HZ.out i (by omega) j hj, HBX.out⟩
                  case measure => simp [intOf]; omega
            · obtain rfl : k = m.length := by omega
              go_wp2_with fail
              go_ret
              exact ⟨ret1 (M.pform_ok ⟨HR.out, fun i hi => HALL.out i (by rw [HR.out]; exact hi), fun i hi => HALW.out i (by rw [HR.out]; exact hi), fun i k hi hk => HZ.out i (by rw [HR.out]; exact hi) k hk⟩).symm, HB.out⟩
end Go.Proofs.Ytglehjcohdjhoaa
