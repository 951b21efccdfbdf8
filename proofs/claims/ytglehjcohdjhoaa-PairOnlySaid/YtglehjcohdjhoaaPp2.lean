/-
  Package pair of the program: what is symmetric; Check.
-/
import Derived.Test.YtglehjcohdjhoaaPp1
namespace Go.Proofs.Ytglehjcohdjhoaa
open Go.RowKit
set_option linter.unusedVariables false
set_option maxRecDepth 100000

theorem M.symB_low {n : Nat} {m : List (List Nat)} (h : ∀ i, i < n → ∀ k, k < i → M.el m i k = M.el m k i) : M.symB n m = true := by
  rw [M.symB_iff]
  intro i k hi hk
  rcases Nat.lt_trichotomy i k with h1 | rfl | h1
  · exact (h k hk i h1).symm
  · rfl
  · exact h i hi k h1

set_option maxHeartbeats 1000000 in
theorem isSym_any (v : Value) (m : List (List Nat)) (w : World) (hv : Mat w v m) (hr : ∀ i, i < m.length → (m.getD i []).length = m.length) :
    Calls Try.prog 54 #[v] w fun e w' => e = .returned (.bool (M.symB m.length m)) ∧ Below w.heap.size w w' := by
  obtain ⟨A, cap, rfl, _⟩ := mat_view6 hv
  have HV := Lib.hid (mat_row hv).2
  have HR := Lib.hid hr
  clear hv hr
  go_enter Try.func54, Try.ntmps54
  go_wp2_with fail
  go_loopw [8] (fun t wr => ∃ i : Nat, i ≤ m.length ∧ t = .int .i64 i ∧ (∀ a, a < i → ∀ k, k < a → M.el m a k = M.el m k a) ∧ Below w.heap.size w wr) (fun t _ => m.length - (intOf t).toNat)
  case atStart => exact ⟨0, by omega, rfl, fun i hi => absurd hi (by omega), Below.refl _ _⟩
  case round =>
    obtain ⟨i, hi, rfl, hz, hB⟩ := hrel
    have HZ := Lib.hid hz
    have HB := Lib.hid hB
    clear hz hB
    by_cases hlt : i < m.length
    · obtain ⟨b, off, rfl, hbl, hcells⟩ := HV.out (by omega)
      have HC := Lib.hid hcells
      obtain ⟨Ai, ci, ck, _, hrow⟩ := hcells i hlt
      rw [HR.out i hlt] at ck hrow
      obtain ⟨g, o, rfl, hg, hgc⟩ := hrow (by omega)
      have ck1 := (HB.out.cell (p := ⟨b, off + i, none⟩) hbl).trans ck
      have HG := Lib.hid hgc
      clear ck hcells hgc hrow
      go_wp2_with fail
      go_loopw [14] (fun t wx => ∃ k : Nat, k ≤ i ∧ t = .int .i64 k ∧ (∀ j, j < k → M.el m i j = M.el m j i) ∧ Below w.heap.size w wx) (fun t _ => i - (intOf t).toNat)
      case atStart => exact ⟨0, by omega, rfl, fun j hj => absurd hj (by omega), HB.out⟩
      case round =>
        obtain ⟨k, hk, rfl, hz2, hB2⟩ := hrel
        have HZ2 := Lib.hid hz2
        have HB2 := Lib.hid hB2
        clear hz2 hB2 ck1 HB
        by_cases hki : k < i
        · obtain ⟨Ak, cck, ckk, _, hrowk⟩ := HC.out k (by omega)
          rw [HR.out k (by omega)] at ckk hrowk
          obtain ⟨gk, ok, rfl, hgk, hgck⟩ := hrowk (by omega)
          have d1 := (HB2.out.cell (p := ⟨b, off + k, none⟩) hbl).trans ckk
          have d2 := (HB2.out.cell (p := ⟨gk, ok + i, none⟩) hgk).trans (hgck i hlt)
          have d3 := (HB2.out.cell (p := ⟨g, o + k, none⟩) hg).trans (HG.out k (by omega))
          have hkm : k < m.length := by omega
          obtain ⟨x, ex⟩ : ∃ x, M.el m i k = x := ⟨_, rfl⟩
          obtain ⟨y, ey⟩ : ∃ y, M.el m k i = y := ⟨_, rfl⟩
          rw [ex] at d3
          rw [ey] at d2
          have EX := Lib.hid ex
          have EY := Lib.hid ey
          clear ckk hgck hrowk ex ey
          by_cases hxy : x = y
          · have hb1 : ((x : Int) != (y : Int)) = false := by simp [hxy]
            go_wp2_with fail
            go_region
            go_wp2_with fail
            go_roundw
            case rel => exact ⟨k + 1, by omega, by go_num, fun j hj => by
              rcases (show j < k ∨ j = k by omega) with h | rfl
              · exact HZ2.out j h
              · rw [EX.out, EY.out]; exact hxy, HB2.out.drew⟩
            case measure => simp [intOf]; omega
          · have hb1 : ((x : Int) != (y : Int)) = true := by rw [bne_iff_ne]; omega
            go_wp2_with fail
            go_region
            go_wp2_with fail
            go_ret
            exact ⟨ret_bool (by rw [M.symB_no hlt hkm (by rw [EX.out, EY.out]; exact hxy)]), HB2.out.drew⟩
        · obtain rfl : k = i := by omega
          go_wp2_with fail
          go_roundw
          case rel => exact ⟨k + 1, by omega, by go_num, fun a ha => by
            rcases (show a < k ∨ a = k by omega) with h | rfl
            · exact HZ.out a h
            · exact HZ2.out, HB2.out⟩
          case measure => simp [intOf]; omega
    · obtain rfl : i = m.length := by omega
      go_wp2_with fail
      go_ret
      exact ⟨ret_bool (by rw [M.symB_low HZ.out]), HB.out⟩

set_option maxHeartbeats 1000000 in
theorem pcheck_any (p : Nat) (t : Int) (v : Value) (m : List (List Nat)) (w : World) (hp : p < 18446744073709551616) (h1 : -9223372036854775808 ≤ t) (h2 : t ≤ 9223372036854775807) (hv : Mat w v m) :
    Calls Try.prog 15 #[.int .u64 p, .int .i64 t, v] w fun e w' => e = .returned (.int .i64 (M.pchk p t m)) ∧ Below w.heap.size w w' := by
  have hud : ∀ b : Bool, undef ≠ Value.bool b := fun b h => by cases h
  have hc := is_any p w hp
  have HV := Lib.hid hv
  obtain ⟨A, cap, rfl, _⟩ := mat_view6 hv
  cases hi : M.isP p with
  | false =>
    rw [hi] at hc
    have HC := Lib.hid hc
    have HE := Lib.hid (show M.pchk p t m = 2 by unfold M.pchk; rw [if_neg (by unfold M.bnd; rw [if_neg (by simp [hi])]; decide)])
    clear hi hc hv
    go_enter Try.func15, Try.ntmps15
    go_wp2_with fail
    refine HC.out.mono ?_
    rintro e w' ⟨rfl, rfl⟩
    go_wp2_with fail
    go_ret
    exact ⟨ret1 HE.out.symm, Below.refl _ _⟩
  | true =>
    rw [hi] at hc
    have HC := Lib.hid hc
    by_cases ht : 0 ≤ t ∧ t ≤ 3
    case neg =>
      have HT := Lib.hid fun w => isThr_any t w (r := false) (by simpa using ht)
      have HE := Lib.hid (show M.pchk p t m = 2 by unfold M.pchk; rw [if_neg (by unfold M.bnd; rw [if_pos (by simp [hi]), if_pos (by omega)]; decide)])
      clear hi hc hv ht
      go_enter Try.func15, Try.ntmps15
      go_wp2_with fail
      refine HC.out.mono ?_
      rintro e w' ⟨rfl, rfl⟩
      go_wp2_with fail
      refine (HT.out _).mono ?_
      rintro e w' ⟨rfl, rfl⟩
      go_wp2_with fail
      go_ret
      exact ⟨ret1 HE.out.symm, Below.refl _ _⟩
    have HT := Lib.hid fun w => isThr_any t w (r := true) (by simpa using ht)
    obtain ⟨T, rfl⟩ : ∃ T : Nat, t = T := ⟨t.toNat, by omega⟩
    have hT : T ≤ 3 := by omega
    have HE := Lib.hid (show M.pchk p T m = M.pform p (T + 1) m by unfold M.pchk; rw [if_pos (M.bnd_ok hi hT), Int.toNat_natCast])
    have hw1 : IntKind.i64.wrap ((T : Int) + 1) = ((T + 1 : Nat) : Int) := by rw [IntKind.wrap_i64]; omega
    obtain ⟨n, en⟩ : ∃ n, T + 1 = n := ⟨_, rfl⟩
    rw [en] at HE hw1
    have HSQ := Lib.hid (isSquare_any n _ m w hv)
    clear hi hc ht
    by_cases hl : m.length = n
    case neg =>
      have hsq : (m.length == n && m.all fun r => r.length == n) = false := by simp [hl]
      rw [hsq] at HSQ
      have HL := Lib.hid (M.pform_len (p := p) hl)
      clear hsq hl hv
      go_enter Try.func15, Try.ntmps15
      go_wp2_with fail
      refine HC.out.mono ?_
      rintro e w' ⟨rfl, rfl⟩
      go_wp2_with fail
      refine (HT.out _).mono ?_
      rintro e w' ⟨rfl, rfl⟩
      go_wp2_with fail
      refine HSQ.out.mono ?_
      rintro e w' ⟨rfl, hb⟩
      have B1 := Lib.hid hb
      clear hb
      go_wp2_with fail
      go_ret
      exact ⟨ret1 (by rw [HE.out, HL.out]), B1.out⟩
    by_cases hr : ∀ i, i < m.length → (m.getD i []).length = n
    case neg =>
      obtain ⟨i, hin, hir⟩ : ∃ i, i < m.length ∧ (m.getD i []).length ≠ n := by
        refine Classical.byContradiction fun h => hr fun i hi => Classical.byContradiction fun h2 => h ⟨i, hi, h2⟩
      have hsq : (m.length == n && m.all fun r => r.length == n) = false := by rw [M.all_rows_no hin (by simpa using hir)]; simp
      rw [hsq] at HSQ
      have HL := Lib.hid (M.pform_rows (p := p) hl hin hir)
      clear hsq hl hv hr hin hir
      go_enter Try.func15, Try.ntmps15
      go_wp2_with fail
      refine HC.out.mono ?_
      rintro e w' ⟨rfl, rfl⟩
      go_wp2_with fail
      refine (HT.out _).mono ?_
      rintro e w' ⟨rfl, rfl⟩
      go_wp2_with fail
      refine HSQ.out.mono ?_
      rintro e w' ⟨rfl, hb⟩
      have B1 := Lib.hid hb
      clear hb
      go_wp2_with fail
      go_ret
      exact ⟨ret1 (by rw [HE.out, HL.out]), B1.out⟩
    have hsq : (m.length == n && m.all fun r => r.length == n) = true := by rw [M.all_rows.2 fun i hi => by simpa using hr i hi]; simp [hl]
    rw [hsq] at HSQ
    have HSY := Lib.hid fun (w' : World) (b : Below w.heap.size w w') => isSym_any _ m w' (hv.below b) (by rw [hl]; intro i hi; exact hr i (by omega))
    have HRW := Lib.hid (mat_row hv).2
    have HL := Lib.hid hl
    have HR := Lib.hid hr
    clear hsq hl hr hv
    go_enter Try.func15, Try.ntmps15
    go_wp2_with fail
    refine HC.out.mono ?_
    rintro e w' ⟨rfl, rfl⟩
    go_wp2_with fail
    refine (HT.out _).mono ?_
    rintro e w' ⟨rfl, rfl⟩
    go_wp2_with fail
    refine HSQ.out.mono ?_
    rintro e w1 ⟨rfl, hb⟩
    have B1 := Lib.hid hb
    clear hb
    go_wp2_with fail
    go_loopw [24] (fun t wr => ∃ k : Nat, k ≤ m.length ∧ t = .int .i64 k ∧ (∀ i, i < k → M.within p (m.getD i []) = true) ∧ Below w.heap.size w wr) (fun t _ => m.length - (intOf t).toNat)
    case atStart => exact ⟨0, by omega, rfl, fun i hi => absurd hi (by omega), B1.out⟩
    case round =>
      obtain ⟨k, hk, rfl, hz, hB⟩ := hrel
      have HZ2 := Lib.hid hz
      have HB := Lib.hid hB
      clear hz hB
      by_cases hlt : k < m.length
      · obtain ⟨b, off, rfl, hbl, hcells⟩ := HRW.out (by omega)
        obtain ⟨Au, cu, ck, hN, _⟩ := hcells k hlt
        obtain ⟨L, eL⟩ : ∃ L, (m.getD k []).length = L := ⟨_, rfl⟩
        rw [eL] at ck hN
        clear eL hcells
        have ck2 := (HB.out.cell (p := ⟨b, off + k, none⟩) hbl).trans ck
        have HAB := Lib.hid (pbelow_any p _ _ wr (hN.below HB.out))
        clear ck hN
        cases hw : M.within p (m.getD k []) with
        | true =>
          rw [hw] at HAB
          have HWI := Lib.hid hw
          clear hw
          go_wp2_with fail
          refine HAB.out.mono ?_
          rintro e w2 ⟨rfl, hb2⟩
          have HB2 := Lib.hid (bnext HB.out hb2)
          clear hb2
          go_wp2_with fail
          go_roundw
          case rel => exact ⟨k + 1, by omega, by go_num, fun i hi => by
            by_cases e : i = k
            · rw [e]; exact HWI.out
            · exact HZ2.out i (by omega), HB2.out⟩
          case measure => simp [intOf]; omega
        | false =>
          rw [hw] at HAB
          have HWI := Lib.hid hw
          clear hw
          go_wp2_with fail
          refine HAB.out.mono ?_
          rintro e w2 ⟨rfl, hb2⟩
          have HB2 := Lib.hid (bnext HB.out hb2)
          clear hb2
          go_wp2_with fail
          go_ret
          exact ⟨ret1 (by rw [HE.out, M.pform_lt HL.out HR.out hlt HWI.out]), HB2.out⟩
      · obtain rfl : k = m.length := by omega
        have HS := Lib.hid (HSY.out _ HB.out)
        cases hs : M.symB m.length m with
        | true =>
          rw [hs] at HS
          have HE2 := Lib.hid (show M.pform p n m = 0 from M.pform_ok ⟨HL.out, fun i hi => HR.out i (by have := HL.out; omega), fun i hi => HZ2.out i (by have := HL.out; omega), by have := M.symB_iff.1 hs; rwa [HL.out] at this⟩)
          clear hs
          go_wp2_with fail
          refine HS.out.mono ?_
          rintro e w3 ⟨rfl, hb⟩
          have B3 := Lib.hid (bnext HB.out hb)
          clear hb
          go_wp2_with fail
          go_ret
          exact ⟨ret1 (by rw [HE.out, HE2.out]), B3.out⟩
        | false =>
          rw [hs] at HS
          have HE2 := Lib.hid (show M.pform p n m = 4 by
            have hs2 := hs
            rw [HL.out] at hs2
            unfold M.pform
            rw [if_neg (by simp [HL.out]), if_neg (by rw [M.all_rows.2 fun i hi => by simpa using HR.out i hi]; simp), if_neg (by rw [M.all_rows.2 HZ2.out]; simp), if_pos hs2])
          clear hs
          go_wp2_with fail
          refine HS.out.mono ?_
          rintro e w3 ⟨rfl, hb⟩
          have B3 := Lib.hid (bnext HB.out hb)
          clear hb
          go_wp2_with fail
          go_ret
          exact ⟨ret1 (by rw [HE.out, HE2.out]), B3.out⟩
end Go.Proofs.Ytglehjcohdjhoaa
