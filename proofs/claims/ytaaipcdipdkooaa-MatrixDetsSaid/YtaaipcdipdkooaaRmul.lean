/-
  The reference's Mul.
-/
import Derived.Test.YtaaipcdipdkooaaMr18
namespace Go.Proofs.Ytaaipcdipdkooaa
open Go.RowKit
set_option linter.unusedVariables false

/-- a row of the call's own that is not empty, as a row known whole -/
theorem row_own {w : World} {base n : Nat} {v : Value} {F : Nat → Nat} (h : w.ownsRow base 22 1 v n (vals (M.tabM n F))) (hn : 0 < n) : ∃ g c, v = .slice (some ⟨g, 0, none⟩) n c ∧ base ≤ g ∧ n ≤ c ∧ Row w g n F := by
  obtain ⟨g, c, rfl, hg, _⟩ := h.form hn
  obtain ⟨_, h2, _, h4⟩ := row_of_owns (zs := M.tabM n F) h
  exact ⟨g, c, rfl, hg, h2, h4.congr fun j hj => M.tabM_at F hj⟩
theorem tabM_succ (n : Nat) (F : Nat → Nat) : M.tabM (n + 1) F = M.tabM n F ++ [F n] := by simp [M.tabM, List.range_succ]

set_option maxHeartbeats 2000000 in
theorem rmul_any (p R n K : Nat) (v v2 : Value) (a b : List (List Nat)) (w : World) (hv : Mat w v a) (hv2 : Mat w v2 b) (hok : M.Ok p a R n) (hok2 : M.Ok p b n K) :
    Calls Try.prog 19 #[.int .u64 p, v, v2] w fun e w' => ∃ v', e = .returned v' ∧ Mat w' v' (M.mul p a b R n K) ∧ Below w.heap.size w w' := by
  obtain ⟨h3, hp⟩ := M.pos_of hok.isp
  have HCOL := Lib.hid fun W j (hj : j < K) (hW : Mat W v2 b) => column_any p n K j v2 b W hok2 hj hW
  have HV2 := Lib.hid hv2
  have HOK := Lib.hid hok
  have HOK2 := Lib.hid hok2
  have hR64 := hok.R64
  have hR1 := hok.R1
  have hn1 := hok2.R1
  have hn64 := hok2.R64
  have hK64 := hok2.K64
  have hK1 := hok2.K1
  obtain ⟨A, cap, rfl, _, _, hrows⟩ := mat_view hv
  obtain ⟨A2, cap2, rfl, _, _, hrows2⟩ := mat_view hv2
  rw [hok.rows] at hrows ⊢
  rw [hok2.rows] at hrows2 HCOL HV2 ⊢
  obtain ⟨bm, om, rfl, hbm, hcells⟩ := hrows (by omega)
  obtain ⟨b2, o2, rfl, hb2, hcells2⟩ := hrows2 (by omega)
  have HCE := Lib.hid hcells
  obtain ⟨A0, k0, cm, _⟩ := hcells2 0 (by omega)
  rw [Nat.add_zero, hok2.cols 0 (by omega)] at cm
  have CM := Lib.hid cm
  clear hv hv2 hok hok2 hrows hrows2 hcells hcells2 cm
  go_enter Try.func19, Try.ntmps19
  go_wp2_with fail
  go_loopw [14, 7] (fun ti tv wr => ∃ k : Nat, k ≤ R ∧ ti = .int .i64 k ∧ (∃ G Cp, MatA wr w.heap.size tv k K G Cp (M.mulF p a b n)) ∧ Below w.heap.size w wr) (fun ti _ _ => R - (intOf ti).toNat)
  case atStart => exact ⟨0, by omega, rfl, ⟨_, _, MatA.start _ _ _ _⟩, Below.refl _ _⟩
  case round =>
    obtain ⟨k, hk, rfl, ⟨G, Cp, hA⟩, hB⟩ := hrel
    have HA := Lib.hid hA
    have HB := Lib.hid hB
    clear hA hB
    by_cases hlt : k < R
    · obtain ⟨Au, cu, ck, hN⟩ := HCE.out k hlt
      rw [HOK.out.cols k hlt] at ck hN
      have ck2 := (HB.out.cell (p := ⟨bm, om + k, none⟩) hbm).trans ck
      have cm2 := (HB.out.cell (p := ⟨b2, o2, none⟩) hb2).trans CM.out
      obtain ⟨wo, ewo⟩ : ∃ wo : World, wo = wr := ⟨_, rfl⟩
      obtain ⟨Ao, co, hform⟩ := HA.out.form
      have HN := Lib.hid hN
      rw [← ewo] at HA HB ck2 cm2 ⊢
      clear ck hN ewo
      subst hform
      go_wp2_with fail
      clear ck2 cm2
      go_loopw [22, 10] (fun tj tl wr => ∃ j : Nat, j ≤ K ∧ tj = .int .i64 j ∧ wr.ownsRow wo.heap.size 22 1 tl j (vals (M.tabM j (M.mulF p a b n k))) ∧ Below wo.heap.size wo wr) (fun tj _ _ => K - (intOf tj).toNat)
      case atStart => exact ⟨0, by omega, rfl, World.ownsRow_nil _ _ _ _, Below.refl _ _⟩
      case round =>
        obtain ⟨j, hj, rfl, hown, hB2⟩ := hrel
        have HO := Lib.hid hown
        have HB2 := Lib.hid hB2
        clear hown hB2
        by_cases hltj : j < K
        · have HBw := Lib.hid (bnext HB.out HB2.out)
          have hcl := Lib.hid (HCOL.out wr j hltj (HV2.out.below HBw.out))
          go_wp2_with fail
          refine hcl.out.mono ?_
          rintro e w1 ⟨vc, rfl, hnc, hbc⟩
          have hd := rdot_any p _ vc (a.getD k []) (M.col b j n) w1 HOK.out.isp (HOK.out.lt k hlt) (by unfold M.col; exact M.within_tabM fun i hi => HOK2.out.el_lt hi hltj) (by rw [HOK.out.cols k hlt, M.col_len]) (by rw [HOK.out.cols k hlt]; omega) ((HN.out.below HBw.out).below hbc) hnc
          rw [HOK.out.cols k hlt] at hd
          have ex : M.dotK (a.getD k []) (M.col b j n) n % p = M.mulF p a b n k j := rfl
          rw [ex] at hd
          have hsn := tabM_succ j (M.mulF p a b n k)
          obtain ⟨x, exx⟩ : ∃ x, M.mulF p a b n k j = x := ⟨_, rfl⟩
          rw [exx] at hd hsn
          obtain ⟨Ac, cc, rfl⟩ := nums_slice' hnc
          rw [M.col_len] at hd ⊢
          have HD := Lib.hid hd
          have HSN := Lib.hid hsn
          have HO1 := Lib.hid (own_keep HO.out hbc)
          have HB3 := Lib.hid (bnext HB2.out hbc)
          clear hnc hbc hd ex exx hsn
          go_wp2_with fail
          refine HD.out.mono ?_
          rintro e w2 ⟨rfl, hb⟩
          have HO2 := Lib.hid (own_keep HO1.out hb)
          have HB4 := Lib.hid (bnext HB3.out hb)
          have hbs := HB4.out.size
          clear hb
          go_wp2_with (at_builtin; refine wpList_append_num (y := x) rfl _ _ rfl rfl rfl HO2.out (by omega) hbs ?_)
          intro v' w4 hown' hb4
          have HB5 := Lib.hid (HB4.out.trans hb4)
          rw [← HSN.out] at hown'
          have HOW := Lib.hid hown'
          clear hown' hb4
          go_wp2_with fail
          go_roundw
          case rel => exact ⟨j + 1, by omega, by go_num, HOW.out, HB5.out⟩
          case measure => simp [intOf]; omega
        · obtain rfl : K = j := by omega
          obtain ⟨g, c, rfl, hg, hc, hr⟩ := row_own HO.out (by omega)
          have HA2 := Lib.hid (HA.out.below HB2.out (Nat.le_refl _))
          have hbs := HB.out.size
          have HR := Lib.hid hr
          have HNE := Lib.hid (show ∀ i, i < k → G i ≠ g from fun i hi => by have := (HA.out.row i hi).lt; omega)
          have HBw := Lib.hid (bnext HB.out HB2.out)
          clear hr
          go_wp2_with (at_builtin; refine wpList_append_row rfl _ _ rfl rfl rfl HA2.out HR.out (by omega) hc HNE.out (by omega) HBw.out.size ?_)
          intro v' w4 hA' hb4
          have HA4 := Lib.hid hA'
          have HB4 := Lib.hid (HBw.out.trans hb4)
          clear hA' hb4
          go_wp2_with fail
          go_roundw
          case rel => exact ⟨k + 1, by omega, by go_num, ⟨_, _, HA4.out⟩, HB4.out⟩
          case measure => simp [intOf]; omega
    · obtain rfl : R = k := by omega
      go_wp2_with fail
      go_ret
      exact ⟨_, rfl, HA.out.mat (by omega) (by omega) (fun i hi j hj => by have := M.mulF_lt (p := p) (by omega) a b n i j; omega), HB.out⟩
end Go.Proofs.Ytaaipcdipdkooaa
