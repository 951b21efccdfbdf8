/-
  The reference's beside: each row with another row behind it.
-/
import Derived.Test.YtaaipcdipdkooaaStep3
namespace Go.Proofs.Ytaaipcdipdkooaa
open Go.RowKit
set_option linter.unusedVariables false

set_option maxHeartbeats 4000000 in
set_option maxRecDepth 100000 in
theorem rbeside_any (p R K E : Nat) (va vb : Value) (m mb : List (List Nat)) (ap : Nat → List Nat) (w : World) (hp : p ≤ 65537) (hR : R ≤ 64) (hK : K ≤ 64) (hK1 : 1 ≤ K) (hE : E ≤ 64) (hm : m.length = R) (hmb : mb.length = R) (hc : ∀ i, i < R → (m.getD i []).length = K) (hap : ∀ i, i < R → mb.getD i [] = ap i) (hcb : ∀ i, i < R → (ap i).length = E)
    (hlt : ∀ i, i < R → ∀ j, j < K + E → M.besF m ap i j < p) (hva : Mat w va m) (hvb : Mat w vb mb) :
    Calls Try.prog 63 #[va, vb] w fun e w' => ∃ v', e = .returned v' ∧ Mat w' v' (M.tabMM R (K + E) (M.besF m ap)) ∧ Below w.heap.size w w' := by
  obtain ⟨A, cap, rfl, _, _, hrows⟩ := mat_view hva
  obtain ⟨A2, cap2, rfl, hcap2, _, hrows2⟩ := mat_view hvb
  rw [hm] at hrows ⊢
  rw [hmb] at hrows2 hcap2 ⊢
  have HRW := Lib.hid hrows
  have HRW2 := Lib.hid hrows2
  have HC := Lib.hid hc
  have HAP := Lib.hid hap
  have HCB := Lib.hid hcb
  have HLT := Lib.hid hlt
  clear hrows hrows2 hva hvb hm hmb hc hap hcb hlt
  go_enter Try.func63, Try.ntmps63
  go_wp2_with fail
  go_loopw [10, 5] (fun ti tv wr => ∃ k : Nat, k ≤ R ∧ ti = .int .i64 k ∧ (∃ G Cp, MatA wr w.heap.size tv k (K + E) G Cp (M.besF m ap)) ∧ Below w.heap.size w wr) (fun ti _ _ => R - (intOf ti).toNat)
  case atStart => exact ⟨0, by omega, rfl, ⟨_, _, MatA.start _ _ _ _⟩, Below.refl _ _⟩
  case round =>
    obtain ⟨k, hk, rfl, ⟨G, Cp, hA⟩, hB⟩ := hrel
    have HA := Lib.hid hA
    have HB := Lib.hid hB
    obtain ⟨Ao, co, hform⟩ := hA.form
    subst hform
    clear hA hB
    by_cases hlt : k < R
    · obtain ⟨b, off, rfl, hbl, hcells⟩ := HRW.out (by omega)
      obtain ⟨Au, cu, ck, hN⟩ := hcells k hlt
      obtain ⟨b2, off2, rfl, hbl2, hcells2⟩ := HRW2.out (by omega)
      obtain ⟨Av, cv, ck2, hN2⟩ := hcells2 k hlt
      rw [HC.out k hlt] at ck hN
      rw [HAP.out k hlt] at ck2 hN2
      rw [HCB.out k hlt] at ck2 hN2
      have d1 := (HB.out.cell (p := ⟨b, off + k, none⟩) hbl).trans ck
      have d2 := (HB.out.cell (p := ⟨b2, off2 + k, none⟩) hbl2).trans ck2
      obtain ⟨zs, ezs⟩ : ∃ zs, m.getD k [] = zs := ⟨_, rfl⟩
      obtain ⟨ys, eys⟩ : ∃ ys, ap k = ys := ⟨_, rfl⟩
      have hzl : zs.length = K := by rw [← ezs]; exact HC.out k hlt
      have hyl : ys.length = E := by rw [← eys]; exact HCB.out k hlt
      rw [ezs] at hN
      rw [eys] at hN2
      have HZL := Lib.hid hzl
      have HYL := Lib.hid hyl
      have EZ := Lib.hid ezs
      have EY := Lib.hid eys
      have HN := Lib.hid ((hN.below HB.out).below (balloc wr (.cells #[] 22)))
      have HN2 := Lib.hid (hN2.below HB.out)
      have hwr := HB.out.size
      have n1 : b2 ≠ wr.heap.size := by omega
      have n2 : wr.heap.size ≠ b2 := by omega
      have n3 : b2 < wr.heap.size := by omega
      have hmade := World.ownsRow_made (base := wr.heap.size) (e := 22) (size := 1) wr #[] 0 (Nat.le_refl _) (by decide) rfl
      have HM := Lib.hid hmade
      have HD2 := Lib.hid d2
      clear ck ck2 hN hN2 hzl hyl ezs eys hcells hcells2 hmade
      go_wp2_with fail
      have ho1 : (wr.alloc (.cells #[] 22)).drew.ownsRow wr.heap.size 22 1 (.slice (some ⟨wr.heap.size, 0, none⟩) 0 0) 0 [] := HM.out
      have hn1 : Nums (wr.alloc (.cells #[] 22)).drew (.slice Au K cu) zs := HN.out
      have hl1 : 0 + zs.length ≤ 17592186043904 := by rw [HZL.out]; omega
      have hl2 : 0 + zs.length + ys.length ≤ 17592186043904 := by rw [HZL.out, HYL.out]; omega
      have hs1 : wr.heap.size ≤ (wr.alloc (.cells #[] 22)).drew.heap.size := by simp
      have hKE : 0 < K + E := by omega
      have hk1000 : k ≤ 1000 := by omega
      have HOWN : Hid (∀ (W : World) (u : Value), W.ownsRow wr.heap.size 22 1 u (0 + zs.length + ys.length) ([] ++ vals zs ++ vals ys) → W.ownsRow wr.heap.size 22 1 u (K + E) (vals (M.tabM (K + E) (M.besF m ap k)))) := Lib.hid fun W u h => by
        have e : M.tabM (K + E) (M.besF m ap k) = zs ++ ys := by
          rw [← EZ.out, ← EY.out]
          exact M.tabM_of (by rw [List.length_append, EZ.out, EY.out, HZL.out, HYL.out])
        rw [e, vals_app]
        rw [HZL.out, HYL.out, Nat.zero_add] at h
        simpa using h
      go_region_law (first
        | (refine step_append_nums rfl _ _ rfl wr.heap.size _ _ _ rfl ho1 _ zs rfl hn1 hl1 hs1 ?_; intro v1 w2 hown2 hb2; have hb20 : Below wr.heap.size wr w2 := (balloc wr (.cells #[] 22)).drew.trans hb2; have d3 : w2.cell? ⟨b2, off2 + k, none⟩ = some (.slice Av E cv) := (hb20.cell (p := ⟨b2, off2 + k, none⟩) n3).trans HD2.out; have hs2 : wr.heap.size ≤ w2.heap.size := hb20.size; have hn3 : Nums w2 (.slice Av E cv) ys := HN2.out.below hb20)
        | (refine step_append_nums rfl _ _ rfl wr.heap.size _ _ _ rfl hown2 _ ys rfl hn3 hl2 hs2 ?_; intro v2 w3 hown3 hb3; have hown4 : w3.ownsRow wr.heap.size 22 1 v2 (K + E) (vals (M.tabM (K + E) (M.besF m ap k))) := HOWN.out _ _ hown3; obtain ⟨g, c, rfl, hg, hcc, hr⟩ := row_own hown4 hKE; have hb30 := hb20.trans hb3; have hA3 := HA.out.below hb30 (Nat.le_refl _); have hs3 := Nat.le_trans HB.out.size hb30.size; have hne : ∀ i, i < k → G i ≠ g := fun i hi => by have := (HA.out.row i hi).lt; omega)
        | (refine step_append_row rfl _ _ rfl (by rfl) (by rfl) hA3 hr (by omega) hcc hne hk1000 hs3 ?_; intro v4 w5 hA5 hb5))
      all_goals
        have HA5 := Lib.hid hA5
        have HB5 := Lib.hid ((bnext HB.out hb30).trans hb5)
        clear hA5 hb5 hA3 hb30 hb20 hb3 hb2 hown2 hown3 hown4 hr d1 d2 d3 hn1 ho1 hn3
        try go_wp2_with fail
        go_roundw
        case rel => exact ⟨k + 1, by omega, by go_num, ⟨_, _, HA5.out⟩, HB5.out⟩
        case measure => simp [intOf]; omega
    · obtain rfl : R = k := by omega
      go_wp2_with fail
      go_ret
      exact ⟨_, rfl, HA.out.mat (by omega) (by omega) (fun i hi j hj => Nat.lt_of_lt_of_le (HLT.out i hi j hj) (by omega)), HB.out⟩
end Go.Proofs.Ytaaipcdipdkooaa
