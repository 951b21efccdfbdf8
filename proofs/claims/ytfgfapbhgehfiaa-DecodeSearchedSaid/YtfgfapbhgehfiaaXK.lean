/-
  Rbes, Rsol, Free, KerM, SolM (joined).
-/
import Derived.Test.YtfgfapbhgehfiaaXJ
import Derived.Test.YtfgfapbhgehfiaaXG
import Derived.Test.YtfgfapbhgehfiaaXH
import Derived.Outline
namespace Go.Proofs.Ytfgfapbhgehfiaa
open Go.RowKit
set_option linter.unusedVariables false
set_option maxRecDepth 100000

set_option maxHeartbeats 4000000 in
set_option maxRecDepth 100000 in
theorem rbeside_any (p R K E : Nat) (va vb : Value) (m mb : List (List Nat)) (ap : Nat → List Nat) (w : World) (hp : p ≤ 65537) (hR : R ≤ 64) (hK : K ≤ 64) (hK1 : 1 ≤ K) (hE : E ≤ 64) (hm : m.length = R) (hmb : mb.length = R) (hc : ∀ i, i < R → (m.getD i []).length = K) (hap : ∀ i, i < R → mb.getD i [] = ap i) (hcb : ∀ i, i < R → (ap i).length = E)
    (hlt : ∀ i, i < R → ∀ j, j < K + E → M.besF m ap i j < p) (hva : Mat w va m) (hvb : Mat w vb mb) :
    Calls Try.prog 50 #[va, vb] w fun e w' => ∃ v', e = .returned v' ∧ Mat w' v' (M.tabMM R (K + E) (M.besF m ap)) ∧ Below w.heap.size w w' := by
  obtain ⟨A, cap, rfl, _, _, hrows⟩ := mat_view hva
  obtain ⟨A2, cap2, rfl, hcap2, _, hrows2⟩ := mat_view hvb
  rw [hm] at hrows ⊢
  rw [hmb] at hrows2 hcap2 ⊢
  have HRW := Lib.hid hrows
  have HRW2 := Lib.hid hrows2
  have HC := Lib.hid hc
  have HAP := Lib.hid hap
  have HCB := Lib.hid hcb
  have HLT := Lib.hid hlt
  clear hrows hrows2 hva hvb hm hmb hc hap hcb hlt
  go_enter Try.func50, Try.ntmps50
  go_wp2_with fail
  go_loopw [10, 5] (fun ti tv wr => ∃ k : Nat, k ≤ R ∧ ti = .int .i64 k ∧ (∃ G Cp, MatA wr w.heap.size tv k (K + E) G Cp (M.besF m ap)) ∧ Below w.heap.size w wr) (fun ti _ _ => R - (intOf ti).toNat)
  case atStart => exact ⟨0, by omega, rfl, ⟨_, _, MatA.start _ _ _ _⟩, Below.refl _ _⟩
  case round =>
    obtain ⟨k, hk, rfl, ⟨G, Cp, hA⟩, hB⟩ := hrel
    have HA := Lib.hid hA
    have HB := Lib.hid hB
    obtain ⟨Ao, co, hform⟩ := hA.form
    subst hform
    clear hA hB
    by_cases hlt : k < R
    · obtain ⟨b, off, rfl, hbl, hcells⟩ := HRW.out (by omega)
      obtain ⟨Au, cu, ck, hN⟩ := hcells k hlt
      obtain ⟨b2, off2, rfl, hbl2, hcells2⟩ := HRW2.out (by omega)
      obtain ⟨Av, cv, ck2, hN2⟩ := hcells2 k hlt
      rw [HC.out k hlt] at ck hN
      rw [HAP.out k hlt] at ck2 hN2
      rw [HCB.out k hlt] at ck2 hN2
      have d1 := (HB.out.cell (p := ⟨b, off + k, none⟩) hbl).trans ck
      have d2 := (HB.out.cell (p := ⟨b2, off2 + k, none⟩) hbl2).trans ck2
      obtain ⟨zs, ezs⟩ : ∃ zs, m.getD k [] = zs := ⟨_, rfl⟩
      obtain ⟨ys, eys⟩ : ∃ ys, ap k = ys := ⟨_, rfl⟩
      have hzl : zs.length = K := by rw [← ezs]; exact HC.out k hlt
      have hyl : ys.length = E := by rw [← eys]; exact HCB.out k hlt
      rw [ezs] at hN
      rw [eys] at hN2
      have HZL := Lib.hid hzl
      have HYL := Lib.hid hyl
      have EZ := Lib.hid ezs
      have EY := Lib.hid eys
      have HN := Lib.hid ((hN.below HB.out).below (balloc wr (.cells #[] 22)))
      have HN2 := Lib.hid (hN2.below HB.out)
      have hwr := HB.out.size
      have n1 : b2 ≠ wr.heap.size := by omega
      have n2 : wr.heap.size ≠ b2 := by omega
      have n3 : b2 < wr.heap.size := by omega
      have hmade := World.ownsRow_made (base := wr.heap.size) (e := 22) (size := 1) wr #[] 0 (Nat.le_refl _) (by decide) rfl
      have HM := Lib.hid hmade
      have HD2 := Lib.hid d2
      clear ck ck2 hN hN2 hzl hyl ezs eys hcells hcells2 hmade
      go_wp2_with fail
      have ho1 : (wr.alloc (.cells #[] 22)).drew.ownsRow wr.heap.size 22 1 (.slice (some ⟨wr.heap.size, 0, none⟩) 0 0) 0 [] := HM.out
      have hn1 : Nums (wr.alloc (.cells #[] 22)).drew (.slice Au K cu) zs := HN.out
      have hl1 : 0 + zs.length ≤ 17592186043904 := by rw [HZL.out]; omega
      have hl2 : 0 + zs.length + ys.length ≤ 17592186043904 := by rw [HZL.out, HYL.out]; omega
      have hs1 : wr.heap.size ≤ (wr.alloc (.cells #[] 22)).drew.heap.size := by simp
      have hKE : 0 < K + E := by omega
      have hk1000 : k ≤ 1000 := by omega
      have HOWN : Hid (∀ (W : World) (u : Value), W.ownsRow wr.heap.size 22 1 u (0 + zs.length + ys.length) ([] ++ vals zs ++ vals ys) → W.ownsRow wr.heap.size 22 1 u (K + E) (vals (M.tabM (K + E) (M.besF m ap k)))) := Lib.hid fun W u h => by
        have e : M.tabM (K + E) (M.besF m ap k) = zs ++ ys := by
          rw [← EZ.out, ← EY.out]
          exact M.tabM_of (by rw [List.length_append, EZ.out, EY.out, HZL.out, HYL.out])
        rw [e, vals_app]
        rw [HZL.out, HYL.out, Nat.zero_add] at h
        simpa using h
      go_region_law (first
        | (refine step_append_nums rfl _ _ rfl wr.heap.size _ _ _ rfl ho1 _ zs rfl hn1 hl1 hs1 ?_; intro v1 w2 hown2 hb2; have hb20 : Below wr.heap.size wr w2 := (balloc wr (.cells #[] 22)).drew.trans hb2; have d3 : w2.cell? ⟨b2, off2 + k, none⟩ = some (.slice Av E cv) := (hb20.cell (p := ⟨b2, off2 + k, none⟩) n3).trans HD2.out; have hs2 : wr.heap.size ≤ w2.heap.size := hb20.size; have hn3 : Nums w2 (.slice Av E cv) ys := HN2.out.below hb20)
        | (refine step_append_nums rfl _ _ rfl wr.heap.size _ _ _ rfl hown2 _ ys rfl hn3 hl2 hs2 ?_; intro v2 w3 hown3 hb3; have hown4 : w3.ownsRow wr.heap.size 22 1 v2 (K + E) (vals (M.tabM (K + E) (M.besF m ap k))) := HOWN.out _ _ hown3; obtain ⟨g, c, rfl, hg, hcc, hr⟩ := row_own hown4 hKE; have hb30 := hb20.trans hb3; have hA3 := HA.out.below hb30 (Nat.le_refl _); have hs3 := Nat.le_trans HB.out.size hb30.size; have hne : ∀ i, i < k → G i ≠ g := fun i hi => by have := (HA.out.row i hi).lt; omega)
        | (refine step_append_row rfl _ _ rfl (by rfl) (by rfl) hA3 hr (by omega) hcc hne hk1000 hs3 ?_; intro v4 w5 hA5 hb5))
      all_goals
        have HA5 := Lib.hid hA5
        have HB5 := Lib.hid ((bnext HB.out hb30).trans hb5)
        clear hA5 hb5 hA3 hb30 hb20 hb3 hb2 hown2 hown3 hown4 hr d1 d2 d3 hn1 ho1 hn3
        try go_wp2_with fail
        go_roundw
        case rel => exact ⟨k + 1, by omega, by go_num, ⟨_, _, HA5.out⟩, HB5.out⟩
        case measure => simp [intOf]; omega
    · obtain rfl : R = k := by omega
      go_wp2_with fail
      go_ret
      exact ⟨_, rfl, HA.out.mat (by omega) (by omega) (fun i hi j hj => Nat.lt_of_lt_of_le (HLT.out i hi j hj) (by omega)), HB.out⟩
end Go.Proofs.Ytfgfapbhgehfiaa
namespace Go.Proofs.Ytfgfapbhgehfiaa
open Go.RowKit
set_option linter.unusedVariables false
set_option maxRecDepth 100000

def RsolEnd (w : World) (p R K : Nat) (m : List (List Nat)) (zs : List Nat) (e : Ending) (w' : World) : Prop :=
  Below w.heap.size w w' ∧ ((M.Stuck (M.rdS p m zs R K) R K ∧ e = .returned (.tuple #[.slice none 0 0, .bool false])) ∨
    (¬ M.Stuck (M.rdS p m zs R K) R K ∧ ∃ g cap, e = .returned (.tuple #[.slice (some ⟨g, 0, none⟩) K cap, .bool true]) ∧ w.heap.size ≤ g ∧ K ≤ cap ∧ Row w' g K (M.solK (M.rdS p m zs R K) K (M.rdS p m zs R K).lead.length)))

set_option maxHeartbeats 8000000 in
set_option maxRecDepth 100000 in
theorem rsolve_any (p R K : Nat) (v : Value) (m : List (List Nat)) (vv : Value) (zs : List Nat) (w : World) (hok : M.Ok p m R K) (hv : Mat w v m) (hz : Nums w vv zs) (hzl : zs.length = R) (hzw : M.within p zs = true) :
    Calls Try.prog 40 #[.int .u64 p, v, vv] w (RsolEnd w p R K m zs) := by
  obtain ⟨h3, hp⟩ := M.pos_of hok.isp
  have hR64 := hok.R64
  have hR1 := hok.R1
  have hK1 := hok.K1
  have hK64 := hok.K64
  have HV := Lib.hid hv
  have hap : ∀ i, i < R → [zs.getD i 0].length = 1 ∧ M.within p [zs.getD i 0] = true := fun i hi => ⟨rfl, by have := M.within_mem hzw (k := i) (by omega); simp [M.within] at this ⊢; exact this⟩
  have hblt := M.besF_lt (E := 1) hok (ap := fun i => [zs.getD i 0]) hap
  have hinv := M.red_inv hok.isp hblt K (by omega)
  obtain ⟨s, es⟩ : ∃ s, M.rdS p m zs R K = s := ⟨_, rfl⟩
  have es' : M.red p R (M.besF m fun i => [zs.getD i 0]) K = s := es
  rw [es'] at hinv
  have HINV := Lib.hid hinv
  have hlenR := hinv.len
  unfold RsolEnd
  rw [es]
  have HBES := Lib.hid fun (W : World) (vb : Value) (hW : Mat W v m) (hB : Mat W vb (M.tabMM R 1 fun i _ => zs.getD i 0)) => rbeside_any p R K 1 v vb m (M.tabMM R 1 fun i _ => zs.getD i 0) (fun i => [zs.getD i 0]) W hp hR64 hK64 hK1 (by omega) hok.rows (M.tabMM_len _ _ _) hok.cols (fun i hi => by rw [M.tabMM_at _ _ hi]; simp [M.tabM]) (fun i hi => rfl) hblt hW hB
  have htab : M.Tab p (M.tabMM R (K + 1) (M.besF m fun i => [zs.getD i 0])) R (K + 1) := ⟨M.tabMM_len _ _ _, hR1, hR64, by omega, by omega, fun i hi => by rw [M.tabMM_at _ _ hi, M.tabM_len], fun i hi => by rw [M.tabMM_at _ _ hi]; exact M.within_tabM (hblt i hi)⟩
  have HRED := Lib.hid fun (W : World) (u : Value) hW => rreduce_any p R (K + 1) K u (M.tabMM R (K + 1) (M.besF m fun i => [zs.getD i 0])) W hok.isp htab (by omega) hW
  have hag := M.red_congr (p := p) (R := R) (K := K + 1) (m := M.el (M.tabMM R (K + 1) (M.besF m fun i => [zs.getD i 0]))) (m' := M.besF m fun i => [zs.getD i 0]) (fun i hi j hj => M.tabMM_el _ hi hj) K (by omega)
  rw [es'] at hag
  have HAG := Lib.hid hag
  obtain ⟨A, cap, rfl, _, _, hrows⟩ := mat_view hv
  obtain ⟨hzb, _, hz3⟩ := id hz
  rw [hok.rows] at hrows HV HBES ⊢
  have hlt : ∀ i, i < R → zs.getD i 0 < 18446744073709551616 := fun i hi => hzb _ (by rw [List.getD_eq_getElem?_getD, List.getElem?_eq_getElem (by omega)]; exact List.getElem_mem _)
  have HLTZ := Lib.hid hlt
  obtain ⟨bm, om, rfl, hbm, hcells⟩ := hrows (by omega)
  obtain ⟨A0, k0, cm, _⟩ := hcells 0 (by omega)
  rw [Nat.add_zero, hok.cols 0 (by omega)] at cm
  rcases hz3 with ⟨_, _, _, e0, _⟩ | ⟨bz, oz, cz, rfl, hcz, hbz, hzc⟩
  · rw [e0] at hzl; simp at hzl; omega
  rw [hzl] at hzc hcz ⊢
  have HZC := Lib.hid hzc
  have HL1 := Lib.hid es
  have HCM := Lib.hid cm
  clear hv hz hzb hrows hcells hzc hap hblt hinv es es' htab hag hok hzl hzw hlt cm
  go_enter Try.func40, Try.ntmps40
  go_wp2_with fail
  go_loopw [19, 8] (fun ti tv wr => ∃ k : Nat, k ≤ R ∧ ti = .int .i64 k ∧ (∃ G Cp, MatA wr w.heap.size tv k 1 G Cp (fun i _ => zs.getD i 0)) ∧ Below w.heap.size w wr) (fun ti _ _ => R - (intOf ti).toNat)
  case atStart => exact ⟨0, by omega, rfl, ⟨_, _, MatA.start _ _ _ _⟩, Below.refl _ _⟩
  case round =>
    obtain ⟨k, hk, rfl, ⟨G, Cp, hA⟩, hB⟩ := hrel
    have HA := Lib.hid hA
    have HB := Lib.hid hB
    obtain ⟨Ao, co, hform⟩ := hA.form
    subst hform
    clear hA hB
    by_cases hlt : k < R
    · have d1 := (HB.out.cell (p := ⟨bz, oz + k, none⟩) hbz).trans (HZC.out k hlt)
      obtain ⟨x, ex⟩ : ∃ x, zs.getD k 0 = x := ⟨_, rfl⟩
      rw [ex] at d1
      have hb1 := balloc wr (.cells #[.int .u64 (x : Nat)] 22)
      have hA3 := HA.out.below hb1 (Nat.le_refl _)
      have hrow : Row (wr.alloc (.cells #[.int .u64 (x : Nat)] 22)) wr.heap.size 1 (fun _ => zs.getD k 0) := ⟨_, heap_alloc_new wr _, fun j hj => by
        obtain rfl : j = 0 := (by omega)
        show _ = some (Value.int .u64 (zs.getD k 0 : Nat))
        rw [ex]; rfl⟩
      have hne : ∀ i, i < k → G i ≠ wr.heap.size := fun i hi => by have := (HA.out.row i hi).lt; omega
      have HA3 := Lib.hid hA3
      have HROW := Lib.hid hrow
      have HNE := Lib.hid hne
      have hk2 : k ≤ 1000 := by omega
      have hws := HB.out.size
      have hs3 := Nat.le_trans hws hb1.size
      have HB1 := Lib.hid hb1
      have HSZ := Lib.hid (show (wr.alloc (.cells #[.int .u64 (x : Nat)] 22)).heap.size = wr.heap.size + 1 by simp)
      clear hA3 hrow hne hb1
      go_wp2_with (at_builtin; go_loud (refine wpList_append_row rfl _ _ rfl rfl (by rw [HSZ.out]; rfl) HA3.out HROW.out hws (Nat.le_refl _) HNE.out hk2 hs3 ?_))
      intro v4 w5 hA5 hb5
      have HA5 := Lib.hid hA5
      have HB5 := Lib.hid ((HB.out.trans (HB1.out.mono hws)).trans hb5)
      clear hA5 hb5
      go_wp2_with fail
      go_roundw
      case rel => exact ⟨k + 1, by omega, by go_num, ⟨_, _, HA5.out⟩, HB5.out⟩
      case measure => simp [intOf]; omega
    · obtain rfl : R = k := by omega
      have cm2 := (HB.out.cell (p := ⟨bm, om, none⟩) hbm).trans HCM.out
      have HMB := Lib.hid (HA.out.mat (by omega) (by omega) fun i hi j hj => HLTZ.out i hi)
      go_wp2_with fail
      refine (HBES.out wr _ (HV.out.below HB.out) HMB.out).mono ?_
      rintro e w2 ⟨v2, rfl, hm2, hb2⟩
      have HM2 := Lib.hid hm2
      have HB2 := Lib.hid (bnext HB.out hb2)
      clear hm2 hb2
      go_wp2_with fail
      refine (HRED.out w2 v2 HM2.out).mono ?_
      rintro e w3 ⟨B, cp, G', Cp', vl, rfl, hcp, hM, hO, hb3⟩
      obtain ⟨hg1, hg2, hg3, hg4⟩ := HAG.out
      rw [hg1] at hO
      have hM' := hM.congr (F' := s.m) hg4
      obtain ⟨L, eL⟩ : ∃ L, s.lead.length = L := ⟨_, rfl⟩
      have EL := Lib.hid eL
      obtain ⟨Al, cl, evl⟩ := reduce_vp hO
      rw [eL] at evl hO
      subst evl
      have hLR : L ≤ R := by omega
      have hbw := HB2.out.size
      have hbB := hM'.baseB
      have HMO := Lib.hid hM'
      have HO := Lib.hid hO
      have HB3 := Lib.hid (bnext HB2.out hb3)
      obtain ⟨cs, hmk, hmrow⟩ := make_u64 K (by omega)
      have HMR := Lib.hid hmrow
      clear hM hM' hO hb3 hg1 hg2 hg3 hg4 eL cm2 hmrow
      go_wp2_with fail
      obtain ⟨gx, egx⟩ : ∃ gx, gx = w3.heap.size := ⟨_, rfl⟩
      obtain ⟨W5, eW5⟩ : ∃ W5, W5 = w3.alloc (.cells cs 22) := ⟨_, rfl⟩
      rw [← egx, ← eW5]
      have hr5 : Row W5 gx K (fun _ => 0) := by rw [eW5, egx]; exact HMR.out w3
      have hm5 : MatO W5 w2.heap.size B R (K + 1) G' Cp' s.m := by rw [eW5]; exact HMO.out.alloc _
      have ho5 : W5.ownsRow w2.heap.size 3 1 (.slice Al L cl) L (ints s.lead) := by rw [eW5]; exact HO.out.alloc _
      have hB5 : Below w.heap.size w W5 := by rw [eW5]; exact HB3.out.alloc HB3.out.size _
      have nB : B ≠ gx := by have := HMO.out.lt; omega
      have nG : ∀ i, i < R → G' i ≠ gx := fun i hi => by have := (HMO.out.row i hi).lt; omega
      have nP : (Value.slice Al L cl).ownBlock ≠ some gx := by
        intro e
        have := (HO.out.lt gx e).2
        omega
      have hwx : w.heap.size ≤ gx := by have := HB3.out.size; omega
      have HR5 := Lib.hid hr5
      have HM5 := Lib.hid hm5
      have HO5 := Lib.hid ho5
      have HB5 := Lib.hid hB5
      have NG := Lib.hid nG
      have NP := Lib.hid nP
      clear hr5 hm5 ho5 hB5 nG nP egx eW5 hmk HMR
      go_loopw [46] (fun ti wr => ∃ k : Nat, k ≤ R ∧ ti = .int .i64 k ∧ Row wr gx K (M.solK s K (min k L)) ∧ MatO wr w2.heap.size B R (K + 1) G' Cp' s.m ∧ wr.ownsRow w2.heap.size 3 1 (.slice Al L cl) L (ints s.lead) ∧ Below w.heap.size w wr ∧ ∀ i, L ≤ i → i < k → s.m i K = 0) (fun ti _ => R - (intOf ti).toNat)
      case atStart => exact ⟨0, by omega, rfl, by rw [Nat.zero_min]; exact HR5.out, HM5.out, HO5.out, HB5.out, fun i h1 h2 => absurd h2 (by omega)⟩
      case round =>
        obtain ⟨k, hk, rfl, hr, hM, hO, hB, hz⟩ := hrel
        have HR6 := Lib.hid hr
        have HM6 := Lib.hid hM
        have HO6 := Lib.hid hO
        have HB6 := Lib.hid hB
        have HZ6 := Lib.hid hz
        clear hr hM hO hB hz HR5 HM5 HO5 HB5 HMO HO HM2 HMB
        by_cases hkR : k < R
        · have q1 := HM6.out.cell hkR
          have q2 := (HM6.out.row k hkR).cell (j := K) (by omega)
          obtain ⟨x, ex⟩ : ∃ x, s.m k K = x := ⟨_, rfl⟩
          rw [ex] at q2
          have hxl := HINV.out.lt k hkR K (by omega)
          rw [ex] at hxl
          obtain ⟨gk, egk⟩ : ∃ gk, G' k = gk := ⟨_, rfl⟩
          obtain ⟨ck, eck⟩ : ∃ ck, Cp' k = ck := ⟨_, rfl⟩
          rw [egk, eck] at q1
          rw [egk] at q2
          have EX := Lib.hid ex
          clear ex egk eck
          by_cases hkL : k < L
          · obtain ⟨A', cap', e, hc, h2⟩ := ints_of_owns HO6.out
            simp only [Value.slice.injEq] at e
            obtain ⟨rfl, -, -⟩ := e
            obtain ⟨bp, rfl, _, hcell⟩ := h2 (by rw [EL.out]; omega)
            have cl' := hcell k (by rw [EL.out]; exact hkL)
            have hcol := HINV.out.ltk k (by rw [EL.out]; exact hkL)
            obtain ⟨c, ec⟩ : ∃ c, s.lead.getD k 0 = c := ⟨_, rfl⟩
            rw [ec] at cl' hcol
            have q3 := HR6.out.cell hcol
            have q4 := HR6.out.free c
            have hset := (HR6.out.set hcol x).congr (F' := M.solK s K (min (k + 1) L)) (fun j hj => by
              rw [show min (k + 1) L = k + 1 by omega, show min k L = k by omega, M.solK, ec, EX.out])
            have HSET := Lib.hid hset
            clear hset hcell h2 ec
            go_wp2_with fail
            go_region
            go_wp2_with fail
            go_roundw
            case rel => exact ⟨k + 1, by omega, by go_num, HSET.out, (HM6.out.far (p := ⟨gx, c, none⟩) nB NG.out _).heap rfl, ownsRow_setCell_other HO6.out NP.out _, (HB6.out.setCell (p := ⟨gx, c, none⟩) hwx _).drew, fun i h1 h2 => absurd h2 (by omega)⟩
            case measure => simp [intOf]; omega
          · by_cases hx0 : x = 0
            · have hxb : ((x : Int) != 0) = false := by simp [hx0]
              have HX0 := Lib.hid hx0
              clear hx0
              go_wp2_with fail
              go_roundw
              case rel => exact ⟨k + 1, by omega, by go_num, by rw [show min (k + 1) L = min k L by omega]; exact HR6.out, HM6.out, HO6.out, HB6.out, fun i h1 h2 => by
                by_cases e : i = k
                · rw [e, EX.out]; exact HX0.out
                · exact HZ6.out i h1 (by omega)⟩
              case measure => simp [intOf]; omega
            · have hxb : ((x : Int) != 0) = true := by simp; omega
              have HX0 := Lib.hid hx0
              clear hx0
              go_wp2_with fail
              go_ret2
              exact ⟨HB6.out, .inl ⟨⟨k, by rw [EL.out]; omega, hkR, by rw [EX.out]; exact HX0.out⟩, rfl⟩⟩
        · obtain rfl : R = k := by omega
          have hr7 := HR6.out
          rw [show min R L = L by omega] at hr7
          have HR7 := Lib.hid hr7
          have hns : ¬ M.Stuck s R K := by
            rintro ⟨i, h1, h2, h3⟩
            rw [EL.out] at h1
            exact h3 (HZ6.out i h1 h2)
          have HNS := Lib.hid hns
          clear hr7 hns
          go_wp2_with fail
          go_ret2
          refine ⟨HB6.out, .inr ⟨HNS.out, gx, K, rfl, hwx, Nat.le_refl _, ?_⟩⟩
          rw [EL.out]
          exact HR7.out
end Go.Proofs.Ytfgfapbhgehfiaa
namespace Go.Proofs.Ytfgfapbhgehfiaa
open Go.RowKit
set_option linter.unusedVariables false
set_option maxRecDepth 100000

namespace M
/-- the columns before c that are none of the leads -/
def frees (l : List Nat) (c : Nat) : List Nat := (List.range c).filter fun j => !l.contains j
theorem frees_succ (l : List Nat) (c : Nat) : frees l (c + 1) = frees l c ++ if l.contains c then [] else [c] := by
  unfold frees
  rw [List.range_succ, List.filter_append]
  congr 1
  cases h : l.contains c
  · rw [List.filter_cons_of_pos (by rw [h]; rfl)]; rfl
  · rw [List.filter_cons_of_neg (by rw [h]; simp)]; rfl
theorem frees_len (l : List Nat) (c : Nat) : (frees l c).length ≤ c := by
  unfold frees
  exact Nat.le_trans (List.length_filter_le _ _) (by simp)
theorem frees_mem {l : List Nat} {c j : Nat} (h : j ∈ frees l c) : j < c := by unfold frees at h; simp at h; exact h.1
theorem frees_split (l : List Nat) (c : Nat) : ∀ d, ∃ t, frees l (c + d) = frees l c ++ t
  | 0 => ⟨[], by simp⟩
  | d + 1 => by
    obtain ⟨t, ht⟩ := frees_split l c d
    exact ⟨t ++ if l.contains (c + d) then [] else [c + d], by rw [← Nat.add_assoc, frees_succ, ht, List.append_assoc]⟩
theorem frees_at {l : List Nat} {c K : Nat} (h : l.contains c = false) (hc : c < K) : (frees l K).getD (frees l c).length 0 = c := by
  obtain ⟨t, ht⟩ := frees_split l (c + 1) (K - (c + 1))
  rw [show c + 1 + (K - (c + 1)) = K by omega, frees_succ, h] at ht
  rw [ht, List.getD_eq_getElem?_getD]
  simp
theorem frees_lt {l : List Nat} {c i : Nat} (h : i < (frees l c).length) : (frees l c).getD i 0 < c := by
  rw [List.getD_eq_getElem?_getD, List.getElem?_eq_getElem h]
  exact frees_mem (List.getElem_mem _)
theorem contains_at {l : List Nat} {i : Nat} (h : i < l.length) : l.contains (l.getD i 0) = true := by
  rw [List.getD_eq_getElem?_getD, List.getElem?_eq_getElem h]
  simp
theorem contains_no {l : List Nat} {c : Nat} (h : ∀ i, i < l.length → l.getD i 0 ≠ c) : l.contains c = false := by
  cases e : l.contains c with
  | false => rfl
  | true =>
    simp at e
    obtain ⟨i, hi, rfl⟩ := List.getElem_of_mem e
    exact absurd (by rw [List.getD_eq_getElem?_getD, List.getElem?_eq_getElem hi]; rfl) (h i hi)
/-- -x in the columns of the first k pivots, 1 in the column f -/
def nulK (p : Nat) (s : Rd) (f : Nat) : Nat → Nat → Nat
  | 0 => fun j => if j = f then 1 else 0
  | k + 1 => fun j => if j = s.lead.getD k 0 then (p - s.m k f) % p else nulK p s f k j
theorem nulK_lt {p : Nat} {s : Rd} {f : Nat} (hp : 1 < p) : ∀ k j, nulK p s f k j < p
  | 0, j => by unfold nulK; split <;> omega
  | k + 1, j => by
    unfold nulK
    split
    · exact Nat.mod_lt _ (by omega)
    · exact nulK_lt hp k j
/-- a matrix whose rows are the solutions of m x = 0, one for each column without a pivot -/
def nulM (p : Nat) (s : Rd) (K : Nat) : List (List Nat) := tabMM (frees s.lead K).length K fun i => nulK p s ((frees s.lead K).getD i 0) s.lead.length
end M

end Go.Proofs.Ytfgfapbhgehfiaa
namespace Go.Proofs.Ytfgfapbhgehfiaa.M
set_option linter.unusedVariables false

theorem lead_inj {p R C k : Nat} {m0 : Mx} {s : Rd} (h : Inv p R C m0 k s) {a b : Nat} (ha : a < s.lead.length) (hb : b < s.lead.length) (e : s.lead.getD a 0 = s.lead.getD b 0) : a = b := by
  rcases Nat.lt_trichotomy a b with h1 | h1 | h1
  · have := h.sorted a b h1 hb; omega
  · exact h1
  · have := h.sorted b a h1 ha; omega
theorem lead_ge {p R C k : Nat} {m0 : Mx} {s : Rd} (h : Inv p R C m0 k s) : ∀ a, a < s.lead.length → a ≤ s.lead.getD a 0
  | 0, _ => Nat.zero_le _
  | a + 1, ha => by
    have h1 := lead_ge h a (by omega)
    have h2 := h.sorted a (a + 1) (by omega) ha
    omega
theorem lead_gap {p R C k : Nat} {m0 : Mx} {s : Rd} (h : Inv p R C m0 k s) (a : Nat) : ∀ d, a + d < s.lead.length → s.lead.getD a 0 + d ≤ s.lead.getD (a + d) 0
  | 0, _ => Nat.le_refl _
  | d + 1, ha => by
    have h1 := lead_gap h a d (by omega)
    have h2 := h.sorted (a + d) (a + (d + 1)) (by omega) ha
    omega
/-- as many pivots as columns: each column has its own -/
theorem lead_full {p R C k : Nat} {m0 : Mx} {s : Rd} (h : Inv p R C m0 k s) (hk : s.lead.length = k) {a : Nat} (ha : a < k) : s.lead.getD a 0 = a := by
  have h1 := lead_ge h a (by omega)
  have h2 := lead_gap h a (k - 1 - a) (by omega)
  have h3 := h.ltk (a + (k - 1 - a)) (by omega)
  omega
/-! ### The rows of Null -/
theorem nulK_at {p R C k : Nat} {m0 : Mx} {s : Rd} (h : Inv p R C m0 k s) (f : Nat) {a : Nat} : ∀ n, n ≤ s.lead.length → a < n → nulK p s f n (s.lead.getD a 0) = (p - s.m a f) % p
  | 0, _, ha => absurd ha (by omega)
  | n + 1, hn, ha => by
    unfold nulK
    by_cases e : a = n
    · subst e; rw [if_pos rfl]
    · rw [if_neg (fun h' => e (lead_inj h (by omega) (by omega) h'))]
      exact nulK_at h f n (by omega) (by omega)
theorem nulK_off {p : Nat} {s : Rd} {f j : Nat} : ∀ n, (∀ a, a < n → s.lead.getD a 0 ≠ j) → nulK p s f n j = if j = f then 1 else 0
  | 0, _ => rfl
  | n + 1, h => by
    unfold nulK
    rw [if_neg (Ne.symm (h n (by omega)))]
    exact nulK_off n fun a ha => h a (by omega)
theorem neg_mod_eqm {p x : Nat} (h : x ≤ p) : Eqm p (((p - x) % p : Nat) : Int) (-(x : Int)) := by
  refine (eqm_natmod p (p - x)).trans ⟨1, ?_⟩
  rw [Int.natCast_sub h]
  grind
theorem nul_ker {p R K : Nat} {m0 : Mx} {s : Rd} (h : Inv p R K m0 K s) {f : Nat} (hf : f < K) (hno : s.lead.contains f = false) : Ker p R K m0 fun j => (nulK p s f s.lead.length j : Int) := by
  refine (h.ker _).1 fun i hi => ?_
  have hnf : ∀ a, a < s.lead.length → s.lead.getD a 0 ≠ f := fun a ha e => by
    have := contains_at ha
    rw [e, hno] at this
    cases this
  unfold dotI
  by_cases hiL : i < s.lead.length
  · rw [sumI_pair (a := s.lead.getD i 0) (b := f) (hnf i hiL) (h.ltk i hiL) hf]
    · dsimp only
      rw [nulK_at h f _ (Nat.le_refl _) hiL, nulK_off _ hnf, if_pos rfl, h.unitc i hiL i hi, if_pos rfl]
      have := neg_mod_eqm (p := p) (Nat.le_of_lt (h.lt i hi f hf))
      obtain ⟨q, hq⟩ := this
      exact ⟨q, by rw [hq]; grind⟩
    · intro j hj h1 h2
      dsimp only
      by_cases e : ∃ a, a < s.lead.length ∧ s.lead.getD a 0 = j
      · obtain ⟨a, ha, rfl⟩ := e
        rw [h.unitc a ha i hi, if_neg (fun e => h1 (by rw [e]))]; simp
      · rw [nulK_off _ (fun a ha e' => e ⟨a, ha, e'⟩), if_neg h2]; simp
  · exact sumI_eqm_zero K fun j hj => Eqm.of_eq (by rw [h.zero i (by omega) hi j hj]; simp)
/-- the columns with a pivot and those without are all -/
theorem frees_count {l : List Nat} : ∀ c, (frees l c).length + ((List.range c).filter fun j => l.contains j).length = c
  | 0 => rfl
  | c + 1 => by
    have ih := frees_count (l := l) c
    rw [frees_succ, List.range_succ, List.filter_append, List.length_append, List.length_append]
    cases h : l.contains c
    · rw [List.filter_cons_of_neg (by simp at h ⊢; exact h), if_neg (by simp)]
      simp only [List.filter_nil, List.length_nil, List.length_cons]
      omega
    · rw [List.filter_cons_of_pos (by simp at h ⊢; exact h), if_pos rfl]
      simp only [List.filter_nil, List.length_nil, List.length_cons]
      omega
end Go.Proofs.Ytfgfapbhgehfiaa.M
namespace Go.Proofs.Ytfgfapbhgehfiaa.M
set_option linter.unusedVariables false

theorem dotK_sumS (l m : List Nat) : ∀ k, ((dotK l m k : Nat) : Int) = sumI (fun c => (l.getD c 0 : Int) * (m.getD c 0 : Int)) k
  | 0 => rfl
  | k + 1 => by
    unfold dotK sumI
    rw [Int.natCast_add, Int.natCast_mul, dotK_sumS l m k]
theorem app_eqm {p R K : Nat} {m : List (List Nat)} (hm : Rows p m R K) (zs : List Nat) {i : Nat} (hi : i < R) : Eqm p (app p m zs i : Nat) (dotI (el m) K (fun j => (zs.getD j 0 : Int)) i) := by
  unfold app
  refine (eqm_natmod p _).trans (Eqm.of_eq ?_)
  rw [dotK_sumS, hm.cols i hi]
  rfl

theorem ext_getD3 {l m : List Nat} (hl : l.length = m.length) (h : ∀ i, i < l.length → l.getD i 0 = m.getD i 0) : l = m := by
  apply List.ext_getElem hl
  intro i h1 h2
  have := h i h1
  rw [List.getD_eq_getElem?_getD, List.getElem?_eq_getElem h1, List.getD_eq_getElem?_getD, List.getElem?_eq_getElem h2] at this
  exact this

/-! ### the columns without a pivot -/
theorem frees_in {l : List Nat} {K i : Nat} (h : i < (frees l K).length) : (frees l K).getD i 0 ∈ frees l K := by
  rw [List.getD_eq_getElem?_getD, List.getElem?_eq_getElem h]; exact List.getElem_mem h
theorem frees_no {l : List Nat} {K j : Nat} (h : j ∈ frees l K) : l.contains j = false := by
  unfold frees at h
  have := (List.mem_filter.1 h).2
  simpa using this
theorem frees_inj {l : List Nat} {K a b : Nat} (ha : a < (frees l K).length) (hb : b < (frees l K).length) (e : (frees l K).getD a 0 = (frees l K).getD b 0) : a = b := by
  have hp : (frees l K).Pairwise (· < ·) := List.Pairwise.filter _ List.pairwise_lt_range
  rw [List.pairwise_iff_getElem] at hp
  rw [List.getD_eq_getElem?_getD, List.getElem?_eq_getElem ha, List.getD_eq_getElem?_getD, List.getElem?_eq_getElem hb] at e
  simp only [Option.getD_some] at e
  rcases Nat.lt_trichotomy a b with h | h | h
  · have := hp a b ha hb h; omega
  · exact h
  · have := hp b a hb ha h; omega
theorem not_lead {l : List Nat} {c : Nat} (h : l.contains c = false) : ∀ a, a < l.length → l.getD a 0 ≠ c := fun a ha e => by
  have := contains_at ha
  rw [e, h] at this
  cases this

/-! ### what Solve answers -/
theorem solK_at {p R C k K : Nat} {m0 : Mx} {s : Rd} (h : Inv p R C m0 k s) {a : Nat} : ∀ n, n ≤ s.lead.length → a < n → solK s K n (s.lead.getD a 0) = s.m a K
  | 0, _, ha => absurd ha (by omega)
  | n + 1, hn, ha => by
    unfold solK
    by_cases e : a = n
    · subst e; rw [if_pos rfl]
    · rw [if_neg (fun h' => e (lead_inj h (by omega) (by omega) h'))]
      exact solK_at h n (by omega) (by omega)
theorem solK_off {K : Nat} {s : Rd} {j : Nat} : ∀ n, (∀ a, a < n → s.lead.getD a 0 ≠ j) → solK s K n j = 0
  | 0, _ => rfl
  | n + 1, h => by
    unfold solK
    rw [if_neg (Ne.symm (h n (by omega)))]
    exact solK_off n fun a ha => h a (by omega)
/-- beside -1 for the right side -/
def ext (K : Nat) (Y : Nat → Nat) : Nat → Int := fun c => if c < K then (Y c : Int) else -1
theorem dot_ext (mx : Mx) (K : Nat) (Y : Nat → Nat) (i : Nat) : dotI mx (K + 1) (ext K Y) i = dotI mx K (fun j => (Y j : Int)) i - (mx i K : Int) := by
  unfold dotI
  rw [sumI]
  have e : sumI (fun j => (mx i j : Int) * ext K Y j) K = sumI (fun j => (mx i j : Int) * (Y j : Int)) K := sumI_congr K fun j hj => by unfold ext; rw [if_pos hj]
  rw [e]
  unfold ext
  rw [if_neg (Nat.lt_irrefl K)]
  grind
section
variable {p R K : Nat} {m : List (List Nat)} {v x : List Nat}
theorem bes_el (hok : Ok p m R K) {i j : Nat} (hi : i < R) (hj : j < K) : besF m (fun i => [v.getD i 0]) i j = el m i j := by
  unfold besF el
  rw [getD_app, if_pos (by rw [hok.cols i hi]; exact hj)]
theorem bes_right (hok : Ok p m R K) {i : Nat} (hi : i < R) : besF m (fun i => [v.getD i 0]) i K = v.getD i 0 := by
  unfold besF
  rw [getD_app, if_neg (by rw [hok.cols i hi]; omega), hok.cols i hi, Nat.sub_self]
  rfl
theorem bes_inv (hok : Ok p m R K) (hvl : v.length = R) (hvw : within p v = true) : Inv p R (K + 1) (besF m fun i => [v.getD i 0]) K (rdS p m v R K) := by
  refine red_inv hok.isp (fun i hi j hj => ?_) K (by omega)
  by_cases hjK : j < K
  · rw [bes_el hok hi hjK]; exact hok.el_lt hi hjK
  · obtain rfl : j = K := by omega
    rw [bes_right hok hi]
    exact within_mem hvw (by omega)
theorem bes_agree (hok : Ok p m R K) : Agree R K (rd p m R K) (rdS p m v R K) :=
  red_congr (fun i hi j hj => (bes_el (v := v) hok hi hj).symm) K (Nat.le_refl _)
theorem bes_ker (hok : Ok p m R K) (Y : Nat → Nat) : Ker p R (K + 1) (besF m fun i => [v.getD i 0]) (ext K Y) ↔ ∀ i, i < R → Eqm p (dotI (el m) K (fun j => (Y j : Int)) i) (v.getD i 0 : Nat) := by
  have e : ∀ i, i < R → dotI (besF m fun i => [v.getD i 0]) (K + 1) (ext K Y) i = dotI (el m) K (fun j => (Y j : Int)) i - (v.getD i 0 : Nat) := fun i hi => by
    rw [dot_ext, bes_right hok hi]
    congr 1
    unfold dotI
    exact sumI_congr K fun j hj => by rw [bes_el hok hi hj]
  constructor
  · intro h i hi
    have := h i hi
    rw [e i hi] at this
    obtain ⟨k, hk⟩ := this
    exact ⟨k, by grind⟩
  · intro h i hi
    rw [e i hi]
    obtain ⟨k, hk⟩ := h i hi
    exact ⟨k, by grind⟩
/-- where x is a solution Solve isn't stuck -/
theorem not_stuck (hok : Ok p m R K) (hvl : v.length = R) (hvw : within p v = true) {X : Nat → Nat} (hx : ∀ i, i < R → Eqm p (dotI (el m) K (fun j => (X j : Int)) i) (v.getD i 0 : Nat)) : ¬ Stuck (rdS p m v R K) R K := by
  have hinv := bes_inv hok hvl hvw
  rintro ⟨i, h1, h2, h3⟩
  have hk := (hinv.ker _).2 ((bes_ker hok X).2 hx) i h2
  rw [dot_ext] at hk
  have hz : dotI (rdS p m v R K).m K (fun j => (X j : Int)) i = 0 := sumI_zero K fun j hj => by rw [hinv.zero i h1 h2 j hj]; simp
  rw [hz] at hk
  have hlt := hinv.lt i h2 K (by omega)
  refine h3 (eqm_lt (p := p) ?_ hlt (by omega))
  obtain ⟨k, hk⟩ := hk
  exact ⟨-k, by grind⟩

/-- a solution of m y = v that holds x's numbers at the first n columns without a pivot, and 0 at the others -/
structure Sol (p R K : Nat) (m : List (List Nat)) (v x : List Nat) (n : Nat) (Y : Nat → Nat) : Prop where
  lt : ∀ j, j < K → Y j < p
  ker : ∀ i, i < R → Eqm p (dotI (el m) K (fun j => (Y j : Int)) i) (v.getD i 0 : Nat)
  free : ∀ i, i < (frees (rd p m R K).lead K).length → Y ((frees (rd p m R K).lead K).getD i 0) = if i < n then x.getD ((frees (rd p m R K).lead K).getD i 0) 0 else 0

theorem Sol.start (hok : Ok p m R K) (hvl : v.length = R) (hvw : within p v = true) (hs : ¬ Stuck (rdS p m v R K) R K) : Sol p R K m v x 0 (solK (rdS p m v R K) K (rdS p m v R K).lead.length) := by
  have hinv := bes_inv hok hvl hvw
  have hag := (bes_agree (v := v) hok).1
  have h3 := (pos_of hok.isp).1
  refine ⟨fun j _ => solK_lt (p := p) (by omega) _ (fun i hi => hinv.lt i (by have := hinv.len; omega) K (by omega)) j, (bes_ker hok _).1 ((hinv.ker _).1 fun i hi => ?_), fun i hi => ?_⟩
  · rw [dot_ext]
    obtain ⟨s, es⟩ : ∃ s, rdS p m v R K = s := ⟨_, rfl⟩
    rw [es] at hinv hs ⊢
    by_cases hiL : i < s.lead.length
    · unfold dotI
      rw [sumI_one (a := s.lead.getD i 0) K (hinv.ltk i hiL)]
      · dsimp only
        rw [hinv.unitc i hiL i hi, if_pos rfl, solK_at hinv _ (Nat.le_refl _) hiL]
        exact Eqm.of_eq (by grind)
      · intro c hc hne
        dsimp only
        by_cases e : ∃ b, b < s.lead.length ∧ s.lead.getD b 0 = c
        · obtain ⟨b, hb, rfl⟩ := e
          rw [hinv.unitc b hb i hi, if_neg (fun e => hne (by rw [e]))]; simp
        · rw [solK_off _ (fun a ha e' => e ⟨a, ha, e'⟩)]; simp
    · have hz : dotI s.m K (fun j => (solK s K s.lead.length j : Int)) i = 0 := sumI_zero K fun j hj => by rw [hinv.zero i (by omega) hi j hj]; simp
      rw [hz]
      have h0 : s.m i K = 0 := Decidable.byContradiction fun h => hs ⟨i, by omega, hi, h⟩
      rw [h0]
      exact Eqm.of_eq (by simp)
  · rw [if_neg (by omega)]
    refine solK_off _ ?_
    rw [← hag]
    exact not_lead (frees_no (frees_in hi))
theorem Sol.step (hok : Ok p m R K) {n : Nat} {Y : Nat → Nat} (h : Sol p R K m v x n Y) (hn : n < (frees (rd p m R K).lead K).length) (hx : x.getD ((frees (rd p m R K).lead K).getD n 0) 0 < p) :
    Sol p R K m v x (n + 1) fun j => (Y j + x.getD ((frees (rd p m R K).lead K).getD n 0) 0 * nulK p (rd p m R K) ((frees (rd p m R K).lead K).getD n 0) (rd p m R K).lead.length j % p) % p := by
  have hinv := red_inv hok.isp (m := el m) (fun i hi j hj => hok.el_lt hi hj) K (Nat.le_refl _)
  have hs : red p R (el m) K = rd p m R K := rfl
  rw [hs] at hinv
  obtain ⟨f, ef⟩ : ∃ f, f = (frees (rd p m R K).lead K).getD n 0 := ⟨_, rfl⟩
  rw [← ef] at hx ⊢
  have hfK : f < K := by rw [ef]; exact frees_mem (frees_in hn)
  have hfn : (rd p m R K).lead.contains f = false := by rw [ef]; exact frees_no (frees_in hn)
  have h3 := (pos_of hok.isp).1
  obtain ⟨a, ea⟩ : ∃ a, a = x.getD f 0 := ⟨_, rfl⟩
  rw [← ea] at hx ⊢
  refine ⟨fun j _ => Nat.mod_lt _ (by omega), fun i hi => ?_, fun i hi => ?_⟩
  · have hk := nul_ker hinv hfK hfn i hi
    have hy := h.ker i hi
    unfold dotI at hk hy ⊢
    have e1 : Eqm p (sumI (fun j => (el m i j : Int) * (((Y j + a * nulK p (rd p m R K) f (rd p m R K).lead.length j % p) % p : Nat) : Int)) K) (sumI (fun j => (el m i j : Int) * (Y j : Int) + (a : Int) * ((el m i j : Int) * (nulK p (rd p m R K) f (rd p m R K).lead.length j : Int))) K) := sumI_eqm K fun j _ => by
      obtain ⟨k1, h1⟩ := eqm_natmod p (Y j + a * nulK p (rd p m R K) f (rd p m R K).lead.length j % p)
      obtain ⟨k2, h2⟩ := eqm_natmod p (a * nulK p (rd p m R K) f (rd p m R K).lead.length j)
      rw [Int.natCast_add] at h1
      rw [h2, Int.natCast_mul] at h1
      exact ⟨(el m i j : Int) * (k1 + k2), by rw [h1]; grind⟩
    rw [sumI_add, sumI_mul] at e1
    refine e1.trans ?_
    have e2 := hy.add (hk.mulL (a : Int))
    simpa using e2
  · obtain ⟨fi, efi⟩ : ∃ fi, fi = (frees (rd p m R K).lead K).getD i 0 := ⟨_, rfl⟩
    have hF := h.free i hi
    rw [← efi] at hF ⊢
    have hno : (rd p m R K).lead.contains fi = false := by rw [efi]; exact frees_no (frees_in hi)
    have hfiK : fi < K := by rw [efi]; exact frees_mem (frees_in hi)
    rw [nulK_off _ (not_lead hno)]
    by_cases e : i = n
    · subst e
      have e3 : fi = f := by rw [efi, ef]
      subst e3
      rw [if_neg (Nat.lt_irrefl i)] at hF
      rw [if_pos rfl, if_pos (Nat.lt_succ_self i), hF, Nat.mul_one, Nat.zero_add, Nat.mod_mod, Nat.mod_eq_of_lt hx, ea]
    · have hne : fi ≠ f := fun e' => e (frees_inj hi hn (by rw [← efi, ← ef, e']))
      rw [if_neg hne, Nat.mul_zero, Nat.zero_mod, Nat.add_zero, Nat.mod_eq_of_lt (h.lt fi hfiK), hF]
      by_cases h1 : i < n
      · rw [if_pos h1, if_pos (by omega)]
      · rw [if_neg h1, if_neg (by omega)]
theorem Sol.done (hok : Ok p m R K) {Y : Nat → Nat} (h : Sol p R K m v x (frees (rd p m R K).lead K).length Y) (hxw : ∀ j, j < K → x.getD j 0 < p) (hx : ∀ i, i < R → Eqm p (dotI (el m) K (fun j => (x.getD j 0 : Int)) i) (v.getD i 0 : Nat)) : ∀ j, j < K → Y j = x.getD j 0 := by
  have hinv := red_inv hok.isp (m := el m) (fun i hi j hj => hok.el_lt hi hj) K (Nat.le_refl _)
  have hs : red p R (el m) K = rd p m R K := rfl
  rw [hs] at hinv
  have hfree : ∀ j, j < K → (rd p m R K).lead.contains j = false → Y j = x.getD j 0 := fun j hj hno => by
    have hm : j ∈ frees (rd p m R K).lead K := by unfold frees; rw [List.mem_filter]; exact ⟨List.mem_range.2 hj, by rw [hno]; rfl⟩
    obtain ⟨i, hi, e⟩ := List.getElem_of_mem hm
    have := h.free i hi
    rw [if_pos hi, List.getD_eq_getElem?_getD, List.getElem?_eq_getElem hi, e] at this
    exact this
  have hk0 : Ker p R K (el m) fun j => (Y j : Int) - (x.getD j 0 : Int) := fun i hi => by
    have e1 : dotI (el m) K (fun j => (Y j : Int) - (x.getD j 0 : Int)) i = dotI (el m) K (fun j => (Y j : Int)) i - dotI (el m) K (fun j => (x.getD j 0 : Int)) i := by
      unfold dotI
      have := sumI_add (fun j => (el m i j : Int) * (Y j : Int)) (fun j => (-1 : Int) * ((el m i j : Int) * (x.getD j 0 : Int))) K
      rw [sumI_mul] at this
      rw [show sumI (fun j => (el m i j : Int) * (Y j : Int)) K - sumI (fun j => (el m i j : Int) * (x.getD j 0 : Int)) K = sumI (fun j => (el m i j : Int) * (Y j : Int)) K + -1 * sumI (fun j => (el m i j : Int) * (x.getD j 0 : Int)) K by grind, ← this]
      exact sumI_congr K fun j _ => by grind
    rw [e1]
    have := (h.ker i hi).sub (hx i hi)
    rwa [Int.sub_self] at this
  have hk := (hinv.ker _).2 hk0
  intro j hj
  by_cases e : ∃ a, a < (rd p m R K).lead.length ∧ (rd p m R K).lead.getD a 0 = j
  · obtain ⟨a, ha, rfl⟩ := e
    have haR : a < R := by have := hinv.len; omega
    have h1 := hk a haR
    unfold dotI at h1
    rw [sumI_one (a := (rd p m R K).lead.getD a 0) K hj] at h1
    · dsimp only at h1
      rw [hinv.unitc a ha a haR, if_pos rfl] at h1
      refine eqm_lt ?_ (h.lt _ hj) (hxw _ hj)
      obtain ⟨k, hk⟩ := h1
      exact ⟨k, by grind⟩
    · intro c hc hne
      dsimp only
      by_cases e2 : ∃ b, b < (rd p m R K).lead.length ∧ (rd p m R K).lead.getD b 0 = c
      · obtain ⟨b, hb, rfl⟩ := e2
        rw [hinv.unitc b hb a haR, if_neg (fun e => hne (by rw [e]))]; simp
      · rw [hfree c hc (contains_no fun b hb e' => e2 ⟨b, hb, e'⟩)]; simp
  · exact hfree j hj (contains_no fun b hb e' => e ⟨b, hb, e'⟩)

/-- the solution after i rounds -/
def solY (p R K : Nat) (m : List (List Nat)) (v x : List Nat) : Nat → Nat → Nat
  | 0 => solK (rdS p m v R K) K (rdS p m v R K).lead.length
  | i + 1 => fun j => (solY p R K m v x i j + x.getD ((frees (rd p m R K).lead K).getD i 0) 0 * nulK p (rd p m R K) ((frees (rd p m R K).lead K).getD i 0) (rd p m R K).lead.length j % p) % p
theorem solY_sol (hok : Ok p m R K) (hvl : v.length = R) (hvw : within p v = true) (hs : ¬ Stuck (rdS p m v R K) R K) (hxl : x.length = K) (hxw : within p x = true) : ∀ i, i ≤ (frees (rd p m R K).lead K).length → Sol p R K m v x i (solY p R K m v x i)
  | 0, _ => Sol.start hok hvl hvw hs
  | i + 1, hi => (solY_sol hok hvl hvw hs hxl hxw i (by omega)).step hok (by omega) (within_mem hxw (by rw [hxl]; exact frees_mem (frees_in (by omega))))
/-- all that the law's loops meet -/
theorem sol_facts (hok : Ok p m R K) (hxl : x.length = K) (hxw : within p x = true) (hv : v = tabM R (app p m x)) :
    v.length = R ∧ within p v = true ∧ ¬ Stuck (rdS p m v R K) R K ∧ tabM R (app p m (tabM K (solY p R K m v x 0))) = v ∧ within p (tabM K (solY p R K m v x 0)) = true ∧
      (∀ i, i ≤ (frees (rd p m R K).lead K).length → ∀ j, j < K → solY p R K m v x i j < p) ∧
      (∀ i, i < (frees (rd p m R K).lead K).length → solY p R K m v x i ((frees (rd p m R K).lead K).getD i 0) = 0) ∧
      tabM K (solY p R K m v x (frees (rd p m R K).lead K).length) = x := by
  have h3 := (pos_of hok.isp).1
  have hvl : v.length = R := by rw [hv, tabM_len]
  have hal : ∀ z i, app p m z i < p := fun z i => Nat.mod_lt _ (by omega)
  have hvw : within p v = true := by rw [hv]; exact within_tabM fun j _ => hal _ _
  have hvg : ∀ i, i < R → v.getD i 0 = app p m x i := fun i hi => by rw [hv, tabM_at _ hi]
  have hX : ∀ i, i < R → Eqm p (dotI (el m) K (fun j => (x.getD j 0 : Int)) i) (v.getD i 0 : Nat) := fun i hi => by
    rw [hvg i hi]; exact (app_eqm hok.all x hi).symm
  have hns := not_stuck hok hvl hvw (X := fun j => x.getD j 0) hX
  have hsol := solY_sol hok hvl hvw hns hxl hxw
  refine ⟨hvl, hvw, hns, ?_, within_tabM fun j hj => (hsol 0 (by omega)).lt j hj, fun i hi j hj => (hsol i hi).lt j hj, fun i hi => ?_, ?_⟩
  · refine ext_getD3 (by rw [tabM_len, hvl]) fun i hi => ?_
    rw [tabM_len] at hi
    rw [tabM_at _ hi]
    refine eqm_lt (p := p) ?_ (hal _ _) (by rw [hvg i hi]; exact hal _ _)
    refine (app_eqm hok.all _ hi).trans (Eqm.trans (Eqm.of_eq ?_) ((hsol 0 (by omega)).ker i hi))
    unfold dotI
    exact sumI_congr K fun j hj => by dsimp only; rw [tabM_at _ hj]
  · rw [(hsol i (by omega)).free i hi, if_neg (Nat.lt_irrefl i)]
  · refine ext_getD3 (by rw [tabM_len, hxl]) fun j hj => ?_
    rw [tabM_len] at hj
    rw [tabM_at _ hj]
    exact (hsol _ (Nat.le_refl _)).done hok (fun j hj => within_mem hxw (by omega)) hX j hj
end
end Go.Proofs.Ytfgfapbhgehfiaa.M
