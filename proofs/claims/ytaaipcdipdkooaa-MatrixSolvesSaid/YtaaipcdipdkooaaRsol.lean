/-
  The reference's Solve.
-/
import Derived.Test.YtaaipcdipdkooaaRbes
import Derived.Test.YtaaipcdipdkooaaMr15
import Derived.Outline
namespace Go.Proofs.Ytaaipcdipdkooaa
open Go.RowKit
set_option linter.unusedVariables false

def RsolEnd (w : World) (p R K : Nat) (m : List (List Nat)) (zs : List Nat) (e : Ending) (w' : World) : Prop :=
  Below w.heap.size w w' ∧ ((M.Stuck (M.rdS p m zs R K) R K ∧ e = .returned (.tuple #[.slice none 0 0, .bool false])) ∨
    (¬ M.Stuck (M.rdS p m zs R K) R K ∧ ∃ g cap, e = .returned (.tuple #[.slice (some ⟨g, 0, none⟩) K cap, .bool true]) ∧ w.heap.size ≤ g ∧ K ≤ cap ∧ Row w' g K (M.solK (M.rdS p m zs R K) K (M.rdS p m zs R K).lead.length)))

set_option maxHeartbeats 8000000 in
set_option maxRecDepth 100000 in
theorem rsolve_any (p R K : Nat) (v : Value) (m : List (List Nat)) (vv : Value) (zs : List Nat) (w : World) (hok : M.Ok p m R K) (hv : Mat w v m) (hz : Nums w vv zs) (hzl : zs.length = R) (hzw : M.within p zs = true) :
    Calls Try.prog 35 #[.int .u64 p, v, vv] w (RsolEnd w p R K m zs) := by
  obtain ⟨h3, hp⟩ := M.pos_of hok.isp
  have hR64 := hok.R64
  have hR1 := hok.R1
  have hK1 := hok.K1
  have hK64 := hok.K64
  have HV := Lib.hid hv
  have hap : ∀ i, i < R → [zs.getD i 0].length = 1 ∧ M.within p [zs.getD i 0] = true := fun i hi => ⟨rfl, by have := M.within_mem hzw (k := i) (by omega); simp [M.within] at this ⊢; exact this⟩
  have hblt := M.besF_lt (E := 1) hok (ap := fun i => [zs.getD i 0]) hap
  have hinv := M.red_inv hok.isp hblt K (by omega)
  obtain ⟨s, es⟩ : ∃ s, M.rdS p m zs R K = s := ⟨_, rfl⟩
  have es' : M.red p R (M.besF m fun i => [zs.getD i 0]) K = s := es
  rw [es'] at hinv
  have HINV := Lib.hid hinv
  have hlenR := hinv.len
  unfold RsolEnd
  rw [es]
  have HBES := Lib.hid fun (W : World) (vb : Value) (hW : Mat W v m) (hB : Mat W vb (M.tabMM R 1 fun i _ => zs.getD i 0)) => rbeside_any p R K 1 v vb m (M.tabMM R 1 fun i _ => zs.getD i 0) (fun i => [zs.getD i 0]) W hp hR64 hK64 hK1 (by omega) hok.rows (M.tabMM_len _ _ _) hok.cols (fun i hi => by rw [M.tabMM_at _ _ hi]; simp [M.tabM]) (fun i hi => rfl) hblt hW hB
  have htab : M.Tab p (M.tabMM R (K + 1) (M.besF m fun i => [zs.getD i 0])) R (K + 1) := ⟨M.tabMM_len _ _ _, hR1, hR64, by omega, by omega, fun i hi => by rw [M.tabMM_at _ _ hi, M.tabM_len], fun i hi => by rw [M.tabMM_at _ _ hi]; exact M.within_tabM (hblt i hi)⟩
  have HRED := Lib.hid fun (W : World) (u : Value) hW => rreduce_any p R (K + 1) K u (M.tabMM R (K + 1) (M.besF m fun i => [zs.getD i 0])) W hok.isp htab (by omega) hW
  have hag := M.red_congr (p := p) (R := R) (K := K + 1) (m := M.el (M.tabMM R (K + 1) (M.besF m fun i => [zs.getD i 0]))) (m' := M.besF m fun i => [zs.getD i 0]) (fun i hi j hj => M.tabMM_el _ hi hj) K (by omega)
  rw [es'] at hag
  have HAG := Lib.hid hag
  obtain ⟨A, cap, rfl, _, _, hrows⟩ := mat_view hv
  obtain ⟨hzb, _, hz3⟩ := id hz
  rw [hok.rows] at hrows HV HBES ⊢
  have hlt : ∀ i, i < R → zs.getD i 0 < 18446744073709551616 := fun i hi => hzb _ (by rw [List.getD_eq_getElem?_getD, List.getElem?_eq_getElem (by omega)]; exact List.getElem_mem _)
  have HLTZ := Lib.hid hlt
  obtain ⟨bm, om, rfl, hbm, hcells⟩ := hrows (by omega)
  obtain ⟨A0, k0, cm, _⟩ := hcells 0 (by omega)
  rw [Nat.add_zero, hok.cols 0 (by omega)] at cm
  rcases hz3 with ⟨_, _, _, e0, _⟩ | ⟨bz, oz, cz, rfl, hcz, hbz, hzc⟩
  · rw [e0] at hzl; simp at hzl; omega
  rw [hzl] at hzc hcz ⊢
  have HZC := Lib.hid hzc
  have HL1 := Lib.hid es
  have HCM := Lib.hid cm
  clear hv hz hzb hrows hcells hzc hap hblt hinv es es' htab hag hok hzl hzw hlt cm
  go_enter Try.func35, Try.ntmps35
  go_wp2_with fail
  go_loopw [19, 8] (fun ti tv wr => ∃ k : Nat, k ≤ R ∧ ti = .int .i64 k ∧ (∃ G Cp, MatA wr w.heap.size tv k 1 G Cp (fun i _ => zs.getD i 0)) ∧ Below w.heap.size w wr) (fun ti _ _ => R - (intOf ti).toNat)
  case atStart => exact ⟨0, by omega, rfl, ⟨_, _, MatA.start _ _ _ _⟩, Below.refl _ _⟩
  case round =>
    obtain ⟨k, hk, rfl, ⟨G, Cp, hA⟩, hB⟩ := hrel
    have HA := Lib.hid hA
    have HB := Lib.hid hB
    obtain ⟨Ao, co, hform⟩ := hA.form
    subst hform
    clear hA hB
    by_cases hlt : k < R
    · have d1 := (HB.out.cell (p := ⟨bz, oz + k, none⟩) hbz).trans (HZC.out k hlt)
      obtain ⟨x, ex⟩ : ∃ x, zs.getD k 0 = x := ⟨_, rfl⟩
      rw [ex] at d1
      have hb1 := balloc wr (.cells #[.int .u64 (x : Nat)] 22)
      have hA3 := HA.out.below hb1 (Nat.le_refl _)
      have hrow : Row (wr.alloc (.cells #[.int .u64 (x : Nat)] 22)) wr.heap.size 1 (fun _ => zs.getD k 0) := ⟨_, heap_alloc_new wr _, fun j hj => by
        obtain rfl : j = 0 := (by omega)
        show _ = some (Value.int .u64 (zs.getD k 0 : Nat))
        rw [ex]; rfl⟩
      have hne : ∀ i, i < k → G i ≠ wr.heap.size := fun i hi => by have := (HA.out.row i hi).lt; omega
      have HA3 := Lib.hid hA3
      have HROW := Lib.hid hrow
      have HNE := Lib.hid hne
      have hk2 : k ≤ 1000 := by omega
      have hws := HB.out.size
      have hs3 := Nat.le_trans hws hb1.size
      have HB1 := Lib.hid hb1
      have HSZ := Lib.hid (show (wr.alloc (.cells #[.int .u64 (x : Nat)] 22)).heap.size = wr.heap.size + 1 by simp)
      clear hA3 hrow hne hb1
      go_wp2_with (at_builtin; go_loud (refine wpList_append_row rfl _ _ rfl rfl (by rw [HSZ.out]; rfl) HA3.out HROW.out hws (Nat.le_refl _) HNE.out hk2 hs3 ?_))
      intro v4 w5 hA5 hb5
      have HA5 := Lib.hid hA5
      have HB5 := Lib.hid ((HB.out.trans (HB1.out.mono hws)).trans hb5)
      clear hA5 hb5
      go_wp2_with fail
      go_roundw
      case rel => exact ⟨k + 1, by omega, by go_num, ⟨_, _, HA5.out⟩, HB5.out⟩
      case measure => simp [intOf]; omega
    · obtain rfl : R = k := by omega
      have cm2 := (HB.out.cell (p := ⟨bm, om, none⟩) hbm).trans HCM.out
      have HMB := Lib.hid (HA.out.mat (by omega) (by omega) fun i hi j hj => HLTZ.out i hi)
      go_wp2_with fail
      refine (HBES.out wr _ (HV.out.below HB.out) HMB.out).mono ?_
      rintro e w2 ⟨v2, rfl, hm2, hb2⟩
      have HM2 := Lib.hid hm2
      have HB2 := Lib.hid (bnext HB.out hb2)
      clear hm2 hb2
      go_wp2_with fail
      refine (HRED.out w2 v2 HM2.out).mono ?_
      rintro e w3 ⟨B, cp, G', Cp', vl, rfl, hcp, hM, hO, hb3⟩
      obtain ⟨hg1, hg2, hg3, hg4⟩ := HAG.out
      rw [hg1] at hO
      have hM' := hM.congr (F' := s.m) hg4
      obtain ⟨L, eL⟩ : ∃ L, s.lead.length = L := ⟨_, rfl⟩
      have EL := Lib.hid eL
      obtain ⟨Al, cl, evl⟩ := reduce_vp hO
      rw [eL] at evl hO
      subst evl
      have hLR : L ≤ R := by omega
      have hbw := HB2.out.size
      have hbB := hM'.baseB
      have HMO := Lib.hid hM'
      have HO := Lib.hid hO
      have HB3 := Lib.hid (bnext HB2.out hb3)
      obtain ⟨cs, hmk, hmrow⟩ := make_u64 K (by omega)
      have HMR := Lib.hid hmrow
      clear hM hM' hO hb3 hg1 hg2 hg3 hg4 eL cm2 hmrow
      go_wp2_with fail
      obtain ⟨gx, egx⟩ : ∃ gx, gx = w3.heap.size := ⟨_, rfl⟩
      obtain ⟨W5, eW5⟩ : ∃ W5, W5 = w3.alloc (.cells cs 22) := ⟨_, rfl⟩
      rw [← egx, ← eW5]
      have hr5 : Row W5 gx K (fun _ => 0) := by rw [eW5, egx]; exact HMR.out w3
      have hm5 : MatO W5 w2.heap.size B R (K + 1) G' Cp' s.m := by rw [eW5]; exact HMO.out.alloc _
      have ho5 : W5.ownsRow w2.heap.size 3 1 (.slice Al L cl) L (ints s.lead) := by rw [eW5]; exact HO.out.alloc _
      have hB5 : Below w.heap.size w W5 := by rw [eW5]; exact HB3.out.alloc HB3.out.size _
      have nB : B ≠ gx := by have := HMO.out.lt; omega
      have nG : ∀ i, i < R → G' i ≠ gx := fun i hi => by have := (HMO.out.row i hi).lt; omega
      have nP : (Value.slice Al L cl).ownBlock ≠ some gx := by
        intro e
        have := (HO.out.lt gx e).2
        omega
      have hwx : w.heap.size ≤ gx := by have := HB3.out.size; omega
      have HR5 := Lib.hid hr5
      have HM5 := Lib.hid hm5
      have HO5 := Lib.hid ho5
      have HB5 := Lib.hid hB5
      have NG := Lib.hid nG
      have NP := Lib.hid nP
      clear hr5 hm5 ho5 hB5 nG nP egx eW5 hmk HMR
      go_loopw [46] (fun ti wr => ∃ k : Nat, k ≤ R ∧ ti = .int .i64 k ∧ Row wr gx K (M.solK s K (min k L)) ∧ MatO wr w2.heap.size B R (K + 1) G' Cp' s.m ∧ wr.ownsRow w2.heap.size 3 1 (.slice Al L cl) L (ints s.lead) ∧ Below w.heap.size w wr ∧ ∀ i, L ≤ i → i < k → s.m i K = 0) (fun ti _ => R - (intOf ti).toNat)
      case atStart => exact ⟨0, by omega, rfl, by rw [Nat.zero_min]; exact HR5.out, HM5.out, HO5.out, HB5.out, fun i h1 h2 => absurd h2 (by omega)⟩
      case round =>
        obtain ⟨k, hk, rfl, hr, hM, hO, hB, hz⟩ := hrel
        have HR6 := Lib.hid hr
        have HM6 := Lib.hid hM
        have HO6 := Lib.hid hO
        have HB6 := Lib.hid hB
        have HZ6 := Lib.hid hz
        clear hr hM hO hB hz HR5 HM5 HO5 HB5 HMO HO HM2 HMB
        by_cases hkR : k < R
        · have q1 := HM6.out.cell hkR
          have q2 := (HM6.out.row k hkR).cell (j := K) (by omega)
          obtain ⟨x, ex⟩ : ∃ x, s.m k K = x := ⟨_, rfl⟩
          rw [ex] at q2
          have hxl := HINV.out.lt k hkR K (by omega)
          rw [ex] at hxl
          obtain ⟨gk, egk⟩ : ∃ gk, G' k = gk := ⟨_, rfl⟩
          obtain ⟨ck, eck⟩ : ∃ ck, Cp' k = ck := ⟨_, rfl⟩
          rw [egk, eck] at q1
          rw [egk] at q2
          have EX := Lib.hid ex
          clear ex egk eck
          by_cases hkL : k < L
          · obtain ⟨A', cap', e, hc, h2⟩ := ints_of_owns HO6.out
            simp only [Value.slice.injEq] at e
            obtain ⟨rfl, -, -⟩ := e
            obtain ⟨bp, rfl, _, hcell⟩ := h2 (by rw [EL.out]; omega)
            have cl' := hcell k (by rw [EL.out]; exact hkL)
            have hcol := HINV.out.ltk k (by rw [EL.out]; exact hkL)
            obtain ⟨c, ec⟩ : ∃ c, s.lead.getD k 0 = c := ⟨_, rfl⟩
            rw [ec] at cl' hcol
            have q3 := HR6.out.cell hcol
            have q4 := HR6.out.free c
            have hset := (HR6.out.set hcol x).congr (F' := M.solK s K (min (k + 1) L)) (fun j hj => by
              rw [show min (k + 1) L = k + 1 by omega, show min k L = k by omega, M.solK, ec, EX.out])
            have HSET := Lib.hid hset
            clear hset hcell h2 ec
            go_wp2_with fail
            go_region
            go_wp2_with fail
            go_roundw
            case rel => exact ⟨k + 1, by omega, by go_num, HSET.out, (HM6.out.far (p := ⟨gx, c, none⟩) nB NG.out _).heap rfl, ownsRow_setCell_other HO6.out NP.out _, (HB6.out.setCell (p := ⟨gx, c, none⟩) hwx _).drew, fun i h1 h2 => absurd h2 (by omega)⟩
            case measure => simp [intOf]; omega
          · by_cases hx0 : x = 0
            · have hxb : ((x : Int) != 0) = false := by simp [hx0]
              have HX0 := Lib.hid hx0
              clear hx0
              go_wp2_with fail
              go_roundw
              case rel => exact ⟨k + 1, by omega, by go_num, by rw [show min (k + 1) L = min k L by omega]; exact HR6.out, HM6.out, HO6.out, HB6.out, fun i h1 h2 => by
                by_cases e : i = k
                · rw [e, EX.out]; exact HX0.out
                · exact HZ6.out i h1 (by omega)⟩
              case measure => simp [intOf]; omega
            · have hxb : ((x : Int) != 0) = true := by simp; omega
              have HX0 := Lib.hid hx0
              clear hx0
              go_wp2_with fail
              go_ret2
              exact ⟨HB6.out, .inl ⟨⟨k, by rw [EL.out]; omega, hkR, by rw [EX.out]; exact HX0.out⟩, rfl⟩⟩
        · obtain rfl : R = k := by omega
          have hr7 := HR6.out
          rw [show min R L = L by omega] at hr7
          have HR7 := Lib.hid hr7
          have hns : ¬ M.Stuck s R K := by
            rintro ⟨i, h1, h2, h3⟩
            rw [EL.out] at h1
            exact h3 (HZ6.out i h1 h2)
          have HNS := Lib.hid hns
          clear hr7 hns
          go_wp2_with fail
          go_ret2
          refine ⟨HB6.out, .inr ⟨HNS.out, gx, K, rfl, hwx, Nat.le_refl _, ?_⟩⟩
          rw [EL.out]
          exact HR7.out
end Go.Proofs.Ytaaipcdipdkooaa
