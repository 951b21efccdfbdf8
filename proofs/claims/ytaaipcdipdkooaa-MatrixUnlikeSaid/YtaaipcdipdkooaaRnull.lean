/-
  The reference's Null.
-/
import Derived.Test.YtaaipcdipdkooaaFree
import Derived.Test.YtaaipcdipdkooaaMr15
import Derived.Outline
namespace Go.Proofs.Ytaaipcdipdkooaa
open Go.RowKit
set_option linter.unusedVariables false

set_option maxHeartbeats 8000000 in
set_option maxRecDepth 100000 in
theorem rnull_any (p R K : Nat) (v : Value) (m : List (List Nat)) (w : World) (hok : M.Ok p m R K) (hv : Mat w v m) :
    Calls Try.prog 37 #[.int .u64 p, v] w fun e w' => ∃ v', e = .returned v' ∧ Mat w' v' (M.nulM p (M.rd p m R K) K) ∧ Below w.heap.size w w' := by
  obtain ⟨h3, hp⟩ := M.pos_of hok.isp
  have H5 := rreduce_any p R K K v m w hok.isp hok.tab (Nat.le_refl _) hv
  have H6 := fun W (hW : Mat W v m) => rfree_any p R K v m W hok hW
  have hinv := M.red_inv hok.isp (m := M.el m) (fun i hi' j hj => hok.tab.el_lt hi' hj) K (Nat.le_refl _)
  have hlenR := hinv.len
  have hR64 := hok.R64
  have hR1 := hok.R1
  have hK64 := hok.K64
  have hK1 := hok.K1
  unfold RredEnd at H5
  unfold M.rd at H6 ⊢
  obtain ⟨s, es⟩ : ∃ s, M.red p R (M.el m) K = s := ⟨_, rfl⟩
  rw [es] at H5 H6 hinv hlenR ⊢
  have HINV := Lib.hid hinv
  have HV := Lib.hid hv
  obtain ⟨A, cap, rfl, _, _, hrows⟩ := mat_view hv
  rw [hok.rows] at hrows H5 H6 HV ⊢
  obtain ⟨bm, om, rfl, hbm, hcells⟩ := hrows (by omega)
  obtain ⟨A0, k0, cm, _⟩ := hcells 0 (by omega)
  rw [Nat.add_zero, hok.cols 0 (by omega)] at cm
  have CM := Lib.hid cm
  have H5 := Lib.hid H5
  have H6 := Lib.hid H6
  obtain ⟨cs, hmk, hmrow⟩ := make_u64 K (by omega)
  have HMK := Lib.hid hmk
  have HMR := Lib.hid hmrow
  clear hrows hcells hok hinv es hv hmk hmrow
  go_enter Try.func37, Try.ntmps37
  go_wp2_with fail
  refine H5.out.mono ?_
  rintro e w1 ⟨B, cp, G, Cp, vl, rfl, hcp, hM, hO, hb1⟩
  obtain ⟨L, eL⟩ : ∃ L, s.lead.length = L := ⟨_, rfl⟩
  have EL := Lib.hid eL
  obtain ⟨Al, cl, evl⟩ := reduce_vp hO
  rw [eL] at evl hlenR
  subst evl
  have I1 := Lib.hid (ints_of_owns hO)
  have B1 := Lib.hid hb1
  have M1 := Lib.hid hM
  clear hM hO hb1 eL
  go_wp2_with fail
  refine (H6.out _ (HV.out.below B1.out)).mono ?_
  rintro e w2 ⟨vf, rfl, hI, hb2⟩
  obtain ⟨n, en⟩ : ∃ n, (M.frees s.lead K).length = n := ⟨_, rfl⟩
  have EN := Lib.hid en
  have hnK := M.frees_len s.lead K
  obtain ⟨Af, cf, evf, hcf, hfc⟩ := hI
  rw [en] at evf hcf hfc hnK
  subst evf
  have HFC := Lib.hid hfc
  have I2 := Lib.hid (I1.out.below hb2)
  have M2 := Lib.hid (M1.out.below hb2 (Nat.le_refl _))
  have B2 := Lib.hid (bnext B1.out hb2)
  clear hb2 hfc en
  go_wp2_with fail
  go_loopw [27, 7] (fun ti tl wr => ∃ i : Nat, i ≤ n ∧ ti = .int .i64 i ∧ (∃ G' Cp', MatA wr w2.heap.size tl i K G' Cp' (fun i => M.nulK p s ((M.frees s.lead K).getD i 0) L)) ∧ Below w2.heap.size w2 wr) (fun ti _ _ => n - (intOf ti).toNat)
  case atStart => exact ⟨0, by omega, rfl, ⟨_, _, MatA.start _ _ _ _⟩, Below.refl _ _⟩
  case round =>
    obtain ⟨i, hi, rfl, ⟨G', Cp', hA⟩, hB⟩ := hrel
    have HA := Lib.hid hA
    have HB := Lib.hid hB
    obtain ⟨Ao, co, hform⟩ := hA.form
    subst hform
    clear hA hB
    by_cases hin : i < n
    · obtain ⟨bf, rfl, hbf, hfcell⟩ := HFC.out (by omega)
      have cf' := (HB.out.cell (p := ⟨bf, i, none⟩) hbf).trans (hfcell i hin)
      have hfK := M.frees_lt (l := s.lead) (c := K) (i := i) (by rw [EN.out]; exact hin)
      obtain ⟨f, ef⟩ : ∃ f, (M.frees s.lead K).getD i 0 = f := ⟨_, rfl⟩
      rw [ef] at cf' hfK
      have EF := Lib.hid ef
      have B3 := Lib.hid (bnext B2.out HB.out)
      have cm1 := (B3.out.cell (p := ⟨bm, om, none⟩) hbm).trans CM.out
      have hmk := HMK.out
      have hq := HMR.out wr
      have z1 := hq.cell hfK
      have z2 := hq.free f
      have hset := hq.set hfK 1
      have HSET := Lib.hid hset
      clear hset hq hfcell ef
      go_wp2_with fail
      have e5 : (wr.alloc (.cells cs 22)).setCell ⟨wr.heap.size, f, none⟩ (.int .u64 (1 : Nat)) = wr.alloc (.cells (cs.setIfInBounds f (.int .u64 1)) 22) := World.setCell_alloc_new cs _ f _
      have hset5 := HSET.out
      rw [e5] at hset5
      have HSET := Lib.hid hset5
      have hb5 := balloc wr (.cells (cs.setIfInBounds f (.int .u64 1)) 22)
      obtain ⟨gx, egx⟩ : ∃ gx, wr.heap.size = gx := ⟨_, rfl⟩
      rw [egx] at HSET hb5 ⊢
      have EGX := Lib.hid egx
      have HB5 := Lib.hid hb5
      clear hb5 egx hmk z1 z2 e5 hset5
      go_loopw [41] (fun tk wq => ∃ k : Nat, k ≤ L ∧ tk = .int .i64 k ∧ Row wq gx K (M.nulK p s f k) ∧ Below gx wr wq) (fun tk _ => L - (intOf tk).toNat)
      case atStart => exact ⟨0, by omega, rfl, HSET.out.congr fun j hj => rfl, HB5.out⟩
      case round =>
        obtain ⟨k, hk, rfl, hr, hbq⟩ := hrel
        have HR := Lib.hid hr
        have HBQ := Lib.hid hbq
        clear hr hbq
        have hgx := EGX.out
        by_cases hkL : k < L
        · have hbq2 := HB.out.trans (HBQ.out.mono (by rw [← hgx]; exact HB.out.size))
          obtain ⟨A', cap', e, hcp', h2⟩ := I2.out.below hbq2
          simp only [Value.slice.injEq] at e
          obtain ⟨rfl, -, -⟩ := e
          obtain ⟨bp, rfl, _, hcell⟩ := h2 (by rw [EL.out]; omega)
          have cx := hcell k (by rw [EL.out]; exact hkL)
          have hcol := HINV.out.ltk k (by rw [EL.out]; exact hkL)
          have hkR : k < R := by omega
          have hM3 := M2.out.below hbq2 (Nat.le_refl _)
          have q1 := hM3.cell hkR
          have q2 := (hM3.row k hkR).cell hfK
          have hxl := HINV.out.lt k hkR f hfK
          obtain ⟨c, ec⟩ : ∃ c, s.lead.getD k 0 = c := ⟨_, rfl⟩
          rw [ec] at cx hcol
          obtain ⟨x, ex⟩ : ∃ x, s.m k f = x := ⟨_, rfl⟩
          rw [ex] at q2 hxl
          have q3 := HR.out.cell hcol
          have q4 := HR.out.free c
          have hsu : ∀ W, Calls Try.prog 62 #[.int .u64 p, .int .u64 0, .int .u64 x] W fun e w' => e = .returned (.int .u64 ((p - x) % p : Nat)) ∧ W = w' := fun W => (refSub_any p 0 x W (by omega) hp (by omega) hxl).mono fun e w' h => by rw [Nat.zero_add] at h; exact h
          have hset := (HR.out.set hcol ((p - x) % p)).congr (F' := M.nulK p s f (k + 1)) (fun j hj => by rw [M.nulK, ec, ex])
          obtain ⟨u, eu⟩ : ∃ u, (p - x) % p = u := ⟨_, rfl⟩
          rw [eu] at hsu hset
          have HSU := Lib.hid hsu
          have HS := Lib.hid hset
          clear hsu hset hM3 hcell h2 ec ex eu hbq2
          go_wp2_with fail
          refine (HSU.out _).mono ?_
          rintro e w' ⟨rfl, rfl⟩
          go_wp2_with fail
          go_roundw
          case rel => exact ⟨k + 1, by omega, by go_num, HS.out, HBQ.out.setCell (p := ⟨gx, c, none⟩) (Nat.le_refl _) _⟩
          case measure => simp [intOf]; omega
        · obtain rfl : L = k := by omega
          have hsz := HBQ.out.size
          have hwx : w2.heap.size ≤ gx := by rw [← hgx]; exact HB.out.size
          have hrow : Row wr gx K (M.nulK p s ((M.frees s.lead K).getD i 0) L) := by rw [EF.out]; exact HR.out
          have hne : ∀ j, j < i → G' j ≠ gx := fun j hj => by have := (HA.out.row j hj).lt; omega
          have HA2 := Lib.hid (HA.out.below HBQ.out (by omega))
          have HROW := Lib.hid hrow
          have HNE := Lib.hid hne
          have hs2 : w2.heap.size ≤ wr.heap.size := by omega
          have hi1000 : i ≤ 1000 := by omega
          have HB6 := Lib.hid (HB.out.trans (HBQ.out.mono hwx))
          clear hrow hne
          go_wp2_with (at_builtin; refine wpList_append_row (k := i) (F := fun i => M.nulK p s ((M.frees s.lead K).getD i 0) L) rfl _ _ rfl rfl (by rfl) HA2.out HROW.out hwx (Nat.le_refl _) HNE.out hi1000 hs2 ?_)
          intro v4 w5 hA5 hb5
          have HA5 := Lib.hid hA5
          have HB7 := Lib.hid (HB6.out.trans hb5)
          clear hA5 hb5
          go_wp2_with fail
          go_roundw
          case rel => exact ⟨i + 1, by omega, by go_num, ⟨_, _, HA5.out⟩, HB7.out⟩
          case measure => simp [intOf]; omega
    · obtain rfl : n = i := by omega
      go_wp2_with fail
      go_ret
      refine ⟨_, rfl, ?_, bnext B2.out HB.out⟩
      unfold M.nulM
      rw [EN.out, EL.out]
      exact HA.out.mat (by omega) (by omega) (fun i hi j hj => Nat.lt_of_lt_of_le (M.nulK_lt (p := p) (by omega) _ _) (by omega))
end Go.Proofs.Ytaaipcdipdkooaa
