/-
  What Null answers is a matrix of its own.
-/
import Derived.Test.YtgoognipljknjaaPnull
namespace Go.Proofs.Ytgoognipljknjaa
open Go.RowKit
set_option linter.unusedVariables false

set_option maxHeartbeats 8000000 in
set_option maxRecDepth 100000 in
theorem null_own (p R K : Nat) (v : Value) (m : List (List Nat)) (w : World) (hok : M.Ok p m R K) (hv : Mat w v m) :
    Calls Try.prog 20 #[.int .u64 p, v] w fun e w' => ∃ v' base G Cp, e = .returned (.tuple #[v', .int .i64 0]) ∧ w.heap.size ≤ base ∧ MatA w' base v' (M.frees (M.rd p m R K).lead K).length K G Cp (fun i => M.nulK p (M.rd p m R K) ((M.frees (M.rd p m R K).lead K).getD i 0) (M.rd p m R K).lead.length) ∧ Below w.heap.size w w' := by
  obtain ⟨h3, hp⟩ := M.pos_of hok.isp
  have H5 := mreduce_ok p R K v m w hok hv
  have hinv := M.red_inv hok.isp (m := M.el m) (fun i hi' j hj => hok.tab.el_lt hi' hj) K (Nat.le_refl _)
  have hlenR := hinv.len
  have hR64 := hok.R64
  have hR1 := hok.R1
  have hK64 := hok.K64
  have hK1 := hok.K1
  unfold ReducedOk at H5
  unfold M.rd at H5 ⊢
  obtain ⟨s, es⟩ : ∃ s, M.red p R (M.el m) K = s := ⟨_, rfl⟩
  rw [es] at H5 hinv hlenR ⊢
  have HINV := Lib.hid hinv
  have HV := Lib.hid hv
  have hs1 : ((0 : Int) != 0) = false := rfl
  obtain ⟨A, cap, rfl, _, _, hrows⟩ := mat_view hv
  rw [hok.rows] at hrows H5 HV ⊢
  obtain ⟨bm, om, rfl, hbm, hcells⟩ := hrows (by omega)
  obtain ⟨A0, k0, cm, _⟩ := hcells 0 (by omega)
  rw [Nat.add_zero, hok.cols 0 (by omega)] at cm
  have CM := Lib.hid cm
  have H5 := Lib.hid H5
  clear hrows hcells hok hinv es hv
  go_enter Try.func20, Try.ntmps20
  go_wp2_with fail
  refine H5.out.mono ?_
  rintro e w1 ⟨hb1, B, cp, G, Cp, vl, rfl, hcp, hM, hI⟩
  obtain ⟨L, eL⟩ : ∃ L, s.lead.length = L := ⟨_, rfl⟩
  have EL := Lib.hid eL
  obtain ⟨Al, cl, evl, hcl, hpc⟩ := hI
  rw [eL] at evl hcl hpc hlenR
  subst evl
  have HPC := Lib.hid hpc
  have I1 : Hid (Ints w1 (.slice Al L cl) s.lead) := Lib.hid ⟨Al, cl, by rw [EL.out], by rw [EL.out]; exact hcl, by rw [EL.out]; exact hpc⟩
  have cm1 := (hb1.cell (p := ⟨bm, om, none⟩) hbm).trans CM.out
  have B1 := Lib.hid hb1
  have M1 := Lib.hid hM
  clear hM hpc hb1 eL
  go_wp2_with fail
  go_loopw [28, 9] (fun tc tl wr => ∃ c : Nat, c ≤ K ∧ tc = .int .i64 c ∧ (∃ G' Cp', MatA wr w1.heap.size tl (M.frees s.lead c).length K G' Cp' (fun i => M.nulK p s ((M.frees s.lead K).getD i 0) L)) ∧ Below w1.heap.size w1 wr) (fun tc _ _ => K - (intOf tc).toNat)
  case atStart => exact ⟨0, by omega, rfl, ⟨_, _, MatA.start _ _ _ _⟩, Below.refl _ _⟩
  case round =>
    obtain ⟨c, hcK, rfl, ⟨G', Cp', hA⟩, hB⟩ := hrel
    have hA' := hA
    have HB := Lib.hid hB
    obtain ⟨n, en⟩ : ∃ n, (M.frees s.lead c).length = n := ⟨_, rfl⟩
    have hnc := M.frees_len s.lead c
    rw [en] at hA' hnc
    have EN := Lib.hid en
    have HA := Lib.hid hA'
    obtain ⟨Ao, co, hform⟩ := hA'.form
    subst hform
    clear hA hA' hB en cm1
    by_cases hlt : c < K
    · obtain ⟨bb, ebb⟩ : ∃ bb, s.lead.contains c = bb := ⟨_, rfl⟩
      have HCON := Lib.hid (contains_any (.slice Al L cl) s.lead c wr (by rw [EL.out]; omega) (I1.out.below HB.out) ebb)
      have EBB := Lib.hid ebb
      have B3 := Lib.hid (bnext B1.out HB.out)
      have cm1 := (B3.out.cell (p := ⟨bm, om, none⟩) hbm).trans CM.out
      clear ebb
      go_wp2_with fail
      refine HCON.out.mono ?_
      rintro e w' ⟨rfl, rfl⟩
      cases bb with
      | true =>
        go_wp2_with fail
        go_roundw
        case rel =>
          refine ⟨c + 1, by omega, by go_num, ⟨G', Cp', ?_⟩, HB.out⟩
          rw [M.frees_succ, EBB.out, if_pos rfl, List.append_nil, EN.out]
          exact HA.out
        case measure => simp [intOf]; omega
      | false =>
        have HU := Lib.hid (unit_any K c wr (by omega) hlt)
        go_wp2_with fail
        refine HU.out.mono ?_
        rintro e w3 ⟨g, cg, rfl, hg, hcg, hr, hb3⟩
        have HR := Lib.hid hr
        have HB4 := Lib.hid hb3
        clear hr hb3
        go_wp2_with fail
        have hbq0 := HB.out.trans (HB4.out.mono HB.out.size)
        have HBQ0 := Lib.hid hbq0
        clear hbq0 cm1
        go_loopw [42] (fun tk wq => ∃ k : Nat, k ≤ L ∧ tk = .int .i64 k ∧ Row wq g K (M.nulK p s c k) ∧ Below wr.heap.size wr wq) (fun tk _ => L - (intOf tk).toNat)
        case atStart => exact ⟨0, by omega, rfl, HR.out.congr fun j hj => rfl, HB4.out⟩
        case round =>
          obtain ⟨k, hk, rfl, hr, hbq⟩ := hrel
          have HR5 := Lib.hid hr
          have HBQ := Lib.hid hbq
          clear hr hbq HR HB4 HBQ0
          by_cases hkL : k < L
          · have hbq2 := HB.out.trans (HBQ.out.mono HB.out.size)
            obtain ⟨bp, rfl, hbp, hcell⟩ := HPC.out (by omega)
            have cx := (hbq2.cell (p := ⟨bp, k, none⟩) hbp).trans (hcell k hkL)
            have hcol := HINV.out.ltk k (by rw [EL.out]; exact hkL)
            have hkR : k < R := by omega
            have hM3 := M1.out.below hbq2 (Nat.le_refl _)
            have q1 := hM3.cell hkR
            have q2 := (hM3.row k hkR).cell hlt
            have hxl := HINV.out.lt k hkR c hlt
            obtain ⟨d, ed⟩ : ∃ d, s.lead.getD k 0 = d := ⟨_, rfl⟩
            rw [ed] at cx hcol
            obtain ⟨x, ex⟩ : ∃ x, s.m k c = x := ⟨_, rfl⟩
            rw [ex] at q2 hxl
            have q3 := HR5.out.cell hcol
            have q4 := HR5.out.free d
            have hset := (HR5.out.set hcol ((p - x) % p)).congr (F' := M.nulK p s c (k + 1)) (fun j hj => by rw [M.nulK, ed, ex])
            have HS := Lib.hid hset
            clear hset hM3 hcell ed ex hbq2
            go_wp2_with fail
            have hneg : (-(x : Int)) % (p : Int) = (((p - x) % p : Nat) : Int) := by
              rw [Int.natCast_emod, Int.natCast_sub (by omega), Int.sub_eq_add_neg, Int.add_emod_left]
            rw [hneg]
            clear hneg
            go_roundw
            case rel => exact ⟨k + 1, by omega, by go_num, HS.out, HBQ.out.setCell (p := ⟨g, d, none⟩) hg _⟩
            case measure => simp [intOf]; omega
          · obtain rfl : L = k := by omega
            have hsz := HBQ.out.size
            have hwx := HB.out.size
            have hA2 := HA.out.below HBQ.out (Nat.le_refl _)
            have hrow : Row wr g K (M.nulK p s ((M.frees s.lead K).getD n 0) L) := by
              have h := M.frees_at EBB.out hlt
              rw [EN.out] at h
              rw [h]
              exact HR5.out
            have hne : ∀ j, j < n → G' j ≠ g := fun j hj => by have := (HA.out.row j hj).lt; omega
            have HA2 := Lib.hid hA2
            have HROW := Lib.hid hrow
            have HNE := Lib.hid hne
            have hs2 : w1.heap.size ≤ wr.heap.size := by omega
            have hgb : w1.heap.size ≤ g := by omega
            have hn1000 : n ≤ 1000 := by omega
            have HB6 := Lib.hid (HB.out.trans (HBQ.out.mono hwx))
            clear hrow hne hA2
            go_wp2_with (at_builtin; refine wpList_append_row (k := n) (F := fun i => M.nulK p s ((M.frees s.lead K).getD i 0) L) rfl _ _ rfl rfl (by rfl) HA2.out HROW.out hgb hcg HNE.out hn1000 hs2 ?_)
            intro v4 w5 hA5 hb5
            have HA5 := Lib.hid hA5
            have HB7 := Lib.hid (HB6.out.trans hb5)
            clear hA5 hb5
            go_wp2_with fail
            go_roundw
            case rel =>
              refine ⟨c + 1, by omega, by go_num, ?_, HB7.out⟩
              rw [M.frees_succ, EBB.out, if_neg (by simp), List.length_append, EN.out]
              exact ⟨_, _, HA5.out⟩
            case measure => simp [intOf]; omega
    · obtain rfl : K = c := by omega
      go_wp2_with fail
      go_ret2
      refine ⟨_, w1.heap.size, G', Cp', rfl, B1.out.size, ?_, bnext B1.out HB.out⟩
      rw [EN.out, EL.out]
      exact HA.out
end Go.Proofs.Ytgoognipljknjaa
