/-
  The walk of the law MatrixSolutions.
-/
import Derived.Test.YtgoognipljknjaaSolM
import Derived.Test.YtgoognipljknjaaPnullO
import Derived.Test.YtgoognipljknjaaL2
namespace Go.Proofs.Ytgoognipljknjaa.matrixSolutionsW
open Go.RowKit
set_option linter.unusedVariables false
set_option maxRecDepth 100000

set_option maxHeartbeats 2000000 in
theorem no (w : World) (p : Nat) (hp : p < 18446744073709551616) (v : Value) (m : List (List Nat)) (hv : Mat w v m) (vv : Value) (zs : List Nat) (hz : Nums w vv zs) (h : M.chkm p m ≠ 0) :
    Calls Try.prog 3 #[.int .u64 p, v, vv] w fun e w' => e = .returned (.bool true) ∧ Below w.heap.size w w' := by
  have H2 := Lib.hid fun W (hW : Mat W v m) => rcheck_one p v m W hp hW
  have HV := Lib.hid hv
  have hud : ∀ b : Bool, undef ≠ Value.bool b := fun b h => by cases h
  obtain ⟨A, cap, rfl, _⟩ := mat_view hv
  obtain ⟨Az, cz, rfl⟩ := nums_slice' hz
  have hb2 : (M.chkm p m != 0) = true := by rw [bne_iff_ne]; exact h
  obtain ⟨c, ec⟩ : ∃ c, M.chkm p m = c := ⟨_, rfl⟩
  rw [ec] at H2 hb2 h
  clear hv hz ec h
  go_enter Try.func3, Try.ntmps3
  go_wp2_with fail
  refine (H2.out _ HV.out).mono ?_
  rintro e w2 ⟨rfl, hb⟩
  have B2 := Lib.hid hb
  clear hb
  go_wp2_with fail
  refine (alive_any _).mono ?_
  rintro e w3 ⟨rfl, hb3⟩
  have B3 := Lib.hid (bnext B2.out hb3)
  clear hb3
  go_wp2_with fail
  go_ret
  exact ⟨rfl, B3.out⟩

set_option maxHeartbeats 2000000 in
theorem arg (w : World) (p R K : Nat) (hp : p < 18446744073709551616) (v : Value) (m : List (List Nat)) (hv : Mat w v m) (vv : Value) (zs : List Nat) (hz : Nums w vv zs) (hok : M.Ok p m R K) (h : zs.length ≠ K ∨ (zs.length = K ∧ M.within p zs = false)) :
    Calls Try.prog 3 #[.int .u64 p, v, vv] w fun e w' => e = .returned (.bool true) ∧ Below w.heap.size w w' := by
  have h2 := fun W (hW : Mat W v m) => rcheck_one p v m W hp hW
  rw [hok.chk] at h2
  have H2 := Lib.hid h2
  have H4 := Lib.hid fun W (hW : Nums W vv zs) => within_any p vv zs W hW rfl
  have HV := Lib.hid hv
  have HZ := Lib.hid hz
  have hud : ∀ b : Bool, undef ≠ Value.bool b := fun b h => by cases h
  have hR1 := hok.R1
  have hR64 := hok.R64
  have hK1 := hok.K1
  have hK64 := hok.K64
  have hs0 : ((0 : Int) != 0) = false := rfl
  have hs1 : ((2 : Int) != 0) = true := rfl
  obtain ⟨A, cap, rfl, _, _, hrows⟩ := mat_view hv
  obtain ⟨Az, cz, rfl⟩ := nums_slice' hz
  rw [hok.rows] at hrows
  obtain ⟨bm, om, rfl, hbm, hcells⟩ := hrows (by omega)
  obtain ⟨A0, k0, cm, _⟩ := hcells 0 (by omega)
  rw [Nat.add_zero, hok.cols 0 (by omega)] at cm
  have CM := Lib.hid cm
  rw [hok.rows] at H2 HV ⊢
  have hLi : zs.length ≤ 17592186043904 := hz.2.1
  obtain ⟨L, eL⟩ : ∃ L, zs.length = L := ⟨_, rfl⟩
  rw [eL] at H4 HZ h hLi ⊢
  clear hv hz h2 hok eL hcells hrows
  by_cases hL : L = K
  · have hw := (h.resolve_left (by simp [hL])).2
    have hb1 : ((L : Int) != (K : Int)) = false := by simp [hL]
    rw [hw] at H4
    clear hw h hL
    go_enter Try.func3, Try.ntmps3
    go_wp2_with fail
    refine (H2.out _ HV.out).mono ?_
    rintro e w2 ⟨rfl, hb2⟩
    have B2 := Lib.hid hb2
    have cm2 := (hb2.cell (p := ⟨bm, om, none⟩) hbm).trans CM.out
    clear hb2 cm
    go_wp2_with fail
    refine (H4.out _ (HZ.out.below B2.out)).mono ?_
    rintro e w' ⟨rfl, rfl⟩
    simp only [errOf]
    go_wp2_with fail
    refine (alive_any _).mono ?_
    rintro e w3 ⟨rfl, hb3⟩
    have B3 := Lib.hid (bnext B2.out hb3)
    clear hb3
    go_wp2_with fail
    go_ret
    exact ⟨rfl, B3.out⟩
  · have hb1 : ((L : Int) != (K : Int)) = true := by rw [bne_iff_ne]; omega
    clear h hL
    go_enter Try.func3, Try.ntmps3
    go_wp2_with fail
    refine (H2.out _ HV.out).mono ?_
    rintro e w2 ⟨rfl, hb2⟩
    have B2 := Lib.hid hb2
    have cm2 := (hb2.cell (p := ⟨bm, om, none⟩) hbm).trans CM.out
    clear hb2 cm
    go_wp2_with fail
    refine (alive_any _).mono ?_
    rintro e w3 ⟨rfl, hb3⟩
    have B3 := Lib.hid (bnext B2.out hb3)
    clear hb3
    go_wp2_with fail
    go_ret
    exact ⟨rfl, B3.out⟩

theorem rowAt {w : World} {base n C cap : Nat} {A : Option Addr} {G Cp : Nat → Nat} {F : Nat → Nat → Nat} (h : MatA w base (.slice A n cap) n C G Cp F) {i : Nat} (hi : i < n) :
    ∃ g, A = some ⟨g, 0, none⟩ ∧ base ≤ g ∧ w.cell? ⟨g, i, none⟩ = some (.slice (some ⟨G i, 0, none⟩) C (Cp i)) := by
  rcases h.own.2 with ⟨_, h0⟩ | ⟨g, cap', cur, e, hg, hh, hc, _⟩
  · omega
  · injection e with e1 e2 e3
    subst e1
    have := h.own.cells (g := g) rfl i _ (slices_get hi)
    rw [Addr.add_lit, Nat.zero_add] at this
    exact ⟨g, rfl, hg, this⟩
theorem intAt {w : World} {g C : Nat} {F : Nat → Nat} (hr : Row w g C F) {A : Option Addr} {n cap : Nat} {l : List Nat} (h : Ints w (.slice A n cap) l) (hC : l.length ≤ C) {i : Nat} (hi : i < l.length) :
    ∃ b, A = some ⟨b, 0, none⟩ ∧ b ≠ g ∧ w.cell? ⟨b, i, none⟩ = some (.int .i64 (l.getD i 0 : Nat)) := by
  obtain ⟨A', cap', e, _, hc⟩ := h
  injection e with e1 e2 e3
  subst e1
  obtain ⟨b, rfl, hb, hcell⟩ := hc (by omega)
  refine ⟨b, rfl, ?_, hcell i hi⟩
  rintro rfl
  have h1 := hr.cell (j := i) (by omega)
  rw [hcell i hi] at h1
  injection h1 with h1
  injection h1 with h1
  cases h1

theorem numAt {w : World} {A : Option Addr} {n cap : Nat} {zs : List Nat} (h : Nums w (.slice A n cap) zs) {i : Nat} (hi : i < zs.length) :
    ∃ b off, A = some ⟨b, off, none⟩ ∧ b < w.heap.size ∧ w.cell? ⟨b, off + i, none⟩ = some (.int .u64 (zs.getD i 0 : Nat)) := by
  obtain ⟨A', cap', e, _, _, hc⟩ := nums_view h
  simp only [Value.slice.injEq] at e
  obtain ⟨rfl, rfl, rfl⟩ := e
  obtain ⟨b, off, rfl, hb, hcell⟩ := hc (by omega)
  exact ⟨b, off, rfl, hb, hcell i hi⟩

set_option maxHeartbeats 8000000 in
theorem ok (w : World) (p R K : Nat) (hp : p < 18446744073709551616) (v : Value) (m : List (List Nat)) (hv : Mat w v m) (vv : Value) (zs : List Nat) (hz : Nums w vv zs) (hok : M.Ok p m R K) (hl : zs.length = K) (hw : M.within p zs = true) :
    Calls Try.prog 3 #[.int .u64 p, v, vv] w fun e w' => e = .returned (.bool true) ∧ Below w.heap.size w w' := by
  obtain ⟨h3, hp2⟩ := M.pos_of hok.isp
  have hR1 := hok.R1
  have hR64 := hok.R64
  have hK1 := hok.K1
  have hK64 := hok.K64
  have h2 := fun W (hW : Mat W v m) => rcheck_one p v m W hp hW
  rw [hok.chk] at h2
  have H2 := Lib.hid h2
  have h4 := fun W (hW : Nums W vv zs) => within_any p vv zs W hW rfl
  rw [hw] at h4
  have H4 := Lib.hid h4
  obtain ⟨V, eV⟩ : ∃ V, V = M.tabM R (M.app p m zs) := ⟨_, rfl⟩
  obtain ⟨f1, f2, f3, f4, f5, f6, f7, f8⟩ := M.sol_facts hok hl hw eV
  have hapl : ∀ i, M.app p m zs i < p := fun i => Nat.mod_lt _ (by omega)
  have h5 := fun W (hW : Mat W v m) (hZ : Nums W vv zs) => apply_ok p R K v m vv zs W hok hW hZ hl hw
  unfold ApplyEnd at h5
  have HNV := Lib.hid (show ∀ (W : World) (g cap : Nat), Row W g R (M.app p m zs) → R ≤ cap → Nums W (.slice (some ⟨g, 0, none⟩) R cap) V from fun W g cap h hc => by rw [eV]; exact nums_apply (by omega) hp2 (by omega) h hc)
  have h6 := fun W v5 (hW : Mat W v m) (hN : Nums W v5 V) => (solve_ok p R K v m v5 V W hok hW hN f1 f2).mono (R' := fun e w' => ∃ g cap, e = .returned (.tuple #[.slice (some ⟨g, 0, none⟩) K cap, .int .i64 0]) ∧ W.heap.size ≤ g ∧ K ≤ cap ∧ Row w' g K (M.solY p R K m V zs 0) ∧ Below W.heap.size W w') (fun e w' h => by
    rcases h with ⟨hb, ⟨hst, _⟩ | ⟨_, g, cap, e1, h1, h2, h3⟩⟩
    · exact absurd hst f3
    · exact ⟨g, cap, e1, h1, h2, h3, hb⟩)
  have h7 := fun W (hW : Mat W v m) => null_own p R K v m W hok hW
  have h8 := fun W (hW : Mat W v m) => rfree_any p R K v m W hok hW
  have h9 := fun W v6 (hW : Mat W v m) (hN : Nums W v6 (M.tabM K (M.solY p R K m V zs 0))) => rapply_any p R K v v6 m _ W hok.isp hok.all (M.tabM_len _ _) f5 hW hN
  rw [f4] at h9
  have hfl := M.frees_len (M.rd p m R K).lead K
  have hfm := fun i (hi : i < (M.frees (M.rd p m R K).lead K).length) => M.frees_mem (M.frees_in hi)
  have hYs : ∀ i j, M.solY p R K m V zs (i + 1) j = (M.solY p R K m V zs i j + zs.getD ((M.frees (M.rd p m R K).lead K).getD i 0) 0 * M.nulK p (M.rd p m R K) ((M.frees (M.rd p m R K).lead K).getD i 0) (M.rd p m R K).lead.length j % p) % p := fun i j => rfl
  have hNl := fun i j => M.nulK_lt (p := p) (s := M.rd p m R K) (f := (M.frees (M.rd p m R K).lead K).getD i 0) (by omega) (M.rd p m R K).lead.length j
  obtain ⟨Y, eY⟩ : ∃ Y, M.solY p R K m V zs = Y := ⟨_, rfl⟩
  rw [eY] at h6 h9 f5 f6 f7 f8 hYs
  obtain ⟨NU, eN⟩ : ∃ NU : Nat → Nat → Nat, (fun i => M.nulK p (M.rd p m R K) ((M.frees (M.rd p m R K).lead K).getD i 0) (M.rd p m R K).lead.length) = NU := ⟨_, rfl⟩
  rw [eN] at h7
  have hYs2 : ∀ i j, Y (i + 1) j = (Y i j + zs.getD ((M.frees (M.rd p m R K).lead K).getD i 0) 0 * NU i j % p) % p := fun i j => by rw [← eN]; exact hYs i j
  have hNl2 : ∀ i j, NU i j < p := fun i j => by rw [← eN]; exact hNl i j
  obtain ⟨fr, efr⟩ : ∃ fr, M.frees (M.rd p m R K).lead K = fr := ⟨_, rfl⟩
  rw [efr] at h7 h8 f6 f7 f8 hfl hfm hYs2
  obtain ⟨n, en⟩ : ∃ n, fr.length = n := ⟨_, rfl⟩
  rw [en] at h7 f6 f7 f8 hfl hfm
  have H5 := Lib.hid h5
  have H6 := Lib.hid h6
  have H7 := Lib.hid h7
  have H8 := Lib.hid h8
  have H9 := Lib.hid h9
  have HYL := Lib.hid f6
  have HY0 := Lib.hid f7
  have HYE := Lib.hid f8
  have HFK := Lib.hid hfm
  have HYS := Lib.hid hYs2
  have HNL := Lib.hid hNl2
  have HFN := Lib.hid en
  have HVL := Lib.hid f1
  have HV := Lib.hid hv
  have HZ := Lib.hid hz
  have HZL := Lib.hid hl
  have HZW := Lib.hid hw
  have HMU := Lib.hid fun a b W (ha : a < p) (hb : b < p) => refMul_any p a b W (by omega) hp2 ha hb
  have HAD := Lib.hid fun a b W (ha : a < p) (hb : b < p) => refAdd_any p a b W (by omega) hp2 ha hb
  have hud : ∀ b : Bool, undef ≠ Value.bool b := fun b h => by cases h
  have hs1 : ((0 : Int) != 0) = false := rfl
  obtain ⟨A, cap, rfl, _, _, hrows⟩ := mat_view hv
  obtain ⟨Az, cz, rfl⟩ := nums_slice' hz
  rw [hok.rows] at hrows
  obtain ⟨bm, om, rfl, hbm, hcells⟩ := hrows (by omega)
  obtain ⟨A0, k0, cm, _⟩ := hcells 0 (by omega)
  rw [Nat.add_zero, hok.cols 0 (by omega)] at cm
  have CM := Lib.hid cm
  rw [hok.rows] at H2 H5 H6 H7 H8 H9 HV ⊢
  rw [hl] at H4 H5 HZ ⊢
  have hb1 : ((K : Int) != (K : Int)) = false := by simp
  have hbn : ((n : Int) != (n : Int)) = false := by simp
  clear hv hz h2 h4 h5 h6 h7 h8 h9 hok hl hw eY eN efr en eV f1 f2 f3 f4 f5 f6 f7 f8 hfm hYs hYs2 hNl hNl2 hcells hrows hapl
  go_enter Try.func3, Try.ntmps3
  go_wp2_with fail
  refine (H2.out _ HV.out).mono ?_
  rintro e w2 ⟨rfl, hb2⟩
  have B2 := Lib.hid hb2
  have cm2 := (hb2.cell (p := ⟨bm, om, none⟩) hbm).trans CM.out
  clear hb2 cm
  go_wp2_with fail
  refine (H4.out _ (HZ.out.below B2.out)).mono ?_
  rintro e w' ⟨rfl, rfl⟩
  simp only [errOf]
  go_wp2_with fail
  refine (H5.out _ (HV.out.below B2.out) (HZ.out.below B2.out)).mono ?_
  rintro e w3 ⟨g3, c3, rfl, _, hc3, hr3, hb3⟩
  have B3 := Lib.hid (bnext B2.out hb3)
  have V3 := Lib.hid (HNV.out _ _ _ hr3 hc3)
  clear hb3 hr3 hc3
  go_wp2_with fail
  refine (H6.out _ _ (HV.out.below B3.out) V3.out).mono ?_
  rintro e w4 ⟨g, c4, rfl, hg4, hc4, hr4, hb4⟩
  have B4 := Lib.hid (bnext B3.out hb4)
  have V4 := Lib.hid (V3.out.below hb4)
  have R4 := Lib.hid hr4
  have HG := Lib.hid (Nat.le_trans B3.out.size hg4)
  clear hb4 hr4 hg4
  go_wp2_with fail
  refine (H7.out _ (HV.out.below B4.out)).mono ?_
  rintro e w5 ⟨vn, base, Gn, Cn, rfl, hbase, hA, hb5⟩
  have B5 := Lib.hid (bnext B4.out hb5)
  have V5 := Lib.hid (V4.out.below hb5)
  have R5 := Lib.hid (R4.out.below hb5 R4.out.lt)
  have HBS := Lib.hid (Nat.lt_of_lt_of_le R4.out.lt hbase)
  obtain ⟨An, cn, hform⟩ := hA.form
  subst hform
  have A5 := Lib.hid hA
  clear hb5 hA hbase
  go_wp2_with fail
  refine (H8.out _ (HV.out.below B5.out)).mono ?_
  rintro e w6 ⟨vl, rfl, hI, hb6⟩
  have B6 := Lib.hid (bnext B5.out hb6)
  have V6 := Lib.hid (V5.out.below hb6)
  have R6 := Lib.hid (R5.out.below hb6 R5.out.lt)
  have A6 := Lib.hid (A5.out.below hb6 (Nat.le_refl _))
  have I6 := Lib.hid hI
  have hI' := hI
  obtain ⟨Al, cl, evl, _, _⟩ := hI'
  rw [HFN.out] at evl
  subst evl
  clear hb6 hI
  have N6 := Lib.hid (R6.out.nums (n := K) (Nat.le_refl _) hc4 (by omega) (fun j hj => by have := HYL.out 0 (by omega) j hj; omega))
  go_wp2_with fail
  refine (H9.out _ _ (HV.out.below B6.out) N6.out).mono ?_
  rintro e w7 ⟨v7, rfl, hN7, hb7⟩
  have B7 := Lib.hid (bnext B6.out hb7)
  have V7 := Lib.hid (V6.out.below hb7)
  have N7 := Lib.hid hN7
  have R7 := Lib.hid (R6.out.below hb7 R6.out.lt)
  have A7 := Lib.hid (A6.out.below hb7 (Nat.le_refl _))
  have I7 := Lib.hid (I6.out.below hb7)
  clear hb7 hN7
  go_wp2_with fail
  refine (same_any _ _ V _ N7.out V7.out).mono ?_
  rintro e w8 ⟨rfl, hb8⟩
  have B8 := Lib.hid (bnext B7.out hb8)
  have R8 := Lib.hid (R7.out.below hb8 R7.out.lt)
  have A8 := Lib.hid (A7.out.below hb8 (Nat.le_refl _))
  have I8 := Lib.hid (I7.out.below hb8)
  clear hb8 N7 N6 V7 V6 V5 V4 V3 R7 R6 R5 R4 A7 A6 A5 I7 I6 B7 B6 B5 B4 B3 B2 cm2
  go_wp2_with fail
  go_loopw [88] (fun ti wr => ∃ i : Nat, i ≤ n ∧ ti = .int .i64 i ∧ Row wr g K (Y i) ∧ w8.grownBy wr (some g)) (fun ti _ => n - (intOf ti).toNat)
  case atStart => exact ⟨0, by omega, rfl, R8.out, ⟨rfl, rfl, rfl, Nat.le_refl _, fun _ _ _ => rfl⟩⟩
  case round =>
    obtain ⟨i, hi, rfl, hr, hgr⟩ := hrel
    obtain ⟨w9, rfl⟩ : ∃ w9, w9 = wr := ⟨_, rfl⟩
    have R9 := Lib.hid hr
    have HGR := Lib.hid hgr
    clear hr hgr
    by_cases hlt : i < n
    · obtain ⟨gt, rfl, hgt, hcn⟩ := rowAt A8.out hlt
      obtain ⟨bf, rfl, hbf, hcf⟩ := intAt R8.out I8.out (by rw [HFN.out]; omega) (i := i) (by rw [HFN.out]; exact hlt)
      have hgtg : gt ≠ g := by have := HBS.out; omega
      have cn9 := HGR.out.cell hcn (by intro e; injection e with e; exact hgtg e)
      have cf9 := HGR.out.cell hcf (by intro e; injection e with e; exact hbf e)
      obtain ⟨k, ek⟩ : ∃ k, k = fr.getD i 0 := ⟨_, rfl⟩
      have hkK : k < K := by rw [ek]; exact HFK.out i hlt
      have cy9 := R9.out.cell hkK
      have hy0 := HY0.out i hlt
      rw [← ek] at cf9 hy0
      rw [hy0] at cy9
      have EK := Lib.hid ek
      have HCN := Lib.hid hcn
      have HGT := Lib.hid hgtg
      have hin : (i : Int) < (n : Nat) := by omega
      have hkKi : (k : Int) < (K : Nat) := by omega
      have h00 : (((0 : Nat) : Int) != 0) = false := rfl
      clear ek hcf hy0 hcn hbf hgt hgtg
      go_wp2_with fail
      clear cn9 cf9 cy9
      go_loopw [110] (fun tj wi => ∃ j : Nat, j ≤ K ∧ tj = .int .i64 j ∧ Row wi g K (fun c => if c < j then Y (i + 1) c else Y i c) ∧ w8.grownBy wi (some g)) (fun tj _ => K - (intOf tj).toNat)
      case atStart => exact ⟨0, by omega, rfl, R9.out.congr (fun c _ => by rw [if_neg (by omega)]), HGR.out⟩
      case round =>
        obtain ⟨j, hj, rfl, hr, hgr⟩ := hrel
        have RI := Lib.hid hr
        have HGI := Lib.hid hgr
        clear hr hgr
        by_cases hjK : j < K
        · obtain ⟨bx, ox, rfl, hbx, hcx⟩ := numAt HZ.out (i := k) (by rw [HZL.out]; exact hkK)
          have hg0 := HG.out
          have cx := HGI.out.cell ((B8.out.cell (p := ⟨bx, ox + k, none⟩) hbx).trans hcx) (by intro e; injection e with e; dsimp only at e; omega)
          have cn := HGI.out.cell HCN.out (by intro e; injection e with e; exact HGT.out e)
          have hbg := (A8.out.baseG i hlt).1
          have hbs := HBS.out
          have cu := HGI.out.cell ((A8.out.row i hlt).cell hjK) (by intro e; injection e with e; dsimp only at e; omega)
          have cy := RI.out.cell hjK
          rw [if_neg (Nat.lt_irrefl j)] at cy
          have fy := RI.out.free j
          have hx := M.within_mem HZW.out (k := k) (by rw [HZL.out]; exact hkK)
          have hy := HYL.out i hi j hjK
          have hu := HNL.out i j
          have hys := HYS.out i j
          rw [← EK.out] at hys
          have hset := (RI.out.set hjK (Y (i + 1) j)).congr (F' := fun c => if c < j + 1 then Y (i + 1) c else Y i c) (fun c _ => by
            by_cases e : c = j
            · subst e; rw [if_pos rfl, if_pos (by omega)]
            · rw [if_neg e]
              by_cases e2 : c < j
              · rw [if_pos e2, if_pos (by omega)]
              · rw [if_neg e2, if_neg (by omega)])
          rw [hys] at hset
          obtain ⟨x, ex⟩ : ∃ x, x = zs.getD k 0 := ⟨_, rfl⟩
          obtain ⟨y, ey⟩ : ∃ y, y = Y i j := ⟨_, rfl⟩
          obtain ⟨u, eu⟩ : ∃ u, u = NU i j := ⟨_, rfl⟩
          rw [← ex] at cx hx hset
          rw [← ey] at cy hy hset
          rw [← eu] at cu hu hset
          have hmu := fun W => (HMU.out x u W hx hu).mono (R' := fun e w'' => e = .returned (.int .u64 (x * u % p : Nat)) ∧ w'' = W) (fun e w' h => ⟨h.1, h.2.symm⟩)
          have hql : x * u % p < p := Nat.mod_lt _ (by omega)
          obtain ⟨q, eq⟩ : ∃ q, q = x * u % p := ⟨_, rfl⟩
          rw [← eq] at hmu hql hset
          have had := fun W => (HAD.out y q W hy hql).mono (R' := fun e w'' => e = .returned (.int .u64 ((y + q) % p : Nat)) ∧ w'' = W) (fun e w' h => ⟨h.1, h.2.symm⟩)
          obtain ⟨z, ez⟩ : ∃ z, z = (y + q) % p := ⟨_, rfl⟩
          rw [← ez] at had hset
          have HM1 := Lib.hid hmu
          have HA1 := Lib.hid had
          have HS := Lib.hid hset
          have hjKi : (j : Int) < (K : Nat) := by omega
          clear hset hmu had ex ey eu eq ez hys hcx hg0 hbg hbs
          go_wp2_with fail
          refine wp_region_still_tail 22 (by kernel_rfl) (by kernel_rfl) ?_
          simp only [List.take_succ_cons, List.take_zero, List.drop_succ_cons, List.drop_zero]
          iterate 19 still_step
          still_call (HM1.out _)
          still_call (HA1.out _)
          iterate 1 still_step
          refine wpStill_nil ?_
          change wpList _ _ _ _ _ wr.drew
          go_wp2_with fail
          go_roundw
          case rel => exact ⟨j + 1, by omega, by go_num, HS.out, by
            have a := grown_set HGI.out (.int .u64 (z : Nat)) (j := j)
            exact ⟨a.os, a.tape, a.output, a.size, a.block⟩⟩
          case measure => simp [intOf]; omega
        · obtain rfl : j = K := by omega
          go_wp2_with fail
          go_roundw
          case rel => exact ⟨i + 1, by omega, by go_num, RI.out.congr (fun c hc => by rw [if_pos hc]), HGI.out⟩
          case measure => simp [intOf]; omega
    · obtain rfl : i = n := by omega
      have B9 := Lib.hid (B8.out.grown HGR.out B8.out.size (fun k e => by injection e with e; have := HG.out; omega))
      have hN := R9.out.nums (n := K) (Nat.le_refl _) hc4 (by omega) (fun j hj => by have := HYL.out i (Nat.le_refl _) j hj; omega)
      rw [HYE.out] at hN
      have N9 := Lib.hid hN
      have Z9 := Lib.hid (HZ.out.below B9.out)
      clear hN
      go_wp2_with fail
      refine (same_any _ _ zs _ Z9.out N9.out).mono ?_
      rintro e w10 ⟨rfl, hb⟩
      have B10 := Lib.hid (bnext B9.out hb)
      clear hb
      go_wp2_with fail
      refine (alive_any _).mono ?_
      rintro e w11 ⟨rfl, hb⟩
      have B11 := Lib.hid (bnext B10.out hb)
      clear hb
      go_wp2_with fail
      go_ret
      exact ⟨rfl, B11.out⟩

theorem walk (w : World) (p : Nat) (hp : p < 18446744073709551616) (v : Value) (m : List (List Nat)) (hv : Mat w v m) (vv : Value) (zs : List Nat) (hz : Nums w vv zs) :
    Calls Try.prog 3 #[.int .u64 p, v, vv] w fun e w' => e = .returned (.bool true) ∧ Below w.heap.size w w' := by
  by_cases h : M.chkm p m = 0
  · have hok := M.chkm_ok h
    by_cases hl : zs.length = (m.getD 0 []).length
    · cases hw : M.within p zs with
      | true => exact ok w p _ _ hp v m hv vv zs hz hok hl hw
      | false => exact arg w p _ _ hp v m hv vv zs hz hok (.inr ⟨hl, hw⟩)
    · exact arg w p _ _ hp v m hv vv zs hz hok (.inl hl)
  · exact no w p hp v m hv vv zs hz h
end Go.Proofs.Ytgoognipljknjaa.matrixSolutionsW
