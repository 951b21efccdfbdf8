/-
  Package matrix: Mul. The reference's column, Mul.
-/
import Derived.Test.YtaaipcdipdkooaaMr17
namespace Go.Proofs.Ytaaipcdipdkooaa
open Go.RowKit
set_option linter.unusedVariables false

namespace M
theorem dotK_comm (l m : List Nat) : ∀ k, dotK l m k = dotK m l k
  | 0 => rfl
  | k + 1 => by rw [dotK, dotK, dotK_comm l m k, Nat.mul_comm]
/-- an element of the product of a and b, which has n rows -/
def mulF (p : Nat) (a b : List (List Nat)) (n : Nat) (i j : Nat) : Nat := dotK (a.getD i []) (col b j n) n % p
def mul (p : Nat) (a b : List (List Nat)) (R n K : Nat) : List (List Nat) := tabMM R K (mulF p a b n)
theorem mulF_app {p : Nat} {a b : List (List Nat)} {n K i j : Nat} (hj : j < K) : app p (tr b n K) (a.getD i []) j = mulF p a b n i j := by
  unfold app mulF
  rw [tr_row hj, col_len, dotK_comm]
theorem mulF_lt {p : Nat} (h : 0 < p) (a b : List (List Nat)) (n i j : Nat) : mulF p a b n i j < p := Nat.mod_lt _ h
end M

set_option maxHeartbeats 400000 in
theorem mul_bad1 (p : Nat) (v v2 : Value) (a b : List (List Nat)) (w : World) (hp : p < 18446744073709551616) (hv : Mat w v a) (hv2 : Mat w v2 b) (h : M.chkm p a ≠ 0) :
    Calls Try.prog 17 #[.int .u64 p, v, v2] w fun e w' => e = .returned (.tuple #[.slice none 0 0, .int .i64 (M.chkm p a)]) ∧ Below w.heap.size w w' := by
  have HC := Lib.hid (mcheck_any p v a w hp hv)
  obtain ⟨A, cap, rfl, _⟩ := mat_view hv
  obtain ⟨A2, cap2, rfl, _⟩ := mat_view hv2
  have hb : (M.chkm p a != 0) = true := by rw [bne_iff_ne]; exact h
  obtain ⟨c, ec⟩ : ∃ c, c = M.chkm p a := ⟨_, rfl⟩
  rw [← ec] at HC hb ⊢
  clear ec h hp hv hv2
  go_enter Try.func17, Try.ntmps17
  go_wp2_with fail
  refine HC.out.mono ?_
  rintro e w1 ⟨rfl, hb1⟩
  have HB := Lib.hid hb1
  clear hb1
  go_wp2_with fail
  go_ret2
  exact ⟨rfl, HB.out⟩
set_option maxHeartbeats 400000 in
theorem mul_bad2 (p : Nat) (v v2 : Value) (a b : List (List Nat)) (w : World) (hp : p < 18446744073709551616) (hv : Mat w v a) (hv2 : Mat w v2 b) (h0 : M.chkm p a = 0) (h : M.chkm p b ≠ 0) :
    Calls Try.prog 17 #[.int .u64 p, v, v2] w fun e w' => e = .returned (.tuple #[.slice none 0 0, .int .i64 (M.chkm p b)]) ∧ Below w.heap.size w w' := by
  have hc := mcheck_any p v a w hp hv
  rw [h0] at hc
  have HC := Lib.hid hc
  have HC2 := Lib.hid fun W (hW : Mat W v2 b) => mcheck_any p v2 b W hp hW
  have HV2 := Lib.hid hv2
  obtain ⟨A, cap, rfl, _⟩ := mat_view hv
  obtain ⟨A2, cap2, rfl, _⟩ := mat_view hv2
  have hb : (M.chkm p b != 0) = true := by rw [bne_iff_ne]; exact h
  obtain ⟨c, ec⟩ : ∃ c, c = M.chkm p b := ⟨_, rfl⟩
  rw [← ec] at HC2 hb ⊢
  clear ec h hp hv hv2 hc h0
  go_enter Try.func17, Try.ntmps17
  go_wp2_with fail
  refine HC.out.mono ?_
  rintro e w1 ⟨rfl, hb1⟩
  have HB := Lib.hid hb1
  clear hb1
  go_wp2_with fail
  refine (HC2.out w1 (HV2.out.below HB.out)).mono ?_
  rintro e w2 ⟨rfl, hb1⟩
  have HB2 := Lib.hid (bnext HB.out hb1)
  clear hb1
  go_wp2_with fail
  go_ret2
  exact ⟨rfl, HB2.out⟩
set_option maxHeartbeats 1000000 in
theorem mul_arg (p R K R2 K2 : Nat) (v v2 : Value) (a b : List (List Nat)) (w : World) (hv : Mat w v a) (hv2 : Mat w v2 b) (hok : M.Ok p a R K) (hok2 : M.Ok p b R2 K2) (h : K ≠ R2) :
    Calls Try.prog 17 #[.int .u64 p, v, v2] w fun e w' => e = .returned (.tuple #[.slice none 0 0, .int .i64 2]) ∧ Below w.heap.size w w' := by
  obtain ⟨h3, hp⟩ := M.pos_of hok.isp
  have hc := mcheck_any p v a w (by omega) hv
  rw [hok.chk] at hc
  have HC := Lib.hid hc
  have hc2 := fun W (hW : Mat W v2 b) => mcheck_any p v2 b W (by omega) hW
  rw [hok2.chk] at hc2
  have HC2 := Lib.hid hc2
  have HV2 := Lib.hid hv2
  have hR1 := hok.R1
  obtain ⟨A, cap, rfl, _, _, hrows⟩ := mat_view hv
  obtain ⟨A2, cap2, rfl, _⟩ := mat_view hv2
  rw [hok.rows] at HC hrows ⊢
  rw [hok2.rows] at HC2 HV2 ⊢
  obtain ⟨bm, om, rfl, hbm, hcells⟩ := hrows (by omega)
  obtain ⟨A0, k0, cm, _⟩ := hcells 0 (by omega)
  rw [Nat.add_zero, hok.cols 0 (by omega)] at cm
  have hb : ((K : Int) != (R2 : Int)) = true := by simp; omega
  clear h hv hv2 hc hc2 hok hok2 hrows hcells
  go_enter Try.func17, Try.ntmps17
  go_wp2_with fail
  refine HC.out.mono ?_
  rintro e w1 ⟨rfl, hb1⟩
  have HB := Lib.hid hb1
  clear hb1
  go_wp2_with fail
  refine (HC2.out w1 (HV2.out.below HB.out)).mono ?_
  rintro e w2 ⟨rfl, hb1⟩
  have HB2 := Lib.hid (bnext HB.out hb1)
  have cm2 := (HB2.out.cell (p := ⟨bm, om, none⟩) hbm).trans cm
  clear hb1
  go_wp2_with fail
  go_ret2
  exact ⟨rfl, HB2.out⟩

set_option maxHeartbeats 2000000 in
theorem mul_ok (p R n K : Nat) (v v2 : Value) (a b : List (List Nat)) (w : World) (hv : Mat w v a) (hv2 : Mat w v2 b) (hok : M.Ok p a R n) (hok2 : M.Ok p b n K) :
    Calls Try.prog 17 #[.int .u64 p, v, v2] w fun e w' => ∃ v', e = .returned (.tuple #[v', .int .i64 0]) ∧ Mat w' v' (M.mul p a b R n K) ∧ Below w.heap.size w w' := by
  obtain ⟨h3, hp⟩ := M.pos_of hok.isp
  have hc := mcheck_any p v a w (by omega) hv
  rw [hok.chk] at hc
  have HC := Lib.hid hc
  have hc2 := fun W (hW : Mat W v2 b) => mcheck_any p v2 b W (by omega) hW
  rw [hok2.chk] at hc2
  have HC2 := Lib.hid hc2
  have HTR := Lib.hid fun W (hW : Mat W v2 b) => transposed_any p n K v2 b W hok2 hW
  have HV := Lib.hid hv
  have HV2 := Lib.hid hv2
  have HOK := Lib.hid hok
  have HROWS := Lib.hid (M.tr_rows hok2)
  have hR1 := hok.R1
  have hR64 := hok.R64
  have hK64 := hok2.K64
  obtain ⟨A, cap, rfl, _, _, hrows⟩ := mat_view hv
  obtain ⟨A2, cap2, rfl, _⟩ := mat_view hv2
  rw [hok.rows] at HC hrows HV ⊢
  rw [hok2.rows] at HC2 HV2 HTR ⊢
  obtain ⟨bm, om, rfl, hbm, hcells⟩ := hrows (by omega)
  have HCE := Lib.hid hcells
  obtain ⟨A0, k0, cm, _⟩ := hcells 0 (by omega)
  rw [Nat.add_zero, hok.cols 0 (by omega)] at cm
  have hb : ((n : Int) != (n : Int)) = false := by simp
  obtain ⟨cs, hcs, hcz, hmk⟩ := make_rows R (by omega)
  have HCS := Lib.hid hcs
  clear hv hv2 hc hc2 hok hok2 hrows hcells hcs hcz
  go_enter Try.func17, Try.ntmps17
  go_wp2_with fail
  refine HC.out.mono ?_
  rintro e w1 ⟨rfl, hb1⟩
  have HB := Lib.hid hb1
  clear hb1
  go_wp2_with fail
  refine (HC2.out w1 (HV2.out.below HB.out)).mono ?_
  rintro e w2 ⟨rfl, hb1⟩
  have HB2 := Lib.hid (bnext HB.out hb1)
  have cm2 := (HB2.out.cell (p := ⟨bm, om, none⟩) hbm).trans cm
  clear hb1
  go_wp2_with fail
  refine (HTR.out w2 (HV2.out.below HB2.out)).mono ?_
  rintro e w3 ⟨vt, rfl, ht, hb1⟩
  have HB3 := Lib.hid (bnext HB2.out hb1)
  have HT3 := Lib.hid ht
  obtain ⟨At, ct, rfl, _⟩ := mat_view ht
  rw [HROWS.out.rows] at HT3 ⊢
  clear hb1 ht cm2 cm
  go_wp2_with fail
  obtain ⟨Bp, eB⟩ : ∃ Bp, Bp = w3.heap.size := ⟨_, rfl⟩
  obtain ⟨W4, eW4⟩ : ∃ W4, W4 = w3.alloc (.cells cs 31) := ⟨_, rfl⟩
  rw [← eB, ← eW4]
  have hB0 : W4.heap[Bp]? = some (.cells cs 31 (0, 0)) := by rw [eW4, eB]; exact heap_alloc_new w3 _
  have hm0 : MatO W4 w3.heap.size Bp 0 K (fun _ => 0) (fun _ => 0) (M.mulF p a b n) := ⟨by omega, ⟨cs, hB0, fun i hi => absurd hi (by omega)⟩, fun i hi => absurd hi (by omega), fun i hi => absurd hi (by omega), fun i j hi => absurd hi (by omega)⟩
  have HM0 := Lib.hid hm0
  have HS0 := Lib.hid (show ∃ cs, W4.heap[Bp]? = some (.cells cs 31 (0, 0)) ∧ cs.size = R from ⟨cs, hB0, HCS.out⟩)
  have HB4 := Lib.hid (show Below w3.heap.size w3 W4 by rw [eW4]; exact balloc w3 _)
  have hbp : w3.heap.size ≤ Bp := by omega
  clear hmk eW4 eB hB0 hm0
  go_loopw [40] (fun ti wr => ∃ k : Nat, k ≤ R ∧ ti = .int .i64 k ∧ (∃ G Cp, MatO wr w3.heap.size Bp k K G Cp (M.mulF p a b n)) ∧ (∃ cs, wr.heap[Bp]? = some (.cells cs 31 (0, 0)) ∧ cs.size = R) ∧ Below w3.heap.size w3 wr) (fun ti _ => R - (intOf ti).toNat)
  case atStart => exact ⟨0, by omega, rfl, ⟨_, _, HM0.out⟩, HS0.out, HB4.out⟩
  case round =>
    obtain ⟨k, hk, rfl, ⟨G, Cp, hm⟩, hsz, hW⟩ := hrel
    have HM := Lib.hid hm
    have HSZ := Lib.hid hsz
    have HW := Lib.hid hW
    clear hm hsz hW HM0 HS0 HB4
    by_cases hlt : k < R
    · obtain ⟨Au, cu, ck, hN⟩ := HCE.out k hlt
      rw [HOK.out.cols k hlt] at ck hN
      have HWw := Lib.hid (bnext HB3.out HW.out)
      have ck2 := (HWw.out.cell (p := ⟨bm, om + k, none⟩) hbm).trans ck
      have HD := Lib.hid (dots_any p K n _ _ (M.tr b n K) (a.getD k []) wr HOK.out.isp HROWS.out (HOK.out.cols k hlt) (HOK.out.lt k hlt) (HT3.out.below HW.out) (hN.below HWw.out))
      have hBl := HM.out.lt
      have fB := HM.out.free k
      obtain ⟨x0, cB⟩ : ∃ x0, wr.cell? ⟨Bp, k, none⟩ = some x0 := by
        obtain ⟨ds, e1, e2⟩ := HSZ.out
        rw [cell_of_row wr Bp k ds _ (0, 0) e1]
        exact ⟨ds[k]'(by omega), Array.getElem?_eq_getElem _⟩
      clear ck hN
      go_wp2_with fail
      refine HD.out.mono ?_
      rintro e w5 ⟨g, c, rfl, hg, hcc, hr, hb5⟩
      have cB5 := (hb5.cell (p := ⟨Bp, k, none⟩) hBl).trans cB
      have fB5 := (hb5.frozen (p := ⟨Bp, k, none⟩) hBl).trans fB
      have hm5 := HM.out.below hb5 (Nat.le_refl _)
      have hs5 : ∃ cs, w5.heap[Bp]? = some (.cells cs 31 (0, 0)) ∧ cs.size = R := by
        obtain ⟨ds, e1, e2⟩ := HSZ.out
        exact ⟨ds, (hb5.block Bp hBl).trans e1, e2⟩
      have hpu := hm5.push hs5 hlt (g := g) (c := c) (by have := HW.out.size; omega) hcc (hr.congr (fun j hj => M.mulF_app hj)) (fun i hi => by have := (HM.out.row i hi).lt; omega)
      have HPU := Lib.hid hpu
      have HW5 := Lib.hid (HW.out.trans (hb5.mono HW.out.size))
      clear hb5 hr hm5 hs5 hpu cB fB hg
      go_wp2_with fail
      go_roundw
      case rel => exact ⟨k + 1, by omega, by go_num, ⟨_, _, HPU.out.1⟩, HPU.out.2, HW5.out.setCell (p := ⟨Bp, k, none⟩) hbp _⟩
      case measure => simp [intOf]; omega
    · obtain rfl : R = k := by omega
      go_wp2_with fail
      go_ret2
      exact ⟨_, rfl, HM.out.mat (Nat.le_refl _) (by omega) (by omega) (fun i hi j hj => by have := M.mulF_lt (p := p) (by omega) a b n i j; omega), bnext HB3.out HW.out⟩

set_option maxHeartbeats 1000000 in
theorem column_any (p R K j : Nat) (v : Value) (m : List (List Nat)) (w : World) (hok : M.Ok p m R K) (hj : j < K) (hv : Mat w v m) :
    Calls Try.prog 53 #[v, .int .i64 j] w (Gives w (M.col m j R)) := by
  obtain ⟨h3, hp⟩ := M.pos_of hok.isp
  obtain ⟨A, cap, rfl, _, _, hrows⟩ := mat_view hv
  have HRW := Lib.hid hrows
  rw [hok.rows] at HRW ⊢
  have HOK := Lib.hid hok
  have hR64 := hok.R64
  have hK64 := hok.K64
  clear hrows hv hok
  go_enter Try.func53, Try.ntmps53
  go_wp2_with fail
  go_loopw [10, 5] (fun ti tv wr => ∃ k : Nat, k ≤ R ∧ ti = .int .i64 k ∧ wr.ownsRow w.heap.size 22 1 tv k (vals (M.col m j k)) ∧ Below w.heap.size w wr) (fun ti _ _ => R - (intOf ti).toNat)
  case atStart => exact ⟨0, by omega, rfl, World.ownsRow_nil _ _ _ _, Below.refl _ _⟩
  case round =>
    obtain ⟨k, hk, rfl, hown, hB⟩ := hrel
    have HO := Lib.hid hown
    have HB := Lib.hid hB
    clear hown hB
    by_cases hlt : k < R
    · obtain ⟨b, off, rfl, hbl, hcells⟩ := HRW.out (by omega)
      obtain ⟨Au, cu, ck, hN⟩ := hcells k hlt
      have ck2 := (HB.out.cell (p := ⟨b, off + k, none⟩) hbl).trans ck
      rw [HOK.out.cols k hlt] at ck2 hN
      obtain ⟨Au', cu', eu, _, _, hCe⟩ := nums_view hN
      simp only [Value.slice.injEq] at eu
      obtain ⟨rfl, -, rfl⟩ := eu
      obtain ⟨bu, ou, rfl, hbu, hce⟩ := hCe (by rw [HOK.out.cols k hlt]; omega)
      have cx := (HB.out.cell (p := ⟨bu, ou + j, none⟩) hbu).trans (hce j (by rw [HOK.out.cols k hlt]; exact hj))
      have hsn := M.col_succ m j k
      have ee : M.el m k j = (m.getD k []).getD j 0 := rfl
      rw [ee] at hsn
      obtain ⟨x, ex⟩ : ∃ x, (m.getD k []).getD j 0 = x := ⟨_, rfl⟩
      rw [ex] at cx hsn
      have HSN := Lib.hid hsn
      have hbs := HB.out.size
      clear hcells ck hN hCe hce ex ee hsn
      go_wp2_with (at_builtin; refine wpList_append_num (y := x) rfl _ _ rfl rfl rfl HO.out (by omega) hbs ?_)
      intro v' w4 hown' hb4
      have HB4 := Lib.hid (HB.out.trans hb4)
      rw [← HSN.out] at hown'
      have HOW := Lib.hid hown'
      clear hown' hb4
      go_wp2_with fail
      go_roundw
      case rel => exact ⟨k + 1, by omega, by go_num, HOW.out, HB4.out⟩
      case measure => simp [intOf]; omega
    · obtain rfl : R = k := by omega
      have hN := nums_of_owns (zs := M.col m j R) HO.out (fun x hx => by
        unfold M.col M.tabM at hx
        obtain ⟨i, hi, rfl⟩ := List.mem_map.1 hx
        have := HOK.out.el_lt (List.mem_range.1 hi) hj
        omega) (by rw [M.col_len]; omega)
      have HN2 := Lib.hid hN
      clear hN
      go_wp2_with fail
      go_ret
      exact ⟨_, rfl, HN2.out, HB.out⟩
end Go.Proofs.Ytaaipcdipdkooaa
