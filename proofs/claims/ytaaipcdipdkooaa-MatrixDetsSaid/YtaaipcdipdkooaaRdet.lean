/-
  The reference's Det.
-/
import Derived.Test.YtaaipcdipdkooaaDetRM
import Derived.Outline
namespace Go.Proofs.Ytaaipcdipdkooaa
open Go.RowKit
set_option linter.unusedVariables false

set_option maxHeartbeats 8000000 in
set_option maxRecDepth 100000 in
theorem rdet_any (p R : Nat) (v : Value) (m : List (List Nat)) (w : World) (hok : M.Ok p m R R) (hv : Mat w v m) :
    Calls Try.prog 30 #[.int .u64 p, v] w fun e w' => e = .returned (.int .u64 (M.det p m R : Nat)) ∧ Below w.heap.size w w' := by
  obtain ⟨h3, hp⟩ := M.pos_of hok.isp
  have HC := Lib.hid (copied_any p R R v m w hp hok.tab hv)
  have HLAP := Lib.hid (M.det_lap hok)
  have HDL := Lib.hid (M.det_lt hok)
  have HI := Lib.hid hok.isp
  have HEL := Lib.hid fun i (hi : i < R) j (hj : j < R) => hok.tab.el_lt hi hj
  have hR64 := hok.R64
  have hR1 := hok.R1
  have HFIN := Lib.hid fun (d : Nat) (hd : d < p) (h : M.Eqm p (M.lap R (M.cI (M.el m))) (d : Int)) => (show d = M.det p m R from by
    have := M.eqm_mod_eq' ((M.Eqm.symm h).trans HLAP.out)
    rwa [Nat.mod_eq_of_lt hd, Nat.mod_eq_of_lt HDL.out] at this)
  obtain ⟨dd, edd⟩ : ∃ dd, M.det p m R = dd := ⟨_, rfl⟩
  rw [edd] at HFIN ⊢
  obtain ⟨lm, elm⟩ : ∃ lm, M.lap R (M.cI (M.el m)) = lm := ⟨_, rfl⟩
  rw [elm] at HFIN
  have ELM := Lib.hid elm
  obtain ⟨A, cap, rfl, _⟩ := mat_view hv
  rw [hok.rows] at HC ⊢
  clear hv hok HLAP HDL edd elm
  have hud : ∀ b : Bool, undef ≠ Value.bool b := fun b h => by cases h
  go_enter Try.func30, Try.ntmps30
  go_wp2_with fail
  refine HC.out.mono ?_
  rintro e w1 ⟨B, cap1, G0, Cp0, rfl, hcap, hM, hB⟩
  have HM0 := Lib.hid hM
  have HB0 := Lib.hid hB
  clear hM hB
  go_wp2_with fail
  go_loopw [13, 5] (fun tc td wr => ∃ (c d : Nat) (F : M.Mx), c ≤ R ∧ tc = .int .i64 c ∧ td = .int .u64 d ∧ d < p ∧ (∃ G Cp, MatO wr w.heap.size B R R G Cp F) ∧ (∀ i, i < R → ∀ j, j < R → F i j < p) ∧ M.Eqm p lm ((d : Int) * M.rest R c F) ∧ Below w.heap.size w wr) (fun tc _ _ => R - (intOf tc).toNat)
  case atStart =>
    refine ⟨0, 1, M.el m, by omega, rfl, rfl, by omega, ⟨G0, Cp0, HM0.out⟩, HEL.out, ?_, HB0.out⟩
    rw [M.rest_start, ELM.out]
    exact M.Eqm.of_eq (by simp)
  case round =>
    obtain ⟨c, d, F, hc, rfl, rfl, hd, ⟨G, Cp, hM⟩, hlt, heq, hB⟩ := hrel
    have HM := Lib.hid hM
    have HB := Lib.hid hB
    have HLT := Lib.hid hlt
    have HEQ := Lib.hid heq
    clear hM hB hlt heq HM0 HB0
    by_cases hcR : c < R
    case neg =>
      obtain rfl : R = c := by omega
      have hfin := HFIN.out d hd (by have := HEQ.out; rw [M.rest_end] at this; simpa using this)
      have HF := Lib.hid hfin
      clear hfin
      go_wp2_with fail
      go_ret
      exact ⟨by rw [← HF.out]; rfl, HB.out⟩
    obtain ⟨wo, ewo⟩ : ∃ wo : World, wo = wr := ⟨_, rfl⟩
    rw [← ewo] at HM HB
    rw [← ewo]
    clear ewo
    go_wp2_with fail
    go_loop [7] (fun ta => ∃ r : Nat, c ≤ r ∧ r ≤ R ∧ ta = .int .i64 r ∧ ∀ i, c ≤ i → i < r → F i c = 0) (fun ta => R - (intOf ta).toNat)
    case atStart => exact ⟨c, Nat.le_refl _, by omega, rfl, fun i h1 h2 => absurd h2 (by omega)⟩
    case round =>
      obtain ⟨r, hr1, hr2, rfl, hz⟩ := hrel
      have HZ := Lib.hid hz
      clear hz
      by_cases hrR : r < R
      · have b1 := HM.out.cell hrR
        have b2 := (HM.out.row r hrR).cell hcR
        obtain ⟨x, ex⟩ : ∃ x, F r c = x := ⟨_, rfl⟩
        rw [ex] at b2
        have hxl := HLT.out r hrR c hcR
        rw [ex] at hxl
        obtain ⟨g2, eg2⟩ : ∃ g2, G r = g2 := ⟨_, rfl⟩
        obtain ⟨q2, eq2⟩ : ∃ q2, Cp r = q2 := ⟨_, rfl⟩
        rw [eg2, eq2] at b1
        rw [eg2] at b2
        by_cases hx0 : x = 0
        · have hxb : ((x : Int) == 0) = true := by simp [hx0]
          have HX0 := Lib.hid (ex.trans hx0)
          clear hx0 ex eg2 eq2
          go_wp2_with fail
          go_round
          case rel => exact ⟨r + 1, by omega, by omega, by go_num, fun i h1 h2 => by
            by_cases e : i = r
            · rw [e]; exact HX0.out
            · exact HZ.out i h1 (by omega)⟩
          case measure => simp [intOf]; omega
        · have hxb : ((x : Int) == 0) = false := by simp; omega
          have HX0 := Lib.hid (show F r c ≠ 0 by rw [ex]; exact hx0)
          have EG2 := Lib.hid eg2
          have EQ2 := Lib.hid eq2
          have hrb : ((r : Int) == (R : Int)) = false := by simp; omega
          clear hx0 ex eg2 eq2
          by_cases hrc : r = c
          case' pos =>
            have hrcb : ((r : Int) != (c : Int)) = false := by simp [hrc]
            obtain ⟨F1, eF1⟩ : ∃ F1, F1 = F := ⟨_, rfl⟩
            obtain ⟨d1, ed1⟩ : ∃ d1, d1 = d := ⟨_, rfl⟩
            obtain ⟨W1, eW1⟩ : ∃ W1, W1 = wo := ⟨_, rfl⟩
            obtain ⟨G1, eG1⟩ : ∃ G1, G1 = G := ⟨_, rfl⟩
            obtain ⟨Cp1, eCp1⟩ : ∃ C1, C1 = Cp := ⟨_, rfl⟩
            have HX1 := Lib.hid (show F1 c c ≠ 0 by have := HX0.out; rw [hrc] at this; rw [eF1]; exact this)
            rw [← eF1, ← eW1, ← eG1, ← eCp1] at HM
            rw [← eW1] at HB
            rw [← eF1] at HLT
            rw [← eF1, ← ed1] at HEQ
            rw [← ed1] at hd
            rw [← eW1] at b1 b2
            rw [← ed1, ← eW1]
            have HM1 := HM
            have HB1 := HB
            have HLT1 := HLT
            have HEQ1 := HEQ
            have hd1 := hd
            have c1 := HM1.out.cell hcR
            have c2 := (HM1.out.row c hcR).cell hcR
            obtain ⟨x1, ex1⟩ : ∃ x1, F1 c c = x1 := ⟨_, rfl⟩
            rw [ex1] at c2
            obtain ⟨gc, egc⟩ : ∃ gc, G1 c = gc := ⟨_, rfl⟩
            obtain ⟨qc, eqc⟩ : ∃ qc, Cp1 c = qc := ⟨_, rfl⟩
            rw [egc, eqc] at c1
            rw [egc] at c2
            have EX1 := Lib.hid ex1
            have EGC := Lib.hid egc
            have EQC := Lib.hid eqc
            clear hrc eF1 ed1 eW1 eG1 eCp1 ex1 egc eqc HX0 EG2 EQ2
            clear HM HB HLT HEQ hd
            go_wp2_with fail
          case' neg =>
            have hrcb : ((r : Int) != (c : Int)) = true := by simp; omega
            have hcr : c < r := by omega
            have b0 := HM.out.cell hcR
            obtain ⟨g1, eg1⟩ : ∃ g1, G c = g1 := ⟨_, rfl⟩
            obtain ⟨q1, eq1⟩ : ∃ q1, Cp c = q1 := ⟨_, rfl⟩
            rw [eg1, eq1] at b0
            have f1 := HM.out.free c
            have f2 := HM.out.free r
            obtain ⟨y1, hy1⟩ := setCell_some wo ⟨B, c, none⟩ ⟨B, r, none⟩ (.slice (some ⟨g2, 0, none⟩) R q2) _ b1
            obtain ⟨y2, hy2⟩ := setCell_some wo ⟨B, r, none⟩ ⟨B, c, none⟩ (.slice (some ⟨g1, 0, none⟩) R q1) _ b0
            have hsw := HM.out.swap hcR hrR
            rw [eg1, eq1, EG2.out, EQ2.out] at hsw
            have HSW := Lib.hid hsw
            have HRC := Lib.hid hrc
            clear hsw eg1 eq1 hrc
            go_wp2_with fail
            go_region
            have HSU := Lib.hid fun W => (show Calls Try.prog 62 #[.int .u64 p, .int .u64 0, .int .u64 d] W fun e w' => e = .returned (.int .u64 ((p - d) % p : Nat)) ∧ W = w' from (refSub_any p 0 d W (by omega) hp (by omega) hd).mono fun e w' h => by rw [Nat.zero_add] at h; exact h)
            obtain ⟨W1, eW1⟩ : ∃ W1, W1 = ((wo.setCell ⟨B, c, none⟩ (.slice (some ⟨g2, 0, none⟩) R q2)).setCell ⟨B, r, none⟩ (.slice (some ⟨g1, 0, none⟩) R q1)).drew := ⟨_, rfl⟩
            rw [← eW1]
            obtain ⟨F1, eF1⟩ : ∃ F1, F1 = M.swp F c r := ⟨_, rfl⟩
            have hm1 : MatO W1 w.heap.size B R R (fun i => if i = r then g1 else if i = c then g2 else G i) (fun i => if i = r then q1 else if i = c then q2 else Cp i) F1 := by
              rw [eW1]
              refine (HSW.out.congr (F' := F1) fun i hi j hj => ?_).heap rfl
              rw [eF1]
              unfold M.swp
              by_cases e1 : i = c
              · subst e1; rw [if_neg (by omega), if_pos rfl, if_pos rfl]
              · by_cases e2 : i = r
                · rw [if_pos e2, if_neg e1, if_pos e2]
                · rw [if_neg e2, if_neg e1, if_neg e1, if_neg e2]
            obtain ⟨G1, eG1⟩ : ∃ G', G' = (fun i => if i = r then g1 else if i = c then g2 else G i) := ⟨_, rfl⟩
            obtain ⟨Cp1, eCp1⟩ : ∃ C', C' = (fun i => if i = r then q1 else if i = c then q2 else Cp i) := ⟨_, rfl⟩
            rw [← eG1, ← eCp1] at hm1
            have hlt1 := M.swp_lt hcR hrR HLT.out
            rw [← eF1] at hlt1
            have hB1 : Below w.heap.size w W1 := by
              rw [eW1]
              exact ((HB.out.setCell (p := ⟨B, c, none⟩) HM.out.baseB _).setCell (p := ⟨B, r, none⟩) HM.out.baseB _).drew
            have heq1 : M.Eqm p lm ((((p - d) % p : Nat) : Int) * M.rest R c F1) := by
              have h1 := M.rest_swap (p := (p : Int)) (F := F) hcr hrR
              rw [← eF1] at h1
              refine HEQ.out.trans (M.Eqm.symm ?_)
              refine ((M.neg_mod_eqm (Nat.le_of_lt hd)).mul h1).trans (M.Eqm.of_eq ?_)
              grind
            have hx1 : F1 c c ≠ 0 := by rw [eF1, M.swp_top]; exact HX0.out
            obtain ⟨d1, ed1⟩ : ∃ d1, (p - d) % p = d1 := ⟨_, rfl⟩
            have hd1 : d1 < p := by rw [← ed1]; exact Nat.mod_lt _ (by omega)
            have hsu := HSU.out
            rw [ed1] at heq1 hsu
            have HSU := Lib.hid hsu
            have HM1 := Lib.hid hm1
            have HB1 := Lib.hid hB1
            have HLT1 := Lib.hid hlt1
            have HEQ1 := Lib.hid heq1
            have HX1 := Lib.hid hx1
            have c1 := HM1.out.cell hcR
            have c2 := (HM1.out.row c hcR).cell hcR
            obtain ⟨x1, ex1⟩ : ∃ x1, F1 c c = x1 := ⟨_, rfl⟩
            rw [ex1] at c2
            obtain ⟨gc, egc⟩ : ∃ gc, G1 c = gc := ⟨_, rfl⟩
            obtain ⟨qc, eqc⟩ : ∃ qc, Cp1 c = qc := ⟨_, rfl⟩
            rw [egc, eqc] at c1
            rw [egc] at c2
            have EX1 := Lib.hid ex1
            have EGC := Lib.hid egc
            have EQC := Lib.hid eqc
            clear eF1 ed1 eW1 eG1 eCp1 ex1 egc eqc HX0 EG2 EQ2 hm1 hB1 hlt1 heq1 hx1 hsu HSW b0 b1 b2 f1 f2 hy1 hy2 HM HB HLT HEQ hd
            go_wp2_with fail
            refine (HSU.out _).mono ?_
            rintro e w' ⟨rfl, rfl⟩
            go_wp2_with fail
          all_goals
            have hx1l := HLT1.out c hcR c hcR
            rw [EX1.out] at hx1l
            have hmu := fun W => refMul_any p d1 x1 W (by omega) hp hd1 hx1l
            obtain ⟨d2, ed2⟩ : ∃ d2, d1 * x1 % p = d2 := ⟨_, rfl⟩
            have hd2 : d2 < p := by rw [← ed2]; exact Nat.mod_lt _ (by omega)
            rw [ed2] at hmu
            have HMU := Lib.hid hmu
            have ED2 := Lib.hid ed2
            obtain ⟨iv, eiv⟩ : ∃ iv, M.pw p x1 (p - 2) = iv := ⟨_, rfl⟩
            have hivl : iv < p := by rw [← eiv]; exact M.pw_lt _ _ (by omega)
            have hiv := fun W => (refInv_any p x1 W h3 hp hx1l).mono (R' := fun e w'' => e = .returned (.int .u64 (M.pw p x1 (p - 2))) ∧ w'' = W) (fun e w' h => ⟨h.1, h.2.symm⟩)
            rw [eiv] at hiv
            have HIV := Lib.hid hiv
            have EIV := Lib.hid eiv
            clear hmu hiv ed2 eiv
            refine (HMU.out _).mono ?_
            rintro e w' ⟨rfl, rfl⟩
            go_wp2_with fail
            go_loopw [8] (fun tt wr => ∃ t : Nat, c + 1 ≤ t ∧ t ≤ R ∧ tt = .int .i64 t ∧ MatO wr w.heap.size B R R G1 Cp1 (fun i j => if c < i ∧ i < t then (F1 i j + p - (F1 i c * iv % p) * F1 c j % p) % p else F1 i j) ∧ Below w.heap.size w wr) (fun tt _ => R - (intOf tt).toNat)
            case atStart => exact ⟨c + 1, Nat.le_refl _, by omega, by go_num, HM1.out.congr fun i hi j hj => by rw [if_neg (by omega)], HB1.out⟩
            case round =>
              obtain ⟨t, ht1, ht2, rfl, hM, hB⟩ := hrel
              have HM4 := Lib.hid hM
              have HB4 := Lib.hid hB
              clear hM hB HM1 HB1 c1 c2
              by_cases htR : t < R
              · have k1 := HM4.out.cell hcR
                have k2 := HM4.out.cell htR
                have k3 := (HM4.out.row t htR).cell hcR
                have k4 := (HM4.out.row c hcR).cell hcR
                rw [if_neg (by omega)] at k3 k4
                have r1 : Row wr.drew (G1 t) R (F1 t) := ((HM4.out.row t htR).congr (F' := F1 t) fun j hj => by rw [if_neg (by omega)]).same rfl
                have r2 : Row wr.drew (G1 c) R (F1 c) := ((HM4.out.row c hcR).congr (F' := F1 c) fun j hj => by rw [if_neg (by omega)]).same rfl
                have hgg : G1 t ≠ G1 c := fun h => by have := HM4.out.inj t c htR hcR h; omega
                have hxt := HLT1.out t htR c hcR
                have hls := less_any p (F1 t c * iv % p) (G1 t) (G1 c) (Cp1 t) (Cp1 c) R (F1 t) (F1 c) wr.drew h3 hp (Nat.mod_lt _ (by omega)) (fun j hj => HLT1.out t htR j hj) (fun j hj => HLT1.out c hcR j hj) (by omega) hgg r1 r2
                have hm2 := fun W => (refMul_any p (F1 t c) iv W (by omega) hp hxt hivl).mono (R' := fun e w'' => e = .returned (.int .u64 (F1 t c * iv % p : Nat)) ∧ w'' = W) (fun e w' h => ⟨h.1, h.2.symm⟩)
                obtain ⟨z, ez⟩ : ∃ z, F1 t c = z := ⟨_, rfl⟩
                rw [ez] at k3 hxt hls hm2
                obtain ⟨y, ey⟩ : ∃ y, z * iv % p = y := ⟨_, rfl⟩
                rw [ey] at hls hm2
                obtain ⟨gt, egt⟩ : ∃ gt, G1 t = gt := ⟨_, rfl⟩
                obtain ⟨qt, eqt⟩ : ∃ qt, Cp1 t = qt := ⟨_, rfl⟩
                rw [egt, eqt, EGC.out, EQC.out] at hls
                rw [egt, eqt] at k2
                rw [EGC.out, EQC.out] at k1
                rw [egt] at k3
                rw [EGC.out, EX1.out] at k4
                have HLS := Lib.hid hls
                have HM2 := Lib.hid hm2
                have EZ := Lib.hid ez
                have EY := Lib.hid ey
                have EGT := Lib.hid egt
                clear hls hm2 ez ey egt eqt r1 r2 hgg
                go_wp2_with fail
                refine wp_region_still_tail 27 (by kernel_rfl) (by kernel_rfl) ?_
                simp only [List.take_succ_cons, List.take_zero, List.drop_succ_cons, List.drop_zero]
                repeat still_step
                still_call (HIV.out _)
                repeat still_step
                still_call (HM2.out _)
                repeat still_step
                refine wpStill_nil ?_
                change wpList _ _ _ _ _ wr.drew
                go_wp2_with fail
                refine HLS.out.mono ?_
                rintro e w5 ⟨rfl, hg5, hr5⟩
                go_wp2_with fail
                have hM5 := ((HM4.out.heap (w' := wr.drew) rfl).setRow (w' := w5) htR (by rw [EGT.out]; exact hg5) (by rw [EGT.out]; exact hr5)).congr (F' := fun i j => if c < i ∧ i < t + 1 then (F1 i j + p - (F1 i c * iv % p) * F1 c j % p) % p else F1 i j) (fun i hi j hj => by
                  by_cases e : i = t
                  · subst e
                    rw [if_pos rfl, if_pos (by omega), EZ.out, EY.out]
                  · rw [if_neg e]
                    by_cases e1 : c < i ∧ i < t
                    · rw [if_pos e1, if_pos (by omega)]
                    · rw [if_neg e1, if_neg (by omega)])
                have hbg := (HM4.out.baseG t htR).1
                rw [EGT.out] at hbg
                have hB5 : Below w.heap.size w w5 := HB4.out.drew.grown hg5 HB4.out.size (fun b hb => by simp at hb; omega)
                go_roundw
                case rel => exact ⟨t + 1, by omega, by omega, by go_num, hM5, hB5⟩
                case measure => simp [intOf]; omega
              · obtain rfl : R = t := by omega
                obtain ⟨F2, eF2⟩ : ∃ F2 : M.Mx, F2 = (fun i j => if c < i ∧ i < R then (F1 i j + p - (F1 i c * iv % p) * F1 c j % p) % p else F1 i j) := ⟨_, rfl⟩
                have hm6 := HM4.out
                rw [← eF2] at hm6
                have hlt2 : ∀ i, i < R → ∀ j, j < R → F2 i j < p := fun i hi j hj => by
                  rw [eF2]
                  dsimp only
                  split
                  · exact Nat.mod_lt _ (by omega)
                  · exact HLT1.out i hi j hj
                have hone : iv * x1 % p = 1 := by
                  rw [← EIV.out]
                  unfold M.pw
                  rw [Nat.mod_mul_mod]
                  exact M.inv_mul HI.out (by rw [Nat.mod_eq_of_lt hx1l]; have := HX1.out; rw [EX1.out] at this; exact this)
                have hcol : ∀ i, c < i → i < R → F2 i c = 0 := fun i h1 h2 => by
                  rw [eF2]
                  dsimp only
                  rw [if_pos ⟨h1, h2⟩, EX1.out, Nat.mod_mul_mod, Nat.mul_assoc, ← Nat.mul_mod_mod, hone, Nat.mul_one, Nat.mod_eq_of_lt (HLT1.out i h2 c hcR), Nat.add_sub_cancel_left, Nat.mod_self]
                have he1 : M.Eqm p (M.rest R c F2) (M.rest R c F1) := M.rest_elim (p := (p : Int)) (y := fun i => ((F1 i c * iv % p : Nat) : Int)) hcR (fun j h1 h2 => by rw [eF2]; dsimp only; rw [if_neg (by omega)]) (fun i h1 h2 j h3' h4 => by
                  rw [eF2]
                  dsimp only
                  rw [if_pos ⟨h1, h2⟩]
                  refine (M.sub_mod_eqm (by omega)).trans (M.Eqm.of_eq ?_)
                  rw [Int.natCast_mul])
                rw [M.rest_next hcR hcol, show F2 c c = x1 by rw [eF2]; dsimp only; rw [if_neg (by omega), EX1.out]] at he1
                have heq2 : M.Eqm p lm ((d2 : Int) * M.rest R (c + 1) F2) := by
                  refine HEQ1.out.trans (((M.Eqm.symm he1).mulL _).trans ?_)
                  have h5 := M.eqm_natmod p (d1 * x1)
                  rw [ED2.out, Int.natCast_mul] at h5
                  refine M.Eqm.trans (M.Eqm.of_eq ?_) ((M.Eqm.symm h5).mul (M.Eqm.refl _ _))
                  grind
                have HM6 := Lib.hid hm6
                have HLT2 := Lib.hid hlt2
                have HEQ2 := Lib.hid heq2
                clear hm6 hlt2 heq2 he1 hcol hone eF2
                go_wp2_with fail
                go_roundw
                case rel => exact ⟨c + 1, d2, F2, by omega, by go_num, rfl, hd2, ⟨G1, Cp1, HM6.out⟩, HLT2.out, HEQ2.out, HB4.out⟩
                case measure => simp [intOf]; omega
      · obtain rfl : R = r := by omega
        have hrb : ((R : Int) == (R : Int)) = true := by simp
        have hfin := HFIN.out 0 (by omega) (by
          have := HEQ.out
          rw [M.rest_zero hcR fun i h1 h2 => HZ.out i h1 h2] at this
          simpa using this)
        have HF := Lib.hid hfin
        clear hfin
        go_wp2_with fail
        go_ret
        exact ⟨by rw [← HF.out]; rfl, HB.out⟩
end Go.Proofs.Ytaaipcdipdkooaa
