/-
  The walk of the law ShareSums.
-/
import Derived.Test.YtgjkinmfgejjaaaSumR
namespace Go.Proofs.Ytgjkinmfgejjaaa.shareSumsW
open Go.RowKit
set_option linter.unusedVariables false
set_option maxRecDepth 100000

def SumTwo (w : World) (p : Nat) (n t : Int) (m : List (List Nat)) (e : Ending) (w' : World) : Prop :=
  Below w.heap.size w w' ∧ ∃ vs es, e = .returned (.tuple #[vs, .int .i64 es]) ∧ ((SumGood p n t m ∧ es = 0 ∧ Nums w' vs (M.tabM n.toNat fun q => M.sumK (M.colK m q) m.length % p)) ∨ (¬ SumGood p n t m ∧ es = 2 ∧ vs = .slice none 0 0))
theorem sum_two {w w' : World} {p : Nat} {n t : Int} {m : List (List Nat)} {e : Ending} (h : SumEnd w p n t m e w') : SumTwo w p n t m e w' := by
  rcases h with ⟨hb, ⟨hg, v, rfl, hN⟩ | ⟨hg, rfl⟩⟩
  · exact ⟨hb, v, 0, rfl, .inl ⟨hg, rfl, hN⟩⟩
  · exact ⟨hb, _, 2, rfl, .inr ⟨hg, rfl, rfl⟩⟩

set_option maxHeartbeats 8000000 in
theorem walk (w : World) (p : Nat) (n t : Int) (hp : p < 18446744073709551616) (hn1 : -9223372036854775808 ≤ n) (hn2 : n ≤ 9223372036854775807) (ht1 : -9223372036854775808 ≤ t) (ht2 : t ≤ 9223372036854775807) (v : Value) (m : List (List Nat)) (hv : Mat w v m) (c : Nat) (hc : c < 18446744073709551616) :
    Calls Try.prog 8 #[suV p n t, v, .int .u64 c] w fun e w' => e = .returned (.bool true) ∧ Below w.heap.size w w' := by
  have H1 := Lib.hid fun W (hW : Mat W v m) => (sumS_any p n t v m W hp hn1 hn2 ht1 ht2 hW).mono fun e w' h => sum_two h
  have H2 := Lib.hid fun W => rsetup_any p n t W hp hn1 hn2 ht1 ht2
  have H3 := Lib.hid fun W u zs (hW : Nums W u zs) => rall_any p n t u zs W hW
  have H4 := Lib.hid fun W (hW : Mat W v m) (hg : SumGood p n t m) => show Calls Try.prog 36 #[suV p n t, v] W (Gives W (M.tabM n.toNat fun q => M.sumK (M.colK m q) m.length % p)) from by
    obtain ⟨N, T, rfl, rfl, hi, _, h13, _⟩ := M.okS_nat hg.1
    exact rsum4_any p N T v m W hi h13 (fun i hi => by have := hg.2.1 i hi; omega) (fun q hq => hg.2.2 q (by omega)) hW
  have H5 := Lib.hid fun W u zs (hW : Nums W u zs) => scaleS_any p c n t u zs W hp hn1 hn2 ht1 ht2 hc hW
  have H6 := Lib.hid fun W u zs (hW : Nums W u zs) (hg : ScGood p n t zs c) => show Calls Try.prog 38 #[suV p n t, u, .int .u64 c] W (Gives W (M.sclL p zs c zs.length)) from by
    obtain ⟨N, T, rfl, rfl, hi, _, h13, _⟩ := M.okS_nat hg.1
    exact rscale4_any p c N T u zs W hi hg.2.2.2 (by have := hg.2.1; omega) hg.2.2.1 hW
  have hud : ∀ b : Bool, undef ≠ Value.bool b := fun b h => by cases h
  have BZ := Lib.hid (bad_zero p n t m)
  obtain ⟨e0, ee0⟩ : ∃ e0, M.errS p n t = e0 := ⟨_, rfl⟩
  have EE0 := Lib.hid ee0
  rw [ee0] at H2 BZ
  have HM := Lib.hid hv
  have hLl := hv.1
  obtain ⟨A, cap, rfl⟩ := mat_view hv
  obtain ⟨L, eL⟩ : ∃ L, m.length = L := ⟨_, rfl⟩
  rw [eL] at H1 H4 HM hLl ⊢
  have HL := Lib.hid eL
  have hB0 := balloc w (.cells #[.int .u64 p, .int .i64 n, .int .i64 t] 24)
  have hK0 := kept3 w w.heap.size rfl (.int .u64 p) (.int .i64 n) (.int .i64 t) 24
  obtain ⟨w0, hw0⟩ : ∃ w0, w.alloc (.cells #[.int .u64 p, .int .i64 n, .int .i64 t] 24) = w0 := ⟨_, rfl⟩
  rw [hw0] at hB0 hK0
  have B0 := Lib.hid hB0
  have K0 := Lib.hid hK0
  have hd := hK0.c3
  unfold suV at H1 H2 H3 H4 H5 H6 ⊢
  clear hv eL hB0 hK0 ee0
  obtain ⟨d0_0, d0_1, d0_2⟩ := hd
  go_enter Try.func8, Try.ntmps8
  go_wp2_with fail
  clear hw0
  refine (H1.out _ (HM.out.below B0.out)).mono ?_
  rintro e w1 ⟨hb1, vs, es, rfl, hcase⟩
  have B1 := Lib.hid (bnext B0.out hb1)
  have K1 := Lib.hid (K0.out.below hb1)
  have HCASE := Lib.hid hcase
  clear hb1 hcase d0_0 d0_1 d0_2
  obtain ⟨d1_0, d1_1, d1_2⟩ := K1.out.c3
  go_wp2_with fail
  refine (H2.out _).mono ?_
  rintro e w2 ⟨rfl, hb2⟩
  have B2 := Lib.hid (bnext B1.out hb2)
  have K2 := Lib.hid (K1.out.below hb2)
  have HB12 := Lib.hid hb2
  clear hb2 d1_0 d1_1 d1_2
  obtain ⟨d2_0, d2_1, d2_2⟩ := K2.out.c3
  go_wp2_with fail
  go_loopw [9, 25] (fun tb ti wr => ∃ (k : Nat) (b : Int), k ≤ L ∧ ti = .int .i64 k ∧ tb = .int .i64 b ∧ Bad p n t m k b ∧ Below w2.heap.size w2 wr) (fun _ ti _ => L - (intOf ti).toNat)
  case atStart => exact ⟨0, e0, by omega, rfl, rfl, BZ.out, Below.refl _ _⟩
  case round =>
    obtain ⟨k, b, hk, rfl, rfl, hbad, hB⟩ := hrel
    have HBr := Lib.hid hB
    have HBAD := Lib.hid hbad
    have BR := Lib.hid (bnext B2.out hB)
    have K3 := Lib.hid (K2.out.below hB)
    clear hB d2_0 d2_1 d2_2
    obtain ⟨d3_0, d3_1, d3_2⟩ := K3.out.c3
    by_cases hlt : k < L
    · obtain ⟨b2, off, u, rfl, hb0, hcu, hNu⟩ := mat_cell HM.out (i := k) (by rw [HL.out]; exact hlt)
      have hc0 := (BR.out.cell (p := ⟨b2, off + k, none⟩) hb0).trans hcu
      obtain ⟨Au, capu, rfl⟩ := nums_slice' hNu
      have h3a := H3.out wr _ _ (hNu.below BR.out)
      have hkn : (k : Int) < (L : Nat) := by omega
      rcases hbad with ⟨rfl, hgd⟩ | ⟨rfl, hgd⟩
      · have hnx := bad_all hgd
        obtain ⟨y, ey⟩ : ∃ y, y = (if ((m.getD k []).length : Int) = n then errOf (M.within p (m.getD k [])) else 2) := ⟨_, rfl⟩
        rw [← ey] at hnx h3a
        have H3A := Lib.hid h3a
        have HNX := Lib.hid hnx
        have hs0 : ((0 : Int) == 0) = true := rfl
        obtain ⟨lu, elu⟩ : ∃ lu, lu = (m.getD k []).length := ⟨_, rfl⟩
        rw [← elu] at hc0 H3A
        clear ey hnx h3a hcu hNu hgd elu
        go_wp2_with fail
        refine H3A.out.mono ?_
        rintro e w4 ⟨rfl, hb4⟩
        have HB4 := Lib.hid (HBr.out.trans (hb4.mono HBr.out.size))
        clear hb4
        go_wp2_with fail
        go_roundw
        case rel => exact ⟨k + 1, y, by omega, by go_num, rfl, HNX.out, HB4.out⟩
        case measure => simp [intOf]; omega
      · have HNX := Lib.hid (bad_skip hgd)
        have hs0 : ((2 : Int) == 0) = false := rfl
        obtain ⟨lu, elu⟩ : ∃ lu, lu = (m.getD k []).length := ⟨_, rfl⟩
        rw [← elu] at hc0
        clear h3a hcu hNu hgd elu
        go_wp2_with fail
        go_roundw
        case rel => exact ⟨k + 1, 2, by omega, by go_num, rfl, HNX.out, HBr.out⟩
        case measure => simp [intOf]; omega
    · obtain rfl : k = L := by omega
      have hnl : ¬ ((k : Int) < (k : Nat)) := by omega
      rcases hbad with ⟨rfl, hgd⟩ | ⟨rfl, hgd⟩
      · have HG1 : Hid (SumGood p n t m) := Lib.hid (goodTo_all.1 (by rw [HL.out]; exact hgd))
        obtain ⟨_, rfl, hNs⟩ | ⟨hng, _⟩ := HCASE.out
        case inr => exact absurd HG1.out hng
        have hNs3 := (hNs.below HB12.out).below HBr.out
        have R_3 := Lib.hid hNs3
        obtain ⟨w3, hw3⟩ : ∃ w3, wr = w3 := ⟨_, rfl⟩
        subst hw3
        have B3 := Lib.hid BR.out
        have hs0 : ((0 : Int) != 0) = false := rfl
        clear hNs hNs3 hgd
        go_wp2_with fail
        refine (H4.out _ (HM.out.below B3.out) HG1.out).mono ?_
        rintro e w4 ⟨v4, rfl, hN4, hb4⟩
        have R_4 := Lib.hid (R_3.out.below hb4)
        have T_4 := Lib.hid (show Nums w4 v4 (M.tabM n.toNat fun q => M.sumK (M.colK m q) m.length % p) from by rw [HL.out]; exact hN4)
        have B4 := Lib.hid (bnext B3.out hb4)
        have K4 := Lib.hid (K3.out.below hb4)
        clear hb4 hN4 d3_0 d3_1 d3_2
        obtain ⟨d4_0, d4_1, d4_2⟩ := K4.out.c3
        go_wp2_with fail
        refine (is_good _ _ _ _ R_4.out T_4.out).mono ?_
        rintro e w5 ⟨rfl, hb5⟩
        have B5 := Lib.hid (bnext B4.out hb5)
        have K5 := Lib.hid (K4.out.below hb5)
        clear hb5 d4_0 d4_1 d4_2
        obtain ⟨d5_0, d5_1, d5_2⟩ := K5.out.c3
        by_cases hL0 : k = 0
        · subst hL0
          obtain ⟨zo, ezo⟩ : ∃ zo : List Nat, zo = [] := ⟨_, rfl⟩
          have U_5 := Lib.hid (show Nums w5 (.slice none 0 0) zo by rw [ezo]; exact ⟨by simp, by simp, .inl ⟨none, 0, rfl, rfl, fun _ => rfl⟩⟩)
          clear ezo
          go_wp2_with fail
          refine (H5.out _ _ _ U_5.out).mono ?_
          rintro e w6 (⟨hg, v5, rfl, hS, hb⟩ | ⟨hng, rfl, hb⟩)
          · skip
            have HG := Lib.hid hg
            have hes : e0 = 0 := by rw [← EE0.out]; exact (M.errS_ok hg.1).symm
            have hcp := hg.2.2.2
            subst hes
            clear hg
            have B6 := Lib.hid (bnext B5.out hb)
            have K6 := Lib.hid (K5.out.below hb)
            have U_6 := Lib.hid (U_5.out.below hb)
            have S_6 := Lib.hid hS
            clear hb hS d5_0 d5_1 d5_2
            obtain ⟨d6_0, d6_1, d6_2⟩ := K6.out.c3
            have h3g := fun W u (hW : Nums W u zo) => H3.out W u zo hW
            rw [if_pos HG.out.2.1, HG.out.2.2.1] at h3g
            have H3G := Lib.hid h3g
            clear h3g
            have hs0 : ((0 : Int) != 0) = false := rfl
            go_wp2_with fail
            refine (H2.out _).mono ?_
            rintro e w7 ⟨rfl, hb7⟩
            have B7 := Lib.hid (bnext B6.out hb7)
            have K7 := Lib.hid (K6.out.below hb7)
            have U_7 := Lib.hid (U_6.out.below hb7)
            have S_7 := Lib.hid (S_6.out.below hb7)
            clear hb7  d6_0 d6_1 d6_2
            obtain ⟨d7_0, d7_1, d7_2⟩ := K7.out.c3
            go_wp2_with fail
            refine (H3G.out _ _ U_7.out).mono ?_
            rintro e w8 ⟨rfl, hb8⟩
            have B8 := Lib.hid (bnext B7.out hb8)
            have K8 := Lib.hid (K7.out.below hb8)
            have U_8 := Lib.hid (U_7.out.below hb8)
            have S_8 := Lib.hid (S_7.out.below hb8)
            clear hb8  d7_0 d7_1 d7_2
            obtain ⟨d8_0, d8_1, d8_2⟩ := K8.out.c3
            simp only [errOf]
            go_wp2_with fail
            refine (H6.out _ _ _ U_8.out HG.out).mono ?_
            rintro e w9 ⟨v8, rfl, hT, hb9⟩
            have B9 := Lib.hid (bnext B8.out hb9)
            have K9 := Lib.hid (K8.out.below hb9)
            have U_9 := Lib.hid (U_8.out.below hb9)
            have S_9 := Lib.hid (S_8.out.below hb9)
            have T_9 := Lib.hid hT
            clear hb9 hT d8_0 d8_1 d8_2
            obtain ⟨d9_0, d9_1, d9_2⟩ := K9.out.c3
            go_wp2_with fail
            refine (is_good _ _ _ _ S_9.out T_9.out).mono ?_
            rintro e w10 ⟨rfl, hb10⟩
            have B10 := Lib.hid (bnext B9.out hb10)
            have K10 := Lib.hid (K9.out.below hb10)
            have U_10 := Lib.hid (U_9.out.below hb10)
            have S_10 := Lib.hid (S_9.out.below hb10)
            have T_10 := Lib.hid (T_9.out.below hb10)
            clear hb10  d9_0 d9_1 d9_2
            obtain ⟨d10_0, d10_1, d10_2⟩ := K10.out.c3
            go_wp2_with fail
            go_ret
            exact ⟨rfl, B10.out⟩
          · by_cases g1 : e0 ≠ 0
            · skip
              have hs1 : (e0 != 0) = true := by rw [bne_iff_ne]; exact g1
              clear hng
              have B6 := Lib.hid (bnext B5.out hb)
              have K6 := Lib.hid (K5.out.below hb)
              have U_6 := Lib.hid (U_5.out.below hb)
              clear hb  d5_0 d5_1 d5_2
              obtain ⟨d6_0, d6_1, d6_2⟩ := K6.out.c3
              go_wp2_with fail
              refine (H2.out _).mono ?_
              rintro e w7 ⟨rfl, hb7⟩
              have B7 := Lib.hid (bnext B6.out hb7)
              have K7 := Lib.hid (K6.out.below hb7)
              have U_7 := Lib.hid (U_6.out.below hb7)
              clear hb7  d6_0 d6_1 d6_2
              obtain ⟨d7_0, d7_1, d7_2⟩ := K7.out.c3
              go_wp2_with fail
              refine (is_bad 2 _ _ (by omega)).mono ?_
              rintro e w' ⟨rfl, rfl⟩
              go_wp2_with fail
              refine (alive_any _).mono ?_
              rintro e w8 ⟨rfl, hb8⟩
              have B8 := Lib.hid (bnext B7.out hb8)
              have K8 := Lib.hid (K7.out.below hb8)
              have U_8 := Lib.hid (U_7.out.below hb8)
              clear hb8  d7_0 d7_1 d7_2
              obtain ⟨d8_0, d8_1, d8_2⟩ := K8.out.c3
              go_wp2_with fail
              go_ret
              exact ⟨rfl, B8.out⟩
            have g1' : e0 = 0 := Classical.byContradiction g1
            have hok : M.okS p n t = true := by
              have h := EE0.out
              rw [g1'] at h
              unfold M.errS at h
              split at h
              · assumption
              · cases h
            subst g1'
            by_cases g2 : (if (zo.length : Int) = n then errOf (M.within p zo) else 2) = 2
            · clear g1 hok
              have h3g := fun W u (hW : Nums W u zo) => H3.out W u zo hW
              rw [show (if (zo.length : Int) = n then errOf (M.within p zo) else 2) = 2 from g2] at h3g
              have H3G := Lib.hid h3g
              have hs0 : ((0 : Int) != 0) = false := rfl
              have hs1 : ((2 : Int) != 0) = true := rfl
              clear h3g hng g2
              have B6 := Lib.hid (bnext B5.out hb)
              have K6 := Lib.hid (K5.out.below hb)
              have U_6 := Lib.hid (U_5.out.below hb)
              clear hb  d5_0 d5_1 d5_2
              obtain ⟨d6_0, d6_1, d6_2⟩ := K6.out.c3
              go_wp2_with fail
              refine (H2.out _).mono ?_
              rintro e w7 ⟨rfl, hb7⟩
              have B7 := Lib.hid (bnext B6.out hb7)
              have K7 := Lib.hid (K6.out.below hb7)
              have U_7 := Lib.hid (U_6.out.below hb7)
              clear hb7  d6_0 d6_1 d6_2
              obtain ⟨d7_0, d7_1, d7_2⟩ := K7.out.c3
              go_wp2_with fail
              refine (H3G.out _ _ U_7.out).mono ?_
              rintro e w8 ⟨rfl, hb8⟩
              have B8 := Lib.hid (bnext B7.out hb8)
              have K8 := Lib.hid (K7.out.below hb8)
              have U_8 := Lib.hid (U_7.out.below hb8)
              clear hb8  d7_0 d7_1 d7_2
              obtain ⟨d8_0, d8_1, d8_2⟩ := K8.out.c3
              go_wp2_with fail
              refine (is_bad 2 _ _ (by omega)).mono ?_
              rintro e w' ⟨rfl, rfl⟩
              go_wp2_with fail
              refine (alive_any _).mono ?_
              rintro e w9 ⟨rfl, hb9⟩
              have B9 := Lib.hid (bnext B8.out hb9)
              have K9 := Lib.hid (K8.out.below hb9)
              have U_9 := Lib.hid (U_8.out.below hb9)
              clear hb9  d8_0 d8_1 d8_2
              obtain ⟨d9_0, d9_1, d9_2⟩ := K9.out.c3
              go_wp2_with fail
              go_ret
              exact ⟨rfl, B9.out⟩
            have g3 : (if (zo.length : Int) = n then errOf (M.within p zo) else 2) = 0 := by
              cases hw : M.within p zo with
              | true => rw [hw] at g2; split at g2 <;> first | rfl | (rename_i hh; rw [if_pos hh]; rfl) | (exact absurd rfl g2)
              | false => rw [hw] at g2; split at g2 <;> exact absurd rfl g2
            have g4 : p ≤ c := by
              apply Nat.le_of_not_lt
              intro hlt
              apply hng
              by_cases hl : (zo.length : Int) = n
              · rw [if_pos hl] at g3
                cases hw : M.within p zo with
                | true => exact ⟨hok, hl, hw, hlt⟩
                | false => rw [hw] at g3; cases g3
              · rw [if_neg hl] at g3; cases g3
            · clear g1 g2 hok
              have h3g := fun W u (hW : Nums W u zo) => H3.out W u zo hW
              rw [show (if (zo.length : Int) = n then errOf (M.within p zo) else 2) = 0 from g3] at h3g
              have H3G := Lib.hid h3g
              have hs0 : ((0 : Int) != 0) = false := rfl
              clear h3g hng g3
              have B6 := Lib.hid (bnext B5.out hb)
              have K6 := Lib.hid (K5.out.below hb)
              have U_6 := Lib.hid (U_5.out.below hb)
              clear hb  d5_0 d5_1 d5_2
              obtain ⟨d6_0, d6_1, d6_2⟩ := K6.out.c3
              go_wp2_with fail
              refine (H2.out _).mono ?_
              rintro e w7 ⟨rfl, hb7⟩
              have B7 := Lib.hid (bnext B6.out hb7)
              have K7 := Lib.hid (K6.out.below hb7)
              have U_7 := Lib.hid (U_6.out.below hb7)
              clear hb7  d6_0 d6_1 d6_2
              obtain ⟨d7_0, d7_1, d7_2⟩ := K7.out.c3
              go_wp2_with fail
              refine (H3G.out _ _ U_7.out).mono ?_
              rintro e w8 ⟨rfl, hb8⟩
              have B8 := Lib.hid (bnext B7.out hb8)
              have K8 := Lib.hid (K7.out.below hb8)
              have U_8 := Lib.hid (U_7.out.below hb8)
              clear hb8  d7_0 d7_1 d7_2
              obtain ⟨d8_0, d8_1, d8_2⟩ := K8.out.c3
              go_wp2_with fail
              refine (is_bad 2 _ _ (by omega)).mono ?_
              rintro e w' ⟨rfl, rfl⟩
              go_wp2_with fail
              refine (alive_any _).mono ?_
              rintro e w9 ⟨rfl, hb9⟩
              have B9 := Lib.hid (bnext B8.out hb9)
              have K9 := Lib.hid (K8.out.below hb9)
              have U_9 := Lib.hid (U_8.out.below hb9)
              clear hb9  d8_0 d8_1 d8_2
              obtain ⟨d9_0, d9_1, d9_2⟩ := K9.out.c3
              go_wp2_with fail
              go_ret
              exact ⟨rfl, B9.out⟩
        · obtain ⟨b, off, u, rfl, hb0, hcu, hNu⟩ := mat_cell HM.out (i := 0) (by rw [HL.out]; omega)
          have hc0 := (B5.out.cell (p := ⟨b, off + 0, none⟩) hb0).trans hcu
          rw [Nat.add_zero] at hc0
          obtain ⟨Au, capu, rfl⟩ := nums_slice' hNu
          obtain ⟨zo, ezo⟩ : ∃ zo, zo = m.getD 0 [] := ⟨_, rfl⟩
          rw [← ezo] at hc0 hNu
          have U_5 := Lib.hid (hNu.below B5.out)
          have hLp : (0 : Int) < (k : Nat) := by omega
          clear ezo hcu hNu
          go_wp2_with fail
          refine (H5.out _ _ _ U_5.out).mono ?_
          rintro e w6 (⟨hg, v5, rfl, hS, hb⟩ | ⟨hng, rfl, hb⟩)
          · skip
            have HG := Lib.hid hg
            have hes : e0 = 0 := by rw [← EE0.out]; exact (M.errS_ok hg.1).symm
            have hcp := hg.2.2.2
            subst hes
            clear hg
            have B6 := Lib.hid (bnext B5.out hb)
            have K6 := Lib.hid (K5.out.below hb)
            have U_6 := Lib.hid (U_5.out.below hb)
            have S_6 := Lib.hid hS
            clear hb hS d5_0 d5_1 d5_2
            obtain ⟨d6_0, d6_1, d6_2⟩ := K6.out.c3
            have h3g := fun W u (hW : Nums W u zo) => H3.out W u zo hW
            rw [if_pos HG.out.2.1, HG.out.2.2.1] at h3g
            have H3G := Lib.hid h3g
            clear h3g
            have hs0 : ((0 : Int) != 0) = false := rfl
            go_wp2_with fail
            refine (H2.out _).mono ?_
            rintro e w7 ⟨rfl, hb7⟩
            have B7 := Lib.hid (bnext B6.out hb7)
            have K7 := Lib.hid (K6.out.below hb7)
            have U_7 := Lib.hid (U_6.out.below hb7)
            have S_7 := Lib.hid (S_6.out.below hb7)
            clear hb7  d6_0 d6_1 d6_2
            obtain ⟨d7_0, d7_1, d7_2⟩ := K7.out.c3
            go_wp2_with fail
            refine (H3G.out _ _ U_7.out).mono ?_
            rintro e w8 ⟨rfl, hb8⟩
            have B8 := Lib.hid (bnext B7.out hb8)
            have K8 := Lib.hid (K7.out.below hb8)
            have U_8 := Lib.hid (U_7.out.below hb8)
            have S_8 := Lib.hid (S_7.out.below hb8)
            clear hb8  d7_0 d7_1 d7_2
            obtain ⟨d8_0, d8_1, d8_2⟩ := K8.out.c3
            simp only [errOf]
            go_wp2_with fail
            refine (H6.out _ _ _ U_8.out HG.out).mono ?_
            rintro e w9 ⟨v8, rfl, hT, hb9⟩
            have B9 := Lib.hid (bnext B8.out hb9)
            have K9 := Lib.hid (K8.out.below hb9)
            have U_9 := Lib.hid (U_8.out.below hb9)
            have S_9 := Lib.hid (S_8.out.below hb9)
            have T_9 := Lib.hid hT
            clear hb9 hT d8_0 d8_1 d8_2
            obtain ⟨d9_0, d9_1, d9_2⟩ := K9.out.c3
            go_wp2_with fail
            refine (is_good _ _ _ _ S_9.out T_9.out).mono ?_
            rintro e w10 ⟨rfl, hb10⟩
            have B10 := Lib.hid (bnext B9.out hb10)
            have K10 := Lib.hid (K9.out.below hb10)
            have U_10 := Lib.hid (U_9.out.below hb10)
            have S_10 := Lib.hid (S_9.out.below hb10)
            have T_10 := Lib.hid (T_9.out.below hb10)
            clear hb10  d9_0 d9_1 d9_2
            obtain ⟨d10_0, d10_1, d10_2⟩ := K10.out.c3
            go_wp2_with fail
            go_ret
            exact ⟨rfl, B10.out⟩
          · by_cases g1 : e0 ≠ 0
            · skip
              have hs1 : (e0 != 0) = true := by rw [bne_iff_ne]; exact g1
              clear hng
              have B6 := Lib.hid (bnext B5.out hb)
              have K6 := Lib.hid (K5.out.below hb)
              have U_6 := Lib.hid (U_5.out.below hb)
              clear hb  d5_0 d5_1 d5_2
              obtain ⟨d6_0, d6_1, d6_2⟩ := K6.out.c3
              go_wp2_with fail
              refine (H2.out _).mono ?_
              rintro e w7 ⟨rfl, hb7⟩
              have B7 := Lib.hid (bnext B6.out hb7)
              have K7 := Lib.hid (K6.out.below hb7)
              have U_7 := Lib.hid (U_6.out.below hb7)
              clear hb7  d6_0 d6_1 d6_2
              obtain ⟨d7_0, d7_1, d7_2⟩ := K7.out.c3
              go_wp2_with fail
              refine (is_bad 2 _ _ (by omega)).mono ?_
              rintro e w' ⟨rfl, rfl⟩
              go_wp2_with fail
              refine (alive_any _).mono ?_
              rintro e w8 ⟨rfl, hb8⟩
              have B8 := Lib.hid (bnext B7.out hb8)
              have K8 := Lib.hid (K7.out.below hb8)
              have U_8 := Lib.hid (U_7.out.below hb8)
              clear hb8  d7_0 d7_1 d7_2
              obtain ⟨d8_0, d8_1, d8_2⟩ := K8.out.c3
              go_wp2_with fail
              go_ret
              exact ⟨rfl, B8.out⟩
            have g1' : e0 = 0 := Classical.byContradiction g1
            have hok : M.okS p n t = true := by
              have h := EE0.out
              rw [g1'] at h
              unfold M.errS at h
              split at h
              · assumption
              · cases h
            subst g1'
            by_cases g2 : (if (zo.length : Int) = n then errOf (M.within p zo) else 2) = 2
            · clear g1 hok
              have h3g := fun W u (hW : Nums W u zo) => H3.out W u zo hW
              rw [show (if (zo.length : Int) = n then errOf (M.within p zo) else 2) = 2 from g2] at h3g
              have H3G := Lib.hid h3g
              have hs0 : ((0 : Int) != 0) = false := rfl
              have hs1 : ((2 : Int) != 0) = true := rfl
              clear h3g hng g2
              have B6 := Lib.hid (bnext B5.out hb)
              have K6 := Lib.hid (K5.out.below hb)
              have U_6 := Lib.hid (U_5.out.below hb)
              clear hb  d5_0 d5_1 d5_2
              obtain ⟨d6_0, d6_1, d6_2⟩ := K6.out.c3
              go_wp2_with fail
              refine (H2.out _).mono ?_
              rintro e w7 ⟨rfl, hb7⟩
              have B7 := Lib.hid (bnext B6.out hb7)
              have K7 := Lib.hid (K6.out.below hb7)
              have U_7 := Lib.hid (U_6.out.below hb7)
              clear hb7  d6_0 d6_1 d6_2
              obtain ⟨d7_0, d7_1, d7_2⟩ := K7.out.c3
              go_wp2_with fail
              refine (H3G.out _ _ U_7.out).mono ?_
              rintro e w8 ⟨rfl, hb8⟩
              have B8 := Lib.hid (bnext B7.out hb8)
              have K8 := Lib.hid (K7.out.below hb8)
              have U_8 := Lib.hid (U_7.out.below hb8)
              clear hb8  d7_0 d7_1 d7_2
              obtain ⟨d8_0, d8_1, d8_2⟩ := K8.out.c3
              go_wp2_with fail
              refine (is_bad 2 _ _ (by omega)).mono ?_
              rintro e w' ⟨rfl, rfl⟩
              go_wp2_with fail
              refine (alive_any _).mono ?_
              rintro e w9 ⟨rfl, hb9⟩
              have B9 := Lib.hid (bnext B8.out hb9)
              have K9 := Lib.hid (K8.out.below hb9)
              have U_9 := Lib.hid (U_8.out.below hb9)
              clear hb9  d8_0 d8_1 d8_2
              obtain ⟨d9_0, d9_1, d9_2⟩ := K9.out.c3
              go_wp2_with fail
              go_ret
              exact ⟨rfl, B9.out⟩
            have g3 : (if (zo.length : Int) = n then errOf (M.within p zo) else 2) = 0 := by
              cases hw : M.within p zo with
              | true => rw [hw] at g2; split at g2 <;> first | rfl | (rename_i hh; rw [if_pos hh]; rfl) | (exact absurd rfl g2)
              | false => rw [hw] at g2; split at g2 <;> exact absurd rfl g2
            have g4 : p ≤ c := by
              apply Nat.le_of_not_lt
              intro hlt
              apply hng
              by_cases hl : (zo.length : Int) = n
              · rw [if_pos hl] at g3
                cases hw : M.within p zo with
                | true => exact ⟨hok, hl, hw, hlt⟩
                | false => rw [hw] at g3; cases g3
              · rw [if_neg hl] at g3; cases g3
            · clear g1 g2 hok
              have h3g := fun W u (hW : Nums W u zo) => H3.out W u zo hW
              rw [show (if (zo.length : Int) = n then errOf (M.within p zo) else 2) = 0 from g3] at h3g
              have H3G := Lib.hid h3g
              have hs0 : ((0 : Int) != 0) = false := rfl
              clear h3g hng g3
              have B6 := Lib.hid (bnext B5.out hb)
              have K6 := Lib.hid (K5.out.below hb)
              have U_6 := Lib.hid (U_5.out.below hb)
              clear hb  d5_0 d5_1 d5_2
              obtain ⟨d6_0, d6_1, d6_2⟩ := K6.out.c3
              go_wp2_with fail
              refine (H2.out _).mono ?_
              rintro e w7 ⟨rfl, hb7⟩
              have B7 := Lib.hid (bnext B6.out hb7)
              have K7 := Lib.hid (K6.out.below hb7)
              have U_7 := Lib.hid (U_6.out.below hb7)
              clear hb7  d6_0 d6_1 d6_2
              obtain ⟨d7_0, d7_1, d7_2⟩ := K7.out.c3
              go_wp2_with fail
              refine (H3G.out _ _ U_7.out).mono ?_
              rintro e w8 ⟨rfl, hb8⟩
              have B8 := Lib.hid (bnext B7.out hb8)
              have K8 := Lib.hid (K7.out.below hb8)
              have U_8 := Lib.hid (U_7.out.below hb8)
              clear hb8  d7_0 d7_1 d7_2
              obtain ⟨d8_0, d8_1, d8_2⟩ := K8.out.c3
              go_wp2_with fail
              refine (is_bad 2 _ _ (by omega)).mono ?_
              rintro e w' ⟨rfl, rfl⟩
              go_wp2_with fail
              refine (alive_any _).mono ?_
              rintro e w9 ⟨rfl, hb9⟩
              have B9 := Lib.hid (bnext B8.out hb9)
              have K9 := Lib.hid (K8.out.below hb9)
              have U_9 := Lib.hid (U_8.out.below hb9)
              clear hb9  d8_0 d8_1 d8_2
              obtain ⟨d9_0, d9_1, d9_2⟩ := K9.out.c3
              go_wp2_with fail
              go_ret
              exact ⟨rfl, B9.out⟩
      · have HG1 : Hid (¬ SumGood p n t m) := Lib.hid fun h => hgd (by rw [← HL.out]; exact goodTo_all.2 h)
        obtain ⟨hg, _⟩ | ⟨_, rfl, rfl⟩ := HCASE.out
        case inl => exact absurd hg HG1.out
        obtain ⟨w3, hw3⟩ : ∃ w3, wr = w3 := ⟨_, rfl⟩
        subst hw3
        have B3 := Lib.hid BR.out
        have hs0 : ((2 : Int) != 0) = true := rfl
        clear hgd
        go_wp2_with fail
        refine (is_bad 2 _ _ (by omega)).mono ?_
        rintro e w' ⟨rfl, rfl⟩
        by_cases hL0 : k = 0
        · subst hL0
          obtain ⟨zo, ezo⟩ : ∃ zo : List Nat, zo = [] := ⟨_, rfl⟩
          have U_3 := Lib.hid (show Nums wr (.slice none 0 0) zo by rw [ezo]; exact ⟨by simp, by simp, .inl ⟨none, 0, rfl, rfl, fun _ => rfl⟩⟩)
          clear ezo
          go_wp2_with fail
          refine (H5.out _ _ _ U_3.out).mono ?_
          rintro e w4 (⟨hg, v5, rfl, hS, hb⟩ | ⟨hng, rfl, hb⟩)
          · skip
            have HG := Lib.hid hg
            have hes : e0 = 0 := by rw [← EE0.out]; exact (M.errS_ok hg.1).symm
            have hcp := hg.2.2.2
            subst hes
            clear hg
            have B4 := Lib.hid (bnext B3.out hb)
            have K4 := Lib.hid (K3.out.below hb)
            have U_4 := Lib.hid (U_3.out.below hb)
            have S_4 := Lib.hid hS
            clear hb hS d3_0 d3_1 d3_2
            obtain ⟨d4_0, d4_1, d4_2⟩ := K4.out.c3
            have h3g := fun W u (hW : Nums W u zo) => H3.out W u zo hW
            rw [if_pos HG.out.2.1, HG.out.2.2.1] at h3g
            have H3G := Lib.hid h3g
            clear h3g
            have hs0 : ((0 : Int) != 0) = false := rfl
            go_wp2_with fail
            refine (H2.out _).mono ?_
            rintro e w5 ⟨rfl, hb5⟩
            have B5 := Lib.hid (bnext B4.out hb5)
            have K5 := Lib.hid (K4.out.below hb5)
            have U_5 := Lib.hid (U_4.out.below hb5)
            have S_5 := Lib.hid (S_4.out.below hb5)
            clear hb5  d4_0 d4_1 d4_2
            obtain ⟨d5_0, d5_1, d5_2⟩ := K5.out.c3
            go_wp2_with fail
            refine (H3G.out _ _ U_5.out).mono ?_
            rintro e w6 ⟨rfl, hb6⟩
            have B6 := Lib.hid (bnext B5.out hb6)
            have K6 := Lib.hid (K5.out.below hb6)
            have U_6 := Lib.hid (U_5.out.below hb6)
            have S_6 := Lib.hid (S_5.out.below hb6)
            clear hb6  d5_0 d5_1 d5_2
            obtain ⟨d6_0, d6_1, d6_2⟩ := K6.out.c3
            simp only [errOf]
            go_wp2_with fail
            refine (H6.out _ _ _ U_6.out HG.out).mono ?_
            rintro e w7 ⟨v8, rfl, hT, hb7⟩
            have B7 := Lib.hid (bnext B6.out hb7)
            have K7 := Lib.hid (K6.out.below hb7)
            have U_7 := Lib.hid (U_6.out.below hb7)
            have S_7 := Lib.hid (S_6.out.below hb7)
            have T_7 := Lib.hid hT
            clear hb7 hT d6_0 d6_1 d6_2
            obtain ⟨d7_0, d7_1, d7_2⟩ := K7.out.c3
            go_wp2_with fail
            refine (is_good _ _ _ _ S_7.out T_7.out).mono ?_
            rintro e w8 ⟨rfl, hb8⟩
            have B8 := Lib.hid (bnext B7.out hb8)
            have K8 := Lib.hid (K7.out.below hb8)
            have U_8 := Lib.hid (U_7.out.below hb8)
            have S_8 := Lib.hid (S_7.out.below hb8)
            have T_8 := Lib.hid (T_7.out.below hb8)
            clear hb8  d7_0 d7_1 d7_2
            obtain ⟨d8_0, d8_1, d8_2⟩ := K8.out.c3
            go_wp2_with fail
            go_ret
            exact ⟨rfl, B8.out⟩
          · by_cases g1 : e0 ≠ 0
            · skip
              have hs1 : (e0 != 0) = true := by rw [bne_iff_ne]; exact g1
              clear hng
              have B4 := Lib.hid (bnext B3.out hb)
              have K4 := Lib.hid (K3.out.below hb)
              have U_4 := Lib.hid (U_3.out.below hb)
              clear hb  d3_0 d3_1 d3_2
              obtain ⟨d4_0, d4_1, d4_2⟩ := K4.out.c3
              go_wp2_with fail
              refine (H2.out _).mono ?_
              rintro e w5 ⟨rfl, hb5⟩
              have B5 := Lib.hid (bnext B4.out hb5)
              have K5 := Lib.hid (K4.out.below hb5)
              have U_5 := Lib.hid (U_4.out.below hb5)
              clear hb5  d4_0 d4_1 d4_2
              obtain ⟨d5_0, d5_1, d5_2⟩ := K5.out.c3
              go_wp2_with fail
              refine (is_bad 2 _ _ (by omega)).mono ?_
              rintro e w' ⟨rfl, rfl⟩
              go_wp2_with fail
              refine (alive_any _).mono ?_
              rintro e w6 ⟨rfl, hb6⟩
              have B6 := Lib.hid (bnext B5.out hb6)
              have K6 := Lib.hid (K5.out.below hb6)
              have U_6 := Lib.hid (U_5.out.below hb6)
              clear hb6  d5_0 d5_1 d5_2
              obtain ⟨d6_0, d6_1, d6_2⟩ := K6.out.c3
              go_wp2_with fail
              go_ret
              exact ⟨rfl, B6.out⟩
            have g1' : e0 = 0 := Classical.byContradiction g1
            have hok : M.okS p n t = true := by
              have h := EE0.out
              rw [g1'] at h
              unfold M.errS at h
              split at h
              · assumption
              · cases h
            subst g1'
            by_cases g2 : (if (zo.length : Int) = n then errOf (M.within p zo) else 2) = 2
            · clear g1 hok
              have h3g := fun W u (hW : Nums W u zo) => H3.out W u zo hW
              rw [show (if (zo.length : Int) = n then errOf (M.within p zo) else 2) = 2 from g2] at h3g
              have H3G := Lib.hid h3g
              have hs0 : ((0 : Int) != 0) = false := rfl
              have hs1 : ((2 : Int) != 0) = true := rfl
              clear h3g hng g2
              have B4 := Lib.hid (bnext B3.out hb)
              have K4 := Lib.hid (K3.out.below hb)
              have U_4 := Lib.hid (U_3.out.below hb)
              clear hb  d3_0 d3_1 d3_2
              obtain ⟨d4_0, d4_1, d4_2⟩ := K4.out.c3
              go_wp2_with fail
              refine (H2.out _).mono ?_
              rintro e w5 ⟨rfl, hb5⟩
              have B5 := Lib.hid (bnext B4.out hb5)
              have K5 := Lib.hid (K4.out.below hb5)
              have U_5 := Lib.hid (U_4.out.below hb5)
              clear hb5  d4_0 d4_1 d4_2
              obtain ⟨d5_0, d5_1, d5_2⟩ := K5.out.c3
              go_wp2_with fail
              refine (H3G.out _ _ U_5.out).mono ?_
              rintro e w6 ⟨rfl, hb6⟩
              have B6 := Lib.hid (bnext B5.out hb6)
              have K6 := Lib.hid (K5.out.below hb6)
              have U_6 := Lib.hid (U_5.out.below hb6)
              clear hb6  d5_0 d5_1 d5_2
              obtain ⟨d6_0, d6_1, d6_2⟩ := K6.out.c3
              go_wp2_with fail
              refine (is_bad 2 _ _ (by omega)).mono ?_
              rintro e w' ⟨rfl, rfl⟩
              go_wp2_with fail
              refine (alive_any _).mono ?_
              rintro e w7 ⟨rfl, hb7⟩
              have B7 := Lib.hid (bnext B6.out hb7)
              have K7 := Lib.hid (K6.out.below hb7)
              have U_7 := Lib.hid (U_6.out.below hb7)
              clear hb7  d6_0 d6_1 d6_2
              obtain ⟨d7_0, d7_1, d7_2⟩ := K7.out.c3
              go_wp2_with fail
              go_ret
              exact ⟨rfl, B7.out⟩
            have g3 : (if (zo.length : Int) = n then errOf (M.within p zo) else 2) = 0 := by
              cases hw : M.within p zo with
              | true => rw [hw] at g2; split at g2 <;> first | rfl | (rename_i hh; rw [if_pos hh]; rfl) | (exact absurd rfl g2)
              | false => rw [hw] at g2; split at g2 <;> exact absurd rfl g2
            have g4 : p ≤ c := by
              apply Nat.le_of_not_lt
              intro hlt
              apply hng
              by_cases hl : (zo.length : Int) = n
              · rw [if_pos hl] at g3
                cases hw : M.within p zo with
                | true => exact ⟨hok, hl, hw, hlt⟩
                | false => rw [hw] at g3; cases g3
              · rw [if_neg hl] at g3; cases g3
            · clear g1 g2 hok
              have h3g := fun W u (hW : Nums W u zo) => H3.out W u zo hW
              rw [show (if (zo.length : Int) = n then errOf (M.within p zo) else 2) = 0 from g3] at h3g
              have H3G := Lib.hid h3g
              have hs0 : ((0 : Int) != 0) = false := rfl
              clear h3g hng g3
              have B4 := Lib.hid (bnext B3.out hb)
              have K4 := Lib.hid (K3.out.below hb)
              have U_4 := Lib.hid (U_3.out.below hb)
              clear hb  d3_0 d3_1 d3_2
              obtain ⟨d4_0, d4_1, d4_2⟩ := K4.out.c3
              go_wp2_with fail
              refine (H2.out _).mono ?_
              rintro e w5 ⟨rfl, hb5⟩
              have B5 := Lib.hid (bnext B4.out hb5)
              have K5 := Lib.hid (K4.out.below hb5)
              have U_5 := Lib.hid (U_4.out.below hb5)
              clear hb5  d4_0 d4_1 d4_2
              obtain ⟨d5_0, d5_1, d5_2⟩ := K5.out.c3
              go_wp2_with fail
              refine (H3G.out _ _ U_5.out).mono ?_
              rintro e w6 ⟨rfl, hb6⟩
              have B6 := Lib.hid (bnext B5.out hb6)
              have K6 := Lib.hid (K5.out.below hb6)
              have U_6 := Lib.hid (U_5.out.below hb6)
              clear hb6  d5_0 d5_1 d5_2
              obtain ⟨d6_0, d6_1, d6_2⟩ := K6.out.c3
              go_wp2_with fail
              refine (is_bad 2 _ _ (by omega)).mono ?_
              rintro e w' ⟨rfl, rfl⟩
              go_wp2_with fail
              refine (alive_any _).mono ?_
              rintro e w7 ⟨rfl, hb7⟩
              have B7 := Lib.hid (bnext B6.out hb7)
              have K7 := Lib.hid (K6.out.below hb7)
              have U_7 := Lib.hid (U_6.out.below hb7)
              clear hb7  d6_0 d6_1 d6_2
              obtain ⟨d7_0, d7_1, d7_2⟩ := K7.out.c3
              go_wp2_with fail
              go_ret
              exact ⟨rfl, B7.out⟩
        · obtain ⟨b, off, u, rfl, hb0, hcu, hNu⟩ := mat_cell HM.out (i := 0) (by rw [HL.out]; omega)
          have hc0 := (B3.out.cell (p := ⟨b, off + 0, none⟩) hb0).trans hcu
          rw [Nat.add_zero] at hc0
          obtain ⟨Au, capu, rfl⟩ := nums_slice' hNu
          obtain ⟨zo, ezo⟩ : ∃ zo, zo = m.getD 0 [] := ⟨_, rfl⟩
          rw [← ezo] at hc0 hNu
          have U_3 := Lib.hid (hNu.below B3.out)
          have hLp : (0 : Int) < (k : Nat) := by omega
          clear ezo hcu hNu
          go_wp2_with fail
          refine (H5.out _ _ _ U_3.out).mono ?_
          rintro e w4 (⟨hg, v5, rfl, hS, hb⟩ | ⟨hng, rfl, hb⟩)
          · skip
            have HG := Lib.hid hg
            have hes : e0 = 0 := by rw [← EE0.out]; exact (M.errS_ok hg.1).symm
            have hcp := hg.2.2.2
            subst hes
            clear hg
            have B4 := Lib.hid (bnext B3.out hb)
            have K4 := Lib.hid (K3.out.below hb)
            have U_4 := Lib.hid (U_3.out.below hb)
            have S_4 := Lib.hid hS
            clear hb hS d3_0 d3_1 d3_2
            obtain ⟨d4_0, d4_1, d4_2⟩ := K4.out.c3
            have h3g := fun W u (hW : Nums W u zo) => H3.out W u zo hW
            rw [if_pos HG.out.2.1, HG.out.2.2.1] at h3g
            have H3G := Lib.hid h3g
            clear h3g
            have hs0 : ((0 : Int) != 0) = false := rfl
            go_wp2_with fail
            refine (H2.out _).mono ?_
            rintro e w5 ⟨rfl, hb5⟩
            have B5 := Lib.hid (bnext B4.out hb5)
            have K5 := Lib.hid (K4.out.below hb5)
            have U_5 := Lib.hid (U_4.out.below hb5)
            have S_5 := Lib.hid (S_4.out.below hb5)
            clear hb5  d4_0 d4_1 d4_2
            obtain ⟨d5_0, d5_1, d5_2⟩ := K5.out.c3
            go_wp2_with fail
            refine (H3G.out _ _ U_5.out).mono ?_
            rintro e w6 ⟨rfl, hb6⟩
            have B6 := Lib.hid (bnext B5.out hb6)
            have K6 := Lib.hid (K5.out.below hb6)
            have U_6 := Lib.hid (U_5.out.below hb6)
            have S_6 := Lib.hid (S_5.out.below hb6)
            clear hb6  d5_0 d5_1 d5_2
            obtain ⟨d6_0, d6_1, d6_2⟩ := K6.out.c3
            simp only [errOf]
            go_wp2_with fail
            refine (H6.out _ _ _ U_6.out HG.out).mono ?_
            rintro e w7 ⟨v8, rfl, hT, hb7⟩
            have B7 := Lib.hid (bnext B6.out hb7)
            have K7 := Lib.hid (K6.out.below hb7)
            have U_7 := Lib.hid (U_6.out.below hb7)
            have S_7 := Lib.hid (S_6.out.below hb7)
            have T_7 := Lib.hid hT
            clear hb7 hT d6_0 d6_1 d6_2
            obtain ⟨d7_0, d7_1, d7_2⟩ := K7.out.c3
            go_wp2_with fail
            refine (is_good _ _ _ _ S_7.out T_7.out).mono ?_
            rintro e w8 ⟨rfl, hb8⟩
            have B8 := Lib.hid (bnext B7.out hb8)
            have K8 := Lib.hid (K7.out.below hb8)
            have U_8 := Lib.hid (U_7.out.below hb8)
            have S_8 := Lib.hid (S_7.out.below hb8)
            have T_8 := Lib.hid (T_7.out.below hb8)
            clear hb8  d7_0 d7_1 d7_2
            obtain ⟨d8_0, d8_1, d8_2⟩ := K8.out.c3
            go_wp2_with fail
            go_ret
            exact ⟨rfl, B8.out⟩
          · by_cases g1 : e0 ≠ 0
            · skip
              have hs1 : (e0 != 0) = true := by rw [bne_iff_ne]; exact g1
              clear hng
              have B4 := Lib.hid (bnext B3.out hb)
              have K4 := Lib.hid (K3.out.below hb)
              have U_4 := Lib.hid (U_3.out.below hb)
              clear hb  d3_0 d3_1 d3_2
              obtain ⟨d4_0, d4_1, d4_2⟩ := K4.out.c3
              go_wp2_with fail
              refine (H2.out _).mono ?_
              rintro e w5 ⟨rfl, hb5⟩
              have B5 := Lib.hid (bnext B4.out hb5)
              have K5 := Lib.hid (K4.out.below hb5)
              have U_5 := Lib.hid (U_4.out.below hb5)
              clear hb5  d4_0 d4_1 d4_2
              obtain ⟨d5_0, d5_1, d5_2⟩ := K5.out.c3
              go_wp2_with fail
              refine (is_bad 2 _ _ (by omega)).mono ?_
              rintro e w' ⟨rfl, rfl⟩
              go_wp2_with fail
              refine (alive_any _).mono ?_
              rintro e w6 ⟨rfl, hb6⟩
              have B6 := Lib.hid (bnext B5.out hb6)
              have K6 := Lib.hid (K5.out.below hb6)
              have U_6 := Lib.hid (U_5.out.below hb6)
              clear hb6  d5_0 d5_1 d5_2
              obtain ⟨d6_0, d6_1, d6_2⟩ := K6.out.c3
              go_wp2_with fail
              go_ret
              exact ⟨rfl, B6.out⟩
            have g1' : e0 = 0 := Classical.byContradiction g1
            have hok : M.okS p n t = true := by
              have h := EE0.out
              rw [g1'] at h
              unfold M.errS at h
              split at h
              · assumption
              · cases h
            subst g1'
            by_cases g2 : (if (zo.length : Int) = n then errOf (M.within p zo) else 2) = 2
            · clear g1 hok
              have h3g := fun W u (hW : Nums W u zo) => H3.out W u zo hW
              rw [show (if (zo.length : Int) = n then errOf (M.within p zo) else 2) = 2 from g2] at h3g
              have H3G := Lib.hid h3g
              have hs0 : ((0 : Int) != 0) = false := rfl
              have hs1 : ((2 : Int) != 0) = true := rfl
              clear h3g hng g2
              have B4 := Lib.hid (bnext B3.out hb)
              have K4 := Lib.hid (K3.out.below hb)
              have U_4 := Lib.hid (U_3.out.below hb)
              clear hb  d3_0 d3_1 d3_2
              obtain ⟨d4_0, d4_1, d4_2⟩ := K4.out.c3
              go_wp2_with fail
              refine (H2.out _).mono ?_
              rintro e w5 ⟨rfl, hb5⟩
              have B5 := Lib.hid (bnext B4.out hb5)
              have K5 := Lib.hid (K4.out.below hb5)
              have U_5 := Lib.hid (U_4.out.below hb5)
              clear hb5  d4_0 d4_1 d4_2
              obtain ⟨d5_0, d5_1, d5_2⟩ := K5.out.c3
              go_wp2_with fail
              refine (H3G.out _ _ U_5.out).mono ?_
              rintro e w6 ⟨rfl, hb6⟩
              have B6 := Lib.hid (bnext B5.out hb6)
              have K6 := Lib.hid (K5.out.below hb6)
              have U_6 := Lib.hid (U_5.out.below hb6)
              clear hb6  d5_0 d5_1 d5_2
              obtain ⟨d6_0, d6_1, d6_2⟩ := K6.out.c3
              go_wp2_with fail
              refine (is_bad 2 _ _ (by omega)).mono ?_
              rintro e w' ⟨rfl, rfl⟩
              go_wp2_with fail
              refine (alive_any _).mono ?_
              rintro e w7 ⟨rfl, hb7⟩
              have B7 := Lib.hid (bnext B6.out hb7)
              have K7 := Lib.hid (K6.out.below hb7)
              have U_7 := Lib.hid (U_6.out.below hb7)
              clear hb7  d6_0 d6_1 d6_2
              obtain ⟨d7_0, d7_1, d7_2⟩ := K7.out.c3
              go_wp2_with fail
              go_ret
              exact ⟨rfl, B7.out⟩
            have g3 : (if (zo.length : Int) = n then errOf (M.within p zo) else 2) = 0 := by
              cases hw : M.within p zo with
              | true => rw [hw] at g2; split at g2 <;> first | rfl | (rename_i hh; rw [if_pos hh]; rfl) | (exact absurd rfl g2)
              | false => rw [hw] at g2; split at g2 <;> exact absurd rfl g2
            have g4 : p ≤ c := by
              apply Nat.le_of_not_lt
              intro hlt
              apply hng
              by_cases hl : (zo.length : Int) = n
              · rw [if_pos hl] at g3
                cases hw : M.within p zo with
                | true => exact ⟨hok, hl, hw, hlt⟩
                | false => rw [hw] at g3; cases g3
              · rw [if_neg hl] at g3; cases g3
            · clear g1 g2 hok
              have h3g := fun W u (hW : Nums W u zo) => H3.out W u zo hW
              rw [show (if (zo.length : Int) = n then errOf (M.within p zo) else 2) = 0 from g3] at h3g
              have H3G := Lib.hid h3g
              have hs0 : ((0 : Int) != 0) = false := rfl
              clear h3g hng g3
              have B4 := Lib.hid (bnext B3.out hb)
              have K4 := Lib.hid (K3.out.below hb)
              have U_4 := Lib.hid (U_3.out.below hb)
              clear hb  d3_0 d3_1 d3_2
              obtain ⟨d4_0, d4_1, d4_2⟩ := K4.out.c3
              go_wp2_with fail
              refine (H2.out _).mono ?_
              rintro e w5 ⟨rfl, hb5⟩
              have B5 := Lib.hid (bnext B4.out hb5)
              have K5 := Lib.hid (K4.out.below hb5)
              have U_5 := Lib.hid (U_4.out.below hb5)
              clear hb5  d4_0 d4_1 d4_2
              obtain ⟨d5_0, d5_1, d5_2⟩ := K5.out.c3
              go_wp2_with fail
              refine (H3G.out _ _ U_5.out).mono ?_
              rintro e w6 ⟨rfl, hb6⟩
              have B6 := Lib.hid (bnext B5.out hb6)
              have K6 := Lib.hid (K5.out.below hb6)
              have U_6 := Lib.hid (U_5.out.below hb6)
              clear hb6  d5_0 d5_1 d5_2
              obtain ⟨d6_0, d6_1, d6_2⟩ := K6.out.c3
              go_wp2_with fail
              refine (is_bad 2 _ _ (by omega)).mono ?_
              rintro e w' ⟨rfl, rfl⟩
              go_wp2_with fail
              refine (alive_any _).mono ?_
              rintro e w7 ⟨rfl, hb7⟩
              have B7 := Lib.hid (bnext B6.out hb7)
              have K7 := Lib.hid (K6.out.below hb7)
              have U_7 := Lib.hid (U_6.out.below hb7)
              clear hb7  d6_0 d6_1 d6_2
              obtain ⟨d7_0, d7_1, d7_2⟩ := K7.out.c3
              go_wp2_with fail
              go_ret
              exact ⟨rfl, B7.out⟩
end Go.Proofs.Ytgjkinmfgejjaaa.shareSumsW
