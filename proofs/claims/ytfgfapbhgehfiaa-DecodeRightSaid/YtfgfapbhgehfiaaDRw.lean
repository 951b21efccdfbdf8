/-
  The walk of the law DecodeRight: the good way.
-/
import Derived.Test.YtfgfapbhgehfiaaDRh
import Derived.Test.YtfgfapbhgehfiaaSpM
import Derived.Test.YtfgfapbhgehfiaaG1
namespace Go.Proofs.Ytfgfapbhgehfiaa.decodeRightW
open Go.RowKit
set_option linter.unusedVariables false
set_option maxRecDepth 100000

theorem nums_cells' {w : World} {A : Option Addr} {n cap : Nat} {zs : List Nat} (h : Nums w (.slice A n cap) zs) (h0 : 0 < zs.length) : ∃ b off, A = some ⟨b, off, none⟩ ∧ b < w.heap.size ∧ ∀ i, i < zs.length → w.cell? ⟨b, off + i, none⟩ = some (.int .u64 (zs.getD i 0 : Nat)) := by
  obtain ⟨A', cap', e, _, _, h5⟩ := nums_view h
  simp only [Value.slice.injEq] at e
  obtain ⟨rfl, _, _⟩ := e
  exact h5 h0
theorem intsZ_cells' {w : World} {A : Option Addr} {n cap : Nat} {zs : List Int} (h : IntsZ w (.slice A n cap) zs) (h0 : 0 < zs.length) : ∃ b off, A = some ⟨b, off, none⟩ ∧ b < w.heap.size ∧ ∀ i, i < zs.length → w.cell? ⟨b, off + i, none⟩ = some (.int .i64 (zs.getD i 0)) := by
  obtain ⟨_, _, A', cap', e, _, h5⟩ := h
  simp only [Value.slice.injEq] at e
  obtain ⟨rfl, _, _⟩ := e
  exact h5 h0
set_option maxHeartbeats 8000000 in
theorem good (w : World) (p : Nat) (hp : p < 18446744073709551616) (D : Nat) (vf vx va vv : Value) (f xs : List Nat) (zs : List Int) (ys : List Nat) (hf : Nums w vf f) (hx : Nums w vx xs) (ha : IntsZ w va zs) (hy : Nums w vv ys) (h0 : M.isP p = true) (h2 : D ≤ 63) (h3 : xs.length ≤ 64) (h4 : M.within p xs = true) (h5 : xs.Nodup) (h6 : M.within p f = true) (h7 : (M.trim f).length ≤ D + 1) (h8 : M.within p ys = true) (h9 : zs.length = ys.length) (hn : D + 1 ≤ xs.length) (hz : zs.length ≤ (xs.length - D - 1) / 2) :
    Calls Try.prog 10 #[.int .u64 p, .int .i64 D, .agg #[vf, vx, va, vv]] w fun e w' => e = .returned (.bool true) ∧ Below w.heap.size w w' := by
  have hud : ∀ b : Bool, undef ≠ Value.bool b := fun b h => by cases h
  have hxl := hx.2.1
  have hfl := hf.2.1
  have hyl := hy.2.1
  have hal := ha.2.1
  obtain ⟨Af, cf, rfl⟩ := nums_slice' hf
  obtain ⟨Ax, cx, rfl⟩ := nums_slice' hx
  obtain ⟨Ay, cy, rfl⟩ := nums_slice' hy
  obtain ⟨Aa, ca, rfl, _⟩ := ha.2.2
  obtain ⟨d, ed⟩ : ∃ d : Int, d = (D : Int) := ⟨_, rfl⟩
  have h1 : (0 : Int) ≤ d := by omega
  have hz0 : (zs.length : Int) ≤ M.most xs.length d := by rw [ed, M.most_nat hn]; omega
  have h10 := hz0
  clear hz0
  have H6 := Lib.hid h6
  have H7 := Lib.hid h7
  have H5 := Lib.hid h5
  have H4 := Lib.hid h4
  have H8 := Lib.hid h8
  have H9 := Lib.hid h9
  have HI := Lib.hid h0
  have HN := Lib.hid hn
  have HZ := Lib.hid hz
  have c0 := fun W => refIs_any p W hp
  rw [h0] at c0
  have C0 := Lib.hid c0
  clear c0
  have e1 : decide (d < 0) = false := by rw [decide_eq_false_iff_not]; omega
  have e2 : decide (63 < d) = false := by rw [decide_eq_false_iff_not]; omega
  have e3 : decide ((64 : Int) < (xs.length : Int)) = false := by rw [decide_eq_false_iff_not]; omega
  have e3n : decide (64 < xs.length) = false := by rw [decide_eq_false_iff_not]; omega
  have C4 := Lib.hid fun (W : World) (hW : Nums W (.slice Ax xs.length cx) xs) => within_any p _ xs W hW (c := 0) (by rw [h4]; rfl)
  have c5 := fun (W : World) (hW : Nums W (.slice Ax xs.length cx) xs) => twice_any _ xs W hW
  rw [← M.twice_no h5] at c5
  have C5 := Lib.hid c5
  clear c5
  have C6 := Lib.hid fun (W : World) (hW : Nums W (.slice Af f.length cf) f) => within_any p _ f W hW (c := 0) (by rw [h6]; rfl)
  obtain ⟨T7, eT7⟩ : ∃ T, T = M.trim f := ⟨_, rfl⟩
  rw [← eT7] at h7
  have e7w : IntKind.i64.wrap (d + 1) = d + 1 := by rw [IntKind.wrap_i64]; omega
  have e7 : decide (d + 1 < (T7.length : Int)) = false := by rw [decide_eq_false_iff_not]; (have h7' : (T7.length : Int) ≤ d + 1 := by rw [ed]; omega); omega
  have C7 := Lib.hid fun (W : World) (hW : Nums W (.slice Af f.length cf) f) => rtrim_any _ f W hW
  rw [← eT7] at C7
  clear eT7
  have C8 := Lib.hid fun (W : World) (hW : Nums W (.slice Ay ys.length cy) ys) => within_any p _ ys W hW (c := 0) (by rw [h8]; rfl)
  have e9 : ((zs.length : Int) != (ys.length : Int)) = false := by rw [h9]; simp
  clear h9
  have c10 := fun W => rmost_any xs.length d W (by omega) (by omega) (by omega) (by omega)
  obtain ⟨m, em⟩ : ∃ m, m = M.most xs.length d := ⟨_, rfl⟩
  rw [← em] at c10 h10
  have C10 := Lib.hid c10
  clear c10 em
  have e10 : decide (m < (zs.length : Int)) = false := by rw [decide_eq_false_iff_not]; omega
  have HF := Lib.hid hf
  have HX := Lib.hid hx
  have HA := Lib.hid ha
  have HY := Lib.hid hy
  clear hf hx ha hy hn hz h7 h10 h1 h0 h4 h5 h6 h8
  subst ed
  have hB0 := (balloc w (.cells #[.slice Af f.length cf, .slice Ax xs.length cx, .slice Aa zs.length ca, .slice Ay ys.length cy] 57))
  have hK0 := (kept4 w (w.heap.size) (by simp) (.slice Af f.length cf) (.slice Ax xs.length cx) (.slice Aa zs.length ca) (.slice Ay ys.length cy) 57)
  obtain ⟨w0, hw0⟩ : ∃ w0, (w.alloc (.cells #[.slice Af f.length cf, .slice Ax xs.length cx, .slice Aa zs.length ca, .slice Ay ys.length cy] 57)) = w0 := ⟨_, rfl⟩
  rw [hw0] at hB0 hK0
  have B0 := Lib.hid hB0
  have K0 := Lib.hid hK0
  clear hB0 hK0
  obtain ⟨d0_0, d0_1, d0_2, d0_3⟩ := K0.out.c4
  go_enter Try.func10, Try.ntmps10
  go_wp2_with fail
  clear hw0
  have F_0 := Lib.hid (HF.out.below B0.out)
  have X_0 := Lib.hid (HX.out.below B0.out)
  have A_0 := Lib.hid (HA.out.below B0.out)
  have Y_0 := Lib.hid (HY.out.below B0.out)
  have hK := K0.out
  have hB := B0.out
  try dsimp only [List.append]
  refine wp_region_lex (S := fun W' => W'.cell? ⟨w.heap.size, 0, none⟩ = some (.slice Af f.length cf) ∧ W'.cell? ⟨w.heap.size, 1, none⟩ = some (.slice Ax xs.length cx) ∧ W'.cell? ⟨w.heap.size, 2, none⟩ = some (.slice Aa zs.length ca) ∧ W'.cell? ⟨w.heap.size, 3, none⟩ = some (.slice Ay ys.length cy)) (by kernel_rfl) (by kernel_rfl) (fun _ _ _ _ _ h => h) ?_ ?_
  · (first | exact q2.c4 | exact q1.c4 | exact hK.c4 | go_keep)
  repeat (first
    | (refine LexH.pass (by rfl) ?_; (try simp only [Act.put, List.setIfInBounds_toArray, List.set_cons_zero, List.set_cons_succ]))
    | (refine LexH.yield (v := ?_) (by rfl) ?_ ?_; rotate_left 1; (· intro w hSw; (try dsimp only at hSw); go_simp; try with_reducible rfl); (try simp only [Act.put, List.setIfInBounds_toArray, List.set_cons_zero, List.set_cons_succ]))
    | (refine LexH.late (v2 := ?_) (v3 := ?_) (by kernel_rfl) (by rfl) ?_ (by rfl) ?_ (by rfl) ?_; rotate_left 2; (· intro w hSw; (try dsimp only at hSw); (try simp only [Act.put, List.setIfInBounds_toArray, List.set_cons_zero, List.set_cons_succ]); go_simp; try with_reducible rfl); (· intro w hSw; (try dsimp only at hSw); (try simp only [Act.put, List.setIfInBounds_toArray, List.set_cons_zero, List.set_cons_succ]); go_simp; try with_reducible rfl); intro K hKK; (try simp only [Act.put, List.setIfInBounds_toArray, List.set_cons_zero, List.set_cons_succ]); go_simp; (go_at_call 32; (with_reducible refine (C7.out _ (F1)).mono ?_); rintro e w2 ⟨v7, rfl, hT, hb2⟩; have q2 := Kept.below q1 hb2; have r2 := bnext r1 hb2; have F2 := (F1).below hb2; have X2 := (X1).below hb2; have A2 := (A1).below hb2; have Y2 := (Y1).below hb2; obtain ⟨At, ct, rfl⟩ := nums_slice' hT); go_wp2_with fail; refine hKK.out _ _ ?_ (fun hHeld => ?_); (· (first | exact q2.c4 | exact q1.c4 | exact hK.c4 | go_keep)); clear hKK K hHeld; refine LexO.yield (v := ?_) (by rfl) ?_ ?_; rotate_left 1; (· intro w hSw; (try dsimp only at hSw); (try simp only [Act.put, List.setIfInBounds_toArray, List.set_cons_zero, List.set_cons_succ]); go_simp; try with_reducible rfl); (try simp only [Act.put, List.setIfInBounds_toArray, List.set_cons_zero, List.set_cons_succ]))
    | (refine LexH.alone (by rfl) (by kernel_rfl) (fun K hKK => ?_); go_simp; (first | (go_at_call 16; (with_reducible refine (C10.out _).mono ?_); rintro e w' ⟨rfl, rfl⟩) | (go_at_call 30; (with_reducible refine (C8.out _ (Y2)).mono ?_); rintro e w' ⟨rfl, rfl⟩) | (go_at_call 30; (with_reducible refine (C6.out _ (F1)).mono ?_); rintro e w' ⟨rfl, rfl⟩) | (go_at_call 31; (with_reducible refine (C5.out _ ((X_0.out).below (Below.refl _ _).drew)).mono ?_); rintro e w1 ⟨rfl, hb1⟩; have q1 := Kept.below hK (below_of_drew hb1); have r1 := bnext hB (below_of_drew hb1); have F1 := (F_0.out).below (below_of_drew hb1); have X1 := (X_0.out).below (below_of_drew hb1); have A1 := (A_0.out).below (below_of_drew hb1); have Y1 := (Y_0.out).below (below_of_drew hb1)) | (go_at_call 30; (with_reducible refine (C4.out _ ((X_0.out).below (Below.refl _ _).drew)).mono ?_); rintro e w' ⟨rfl, rfl⟩) | (go_at_call 29; (with_reducible refine (C0.out _).mono ?_); rintro e w' ⟨rfl, rfl⟩)); go_wp2_with fail; refine hKK.out _ _ ?_ (fun hHeld => ?_); (· (first | exact q2.c4 | exact q1.c4 | exact hK.c4 | go_keep)); clear hKK K hHeld; (try simp only [Act.put, List.setIfInBounds_toArray, List.set_cons_zero, List.set_cons_succ])))
  refine LexH.nil ?_
  have B2 := Lib.hid r2
  have K2 := Lib.hid q2
  have F_2 := Lib.hid (F2)
  have X_2 := Lib.hid (X2)
  have A_2 := Lib.hid (A2)
  have Y_2 := Lib.hid (Y2)
  have T_2 := Lib.hid (hT)
  clear hK hB d0_0 d0_1 d0_2 d0_3 hb1 q1 r1 hb2 q2 r2
  obtain ⟨d2_0, d2_1, d2_2, d2_3⟩ := K2.out.c4
  clear C0 C4 C5 C6 C7 C8 C10 e1 e2 e3 e3n e7 e7w e9 e10
  go_wp2_with fail
  obtain ⟨es, ees⟩ : ∃ es, es = M.evals p f xs := ⟨_, rfl⟩
  have HES := Lib.hid ees
  have hgt : ∀ k, k < xs.length → M.pev p f (xs.getD k 0) = es.getD k 0 := fun k hk => by rw [ees, M.evals_get hk]
  have HGT := Lib.hid hgt
  have hpp := M.pos_of HI.out
  have hxlt : ∀ k, k < xs.length → xs.getD k 0 < p := fun k hk => M.within_mem H4.out hk
  have HXL := Lib.hid hxlt
  clear ees hgt hxlt
  
  go_loopw [7, 91] (fun tp t wr => ∃ k : Nat, k ≤ xs.length ∧ t = .int .i64 k ∧ wr.ownsRow w2.heap.size 64 2 tp k (ptRow4 xs es k) ∧ Below w2.heap.size w2 wr) (fun _ t _ => xs.length - (intOf t).toNat)
  case atStart => exact ⟨0, by omega, rfl, World.ownsRow_nil _ _ _ _, Below.refl _ _⟩
  case round =>
    obtain ⟨k, hk, rfl, hp1, hB⟩ := hrel
    have HP1 := Lib.hid hp1
    have HB := Lib.hid hB
    clear hp1 hB
    by_cases hlt : k < xs.length
    · obtain ⟨bx, ox, rfl, hbx, hcx⟩ := nums_cells' X_2.out (by omega)
      have hbs := HB.out.size
      have hc1 := (HB.out.cell (p := ⟨bx, ox + k, none⟩) hbx).trans (hcx k hlt)
      obtain ⟨q0, q1, q2, q3⟩ := (K2.out.below HB.out).c4
      have hE := reval_any p (xs.getD k 0) _ f wr (by omega) (by omega) (HXL.out k hlt) H6.out (F_2.out.below HB.out)
      rw [HGT.out k hlt] at hE
      have hsn : ptRow4 xs es (k + 1) = ptRow4 xs es k ++ [.int .u64 (xs.getD k 0 : Nat), .int .u64 (es.getD k 0 : Nat)] := rfl
      obtain ⟨x, hx⟩ : ∃ x, x = xs.getD k 0 := ⟨_, rfl⟩
      obtain ⟨y, hy⟩ : ∃ y, y = es.getD k 0 := ⟨_, rfl⟩
      rw [← hx] at hc1 hsn hE
      rw [← hy] at hsn hE
      have HE := Lib.hid hE
      have HSN := Lib.hid hsn
      have HX1 := Lib.hid (heap_alloc_new wr (.cells #[.int .u64 (x : Nat), .int .u64 (y : Nat)] 64))
      have HO1 := Lib.hid (HP1.out.alloc (.cells #[.int .u64 (x : Nat), .int .u64 (y : Nat)] 64))
      have HB2 := Lib.hid (HB.out.alloc hbs (.cells #[.int .u64 (x : Nat), .int .u64 (y : Nat)] 64))
      clear hx hy hcx hE hsn
      go_wp2_with (first | (go_at_call 33; refine HE.out.mono ?_; rintro e w' ⟨rfl, rfl⟩) | (at_builtin; refine wpList_append_ptAt (X := wr.heap.size) rfl _ _ rfl rfl (by rfl) HX1.out HO1.out (by omega) HB2.out.size ?_; intro v1 w2 ho1 hg1 hb1'))
      go_roundw
      case rel => exact ⟨k + 1, by omega, by go_num, by rw [HSN.out]; exact ho1, HB2.out.trans hb1'⟩
      case measure => simp [intOf]; omega
    · obtain rfl : k = xs.length := by omega
      obtain ⟨wl, hwl⟩ : ∃ x, x = wr := ⟨_, rfl⟩
      rw [← hwl] at HP1 HB ⊢
      clear hwl
      obtain ⟨g, cl, rfl, hgb, hgl⟩ := HP1.out.form (by have := HN.out; omega)
      have HGB := Lib.hid hgb
      obtain ⟨bw, ebw⟩ : ∃ b, b = w2.heap.size := ⟨_, rfl⟩
      have HKP := Lib.hid fun (W : World) (hW : Below bw w2 W) => (show Below w2.heap.size w2 W from ebw ▸ hW)
      have HBL := Lib.hid (show Below bw w2 wl by rw [ebw]; exact HB.out)
      rw [← ebw] at HP1 HGB
      clear ebw hgb hgl HB
      obtain ⟨q0, q1, q2, q3⟩ := (K2.out.below (HKP.out _ HBL.out)).c4
      have HKC := Lib.hid K2.out
      go_wp2_with fail
      
      go_loopw [109] (fun t wx => ∃ k : Nat, k ≤ zs.length ∧ t = .int .i64 k ∧ wx.ownsRow bw 64 2 (.slice (some ⟨g, 0, none⟩) xs.length cl) xs.length (ptRow4 xs (M.spoil es (fun j => (zs.getD j 0).toNat) (fun j => ys.getD j 0) k) xs.length) ∧ Below bw w2 wx) (fun t _ => zs.length - (intOf t).toNat)
      case atStart => exact ⟨0, by omega, rfl, HP1.out, HBL.out⟩
      case round =>
        obtain ⟨k, hk, rfl, hx, hB⟩ := hrel
        have HX := Lib.hid hx
        have HBX := Lib.hid hB
        clear hx hB q0 q1 q2 q3
        by_cases hlt2 : k < zs.length
        · obtain ⟨ba, oa, rfl, hba, hca⟩ := intsZ_cells' A_2.out (by omega)
          have hB0 := HKP.out _ HBX.out
          have hc1 := (hB0.cell (p := ⟨ba, oa + k, none⟩) hba).trans (hca k hlt2)
          have hzb := A_2.out.1 (zs.getD k 0) (by rw [List.getD_eq_getElem?_getD, List.getElem?_eq_getElem hlt2]; exact List.getElem_mem hlt2)
          obtain ⟨b9, oy, rfl, hby, hcy⟩ := nums_cells' Y_2.out (by rw [← H9.out]; omega)
          have hc2 := (hB0.cell (p := ⟨b9, oy + k, none⟩) hby).trans (hcy k (by rw [← H9.out]; exact hlt2))
          have hky : k < ys.length := by rw [← H9.out]; exact hlt2
          obtain ⟨q0, q1, q2, q3⟩ := (HKC.out.below hB0).c4
          obtain ⟨z, ez⟩ : ∃ z, z = zs.getD k 0 := ⟨_, rfl⟩
          have hsp : M.spoil es (fun j => (zs.getD j 0).toNat) (fun j => ys.getD j 0) (k + 1) = (M.spoil es (fun j => (zs.getD j 0).toNat) (fun j => ys.getD j 0) k).set (zs.getD k 0).toNat (ys.getD k 0) := rfl
          rw [← ez] at hc1 hzb hsp
          have BA := Lib.hid (bnext B2.out hB0)
          clear ez hca hcy hB0
          by_cases hz1 : z < 0
          · have hz1' : decide (z < 0) = true := by rw [decide_eq_true_eq]; exact hz1
            go_wp2_with fail
            
            refine (alive_any _).mono ?_
            rintro e wz ⟨rfl, hb⟩
            go_wp2_with fail
            go_ret
            exact ⟨rfl, bnext BA.out hb⟩
          · by_cases hz2 : (xs.length : Int) ≤ z
            · have hz1' : decide (z < 0) = false := by rw [decide_eq_false_iff_not]; exact hz1
              have hz2' : decide ((xs.length : Int) ≤ z) = true := by rw [decide_eq_true_eq]; exact hz2
              go_wp2_with fail
              refine (alive_any _).mono ?_
              rintro e wz ⟨rfl, hb⟩
              go_wp2_with fail
              go_ret
              exact ⟨rfl, bnext BA.out hb⟩
            · obtain ⟨Z, rfl⟩ := Int.eq_ofNat_of_zero_le (Int.not_lt.1 hz1)
              have hZ : Z < xs.length := by omega
              have hz1' : decide ((Z : Int) < 0) = false := by rw [decide_eq_false_iff_not]; exact hz1
              have hz2' : decide ((xs.length : Int) ≤ (Z : Int)) = false := by rw [decide_eq_false_iff_not]; exact hz2
              have hz3' : decide (xs.length ≤ Z) = false := by rw [decide_eq_false_iff_not]; omega
              have hsl := M.spoil_len es (fun j => (zs.getD j 0).toNat) (fun j => ys.getD j 0) k
              rw [HES.out, M.evals_len] at hsl
              rw [← HES.out] at hsl
              have hst := HX.out.stored (Z * 2 + 1) (.int .u64 ((ys.getD k 0 : Nat) : Int))
              rw [ptRow4_set (by rw [hsl]; exact hZ) _ hZ] at hst
              rw [Int.toNat_natCast] at hsp
              rw [← hsp] at hst
              have hcl := HX.out.cellAt (Z * 2 + 1) (by omega)
              rw [(ptRow4_get xs _ xs.length Z hZ).2] at hcl
              have hfr : wr.frozen? ⟨g, Z * 2 + 1, none⟩ = false := HX.out.frozenAt _
              obtain ⟨yk, eyk⟩ : ∃ y, y = ys.getD k 0 := ⟨_, rfl⟩
              rw [← eyk] at hc2 hst
              obtain ⟨y0, ey0⟩ : ∃ y, y = (M.spoil es (fun j => (zs.getD j 0).toNat) (fun j => ys.getD j 0) k).getD Z 0 := ⟨_, rfl⟩
              rw [← ey0] at hcl
              have HS := Lib.hid hst
              have HGL := Lib.hid (HX.out.lt g rfl).1
              have hgs := (HX.out.lt g rfl).2
              clear hst hsp hsl eyk ey0 hz1 hz2
              go_wp2
              
              go_roundw
              case rel => exact ⟨k + 1, by omega, by go_num, HS.out.1, HBX.out.setCell (p := ⟨g, Z * 2 + 1, none⟩) HGL.out _⟩
              case measure => simp [intOf]; omega
        · obtain rfl : k = zs.length := by omega
          obtain ⟨S, eS⟩ : ∃ S, S = M.spoil es (fun j => (zs.getD j 0).toNat) (fun j => ys.getD j 0) zs.length := ⟨_, rfl⟩
          rw [← eS] at HX
          have hSl : S.length = xs.length := by rw [eS, M.spoil_len, HES.out, M.evals_len]
          have hSp : ∀ y ∈ S, y < p := by
            rw [eS]
            refine M.spoil_lt ?_ _ fun j hj => M.within_mem H8.out (by rw [← H9.out]; exact hj)
            rw [HES.out]
            intro y hy
            unfold M.evals at hy
            obtain ⟨x, _, rfl⟩ := List.mem_map.1 hy
            exact Nat.mod_lt _ (by omega)
          have hgood : M.Good p D ((xs.length - D - 1) / 2) xs S (M.trim f) := by
            rw [eS, HES.out]
            exact M.spoil_good H6.out H7.out HZ.out
          have hok : M.DOk p D xs S := ⟨HI.out, h2, h3, H4.out, by unfold M.within; simpa using hSp, H5.out⟩
          have hpts : Pts wr (.slice (some ⟨g, 0, none⟩) xs.length cl) xs S := pts_of_row4 hSl X_2.out.1 (fun y hy => by have := hSp y hy; omega) (by omega) HX.out
          have hnn := HN.out
          have HU := Lib.hid fun g' (h : M.Good p D ((xs.length - D - 1) / 2) xs S g') => M.Good.unique hok.isp hok.nod hok.wx (by omega) h hgood
          have HBEST := Lib.hid (best_ok p D _ xs S wr hok hnn hpts)
          have HGOOD := Lib.hid hgood
          have HPT := Lib.hid hpts
          have hBW := HKP.out _ HBX.out
          have BW := Lib.hid (bnext B2.out hBW)
          have KW := Lib.hid (HKC.out.below hBW)
          have FW := Lib.hid (F_2.out.below hBW)
          clear eS hSp hgood hok hpts hnn hBW HES HGT HXL HP1 HX HKC HKP HBL HBX hSl
          go_wp2_with fail
          refine HBEST.out.mono ?_
          rintro e w5 ⟨hb5, ⟨f', v1, u, hg, rfl, hf', ho⟩ | ⟨hno, _⟩⟩
          case inr => exact absurd HGOOD.out (hno _)
          obtain rfl := HU.out f' hg
          have hu := ints_of_owns ho
          obtain ⟨Ag, cg, rfl⟩ := nums_slice' hf'
          obtain ⟨Au, cu, rfl⟩ := ints_slice hu
          have B5 := Lib.hid (bnext BW.out hb5)
          have K5 := Lib.hid (KW.out.below hb5)
          have F5 := Lib.hid (FW.out.below hb5)
          have P5 := Lib.hid (HPT.out.below hb5)
          have G5 := Lib.hid hf'
          have U5 := Lib.hid hu
          clear hb5 hg hf' ho hu HBEST BW KW FW HPT HU HGOOD
          obtain ⟨q0, q1, q2, q3⟩ := K5.out.c4
          go_wp2_with fail
          refine (rtrim_any _ f w5 F5.out).mono ?_
          rintro e w6 ⟨v7, rfl, hT6, hb6⟩
          obtain ⟨At6, ct6, rfl⟩ := nums_slice' hT6
          clear q0 q1 q2 q3
          have B6 := Lib.hid (bnext B5.out hb6)
          have K6 := Lib.hid (K5.out.below hb6)
          have F6 := Lib.hid (F5.out.below hb6)
          have P6 := Lib.hid (P5.out.below hb6)
          have G6 := Lib.hid (G5.out.below hb6)
          have U6 := Lib.hid (U5.out.below hb6)
          clear hb6 K5 F5 P5 G5 U5
          go_wp2_with fail
          refine (same_any _ _ (M.trim f) w6 G6.out hT6).mono ?_
          rintro e w7 ⟨rfl, hb7⟩
          have B7 := Lib.hid (bnext B6.out hb7)
          have K7 := Lib.hid (K6.out.below hb7)
          have F7 := Lib.hid (F6.out.below hb7)
          have P7 := Lib.hid (P6.out.below hb7)
          have U7 := Lib.hid (U6.out.below hb7)
          clear hb7 K6 F6 P6 U6
          obtain ⟨q0, q1, q2, q3⟩ := K7.out.c4
          go_wp2_with fail
          refine (roff_any p _ _ f xs S w7 (by omega) (by omega) H6.out h3 H4.out F7.out P7.out).mono ?_
          rintro e w8 ⟨u9, rfl, ho8, hb8⟩
          have hO8 := ints_of_owns ho8
          obtain ⟨A8, c8, rfl⟩ := ints_slice hO8
          clear ho8 q0 q1 q2 q3
          have B8 := Lib.hid (bnext B7.out hb8)
          have K8 := Lib.hid (K7.out.below hb8)
          have U8 := Lib.hid (U7.out.below hb8)
          clear hb8 K7 U7
          have hl8 := M.offK_len p f xs S xs.length
          rw [M.offK_all] at hl8
          have hU8 := U8.out
          rw [M.offI_trim] at hU8
          have HI5 := Lib.hid (ints5_any _ _ _ w8 (by omega) hU8 hO8)
          rw [M.offI_trim]
          clear hl8 hU8 hO8
          go_wp2_with fail
          refine HI5.out.mono ?_
          rintro e w9 ⟨rfl, hb9⟩
          have B9 := Lib.hid (bnext B8.out hb9)
          clear hb9
          go_wp2_with fail
          refine (alive_any _).mono ?_
          rintro e w10 ⟨rfl, hb10⟩
          go_wp2_with fail
          go_ret
          exact ⟨rfl, bnext B9.out hb10⟩

end Go.Proofs.Ytfgfapbhgehfiaa.decodeRightW
