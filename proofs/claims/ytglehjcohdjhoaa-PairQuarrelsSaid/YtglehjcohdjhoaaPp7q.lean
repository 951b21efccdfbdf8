/-
  Package pair of the program: Quarrels.
-/
import Derived.Test.YtglehjcohdjhoaaPp7
import Derived.Test.YtglehjcohdjhoaaThr6
namespace Go.Proofs.Ytglehjcohdjhoaa
open Go.RowKit
set_option linter.unusedVariables false
set_option maxRecDepth 100000

/-- what Quarrels hands back -/
def PQ (w : World) (p : Nat) (xs : List Nat) (rows : List (List Nat)) (e : Ending) (w' : World) : Prop :=
  Below w.heap.size w w' ∧ ((M.polyE p xs rows ≠ 0 ∧ e = .returned (.tuple #[.slice none 0 0, .int .i64 (M.polyE p xs rows)])) ∨
    (M.polyE p xs rows = 0 ∧ ∃ v', e = .returned (.tuple #[v', .int .i64 0]) ∧ w'.ownsRow w.heap.size 73 2 v' (M.qAll p xs rows xs.length).length (prV (M.qAll p xs rows xs.length))))

set_option maxHeartbeats 2000000 in
theorem pquarrels_any (p : Nat) (vx vr : Value) (xs : List Nat) (rows : List (List Nat)) (w : World) (hp : p < 18446744073709551616) (hx : Nums w vx xs) (hr : Mat w vr rows) :
    Calls Try.prog 39 #[.int .u64 p, vx, vr] w (PQ w p xs rows) := by
  have hud : ∀ b : Bool, undef ≠ Value.bool b := fun b h => by cases h
  have HPL := Lib.hid (ppoly_any p vx vr xs rows w hp hx hr)
  obtain ⟨Ax, cx, rfl, _, _, hcx⟩ := nums_view hx
  have HCX := Lib.hid hcx
  obtain ⟨A, cap, rfl, _⟩ := mat_view6 hr
  clear hr hcx
  have hcb0 : ((0 : Int) != 0) = false := rfl
  by_cases hc : M.polyE p xs rows = 0
  case neg =>
    obtain ⟨c, ec⟩ : ∃ c, c = M.polyE p xs rows := ⟨_, rfl⟩
    have EC := Lib.hid ec
    rw [← ec] at HPL hc
    have hcb : (c != 0) = true := by rw [bne_iff_ne]; exact hc
    have HC := Lib.hid hc
    clear ec hc hx
    go_enter Try.func39, Try.ntmps39
    go_wp2_with fail
    refine HPL.out.mono ?_
    rintro e w1 ⟨hb, ⟨_, rfl⟩ | ⟨h, _⟩⟩
    case inr => exact absurd h HC.out
    have B1 := Lib.hid hb
    clear hb
    go_wp2_with fail
    go_ret2
    exact ⟨B1.out, .inl ⟨by rw [← EC.out]; exact HC.out, by rw [← EC.out]; rfl⟩⟩
  obtain ⟨hip, hok⟩ := M.polyE_ok hc
  obtain ⟨h3, hp5⟩ := M.pos_of hip
  have HZ := Lib.hid hc
  rw [hc] at HPL
  have hx13 := hok.len
  have HOK := Lib.hid hok
  have HRL := Lib.hid hok.rl
  have HVA := Lib.hid fun (i : Nat) (hi : i < xs.length) (x : Nat) (hx : x < p) (v : Value) (W : World) (hv : Nums W v (M.trim (rows.getD i []))) => valueAt_any p x v _ W hx hv (M.chk_of hip (by have := M.trim_len_le (rows.getD i []); have := (hok.row i hi).1; omega) (M.within_trim (hok.row i hi).2))
  simp only [M.pev_trim] at HVA
  have HTL := Lib.hid (show (rows.map M.trim).length = xs.length by rw [List.length_map, hok.rl])
  obtain ⟨n, en⟩ : ∃ n, n = xs.length := ⟨_, rfl⟩
  have HEN := Lib.hid en
  unfold PQ
  rw [← en] at hx13 HTL HPL ⊢
  clear hx hok en hc
  go_enter Try.func39, Try.ntmps39
  go_wp2_with fail
  refine HPL.out.mono ?_
  rintro e w1 ⟨hb, ⟨h, _⟩ | ⟨_, v1, rfl, hm1⟩⟩
  case inl => exact absurd rfl h
  have B1 := Lib.hid hb
  obtain ⟨A1, c1, rfl, _⟩ := mat_view6 hm1
  have HM := Lib.hid (mat_row hm1).2
  rw [HTL.out]
  clear hb hm1
  go_wp2_with fail
  go_loopw [25, 10] (fun t tv wr => ∃ i : Nat, i ≤ n ∧ t = .int .i64 i ∧ wr.ownsRow w1.heap.size 73 2 tv (M.qAll p xs rows i).length (prV (M.qAll p xs rows i)) ∧ Below w1.heap.size w1 wr) (fun t _ _ => n - (intOf t).toNat)
  case atStart => exact ⟨0, by omega, rfl, World.ownsRow_nil _ _ _ _, Below.refl _ _⟩
  case round =>
    obtain ⟨i, hi, rfl, ho, hB⟩ := hrel
    have HO := Lib.hid ho
    have HB := Lib.hid hB
    clear ho hB
    by_cases hlt : i < n
    · obtain ⟨wo, hwo⟩ : ∃ x, x = wr := ⟨_, rfl⟩
      rw [← hwo] at HO HB ⊢
      have hw1 : IntKind.i64.wrap ((i : Int) + 1) = (i : Int) + 1 := by rw [IntKind.wrap_i64]; omega
      clear hwo
      go_wp2_with fail
      go_loopw [12, 10] (fun t tv wx => ∃ k : Nat, i + 1 ≤ k ∧ k ≤ n ∧ t = .int .i64 k ∧ wx.ownsRow w1.heap.size 73 2 tv (M.qAll p xs rows i ++ M.qRow p xs rows i k).length (prV (M.qAll p xs rows i ++ M.qRow p xs rows i k)) ∧ Below w1.heap.size w1 wx) (fun t _ _ => n - (intOf t).toNat)
      case atStart => exact ⟨i + 1, Nat.le_refl _, hlt, by go_num, by rw [M.qRow_start, List.append_nil]; exact HO.out, HB.out⟩
      case round =>
        obtain ⟨k, hik, hk, rfl, ho2, hB2⟩ := hrel
        obtain ⟨wx, ewx⟩ : ∃ x, x = wr := ⟨_, rfl⟩
        rw [← ewx] at ho2 hB2 ⊢
        have HO2 := Lib.hid ho2
        have HB2 := Lib.hid hB2
        clear ho2 hB2 ewx
        by_cases hltk : k < n
        · obtain ⟨bx, ox, rfl, hbx, hcx⟩ := HCX.out (by rw [← HEN.out]; omega)
          obtain ⟨b, off, rfl, hbl, hcells⟩ := HM.out (by rw [HTL.out]; omega)
          obtain ⟨Aa, u1, cc1, n1, _⟩ := hcells i (by rw [HTL.out]; exact hlt)
          obtain ⟨Ab, u2, cc2, n2, _⟩ := hcells k (by rw [HTL.out]; exact hltk)
          rw [M.map_trim_get] at cc1 n1 cc2 n2
          have hbx1 : bx < w1.heap.size := by have := B1.out.size; omega
          have c1 := (HB2.out.cell (p := ⟨b, off + i, none⟩) hbl).trans cc1
          have c2 := (HB2.out.cell (p := ⟨b, off + k, none⟩) hbl).trans cc2
          have c3 := (HB2.out.cell (p := ⟨bx, ox + i, none⟩) hbx1).trans ((B1.out.cell (p := ⟨bx, ox + i, none⟩) hbx).trans (hcx i (by rw [← HEN.out]; exact hlt)))
          have c4 := (HB2.out.cell (p := ⟨bx, ox + k, none⟩) hbx1).trans ((B1.out.cell (p := ⟨bx, ox + k, none⟩) hbx).trans (hcx k (by rw [← HEN.out]; exact hltk)))
          have x1 := M.within_mem HOK.out.wx (show i < xs.length by rw [← HEN.out]; exact hlt)
          have x2 := M.within_mem HOK.out.wx (show k < xs.length by rw [← HEN.out]; exact hltk)
          have m1 := n1.below HB2.out
          have m2 := n2.below HB2.out
          have he1 := fun W hW => HVA.out i (by rw [← HEN.out]; exact hlt) (xs.getD k 0) x2 (.slice Aa (M.trim (rows.getD i [])).length u1) W hW
          have he2 := fun W hW => HVA.out k (by rw [← HEN.out]; exact hltk) (xs.getD i 0) x1 (.slice Ab (M.trim (rows.getD k [])).length u2) W hW
          have hq : M.qB p xs rows i k = (M.pev p (rows.getD i []) (xs.getD k 0) != M.pev p (rows.getD k []) (xs.getD i 0)) := rfl
          obtain ⟨L1, eL1⟩ : ∃ L, L = (M.trim (rows.getD i [])).length := ⟨_, rfl⟩
          obtain ⟨L2, eL2⟩ : ∃ L, L = (M.trim (rows.getD k [])).length := ⟨_, rfl⟩
          rw [← eL1] at c1 m1 he1
          rw [← eL2] at c2 m2 he2
          obtain ⟨a, ea⟩ : ∃ a, a = M.pev p (rows.getD i []) (xs.getD k 0) := ⟨_, rfl⟩
          obtain ⟨c, ec⟩ : ∃ c, c = M.pev p (rows.getD k []) (xs.getD i 0) := ⟨_, rfl⟩
          rw [← ea] at he1 hq
          rw [← ec] at he2 hq
          obtain ⟨y1, ey1⟩ : ∃ y, y = xs.getD i 0 := ⟨_, rfl⟩
          obtain ⟨y2, ey2⟩ : ∃ y, y = xs.getD k 0 := ⟨_, rfl⟩
          rw [← ey1] at c3 he2
          rw [← ey2] at c4 he1
          have M1 := Lib.hid m1
          have M2 := Lib.hid m2
          have HE1 := Lib.hid he1
          have HE2 := Lib.hid he2
          have HQ := Lib.hid hq
          have j1 : (i : Int) < (n : Nat) := by omega
          have j2 : (k : Int) < (n : Nat) := by omega
          have hlq := M.qAll_len p xs rows i
          have hlr := M.qRow_len p xs rows i k
          have hmx : i * xs.length ≤ 13 * 13 := by rw [← HEN.out]; exact Nat.mul_le_mul (by omega) hx13
          have HLN := Lib.hid (show (M.qAll p xs rows i ++ M.qRow p xs rows i k).length ≤ 1000 by rw [List.length_append]; omega)
          have lb : b < wx.heap.size := by have := HB2.out.size; omega
          have lx : bx < wx.heap.size := by have := HB2.out.size; omega
          clear cc1 cc2 n1 n2 hcx hcells m1 m2 he1 he2 hq ea ec eL1 eL2 ey1 ey2 x1 x2 hlq hlr hmx
          have M1 := Lib.hid (show Nums wx.drew (.slice Aa L1 u1) (M.trim (rows.getD i [])) from M1.out)
          have M2 := Lib.hid (show Nums wx.drew (.slice Ab L2 u2) (M.trim (rows.getD k [])) from M2.out)
          by_cases hac : a = c
          · have hb6 : ((a : Int) != (c : Int)) = false := by rw [hac]; simp
            have HNQ := Lib.hid (M.qRow_no (i := i) (k := k) (show M.qB p xs rows i k = false by rw [HQ.out, hac]; simp))
            clear hac
            go_wp2_with fail
            go_region_held3 (fun W' => W'.cell? ⟨b, off + i, none⟩ = some (.slice Aa L1 u1) ∧ W'.cell? ⟨b, off + k, none⟩ = some (.slice Ab L2 u2) ∧ W'.cell? ⟨bx, ox + i, none⟩ = some (.int .u64 (y1 : Nat)) ∧ W'.cell? ⟨bx, ox + k, none⟩ = some (.int .u64 (y2 : Nat)))
              (first | exact ⟨c1, c2, c3, c4⟩ | exact ⟨f1, f2, f3, f4⟩ | exact ⟨g1, g2, g3, g4⟩ | go_keep)
              (first
                | (go_at_call 71; (with_reducible refine (HE1.out _ M1.out).mono ?_); rintro e wa ⟨rfl, hwa⟩; have f1 := (hwa.cell (p := ⟨b, off + i, none⟩) lb).trans c1; have f2 := (hwa.cell (p := ⟨b, off + k, none⟩) lb).trans c2; have f3 := (hwa.cell (p := ⟨bx, ox + i, none⟩) lx).trans c3; have f4 := (hwa.cell (p := ⟨bx, ox + k, none⟩) lx).trans c4; have HE2a := Lib.hid (HE2.out wa (M2.out.below hwa)); have la : b < wa.heap.size := Nat.lt_of_lt_of_le lb hwa.size; have lax : bx < wa.heap.size := Nat.lt_of_lt_of_le lx hwa.size)
                | (go_at_call 71; (with_reducible refine HE2a.out.mono ?_); rintro e wb ⟨rfl, hwb⟩; have g1 := (hwb.cell (p := ⟨b, off + i, none⟩) la).trans f1; have g2 := (hwb.cell (p := ⟨b, off + k, none⟩) la).trans f2; have g3 := (hwb.cell (p := ⟨bx, ox + i, none⟩) lax).trans f3; have g4 := (hwb.cell (p := ⟨bx, ox + k, none⟩) lax).trans f4))
            have hb9 : Below wx.heap.size wx wb := bnext (below_of_drew6 hwa) hwb
            have HO9 := Lib.hid (own_below HO2.out hb9)
            have HB9 := Lib.hid (bnext HB2.out hb9)
            clear hb9 hwa hwb f1 f2 f3 f4 g1 g2 g3 g4
            go_wp2_with fail
            go_roundw
            case rel => exact ⟨k + 1, by omega, by omega, by go_num, by rw [HNQ.out]; exact HO9.out, HB9.out⟩
            case measure => simp [intOf]; omega
          · have hb6 : ((a : Int) != (c : Int)) = true := by rw [bne_iff_ne]; intro e; exact hac (Int.ofNat.inj e)
            have HYQ := Lib.hid (M.qRow_yes (show i < k by omega) (show M.qB p xs rows i k = true by rw [HQ.out, bne_iff_ne]; exact hac))
            clear hac
            go_wp2_with fail
            go_region_held3 (fun W' => W'.cell? ⟨b, off + i, none⟩ = some (.slice Aa L1 u1) ∧ W'.cell? ⟨b, off + k, none⟩ = some (.slice Ab L2 u2) ∧ W'.cell? ⟨bx, ox + i, none⟩ = some (.int .u64 (y1 : Nat)) ∧ W'.cell? ⟨bx, ox + k, none⟩ = some (.int .u64 (y2 : Nat)))
              (first | exact ⟨c1, c2, c3, c4⟩ | exact ⟨f1, f2, f3, f4⟩ | exact ⟨g1, g2, g3, g4⟩ | go_keep)
              (first
                | (go_at_call 71; (with_reducible refine (HE1.out _ M1.out).mono ?_); rintro e wa ⟨rfl, hwa⟩; have f1 := (hwa.cell (p := ⟨b, off + i, none⟩) lb).trans c1; have f2 := (hwa.cell (p := ⟨b, off + k, none⟩) lb).trans c2; have f3 := (hwa.cell (p := ⟨bx, ox + i, none⟩) lx).trans c3; have f4 := (hwa.cell (p := ⟨bx, ox + k, none⟩) lx).trans c4; have HE2a := Lib.hid (HE2.out wa (M2.out.below hwa)); have la : b < wa.heap.size := Nat.lt_of_lt_of_le lb hwa.size; have lax : bx < wa.heap.size := Nat.lt_of_lt_of_le lx hwa.size)
                | (go_at_call 71; (with_reducible refine HE2a.out.mono ?_); rintro e wb ⟨rfl, hwb⟩; have g1 := (hwb.cell (p := ⟨b, off + i, none⟩) la).trans f1; have g2 := (hwb.cell (p := ⟨b, off + k, none⟩) la).trans f2; have g3 := (hwb.cell (p := ⟨bx, ox + i, none⟩) lax).trans f3; have g4 := (hwb.cell (p := ⟨bx, ox + k, none⟩) lax).trans f4))
            have hb9 : Below wx.heap.size wx wb := bnext (below_of_drew6 hwa) hwb
            have HO9 := Lib.hid (show (wb.alloc (.cells #[.int .i64 (i : Nat), .int .i64 (k : Nat)] 73)).ownsRow w1.heap.size 73 2 _ (M.qAll p xs rows i ++ M.qRow p xs rows i k).length (prV (M.qAll p xs rows i ++ M.qRow p xs rows i k)) from World.ownsRow.alloc (w := wb) (own_below HO2.out hb9) _)
            have hB9 := bnext HB2.out hb9
            have HB9 := Lib.hid (hB9.alloc hB9.size (.cells #[.int .i64 (i : Nat), .int .i64 (k : Nat)] 73))
            have hs9 := HB9.out.size
            clear hb9 hwa hwb f1 f2 f3 f4 g1 g2 g3 g4 hB9 c1 c2 c3 c4
            go_wp2_with (at_builtin; refine wpList_append_pr6 (x0 := i) (y0 := k) (X := wb.heap.size) rfl _ _ rfl rfl (by rfl) (heap_alloc_new wb _) HO9.out HLN.out hs9 ?_; intro v4 w4 ho4 hb4)
            have HB4 := Lib.hid (HB9.out.trans hb4)
            have HO4 := Lib.hid ho4
            clear ho4 hb4
            go_roundw
            case rel => exact ⟨k + 1, by omega, by omega, by go_num, by rw [HYQ.out, ← List.append_assoc, prV_snoc, List.length_append]; exact HO4.out, HB4.out⟩
            case measure => simp [intOf]; omega
        · obtain rfl : k = n := by omega
          have HN2 := Lib.hid (show M.qAll p xs rows i ++ M.qRow p xs rows i k = M.qAll p xs rows (i + 1) by rw [M.qAll, ← HEN.out])
          rw [HN2.out] at HO2
          go_wp2_with fail
          go_roundw
          case rel => exact ⟨i + 1, by omega, by go_num, HO2.out, HB2.out⟩
          case measure => simp [intOf]; omega
    · obtain rfl : i = n := by omega
      go_wp2_with fail
      go_ret2
      exact ⟨bnext B1.out HB.out, .inr ⟨HZ.out, _, rfl, own_mono HO.out B1.out.size⟩⟩
end Go.Proofs.Ytglehjcohdjhoaa
