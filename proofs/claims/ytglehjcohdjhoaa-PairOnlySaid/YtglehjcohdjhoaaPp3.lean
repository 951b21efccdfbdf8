/-
  Package pair of the program: the pair whose upper half is given; Make.
-/
import Derived.Test.YtglehjcohdjhoaaPr10
import Derived.Test.YtglehjcohdjhoaaPp2
import Derived.Test.YtglehjcohdjhoaaCon6
import Derived.Test.YtglehjcohdjhoaaDrw6
namespace Go.Proofs.Ytglehjcohdjhoaa
open Go.RowKit
set_option linter.unusedVariables false
set_option maxRecDepth 100000

set_option maxHeartbeats 4000000 in
theorem mirrored_any (T : Nat) (v : Value) (l : List Nat) (w : World) (hT : T ≤ 3) (hl : l.length = M.triR (T + 1) (T + 1)) (hv : Nums w v l) :
    Calls Try.prog 57 #[.int .i64 T, v] w fun e w' => ∃ v', e = .returned v' ∧ Mat w' v' (M.tabMM (T + 1) (T + 1) (M.triF (T + 1) l)) ∧ Below w.heap.size w w' := by
  have hud : ∀ b : Bool, undef ≠ Value.bool b := fun b h => by cases h
  obtain ⟨n, en⟩ : ∃ n, n = T + 1 := ⟨_, rfl⟩
  rw [← en] at hl ⊢
  have hn4 : n ≤ 4 := by omega
  have hn0 : 0 < n := by omega
  have hN : M.triR n n ≤ 10 := by
    have := M.triR_small hn4
    have : n * (n + 1) ≤ 4 * 5 := Nat.mul_le_mul hn4 (by omega)
    omega
  have hN1 : 1 ≤ M.triR n n := by
    have := M.triR_mono (n := n) (show 1 ≤ n by omega)
    have e : M.triR n 1 = n := by simp [M.triR]
    omega
  obtain ⟨N, eN⟩ : ∃ N, N = M.triR n n := ⟨_, rfl⟩
  rw [← eN] at hN hN1 hl
  have HEN := Lib.hid eN
  have hLlt : ∀ a, l.getD a 0 < 18446744073709551616 := by
    intro a
    by_cases h : a < l.length
    · exact hv.1 _ (by rw [List.getD_eq_getElem?_getD, List.getElem?_eq_getElem h]; exact List.getElem_mem h)
    · simp [List.getD_eq_getElem?_getD, Nat.le_of_not_lt h]
  have HLL := Lib.hid hLlt
  obtain ⟨A, cap, rfl, hcap, hlen, hC⟩ := nums_view hv
  obtain ⟨bl, ol, rfl, hbl, hcell⟩ := hC (by omega)
  rw [hl] at hcell ⊢
  have HLR := Lib.hid hcell
  have hw1 : IntKind.i64.wrap ((T : Int) + 1) = (n : Nat) := by rw [IntKind.wrap_i64]; omega
  have HNT := Lib.hid (show (n : Int) = (T : Int) + 1 by omega)
  obtain ⟨cs, hcs, hcz, hmk⟩ := make6_rows n (by omega)
  obtain ⟨bB, eB⟩ : ∃ B, B = w.heap.size := ⟨_, rfl⟩
  obtain ⟨W0, eW0⟩ : ∃ W0, W0 = w.alloc (.cells cs 30) := ⟨_, rfl⟩
  have hB0 : W0.heap[bB]? = some (.cells cs 30 (0, 0)) := by rw [eW0, eB]; exact heap_alloc_new w _
  have HL0 := Lib.hid (show Lay W0 w.heap.size bB n 0 (fun _ => 0) from ⟨by omega, ⟨cs, hB0, hcs, fun i hi => absurd hi (by omega), fun i _ hi => hcz i hi⟩, fun i hi => absurd hi (by omega), fun i hi => absurd hi (by omega), fun i j hi => absurd hi (by omega)⟩)
  have HB0 := Lib.hid (show Below w.heap.size w W0 by rw [eW0]; exact balloc w _)
  have EW0 := Lib.hid eW0
  have EB := Lib.hid eB
  obtain ⟨cu, hmu, hmurow⟩ := make6_u64 n (by omega)
  have HMR := Lib.hid hmurow
  clear hmurow eW0 eB hB0 hcs hcz hv hl hLlt hcell hC hlen hcap en eN
  go_enter Try.func57, Try.ntmps57
  go_wp2_with fail
  rw [← EW0.out]
  simp only [← EB.out]
  clear hmk
  go_loopw [15] (fun t wr => ∃ k : Nat, k ≤ n ∧ t = .int .i64 k ∧ (∃ G, Lay wr w.heap.size bB n k G) ∧ Below w.heap.size w wr) (fun t _ => n - (intOf t).toNat)
  case atStart => exact ⟨0, by omega, rfl, ⟨_, HL0.out⟩, HB0.out⟩
  case round =>
    obtain ⟨k, hk, rfl, ⟨G, hLy⟩, hB⟩ := hrel
    have HLy := Lib.hid hLy
    have HB := Lib.hid hB
    clear hLy hB HL0 HB0
    by_cases hlt : k < n
    · have cB := HLy.out.cell hlt
      have fB := HLy.out.free k
      have lB := HLy.out.lt
      have nB : bB ≠ wr.heap.size := by omega
      have nB2 : wr.heap.size ≠ bB := by omega
      have HP := Lib.hid (HLy.out.push hlt HB.out.size HMR.out)
      have HBB := Lib.hid (HLy.out.baseB)
      go_wp2_with fail
      go_roundw
      case rel => exact ⟨k + 1, by omega, by go_num, ⟨_, HP.out⟩, (HB.out.setCell (p := ⟨bB, k, none⟩) HBB.out _).alloc (by simp; exact HB.out.size) _⟩
      case measure => simp [intOf]; omega
    · obtain rfl : k = n := by omega
      obtain ⟨w6, hw6⟩ : ∃ x, x = wr := ⟨_, rfl⟩
      rw [← hw6] at HLy HB ⊢
      have HMO := Lib.hid (HLy.out.done.congr (F' := M.fillK k l 0) (fun i _ j _ => (M.fillK_zero k l i j).symm))
      clear hw6 HLy hmu
      obtain ⟨n, rfl⟩ : ∃ n, n = k := ⟨k, rfl⟩
      go_wp2_with fail
      go_loopw [27, 7] (fun t ta wr => ∃ i : Nat, i ≤ n ∧ t = .int .i64 i ∧ ta = .int .i64 (M.triR n i : Nat) ∧ MatO wr w.heap.size bB n n G (fun _ => n) (M.fillK n l (M.triR n i)) ∧ Below w.heap.size w wr) (fun t _ _ => n - (intOf t).toNat)
      case atStart => exact ⟨0, by omega, rfl, rfl, HMO.out, HB.out⟩
      case round =>
        obtain ⟨i, hi, rfl, rfl, hM, hBi⟩ := hrel
        have HM := Lib.hid hM
        have HBi := Lib.hid hBi
        clear hM hBi
        by_cases hlt2 : i < n
        · obtain ⟨w7, hw7⟩ : ∃ x, x = wr := ⟨_, rfl⟩
          rw [← hw7] at HM HBi ⊢
          clear hw7
          go_wp2_with fail
          go_loopw [9, 7] (fun tk ta wx => ∃ k : Nat, i ≤ k ∧ k ≤ n ∧ tk = .int .i64 k ∧ ta = .int .i64 (M.triR n i + (k - i) : Nat) ∧ MatO wx w.heap.size bB n n G (fun _ => n) (M.fillK n l (M.triR n i + (k - i))) ∧ Below w.heap.size w wx) (fun tk _ _ => n - (intOf tk).toNat)
          case atStart => exact ⟨i, Nat.le_refl _, hi, rfl, by simp, by rw [Nat.sub_self]; exact HM.out, HBi.out⟩
          case round =>
            obtain ⟨k, hik, hkn, rfl, rfl, hM2, hB2⟩ := hrel
            have HM2 := Lib.hid hM2
            have HB2 := Lib.hid hB2
            clear hM2 hB2
            by_cases hlk : k < n
            · have haN : M.triR n i + (k - i) < N := by
                have h := M.tpos_lt hlt2 hlk
                rw [← HEN.out] at h
                unfold M.tpos at h
                rwa [if_pos hik] at h
              have hst := fun i' k' h3 h4 => M.fillK_step (n := n) l hik hlk (i' := i') (k' := k') h3 h4
              obtain ⟨a, ea⟩ : ∃ a, a = M.triR n i + (k - i) := ⟨_, rfl⟩
              have EA := Lib.hid ea
              rw [← ea] at haN hst HM2
              have c1 := HM2.out.cell hlt2
              have c2 := HM2.out.cell hlk
              have c3 := (HB2.out.cell (p := ⟨bl, ol + a, none⟩) hbl).trans (HLR.out a haN)
              have d1 := (HM2.out.row i hlt2).cell hlk
              have d2 := (HM2.out.row k hlk).cell hlt2
              have f1 := (HM2.out.row i hlt2).free k
              have f2 := (HM2.out.row k hlk).free i
              have hgi := (HM2.out.baseG i hlt2).1
              have hgk := (HM2.out.baseG k hlk).1
              obtain ⟨y, ey⟩ : ∃ y, y = l.getD a 0 := ⟨_, rfl⟩
              rw [← ey] at c3 hst
              have HNX := Lib.hid fun (W : World) (hW : MatO W w.heap.size bB n n G (fun _ => n) (M.fillK n l a)) => ((hW.put hlt2 hlk y).put hlk hlt2 y).congr (F' := M.fillK n l (a + 1)) (fun i' h3 k' h4 => (hst i' k' h3 h4).symm)
              have hak : (a : Int) < (N : Nat) := by omega
              have hin : (i : Int) < (n : Nat) := by omega
              have hkni : (k : Int) < (n : Nat) := by omega
              have hkT : (k : Int) ≤ (T : Int) := by have := HNT.out; omega
              have hd : decide ((k : Int) ≤ (T : Int)) = true := by rw [decide_eq_true_eq]; exact hkT
              have hd2 : k ≤ T := by omega
              clear hst ey
              rw [← ea]
              clear ea
              by_cases hik2 : i = k
              · subst hik2
                go_wp2_with fail
                go_region
                go_wp2_with fail
                go_roundw
                case rel => exact ⟨i + 1, by omega, by omega, by go_num, by rw [show M.triR n i + (i + 1 - i) = a + 1 by rw [EA.out]; omega]; go_num, by rw [show M.triR n i + (i + 1 - i) = a + 1 by rw [EA.out]; omega]; exact (HNX.out wr HM2.out).heap rfl, ((HB2.out.setCell (p := ⟨G i, i, none⟩) hgi _).setCell (p := ⟨G i, i, none⟩) hgk _).drew⟩
                case measure => simp [intOf]; omega
              · have hne : G i ≠ G k := fun e => hik2 (HM2.out.inj i k hlt2 hlk e)
                have hne2 : G k ≠ G i := fun e => hne e.symm
                go_wp2_with fail
                go_region
                go_wp2_with fail
                go_roundw
                case rel => exact ⟨k + 1, by omega, by omega, by go_num, by rw [show M.triR n i + (k + 1 - i) = a + 1 by rw [EA.out]; omega]; go_num, by rw [show M.triR n i + (k + 1 - i) = a + 1 by rw [EA.out]; omega]; exact (HNX.out wr HM2.out).heap rfl, ((HB2.out.setCell (p := ⟨G i, k, none⟩) hgi _).setCell (p := ⟨G k, i, none⟩) hgk _).drew⟩
                case measure => simp [intOf]; omega
            · obtain rfl : k = n := by omega
              have hd : decide ((k : Int) ≤ (T : Int)) = false := by rw [decide_eq_false_iff_not]; have := HNT.out; omega
              have hd2 : ¬ k ≤ T := by have := HNT.out; omega
              have ht : M.triR k i + (k - i) = M.triR k (i + 1) := rfl
              have HT := Lib.hid ht
              rw [ht] at HM2 ⊢
              clear ht
              go_wp2_with fail
              go_roundw
              case rel => exact ⟨i + 1, by omega, by go_num, by rw [← HT.out], HM2.out, HB2.out⟩
              case measure => simp [intOf]; omega
        · obtain rfl : i = n := by omega
          have hF : ∀ a b, M.fillK i l (M.triR i i) a b < 18446744073709551616 := fun a b => by
            unfold M.fillK
            split
            · exact HLL.out _
            · omega
          have HMAT := Lib.hid ((HM.out.congr (F' := M.triF i l) (fun a ha b hb => M.fillK_full l ha hb)).mat (Nat.le_refl _) (by omega) (by omega) (fun a ha b hb => by
            have := hF a b
            rw [M.fillK_full l ha hb] at this
            exact this))
          clear hF
          go_wp2_with fail
          go_ret
          exact ⟨_, rfl, HMAT.out, HBi.out⟩

/-- what Make refuses -/
def M.mkE (p s : Nat) (t : Int) : Int := if M.bnd p t = 0 then (if p ≤ s then 2 else 0) else M.bnd p t
set_option maxHeartbeats 2000000 in
theorem pmake_any (p s : Nat) (t : Int) (v : Value) (zs : List Nat) (w : World) (hp : p < 18446744073709551616) (hs : s < 18446744073709551616) (h1 : -9223372036854775808 ≤ t) (h2 : t ≤ 9223372036854775807) (hv : Nums w v zs) :
    Calls Try.prog 20 #[.int .u64 p, .int .u64 s, .int .i64 t, v] w fun e w' => (M.mkE p s t ≠ 0 ∧ e = .returned (.tuple #[.slice none 0 0, .slice none 0 0, .int .i64 (M.mkE p s t)]) ∧ Below w.heap.size w w') ∨
      (M.mkE p s t = 0 ∧ ∃ v1 v2, e = .returned (.tuple #[v1, v2, .int .i64 0]) ∧ Mat w' v1 (M.tabMM (t.toNat + 1) (t.toNat + 1) (M.triF (t.toNat + 1) (M.made p s (t.toNat + 1) zs))) ∧ Nums w' v2 (zs.drop (M.triR (t.toNat + 1) (t.toNat + 1) - 1)) ∧ Below w.heap.size w w') := by
  have hud : ∀ b : Bool, undef ≠ Value.bool b := fun b h => by cases h
  have hc := is_any p w hp
  have HV := Lib.hid hv
  obtain ⟨A, cap, rfl⟩ := nums_slice' hv
  cases hi : M.isP p with
  | false =>
    rw [hi] at hc
    have HC := Lib.hid hc
    have HE := Lib.hid (show M.mkE p s t = 2 by
      have hb : M.bnd p t = 2 := by unfold M.bnd; rw [if_neg (by simp [hi])]
      unfold M.mkE; rw [hb]; rfl)
    clear hi hc hv
    go_enter Try.func20, Try.ntmps20
    go_wp2_with fail
    refine HC.out.mono ?_
    rintro e w' ⟨rfl, rfl⟩
    go_wp2_with fail
    go_ret3
    exact .inl ⟨by rw [HE.out]; decide, by rw [HE.out]; rfl, Below.refl _ _⟩
  | true =>
    rw [hi] at hc
    have HC := Lib.hid hc
    by_cases ht : 0 ≤ t ∧ t ≤ 3
    case neg =>
      have HT := Lib.hid fun w => isThr_any t w (r := false) (by simpa using ht)
      have HE := Lib.hid (show M.mkE p s t = 2 by
        have hb : M.bnd p t = 2 := by unfold M.bnd; rw [if_pos (by simp [hi]), if_pos (by omega)]
        unfold M.mkE; rw [hb]; rfl)
      clear hi hc hv ht
      go_enter Try.func20, Try.ntmps20
      go_wp2_with fail
      refine HC.out.mono ?_
      rintro e w' ⟨rfl, rfl⟩
      go_wp2_with fail
      refine (HT.out _).mono ?_
      rintro e w' ⟨rfl, rfl⟩
      go_wp2_with fail
      go_ret3
      exact .inl ⟨by rw [HE.out]; decide, by rw [HE.out]; rfl, Below.refl _ _⟩
    have HT := Lib.hid fun w => isThr_any t w (r := true) (by simpa using ht)
    obtain ⟨T, rfl⟩ : ∃ T : Nat, t = T := ⟨t.toNat, by omega⟩
    have hT : T ≤ 3 := by omega
    have hb0 := M.bnd_ok hi hT
    obtain ⟨h3, hp5⟩ := M.pos_of hi
    by_cases hsp : p ≤ s
    · have HE := Lib.hid (show M.mkE p s T = 2 by unfold M.mkE; rw [if_pos hb0, if_pos hsp])
      have hd : decide ((s : Int) ≥ (p : Int)) = true := by rw [decide_eq_true_eq]; omega
      clear hi hc hv ht hb0
      go_enter Try.func20, Try.ntmps20
      go_wp2_with fail
      refine HC.out.mono ?_
      rintro e w' ⟨rfl, rfl⟩
      go_wp2_with fail
      refine (HT.out _).mono ?_
      rintro e w' ⟨rfl, rfl⟩
      go_wp2_with fail
      go_ret3
      exact .inl ⟨by rw [HE.out]; decide, by rw [HE.out]; rfl, Below.refl _ _⟩
    · have HE := Lib.hid (show M.mkE p s T = 0 by unfold M.mkE; rw [if_pos hb0, if_neg hsp])
      have hd : decide ((s : Int) ≥ (p : Int)) = false := by rw [decide_eq_false_iff_not]; omega
      rw [Int.toNat_natCast]
      have hn4 : T + 1 ≤ 4 := by omega
      have hN : M.triR (T + 1) (T + 1) ≤ 10 := by
        have := M.triR_small hn4
        have : (T + 1) * (T + 1 + 1) ≤ 4 * 5 := Nat.mul_le_mul hn4 (by omega)
        omega
      have hN1 : 1 ≤ M.triR (T + 1) (T + 1) := by
        have := M.triR_mono (n := T + 1) (show 1 ≤ T + 1 by omega)
        have e : M.triR (T + 1) 1 = T + 1 := by simp [M.triR]
        omega
      obtain ⟨N, eN⟩ : ∃ N, N = M.triR (T + 1) (T + 1) := ⟨_, rfl⟩
      have HSZ := Lib.hid fun (w : World) => psize_any T w (by omega) (by omega)
      rw [M.psize_tri hT, ← eN] at HSZ
      rw [← eN] at hN hN1 ⊢
      have HDR := Lib.hid (draw_any p (N - 1) _ zs w hi (by omega) hv)
      have hmd : M.made p s (T + 1) zs = [s] ++ (List.range (N - 1)).map fun i => zs.getD i 0 % p := by unfold M.made; rw [eN]; rfl
      rw [hmd]
      obtain ⟨ds, eds⟩ : ∃ ds, ds = (List.range (N - 1)).map fun i => zs.getD i 0 % p := ⟨_, rfl⟩
      unfold Drew at HDR
      rw [← eds] at HDR ⊢
      have hdl : ds.length = N - 1 := by rw [eds]; simp
      have HMI := Lib.hid fun (w : World) (v : Value) (h : Nums w v ([s] ++ ds)) => mirrored_any T v ([s] ++ ds) w hT (by rw [← eN]; simp [hdl]; omega) h
      obtain ⟨rs, ers⟩ : ∃ rs, rs = zs.drop (N - 1) := ⟨_, rfl⟩
      rw [← ers] at HDR ⊢
      have hcb : ((0 : Int) != 0) = false := rfl
      have HDL := Lib.hid hdl
      clear hi hc hv ht hb0 eN hmd eds ers hdl
      go_enter Try.func20, Try.ntmps20
      go_wp2_with fail
      refine HC.out.mono ?_
      rintro e w' ⟨rfl, rfl⟩
      go_wp2_with fail
      refine (HT.out _).mono ?_
      rintro e w' ⟨rfl, rfl⟩
      go_wp2_with fail
      refine (HSZ.out _).mono ?_
      rintro e w' ⟨rfl, rfl⟩
      go_wp2_with fail
      refine HDR.out.mono ?_
      rintro e w1 ⟨v1, v2, rfl, hn1, hn2, hb1⟩
      have B1 := Lib.hid hb1
      have R1 := Lib.hid hn2
      have D1 := Lib.hid hn1
      obtain ⟨A1, c1, rfl⟩ := nums_slice' hn1
      obtain ⟨A2, c2, rfl⟩ := nums_slice' hn2
      have hS1 := nums1 w1 s hs
      obtain ⟨w2, ew2⟩ : ∃ w2, w2 = w1.alloc (.cells #[.int .u64 (s : Nat)] 22) := ⟨_, rfl⟩
      have b12 : Below w1.heap.size w1 w2 := by rw [ew2]; exact balloc _ _
      rw [← ew2] at hS1
      have HCO := Lib.hid (concat_any w2.heap.size _ _ [s] ds (w2.alloc (.cells #[.slice (some ⟨w1.heap.size, 0, none⟩) 1 1, .slice A1 ds.length c1] 30)) (by simp) (by simp [HDL.out]; omega) (hS1.below (balloc w2 _)) ((hn1.below b12).below (balloc w2 _)) (heap_alloc_new w2 _))
      have B3 := Lib.hid (bnext (bnext B1.out b12) (balloc w2 (.cells #[.slice (some ⟨w1.heap.size, 0, none⟩) 1 1, .slice A1 ds.length c1] 30)))
      have hs2 : w2.heap.size = w1.heap.size + 1 := by rw [ew2]; simp
      rw [hs2] at HCO
      rw [ew2] at HCO B3
      clear hb1 hn1 hn2 hS1 b12 ew2 hs2 w2
      go_wp2_with fail
      refine HCO.out.mono ?_
      rintro e w3 ⟨v3, rfl, hn3, hb3⟩
      have B4 := Lib.hid (bnext B3.out hb3)
      have HB3 := Lib.hid hb3
      have HM3 := Lib.hid (HMI.out _ _ hn3)
      obtain ⟨A3, c3, rfl⟩ := nums_slice' hn3
      clear hn3 hb3
      go_wp2_with fail
      refine HM3.out.mono ?_
      rintro e w4 ⟨v4, rfl, hm4, hb4⟩
      have B5 := Lib.hid (bnext B4.out hb4)
      have HM4 := Lib.hid hm4
      have HR5 := Lib.hid (((R1.out.below (bnext (balloc _ _) (balloc _ _))).below HB3.out).below hb4)
      obtain ⟨A4, c4, rfl, _⟩ := mat_view6 hm4
      clear hm4 hb4
      go_wp2_with fail
      go_ret3
      exact .inr ⟨HE.out, _, _, rfl, HM4.out, HR5.out, B5.out⟩
end Go.Proofs.Ytglehjcohdjhoaa
