/-
  The reference of package pair: Make, the walk.
-/
import Derived.Test.YtglehjcohdjhoaaPr9
namespace Go.Proofs.Ytglehjcohdjhoaa
open Go.RowKit
set_option linter.unusedVariables false
set_option maxRecDepth 100000

/-- the numbers from which a pair is made -/
def M.made (p s n : Nat) (zs : List Nat) : List Nat := s :: (List.range (M.triR n n - 1)).map fun i => zs.getD i 0 % p

set_option maxHeartbeats 4000000 in
theorem rmake6_any (p s T : Nat) (v : Value) (zs : List Nat) (w : World) (h3 : 3 ≤ p) (hp : p ≤ 65537) (hT : T ≤ 3) (hs : s < p) (hv : Nums w v zs) :
    Calls Try.prog 23 #[.int .u64 p, .int .u64 s, .int .i64 T, v] w fun e w' => ∃ v1 v2, e = .returned (.tuple #[v1, v2]) ∧ Mat w' v1 (M.tabMM (T + 1) (T + 1) (M.triF (T + 1) (M.made p s (T + 1) zs))) ∧ Nums w' v2 (zs.drop (M.triR (T + 1) (T + 1) - 1)) ∧ Below w.heap.size w w' := by
  have hud : ∀ b : Bool, undef ≠ Value.bool b := fun b h => by cases h
  obtain ⟨n, en⟩ : ∃ n, n = T + 1 := ⟨_, rfl⟩
  rw [← en]
  have hn4 : n ≤ 4 := by omega
  have hn0 : 0 < n := by omega
  have hN : M.triR n n ≤ 10 := by
    have := M.triR_small hn4
    have : n * (n + 1) ≤ 4 * 5 := Nat.mul_le_mul hn4 (by omega)
    omega
  have hN1 : 1 ≤ M.triR n n := by
    have := M.triR_mono (n := n) (show 1 ≤ n by omega)
    have e : M.triR n 1 = n := by simp [M.triR]
    omega
  obtain ⟨N, eN⟩ : ∃ N, N = M.triR n n := ⟨_, rfl⟩
  have hsz := fun W => rsize_any (T : Int) W (by omega) (by omega)
  rw [M.psize_tri hT, ← en, ← eN] at hsz
  rw [← eN] at hN hN1 ⊢
  have hmd : M.made p s n zs = s :: (List.range (N - 1)).map fun i => zs.getD i 0 % p := by unfold M.made; rw [eN]
  rw [hmd]
  have HEN := Lib.hid eN
  have HSZ := Lib.hid hsz
  have HDR := Lib.hid (refDraw_any p (N - 1) v zs w h3 hp (by omega) hv)
  obtain ⟨A, cap, rfl⟩ := nums_slice' hv
  have hw1 : IntKind.i64.wrap ((T : Int) + 1) = (n : Nat) := by rw [IntKind.wrap_i64]; omega
  have HNT := Lib.hid (show (n : Int) = (T : Int) + 1 by omega)
  unfold RefDrew at HDR
  clear hv hsz eN hmd en
  go_enter Try.func23, Try.ntmps23
  go_wp2_with fail
  refine (HSZ.out _).mono ?_
  rintro e w' ⟨rfl, rfl⟩
  go_wp2_with fail
  refine HDR.out.mono ?_
  rintro e w1 ⟨v1, v2, rfl, hn1, hn2, hb1⟩
  have B1 := Lib.hid hb1
  have R1 := Lib.hid hn2
  have D1 := Lib.hid hn1
  have hl1 : ((List.range (N - 1)).map fun i => zs.getD i 0 % p).length = N - 1 := by simp
  have HO1 := Lib.hid (show (w1.alloc (.cells #[.int .u64 (s : Nat)] 22)).ownsRow w1.heap.size 22 1 (.slice (some ⟨w1.heap.size, 0, none⟩) 1 1) 1 (vals [s]) from World.ownsRow_lit (base := w1.heap.size) (e := 22) (size := 1) w1 #[.int .u64 (s : Nat)] 1 (Nat.le_refl _) (by decide) rfl)
  have HB2 := Lib.hid (balloc w1 (.cells #[.int .u64 (s : Nat)] 22))
  have D2 := Lib.hid (hn1.below (balloc w1 (.cells #[.int .u64 (s : Nat)] 22)))
  have hbs := HB2.out.size
  obtain ⟨cs, hcs, hcz, hmk⟩ := make6_rows n (by omega)
  clear hb1 hn1 hn2 D1
  go_wp2_with (at_builtin; refine wpList_append_nums (by rfl) _ _ rfl _ _ _ _ (by rfl) HO1.out _ _ (by rfl) D2.out (by rw [hl1]; omega) hbs ?_; intro v5 w5 ho5 hb5)
  have hL5 : w5.ownsRow w1.heap.size 22 1 v5 N (vals (s :: (List.range (N - 1)).map fun i => zs.getD i 0 % p)) := by
    have e1 : 1 + ((List.range (N - 1)).map fun i => zs.getD i 0 % p).length = N := by rw [hl1]; omega
    have h := ho5
    rw [e1] at h
    exact h
  obtain ⟨gl, cl, rfl, hgl, hgl5⟩ := hL5.form (by omega)
  obtain ⟨_, _, _, hrowL⟩ := row_of_owns (zs := s :: (List.range (N - 1)).map fun i => zs.getD i 0 % p) hL5
  have HLR := Lib.hid hrowL
  have hLlt : ∀ a, (s :: (List.range (N - 1)).map fun i => zs.getD i 0 % p).getD a 0 < p := by
    intro a
    refine M.within_getD (by omega) ?_ a
    unfold M.within
    simp only [List.all_cons, Bool.and_eq_true, decide_eq_true_eq, List.all_map, List.all_eq_true, List.mem_range, Function.comp]
    exact ⟨hs, fun i _ => Nat.mod_lt _ (by omega)⟩
  have HLL := Lib.hid hLlt
  obtain ⟨Lm, eLm⟩ : ∃ Lm, Lm = s :: (List.range (N - 1)).map fun i => zs.getD i 0 % p := ⟨_, rfl⟩
  rw [← eLm] at HLR HLL
  have HLM := Lib.hid eLm
  have B5 := Lib.hid (bnext B1.out (HB2.out.trans hb5))
  have R5 := Lib.hid (R1.out.below (HB2.out.trans hb5))
  obtain ⟨bB, eB⟩ : ∃ B, B = w5.heap.size := ⟨_, rfl⟩
  obtain ⟨W0, eW0⟩ : ∃ W0, W0 = w5.alloc (.cells cs 30) := ⟨_, rfl⟩
  have hB0 : W0.heap[bB]? = some (.cells cs 30 (0, 0)) := by rw [eW0, eB]; exact heap_alloc_new w5 _
  have HL0 := Lib.hid (show Lay W0 w5.heap.size bB n 0 (fun _ => 0) from ⟨by omega, ⟨cs, hB0, hcs, fun i hi => absurd hi (by omega), fun i _ hi => hcz i hi⟩, fun i hi => absurd hi (by omega), fun i hi => absurd hi (by omega), fun i j hi => absurd hi (by omega)⟩)
  have HB0 := Lib.hid (show Below w5.heap.size w5 W0 by rw [eW0]; exact balloc w5 _)
  have EW0 := Lib.hid eW0
  have EB := Lib.hid eB
  obtain ⟨cu, hmu, hmurow⟩ := make6_u64 n (by omega)
  have HMR := Lib.hid hmurow
  rw [← EW0.out]
  simp only [← EB.out]
  clear hmk hmurow eW0 eB hB0 hcs hcz hL5 ho5 hb5 hrowL hLlt eLm hbs HO1 D2 HB2
  go_loopw [34] (fun t wr => ∃ k : Nat, k ≤ n ∧ t = .int .i64 k ∧ (∃ G, Lay wr w5.heap.size bB n k G) ∧ Below w5.heap.size w5 wr) (fun t _ => n - (intOf t).toNat)
  case atStart => exact ⟨0, by omega, rfl, ⟨_, HL0.out⟩, HB0.out⟩
  case round =>
    obtain ⟨k, hk, rfl, ⟨G, hLy⟩, hB⟩ := hrel
    have HLy := Lib.hid hLy
    have HB := Lib.hid hB
    clear hLy hB HL0 HB0
    by_cases hlt : k < n
    · have cB := HLy.out.cell hlt
      have fB := HLy.out.free k
      have lB := HLy.out.lt
      have nB : bB ≠ wr.heap.size := by omega
      have nB2 : wr.heap.size ≠ bB := by omega
      have HP := Lib.hid (HLy.out.push hlt HB.out.size HMR.out)
      have HBB := Lib.hid (HLy.out.baseB)
      go_wp2_with fail
      go_roundw
      case rel => exact ⟨k + 1, by omega, by go_num, ⟨_, HP.out⟩, (HB.out.setCell (p := ⟨bB, k, none⟩) HBB.out _).alloc (by simp; exact HB.out.size) _⟩
      case measure => simp [intOf]; omega
    · obtain rfl : k = n := by omega
      obtain ⟨w6, hw6⟩ : ∃ x, x = wr := ⟨_, rfl⟩
      rw [← hw6] at HLy HB ⊢
      have HMO := Lib.hid (HLy.out.done.congr (F' := M.fillK k Lm 0) (fun i _ j _ => (M.fillK_zero k Lm i j).symm))
      clear hw6 HLy hmu
      obtain ⟨n, rfl⟩ : ∃ n, n = k := ⟨k, rfl⟩
      go_wp2_with fail
      go_loopw [46, 14] (fun t ta wr => ∃ i : Nat, i ≤ n ∧ t = .int .i64 i ∧ ta = .int .i64 (M.triR n i : Nat) ∧ MatO wr w5.heap.size bB n n G (fun _ => n) (M.fillK n Lm (M.triR n i)) ∧ Below w5.heap.size w5 wr) (fun t _ _ => n - (intOf t).toNat)
      case atStart => exact ⟨0, by omega, rfl, rfl, HMO.out, HB.out⟩
      case round =>
        obtain ⟨i, hi, rfl, rfl, hM, hBi⟩ := hrel
        have HM := Lib.hid hM
        have HBi := Lib.hid hBi
        clear hM hBi
        by_cases hlt2 : i < n
        · obtain ⟨w7, hw7⟩ : ∃ x, x = wr := ⟨_, rfl⟩
          rw [← hw7] at HM HBi ⊢
          clear hw7
          go_wp2_with fail
          go_loopw [16, 14] (fun tk ta wx => ∃ k : Nat, i ≤ k ∧ k ≤ n ∧ tk = .int .i64 k ∧ ta = .int .i64 (M.triR n i + (k - i) : Nat) ∧ MatO wx w5.heap.size bB n n G (fun _ => n) (M.fillK n Lm (M.triR n i + (k - i))) ∧ Below w5.heap.size w5 wx) (fun tk _ _ => n - (intOf tk).toNat)
          case atStart => exact ⟨i, Nat.le_refl _, hi, rfl, by simp, by rw [Nat.sub_self]; exact HM.out, HBi.out⟩
          case round =>
            obtain ⟨k, hik, hkn, rfl, rfl, hM2, hB2⟩ := hrel
            have HM2 := Lib.hid hM2
            have HB2 := Lib.hid hB2
            clear hM2 hB2
            by_cases hlk : k < n
            · have haN : M.triR n i + (k - i) < N := by
                have h := M.tpos_lt hlt2 hlk
                rw [← HEN.out] at h
                unfold M.tpos at h
                rwa [if_pos hik] at h
              have hst := fun i' k' h3 h4 => M.fillK_step (n := n) Lm hik hlk (i' := i') (k' := k') h3 h4
              obtain ⟨a, ea⟩ : ∃ a, a = M.triR n i + (k - i) := ⟨_, rfl⟩
              have EA := Lib.hid ea
              rw [← ea] at haN hst HM2
              have c1 := HM2.out.cell hlt2
              have c2 := HM2.out.cell hlk
              have c3 := (HB2.out.cell (p := ⟨gl, a, none⟩) hgl5).trans (HLR.out.cell haN)
              have d1 := (HM2.out.row i hlt2).cell hlk
              have d2 := (HM2.out.row k hlk).cell hlt2
              have f1 := (HM2.out.row i hlt2).free k
              have f2 := (HM2.out.row k hlk).free i
              have hgi := (HM2.out.baseG i hlt2).1
              have hgk := (HM2.out.baseG k hlk).1
              obtain ⟨y, ey⟩ : ∃ y, y = Lm.getD a 0 := ⟨_, rfl⟩
              rw [← ey] at c3 hst
              have HNX := Lib.hid fun (W : World) (hW : MatO W w5.heap.size bB n n G (fun _ => n) (M.fillK n Lm a)) => ((hW.put hlt2 hlk y).put hlk hlt2 y).congr (F' := M.fillK n Lm (a + 1)) (fun i' h3 k' h4 => (hst i' k' h3 h4).symm)
              have hak : (a : Int) < (N : Nat) := by omega
              have hin : (i : Int) < (n : Nat) := by omega
              have hkni : (k : Int) < (n : Nat) := by omega
              have hkT : (k : Int) ≤ (T : Int) := by have := HNT.out; omega
              have hd : decide ((k : Int) ≤ (T : Int)) = true := by rw [decide_eq_true_eq]; exact hkT
              have hd2 : k ≤ T := by omega
              clear hst ey
              rw [← ea]
              clear ea
              by_cases hik2 : i = k
              · subst hik2
                go_wp2_with fail
                go_region
                go_wp2_with fail
                go_roundw
                case rel => exact ⟨i + 1, by omega, by omega, by go_num, by rw [show M.triR n i + (i + 1 - i) = a + 1 by rw [EA.out]; omega]; go_num, by rw [show M.triR n i + (i + 1 - i) = a + 1 by rw [EA.out]; omega]; exact (HNX.out wr HM2.out).heap rfl, ((HB2.out.setCell (p := ⟨G i, i, none⟩) hgi _).setCell (p := ⟨G i, i, none⟩) hgk _).drew⟩
                case measure => simp [intOf]; omega
              · have hne : G i ≠ G k := fun e => hik2 (HM2.out.inj i k hlt2 hlk e)
                have hne2 : G k ≠ G i := fun e => hne e.symm
                go_wp2_with fail
                go_region
                go_wp2_with fail
                go_roundw
                case rel => exact ⟨k + 1, by omega, by omega, by go_num, by rw [show M.triR n i + (k + 1 - i) = a + 1 by rw [EA.out]; omega]; go_num, by rw [show M.triR n i + (k + 1 - i) = a + 1 by rw [EA.out]; omega]; exact (HNX.out wr HM2.out).heap rfl, ((HB2.out.setCell (p := ⟨G i, k, none⟩) hgi _).setCell (p := ⟨G k, i, none⟩) hgk _).drew⟩
                case measure => simp [intOf]; omega
            · obtain rfl : k = n := by omega
              have hd : decide ((k : Int) ≤ (T : Int)) = false := by rw [decide_eq_false_iff_not]; have := HNT.out; omega
              have hd2 : ¬ k ≤ T := by have := HNT.out; omega
              have ht : M.triR k i + (k - i) = M.triR k (i + 1) := rfl
              have HT := Lib.hid ht
              rw [ht] at HM2 ⊢
              clear ht
              go_wp2_with fail
              go_roundw
              case rel => exact ⟨i + 1, by omega, by go_num, by rw [← HT.out], HM2.out, HB2.out⟩
              case measure => simp [intOf]; omega
        · obtain rfl : i = n := by omega
          have hF : ∀ a b, M.fillK i Lm (M.triR i i) a b < p := fun a b => by
            unfold M.fillK
            split
            · exact HLL.out _
            · omega
          have hmat := (HM.out.congr (F' := M.triF i Lm) (fun a ha b hb => M.fillK_full Lm ha hb)).mat (Nat.le_refl _) (by omega) (by omega) (fun a ha b hb => by
            have := hF a b
            rw [M.fillK_full Lm ha hb] at this
            omega)
          have HMAT := Lib.hid hmat
          have RW := Lib.hid (R5.out.below HBi.out)
          have BW := Lib.hid (bnext B5.out HBi.out)
          clear hF hmat
          go_wp2_with fail
          go_ret2
          exact ⟨_, _, rfl, by rw [← HLM.out]; exact HMAT.out, RW.out, BW.out⟩
end Go.Proofs.Ytglehjcohdjhoaa
