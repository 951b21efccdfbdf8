/-
  Package twice of the program: the small functions.
-/
import Derived.Test.YtfkepkdfpjaniaaTw12
import Derived.Test.YtfkepkdfpjaniaaCon6
import Derived.Test.YtfkepkdfpjaniaaLG
import Derived.Test.YtfkepkdfpjaniaaPt7
namespace Go.Proofs.Ytfkepkdfpjaniaa
open Go.RowKit
set_option linter.unusedVariables false
set_option maxRecDepth 100000

set_option maxHeartbeats 400000 in
theorem coefficient_any (k : Nat) (v : Value) (f : List Nat) (w : World) (hv : Nums w v f) :
    Calls Try.prog 65 #[v, .int .i64 k] w fun e w' => e = .returned (.int .u64 (f.getD k 0 : Nat)) ∧ w = w' := by
  obtain ⟨A, cap, rfl, _, hl, hC⟩ := nums_view hv
  have HC := Lib.hid hC
  clear hv hC
  by_cases hk : k < f.length
  · obtain ⟨b, off, rfl, hb, hcell⟩ := HC.out (by omega)
    have hc := hcell k hk
    obtain ⟨x, ex⟩ : ∃ x, x = f.getD k 0 := ⟨_, rfl⟩
    rw [← ex] at hc ⊢
    have hb1 : decide ((k : Int) ≥ (f.length : Nat)) = false := by rw [decide_eq_false_iff_not]; omega
    clear HC hcell ex
    go_enter Try.func65, Try.ntmps65
    go_wp2_with fail
    go_ret
    exact ⟨rfl, rfl⟩
  · have HE := Lib.hid (show f.getD k 0 = 0 by rw [List.getD_eq_getElem?_getD, List.getElem?_eq_none (by omega)]; rfl)
    have hb1 : decide ((k : Int) ≥ (f.length : Nat)) = true := by rw [decide_eq_true_eq]; omega
    clear HC
    go_enter Try.func65, Try.ntmps65
    go_wp2_with fail
    go_ret
    exact ⟨by rw [HE.out]; rfl, rfl⟩

set_option maxHeartbeats 1000000 in
theorem minusMultiple_any (p k : Nat) (v v2 : Value) (f g : List Nat) (w : World) (hi : M.isP p = true) (hk : k < p) (hf : M.within p f = true) (hg : M.within p g = true) (hfl : f.length ≤ 201) (hgl : g.length ≤ 201) (hv : Nums w v f) (hv2 : Nums w v2 g) :
    Calls Try.prog 64 #[.int .u64 p, v, .int .u64 k, v2] w (Gives2 w (M.psub p f (M.pscale p g k))) := by
  obtain ⟨h3, hp⟩ := M.pos_of hi
  have HS := Lib.hid (scale_ok p k v2 g w hk hv2 (M.chk_of hi hgl hg))
  have hsl : (M.pscale p g k).length ≤ 201 := Nat.le_trans (M.poly_len p _ _) hgl
  have hsw : M.within p (M.pscale p g k) = true := M.poly_within (by omega) _ _
  have HB := Lib.hid fun W V (h1 : Nums W v f) (h2 : Nums W V (M.pscale p g k)) => sub2_ok p v V f (M.pscale p g k) W h1 h2 (by rw [M.rgt_two, if_pos (M.chk_of hi hfl hf)]; exact M.chk_of hi hsl hsw)
  have HV := Lib.hid hv
  obtain ⟨A, cap, rfl⟩ := nums_slice' hv
  obtain ⟨A2, cap2, rfl⟩ := nums_slice' hv2
  have hcb0 : ((0 : Int) != 0) = false := rfl
  obtain ⟨q, eq⟩ : ∃ q, q = M.pscale p g k := ⟨_, rfl⟩
  rw [← eq] at HS HB ⊢
  obtain ⟨r, er⟩ : ∃ r, r = M.psub p f q := ⟨_, rfl⟩
  rw [← er] at HB ⊢
  clear hv hv2 hsl hsw hf hg eq er hi
  go_enter Try.func64, Try.ntmps64
  go_wp2_with fail
  refine HS.out.mono ?_
  rintro e w1 ⟨v1, rfl, hn1, hb1⟩
  have B1 := Lib.hid hb1
  have HB2 := Lib.hid (HB.out _ _ (HV.out.below hb1) hn1)
  obtain ⟨A1, c1, rfl⟩ := nums_slice' hn1
  clear hn1 hb1
  go_wp2_with fail
  refine HB2.out.mono ?_
  rintro e w2 ⟨v3, rfl, hn3, hb3⟩
  have B2 := Lib.hid (bnext B1.out hb3)
  have N3 := Lib.hid hn3
  obtain ⟨A3, c3, rfl⟩ := nums_slice' hn3
  clear hn3 hb3
  go_wp2_with fail
  go_ret2
  exact ⟨_, rfl, N3.out, B2.out⟩

/-- what is wrong with a short list -/
def M.shortE (p T : Nat) (f : List Nat) : Int := if T + 1 < f.length then 3 else if M.within p f = true then 0 else 2
set_option maxHeartbeats 1000000 in
theorem checkShort_any (p T : Nat) (n0 : Int) (v : Value) (f : List Nat) (w : World) (hT : T ≤ 3) (hv : Nums w v f) :
    Calls Try.prog 63 #[suV p n0 T, v] w fun e w' => e = .returned (.int .i64 (M.shortE p T f)) ∧ Below w.heap.size w w' := by
  have hw1 : IntKind.i64.wrap ((T : Int) + 1) = (T : Int) + 1 := by rw [IntKind.wrap_i64]; omega
  have HAB := Lib.hid fun W (h : Below w.heap.size w W) => tbelow_any p v f W (hv.below h)
  obtain ⟨A, cap, rfl⟩ := nums_slice' hv
  clear hv
  unfold suV
  by_cases hl : T + 1 < f.length
  · have hb1 : decide ((f.length : Int) > (T : Int) + 1) = true := by rw [decide_eq_true_eq]; omega
    have HE := Lib.hid (show M.shortE p T f = 3 by unfold M.shortE; rw [if_pos hl])
    clear hl
    go_enter Try.func63, Try.ntmps63
    go_wp2_with fail
    go_ret
    exact ⟨ret1 HE.out.symm, balloc w _⟩
  · have hb1 : decide ((f.length : Int) > (T : Int) + 1) = false := by rw [decide_eq_false_iff_not]; omega
    cases hw : M.within p f with
    | true =>
      have HE := Lib.hid (show M.shortE p T f = 0 by unfold M.shortE; rw [if_neg hl, if_pos hw])
      rw [hw] at HAB
      clear hl hw
      go_enter Try.func63, Try.ntmps63
      go_wp2_with fail
      refine (HAB.out _ (balloc w _)).mono ?_
      rintro e w2 ⟨rfl, hb⟩
      have B2 := Lib.hid (bnext (balloc w _) hb)
      clear hb
      go_wp2_with fail
      go_ret
      exact ⟨ret1 HE.out.symm, B2.out⟩
    | false =>
      have HE := Lib.hid (show M.shortE p T f = 2 by unfold M.shortE; rw [if_neg hl, if_neg (by simp [hw])])
      rw [hw] at HAB
      clear hl hw
      go_enter Try.func63, Try.ntmps63
      go_wp2_with fail
      refine (HAB.out _ (balloc w _)).mono ?_
      rintro e w2 ⟨rfl, hb⟩
      have B2 := Lib.hid (bnext (balloc w _) hb)
      clear hb
      go_wp2_with fail
      go_ret
      exact ⟨ret1 HE.out.symm, B2.out⟩

set_option maxHeartbeats 1000000 in
theorem timesX_any (v : Value) (f : List Nat) (w : World) (hl : f.length ≤ 1000) (hv : Nums w v f) :
    Calls Try.prog 87 #[v] w (Gives w (0 :: f)) := by
  obtain ⟨A, cap, rfl⟩ := nums_slice' hv
  have hS1 := nums1 w 0 (by omega)
  obtain ⟨w2, ew2⟩ : ∃ w2, w2 = w.alloc (.cells #[.int .u64 (0 : Nat)] 22) := ⟨_, rfl⟩
  have b12 : Below w.heap.size w w2 := by rw [ew2]; exact balloc _ _
  rw [← ew2] at hS1
  have HCO := Lib.hid (concat_any w2.heap.size _ _ [0] f (w2.alloc (.cells #[.slice (some ⟨w.heap.size, 0, none⟩) 1 1, .slice A f.length cap] 31)) (by simp) (by simp; omega) (hS1.below (balloc w2 _)) ((hv.below b12).below (balloc w2 _)) (heap_alloc_new w2 _))
  have B3 := Lib.hid (bnext b12 (balloc w2 (.cells #[.slice (some ⟨w.heap.size, 0, none⟩) 1 1, .slice A f.length cap] 31)))
  have hs2 : w2.heap.size = w.heap.size + 1 := by rw [ew2]; simp
  rw [hs2] at HCO
  rw [ew2] at HCO B3
  clear hS1 b12 ew2 hs2 w2 hv
  go_enter Try.func87, Try.ntmps87
  go_wp2_with fail
  refine HCO.out.mono ?_
  rintro e w3 ⟨v3, rfl, hn3, hb3⟩
  have B4 := Lib.hid (bnext B3.out hb3)
  have N3 := Lib.hid hn3
  obtain ⟨A3, c3, rfl⟩ := nums_slice' hn3
  clear hn3 hb3
  go_wp2_with fail
  go_ret
  exact ⟨_, rfl, N3.out, B4.out⟩

set_option maxHeartbeats 1000000 in
theorem pointsOf_any (v : Value) (l : List Int) (w : World) (hl : l.length ≤ 1000) (hpos : ∀ i, i < l.length → 0 ≤ l.getD i 0) (hv : IntsZ w v l) :
    Calls Try.prog 68 #[v] w (Gives w (M.pts l)) := by
  obtain ⟨hz, _, A, cap, rfl, hcap, hcell⟩ := hv
  have HV := Lib.hid hcell
  have HZ := Lib.hid hz
  have HP := Lib.hid hpos
  obtain ⟨i0, hi0, hz0, hz1, hz2⟩ := info_parts infoU64
  clear hcell hz hpos
  go_enter Try.func68, Try.ntmps68
  go_wp2_with (refine wpList_make_rowL _ rfl _ _ 31 rfl 22 i0 (.int .u64 0) Try.underlying31 hi0 hz0 hz1 rfl .i64 .i64 _ _ l.length rfl rfl rfl rfl (by rw [hz2]; omega) (by omega) ?_; intro rep hrep; have HREP := Lib.hid hrep; clear hrep)
  have hR0 : Rw (w.alloc (.cells rep.toArray 22)) w.heap.size l.length (fun _ => 0) := by
    intro i hi
    rw [HREP.out]
    exact ⟨by rw [cell_of_row _ w.heap.size i _ 22 (0, 0) (heap_alloc_new w _)]; simp [hi], frozen_of_row _ w.heap.size i _ _ (heap_alloc_new w _)⟩
  have HR0 := Lib.hid hR0
  clear hR0
  go_loopw [11] (fun t wr => ∃ j : Nat, j ≤ l.length ∧ t = .int .i64 j ∧ Rw wr w.heap.size l.length (fun i => if i < j then (l.getD i 0).toNat else 0) ∧ Below w.heap.size w wr ∧ w.heap.size < wr.heap.size) (fun t _ => l.length - (intOf t).toNat)
  case atStart => exact ⟨0, by omega, rfl, HR0.out.congr (fun i _ => by simp), balloc w _, by simp⟩
  case round =>
    obtain ⟨j, hj, rfl, hr, hB, hsz⟩ := hrel
    have HB2 := Lib.hid hB
    have HS2 := Lib.hid hsz
    clear hB hsz
    by_cases hlt : j < l.length
    · obtain ⟨b, off, rfl, hb, hcg⟩ := HV.out (by omega)
      have hc := (HB2.out.cell (p := ⟨b, off + j, none⟩) hb).trans (hcg j hlt)
      obtain ⟨c3, f3⟩ := hr j hlt
      obtain ⟨x, hx⟩ := Int.eq_ofNat_of_zero_le (HP.out j hlt)
      have hzk := HZ.out (l.getD j 0) (by rw [List.getD_eq_getElem?_getD, List.getElem?_eq_getElem hlt]; exact List.getElem_mem hlt)
      have hr4 := (hr.set hlt x).congr (G := fun i => if i < j + 1 then (l.getD i 0).toNat else 0) (fun i _ => by
        by_cases e : i = j
        · subst e; rw [if_pos rfl, if_pos (by omega), hx]; rfl
        · rw [if_neg e]
          by_cases h : i < j
          · rw [if_pos h, if_pos (by omega)]
          · rw [if_neg h, if_neg (by omega)])
      have hB4 := HB2.out.setCell (p := ⟨w.heap.size, j, none⟩) (Nat.le_refl _) (.int .u64 (x : Nat))
      rw [hx] at hc hzk
      dsimp only at c3
      rw [if_neg (Nat.lt_irrefl j)] at c3
      have hxw : IntKind.u64.wrap (x : Int) = (x : Int) := by rw [IntKind.wrap_u64]; omega
      have HR4 := Lib.hid hr4
      have HB4 := Lib.hid hB4
      clear hr hr4 hB4 hx hcg
      go_wp2_with fail
      go_roundw
      case rel => exact ⟨j + 1, by omega, by go_num, HR4.out, HB4.out, by simpa using HS2.out⟩
      case measure => simp [intOf]; omega
    · obtain rfl : j = l.length := by omega
      have hr5 := hr.congr (G := fun i => (M.pts l).getD i 0) (fun i hi => by rw [if_pos hi, M.pts_get])
      have hN5 := hr5.nums HS2.out (by omega) (fun i hi => by
        rw [M.pts_get]
        have := HZ.out (l.getD i 0) (by rw [List.getD_eq_getElem?_getD, List.getElem?_eq_getElem hi]; exact List.getElem_mem hi)
        omega)
      have e1 : M.tabM l.length (fun i => (M.pts l).getD i 0) = M.pts l := by
        apply List.ext_getElem?
        intro i
        by_cases hi : i < l.length
        · rw [List.getElem?_eq_getElem (by rw [tab_len]; exact hi), List.getElem?_eq_getElem (by rw [M.pts_len]; exact hi), ← M.getD_lt (by rw [tab_len]; exact hi), ← M.getD_lt (by rw [M.pts_len]; exact hi), tab_get _ hi]
        · rw [List.getElem?_eq_none (by rw [tab_len]; omega), List.getElem?_eq_none (by rw [M.pts_len]; omega)]
      rw [e1] at hN5
      have HN5 := Lib.hid hN5
      clear hr hr5 hN5 e1
      go_wp2_with fail
      go_ret
      exact ⟨_, rfl, HN5.out, HB2.out⟩
end Go.Proofs.Ytfkepkdfpjaniaa
