/-
  Package share: pointsOf, Move.
-/
import Derived.Test.YtgjkinmfgejjaaaS4
import Derived.Test.YtgjkinmfgejjaaaMvM
import Derived.Test.YtgjkinmfgejjaaaApi1
namespace Go.Proofs.Ytgjkinmfgejjaaa
open Go.RowKit
set_option linter.unusedVariables false
set_option maxRecDepth 100000

set_option maxHeartbeats 1000000 in
theorem pointsOf_any (v : Value) (l : List Int) (w : World) (hl : l.length ≤ 1000) (hpos : ∀ i, i < l.length → 0 ≤ l.getD i 0) (hv : IntsZ w v l) :
    Calls Try.prog 70 #[v] w (Gives w (M.pts l)) := by
  obtain ⟨hz, _, A, cap, rfl, hcap, hcell⟩ := hv
  have HV := Lib.hid hcell
  have HZ := Lib.hid hz
  have HP := Lib.hid hpos
  obtain ⟨i0, hi0, hz0, hz1, hz2⟩ := info_parts infoU64
  clear hcell hz hpos
  go_enter Try.func70, Try.ntmps70
  go_wp2_with (refine wpList_make_full _ rfl _ _ 31 rfl w.heap.size 22 i0 (.int .u64 0) 1 Try.underlying31 hi0 hz0 hz1 .i64 .i64 _ _ l.length rfl rfl rfl rfl ?c1 ?c2 ?c3 ?_)
  case c1 => rw [hz2]; omega
  case c2 => unfold maxLen; omega
  case c3 => exact Nat.le_refl _
  intro w2 hown hgrow
  rw [toList_madeCells_one] at hown
  have HB2 := Lib.hid ((Below.refl w.heap.size w).grown hgrow (Nat.le_refl _) (by simp))
  have HR2 := Lib.hid (Rw.start hown rfl)
  have L2 := (own_lt hown).2
  clear hown hgrow
  go_wp2_with fail
  go_loopw [11] (fun ti wr => ∃ k : Nat, k ≤ l.length ∧ ti = .int .i64 k ∧ w.heap.size < wr.heap.size ∧ Below w.heap.size w wr ∧ Rw wr w.heap.size l.length (fun i => if i < k then (l.getD i 0).toNat else 0)) (fun ti _ => l.length - (intOf ti).toNat)
  case atStart => exact ⟨0, by omega, rfl, L2, HB2.out, HR2.out.congr (fun i hi => by simp)⟩
  case round =>
    obtain ⟨k, hk, rfl, hlt2, hB, hr⟩ := hrel
    have HBr := Lib.hid hB
    have HRr := Lib.hid hr
    clear hB hr
    by_cases hlt : k < l.length
    · obtain ⟨b, off, rfl, hb, hcell⟩ := HV.out (by omega)
      have hc := (HBr.out.cell (p := ⟨b, off + k, none⟩) hb).trans (hcell k hlt)
      have hzk := HZ.out (l.getD k 0) (by rw [List.getD_eq_getElem?_getD, List.getElem?_eq_getElem hlt]; exact List.getElem_mem hlt)
      obtain ⟨x, hx⟩ := Int.eq_ofNat_of_zero_le (HP.out k hlt)
      rw [hx] at hc hzk
      have c3 := (HRr.out k hlt).1
      have f3 := (HRr.out k hlt).2
      have HS := Lib.hid (HRr.out.set hlt x)
      have HX := Lib.hid hx
      have hkn : (k : Int) < (l.length : Nat) := by omega
      clear hx hcell
      go_wp2_with fail
      go_roundw
      case rel =>
        refine ⟨k + 1, by omega, by go_num, by simp; omega, HBr.out.setCell (p := ⟨w.heap.size, k, none⟩) (Nat.le_refl _) _, HS.out.congr (fun i hi => ?_)⟩
        by_cases h : i = k
        · subst h; rw [if_pos rfl, if_pos (by omega), HX.out]; rfl
        · rw [if_neg h]
          by_cases h2 : i < k
          · rw [if_pos h2, if_pos (by omega)]
          · rw [if_neg h2, if_neg (by omega)]
      case measure => simp [intOf]; omega
    · obtain rfl : k = l.length := by omega
      go_wp2_with fail
      go_ret
      have hN := HRr.out.nums hlt2 (by omega) (fun i hi => by rw [if_pos hi]; have := HZ.out (l.getD i 0) (by rw [List.getD_eq_getElem?_getD, List.getElem?_eq_getElem hi]; exact List.getElem_mem hi); omega)
      refine ⟨_, rfl, ?_, HBr.out⟩
      have e : M.tabM l.length (fun i => if i < l.length then (l.getD i 0).toNat else 0) = M.pts l := by
        refine M.ext_getD (by rw [tab_len, M.pts_len]) fun i => ?_
        rw [M.tabM_get, M.pts_get]
        by_cases h : i < l.length
        · rw [if_pos h, if_pos h]
        · rw [if_neg h, List.getD_eq_getElem?_getD, List.getElem?_eq_none (by omega)]; rfl
      rw [e] at hN
      exact hN

set_option maxHeartbeats 1000000 in
theorem move_no (p s : Nat) (n t : Int) (vf vl : Value) (f : List Nat) (l : List Int) (w : World) (hp : p < 18446744073709551616) (hn1 : -9223372036854775808 ≤ n) (hn2 : n ≤ 9223372036854775807) (ht1 : -9223372036854775808 ≤ t) (ht2 : t ≤ 9223372036854775807) (hvf : Nums w vf f) (hvl : IntsZ w vl l)
    (h : M.errC p n t l ≠ 0) :
    Calls Try.prog 39 #[suV p n t, vf, vl, .int .u64 s] w (Fails2 w 2) := by
  have h2 : M.errC p n t l = 2 := by unfold M.errC at h ⊢; split; (rename_i hh; rw [if_pos hh] at h; exact absurd rfl h); rfl
  have HC := Lib.hid fun W (hW : IntsZ W vl l) => corrupted_any p n t vl l W hp hn1 hn2 ht1 ht2 hW
  have HB := Lib.hid (balloc w (Obj.cells #[Value.int IntKind.u64 p, Value.int IntKind.i64 n, Value.int IntKind.i64 t] 24))
  rw [h2] at HC
  have HL := Lib.hid hvl
  obtain ⟨Af, capf, rfl⟩ := nums_slice' hvf
  obtain ⟨_, _, Al, capl, rfl, _⟩ := hvl
  unfold suV at HC ⊢
  clear h h2
  go_enter Try.func39, Try.ntmps39
  go_wp2_with fail
  refine (HC.out _ (HL.out.below HB.out)).mono ?_
  rintro e w1 ⟨rfl, hb1⟩
  have B1 := Lib.hid (bnext HB.out hb1)
  clear hb1
  go_wp2_with fail
  go_ret2
  exact ⟨rfl, B1.out⟩

/-- Move's argument checks behind the corrupted parties -/
theorem M.errC_nat {p : Nat} {n t : Int} {l : List Int} (h : M.errC p n t l = 0) : ∃ N : Nat, n = (N : Int) ∧ M.isP p = true ∧ 3 ≤ p ∧ p ≤ 65537 ∧ 1 ≤ N ∧ N ≤ 13 ∧ N < p ∧ l.length ≤ 3 ∧ (0 ≤ t ∧ t ≤ 13) ∧ M.RisesTo n l l.length := by
  obtain ⟨hok, hl, hr⟩ := M.errC_zero h
  obtain ⟨N, T, rfl, rfl, hi, h1, h2, h3, h4⟩ := M.okS_nat hok
  obtain ⟨h5, h6⟩ := M.pos_of hi
  exact ⟨N, rfl, hi, h5, h6, h1, h2, h4, by omega, by omega, hr⟩

set_option maxHeartbeats 1000000 in
theorem move_bad (p s : Nat) (n t : Int) (vf vl : Value) (f : List Nat) (l : List Int) (w : World) (hs64 : s < 18446744073709551616) (hvf : Nums w vf f) (hvl : IntsZ w vl l)
    (h : M.errC p n t l = 0) (hc : M.chk p f 201 ≠ 0) :
    Calls Try.prog 39 #[suV p n t, vf, vl, .int .u64 s] w (Fails2 w (M.chk p f 201)) := by
  obtain ⟨N, rfl, hi, h3, hp, h1, h2, h4, hl3, ht, hr⟩ := M.errC_nat h
  have hC := fun W (hW : IntsZ W vl l) => corrupted_any p (N : Int) t vl l W (by omega) (by omega) (by omega) (by omega) (by omega) hW
  rw [h] at hC
  have HC := Lib.hid hC
  have HB := Lib.hid (balloc w (Obj.cells #[Value.int IntKind.u64 p, Value.int IntKind.i64 N, Value.int IntKind.i64 t] 24))
  have HE := Lib.hid fun W (hW : Nums W vf f) => eval_bad p 0 vf f W (by omega) hW hc
  have HL := Lib.hid hvl
  have HV := Lib.hid hvf
  obtain ⟨c, ec⟩ : ∃ c, c = M.chk p f 201 := ⟨_, rfl⟩
  rw [← ec] at HE hc ⊢
  have hb : (c != 0) = true := by rw [bne_iff_ne]; exact hc
  obtain ⟨Af, capf, rfl⟩ := nums_slice' hvf
  obtain ⟨_, _, Al, capl, rfl, _⟩ := hvl
  unfold suV at HC ⊢
  clear h hC hvf hi hr ec hc
  go_enter Try.func39, Try.ntmps39
  go_wp2_with fail
  refine (HC.out _ (HL.out.below HB.out)).mono ?_
  rintro e w1 ⟨rfl, hb1⟩
  have B1 := Lib.hid (bnext HB.out hb1)
  have c0 : w1.cell? ⟨w.heap.size, 0, none⟩ = some (.int .u64 p) := by
    refine (hb1.cell (p := ⟨w.heap.size, 0, none⟩) (by simp)).trans (by simp)
  clear hb1
  go_wp2_with fail
  refine (HE.out _ (HV.out.below B1.out)).mono ?_
  rintro e w2 ⟨rfl, rfl⟩
  go_wp2_with fail
  go_ret2
  exact ⟨rfl, B1.out⟩

set_option maxHeartbeats 1000000 in
theorem move_arg (p s : Nat) (n t : Int) (vf vl : Value) (f : List Nat) (l : List Int) (w : World) (hs64 : s < 18446744073709551616) (hvf : Nums w vf f) (hvl : IntsZ w vl l)
    (h : M.errC p n t l = 0) (hc : M.chk p f 201 = 0) (hs : p ≤ s) :
    Calls Try.prog 39 #[suV p n t, vf, vl, .int .u64 s] w (Fails2 w 2) := by
  obtain ⟨N, rfl, hi, h3, hp, h1, h2, h4, hl3, ht, hr⟩ := M.errC_nat h
  have hC := fun W (hW : IntsZ W vl l) => corrupted_any p (N : Int) t vl l W (by omega) (by omega) (by omega) (by omega) (by omega) hW
  rw [h] at hC
  have HC := Lib.hid hC
  have HB := Lib.hid (balloc w (Obj.cells #[Value.int IntKind.u64 p, Value.int IntKind.i64 N, Value.int IntKind.i64 t] 24))
  have HE := Lib.hid fun W (hW : Nums W vf f) => eval_ok p 0 vf f W (by omega) hW hc
  have hev := M.pev_lt (p := p) f 0 (by omega)
  have HS := Lib.hid fun W => sub_bad p s (M.pev p f 0) W (by omega) hs64 (by omega) (by simp [M.validB, M.within]; omega)
  have HL := Lib.hid hvl
  have HV := Lib.hid hvf
  obtain ⟨y, ey⟩ : ∃ y, y = M.pev p f 0 := ⟨_, rfl⟩
  rw [← ey] at HE HS hev
  obtain ⟨Af, capf, rfl⟩ := nums_slice' hvf
  obtain ⟨_, _, Al, capl, rfl, _⟩ := hvl
  unfold suV at HC ⊢
  clear h hC hvf hi hr ey hc
  go_enter Try.func39, Try.ntmps39
  go_wp2_with fail
  refine (HC.out _ (HL.out.below HB.out)).mono ?_
  rintro e w1 ⟨rfl, hb1⟩
  have B1 := Lib.hid (bnext HB.out hb1)
  have c0 : w1.cell? ⟨w.heap.size, 0, none⟩ = some (.int .u64 p) := by
    refine (hb1.cell (p := ⟨w.heap.size, 0, none⟩) (by simp)).trans (by simp)
  have hlt1 : w.heap.size < w1.heap.size := by have := hb1.size; simp at this; omega
  clear hb1
  go_wp2_with fail
  refine (HE.out _ (HV.out.below B1.out)).mono ?_
  rintro e w2 ⟨rfl, hb2⟩
  have B2 := Lib.hid (bnext B1.out hb2)
  have c2 : w2.cell? ⟨w.heap.size, 0, none⟩ = some (.int .u64 p) := (hb2.cell (p := ⟨w.heap.size, 0, none⟩) hlt1).trans c0
  clear hb2 c0
  go_wp2_with fail
  refine (HS.out _).mono ?_
  rintro e w3 ⟨rfl, hb3⟩
  have B3 := Lib.hid (bnext B2.out hb3)
  clear hb3
  go_wp2_with fail
  go_ret2
  exact ⟨rfl, B3.out⟩

set_option maxHeartbeats 2000000 in
theorem move_ok (p s : Nat) (n t : Int) (vf vl : Value) (f : List Nat) (l : List Int) (w : World) (hvf : Nums w vf f) (hvl : IntsZ w vl l)
    (h : M.errC p n t l = 0) (hc : M.chk p f 201 = 0) (hs : s < p) :
    Calls Try.prog 39 #[suV p n t, vf, vl, .int .u64 s] w fun e w' => ∃ g, M.Moved p f l s g ∧ Gives2 w g e w' := by
  obtain ⟨N, rfl, hi, h3, hp, h1, h2, h4, hl3, ht, hr⟩ := M.errC_nat h
  have hC := fun W (hW : IntsZ W vl l) => corrupted_any p (N : Int) t vl l W (by omega) (by omega) (by omega) (by omega) (by omega) hW
  rw [h] at hC
  have HC := Lib.hid hC
  have HB := Lib.hid (balloc w (Obj.cells #[Value.int IntKind.u64 p, Value.int IntKind.i64 N, Value.int IntKind.i64 t] 24))
  have HE := Lib.hid fun W (hW : Nums W vf f) => eval_ok p 0 vf f W (by omega) hW hc
  have hev := M.pev_lt (p := p) f 0 (by omega)
  have HS := Lib.hid fun W => sub_ok p s (M.pev p f 0) W (M.valid2_iff.2 ⟨hi, hs, hev⟩)
  have hby : M.mvBy p f s < p := Nat.mod_lt _ (by omega)
  have hpw := M.pts_within hr (p := p) (by omega)
  have hpl := M.pts_len l
  have HPT := Lib.hid fun W (hW : IntsZ W vl l) => pointsOf_any vl l W (by omega) (fun i hi => by have := M.rises_range hr hi; omega) hW
  have HAW := Lib.hid fun W v (hW : Nums W v (M.pts l)) => away_any p v (M.pts l) W hW (M.chk_of hi (by omega) hpw)
  have HNZ := Lib.hid (M.pts_noz hr)
  have HND := Lib.hid (M.pts_nodup hr)
  have HSC := Lib.hid fun W v A (hW : Nums W v A) (hA : M.AwayOf p (M.pts l) A) => scale_ok p (M.mvBy p f s) v A W hby hW (M.chk_of hi (by have := (M.away_within hA).2; omega) (M.away_within hA).1)
  have HAD := Lib.hid fun W v A (hf : Nums W vf f) (hW : Nums W v (M.pscale p A (M.mvBy p f s))) (hA : M.AwayOf p (M.pts l) A) => add2_ok p vf v f (M.pscale p A (M.mvBy p f s)) W hf hW (by
    rw [M.rgt_two, if_pos hc]
    have := M.pscale_within (p := p) (by omega) A (M.mvBy p f s)
    exact M.chk_of hi (by have := (M.away_within hA).2; omega) this.1)
  have HM : Hid (∀ A, M.AwayOf p (M.pts l) A → M.Moved p f l s (M.padd p f (M.pscale p A (M.mvBy p f s)))) := Lib.hid fun A hA => ⟨A, hA, rfl⟩
  have HL := Lib.hid hvl
  have HV := Lib.hid hvf
  unfold M.mvBy at hby HSC HAD HM
  obtain ⟨y, ey⟩ : ∃ y, y = M.pev p f 0 := ⟨_, rfl⟩
  rw [← ey] at HE HS hev hby HSC HAD HM
  obtain ⟨x, ex⟩ : ∃ x, x = (s + p - y) % p := ⟨_, rfl⟩
  rw [← ex] at HS hby HSC HAD HM
  obtain ⟨Af, capf, rfl⟩ := nums_slice' hvf
  obtain ⟨_, _, Al, capl, rfl, _⟩ := hvl
  unfold suV at HC ⊢
  clear h hC hvf hi hr ey ex hc hpw hpl
  go_enter Try.func39, Try.ntmps39
  go_wp2_with fail
  refine (HC.out _ (HL.out.below HB.out)).mono ?_
  rintro e w1 ⟨rfl, hb1⟩
  have B1 := Lib.hid (bnext HB.out hb1)
  have c0 : w1.cell? ⟨w.heap.size, 0, none⟩ = some (.int .u64 p) := by
    refine (hb1.cell (p := ⟨w.heap.size, 0, none⟩) (by simp)).trans (by simp)
  have hlt1 : w.heap.size < w1.heap.size := by have := hb1.size; simp at this; omega
  clear hb1
  go_wp2_with fail
  refine (HE.out _ (HV.out.below B1.out)).mono ?_
  rintro e w2 ⟨rfl, hb2⟩
  have B2 := Lib.hid (bnext B1.out hb2)
  have c2 : w2.cell? ⟨w.heap.size, 0, none⟩ = some (.int .u64 p) := (hb2.cell (p := ⟨w.heap.size, 0, none⟩) hlt1).trans c0
  have hlt2 : w.heap.size < w2.heap.size := by have := hb2.size; omega
  clear hb2 c0 hlt1
  go_wp2_with fail
  refine (HS.out _).mono ?_
  rintro e w3 ⟨rfl, hb3⟩
  have B3 := Lib.hid (bnext B2.out hb3)
  have c3 : w3.cell? ⟨w.heap.size, 0, none⟩ = some (.int .u64 p) := (hb3.cell (p := ⟨w.heap.size, 0, none⟩) hlt2).trans c2
  have hlt3 : w.heap.size < w3.heap.size := by have := hb3.size; omega
  clear hb3 c2 hlt2
  go_wp2_with fail
  go_region_with (first
    | (go_at_call 70; refine (HPT.out _ (HL.out.below B3.out.drew)).mono ?_; rintro e w4 ⟨v4, rfl, hn4, hb4⟩; have c4 : w4.cell? ⟨w.heap.size, 0, none⟩ = some (.int .u64 p) := (hb4.cell (p := ⟨w.heap.size, 0, none⟩) hlt3).trans c3; have hlt4 : w.heap.size < w4.heap.size := (by have := hb4.size; simp at this; omega))
    | (go_at_call 69; refine (HAW.out _ _ (by assumption)).mono ?_; rintro e w5 ⟨hh, _⟩; obtain ⟨hb5, ⟨_, v5, A, rfl, hn5, hA⟩ | ⟨hnd, _⟩⟩ := hh HNZ.out; case inr => exact absurd HND.out hnd))
  all_goals
    have B4 := Lib.hid (B3.out.drew.trans (hb4.mono B3.out.size))
    have B5 := Lib.hid (bnext B4.out hb5)
    have c5 : w5.cell? ⟨w.heap.size, 0, none⟩ = some (.int .u64 p) := (hb5.cell (p := ⟨w.heap.size, 0, none⟩) hlt4).trans c4
    have hlt5 : w.heap.size < w5.heap.size := by have := hb5.size; omega
    have N5 := Lib.hid hn5
    have HA := Lib.hid hA
    have HSA := Lib.hid (HSC.out w5 _ _ hn5 hA)
    clear hb4 hb5 hn4 hn5 hA hh c3 c4 hlt3 hlt4
    go_wp2_with fail
    refine HSA.out.mono ?_
    rintro e w6 ⟨v6, rfl, hn6, hb6⟩
    have B6 := Lib.hid (bnext B5.out hb6)
    have c6 : w6.cell? ⟨w.heap.size, 0, none⟩ = some (.int .u64 p) := (hb6.cell (p := ⟨w.heap.size, 0, none⟩) hlt5).trans c5
    have HADD := Lib.hid (HAD.out w6 _ _ (HV.out.below B6.out) hn6 HA.out)
    clear hb6 hn6 c5 hlt5 HSA
    go_wp2_with fail
    refine HADD.out.mono ?_
    rintro e w7 ⟨v7, rfl, hn7, hb7⟩
    have B7 := Lib.hid (bnext B6.out hb7)
    have N7 := Lib.hid hn7
    clear hb7 hn7 HADD
    go_wp2_with fail
    go_ret2
    exact ⟨_, HM.out _ HA.out, _, rfl, N7.out, B7.out⟩
end Go.Proofs.Ytgjkinmfgejjaaa
