/-
  The reference of layer 2: Points, Places, Through.
-/
import Derived.Test.YtgoognipljknjaaRef2d
import Derived.Test.YtgoognipljknjaaP8
import Derived.Test.YtgoognipljknjaaSnoc
namespace Go.Proofs.Ytgoognipljknjaa
open Go.RowKit
set_option linter.unusedVariables false

theorem Pts.below {w w' : World} {v : Value} {xs ys : List Nat} (h : Pts w v xs ys) (hb : Below w.heap.size w w') : Pts w' v xs ys := by
  obtain ⟨h1, h2, h3, h4, A, cap, h5, h6, h7⟩ := h
  refine ⟨h1, h2, h3, h4, A, cap, h5, h6, fun h0 => ?_⟩
  obtain ⟨b, off, h8, h9, h10⟩ := h7 h0
  exact ⟨b, off, h8, Nat.lt_of_lt_of_le h9 hb.size, fun i hi => ⟨(hb.cell (p := ⟨b, off + i * 2, none⟩) h9).trans (h10 i hi).1, (hb.cell (p := ⟨b, off + i * 2 + 1, none⟩) h9).trans (h10 i hi).2⟩⟩
theorem vals_take_snoc {xs : List Nat} {k : Nat} (h : k < xs.length) : vals (xs.take (k + 1)) = vals (xs.take k) ++ [.int .u64 (xs.getD k 0 : Nat)] := by
  rw [List.take_succ_eq_append_getElem h, vals_snoc, ← M.getD_lt h]

namespace M
/-- what the reference answers about points, the modulus being in order -/
def ptErr (p : Nat) (xs ys : List Nat) (L : Nat) : Int := if L < xs.length then 3 else if within p xs = true ∧ within p ys = true then (if xs.Nodup then 0 else 6) else 2
theorem ptErr_long {p : Nat} {xs ys : List Nat} {L : Nat} (h : L < xs.length) : 3 = ptErr p xs ys L := by unfold ptErr; rw [if_pos h]
theorem ptErr_out {p : Nat} {xs ys : List Nat} {L : Nat} (h : ¬ L < xs.length) (hw : ¬ (within p xs = true ∧ within p ys = true)) : 2 = ptErr p xs ys L := by unfold ptErr; rw [if_neg h, if_neg hw]
theorem ptErr_twice {p : Nat} {xs ys : List Nat} {L : Nat} (h : ¬ L < xs.length) (hw : within p xs = true ∧ within p ys = true) (hn : ¬ xs.Nodup) : 6 = ptErr p xs ys L := by unfold ptErr; rw [if_neg h, if_pos hw, if_neg hn]
theorem ptErr_ok {p : Nat} {xs ys : List Nat} {L : Nat} (h : ¬ L < xs.length) (hw : within p xs = true ∧ within p ys = true) (hn : xs.Nodup) : 0 = ptErr p xs ys L := by unfold ptErr; rw [if_neg h, if_pos hw, if_pos hn]
end M

set_option maxHeartbeats 2000000 in
theorem rpoints_any (p L : Nat) (v : Value) (xs ys : List Nat) (w : World) (hp : p < 18446744073709551616) (hL : L ≤ 1000) (hv : Pts w v xs ys) :
    Calls Try.prog 39 #[.int .u64 p, v, .int .i64 L] w fun e w' => e = .returned (.int .i64 (M.ptErr p xs ys L)) ∧ Below w.heap.size w w' := by
  obtain ⟨hyl, hlen, hxu, hyu, A, cap, rfl, hcap, hC⟩ := hv
  have HV := Lib.hid hC
  have HYL := Lib.hid hyl
  have HXU := Lib.hid hxu
  have HYU := Lib.hid hyu
  obtain ⟨i0, hi0, hz0, hz1, hz2⟩ := info_parts infoU64
  clear hC hcap hxu hyu hyl
  by_cases hl : L < xs.length
  · have g1 : decide ((L : Int) < (xs.length : Nat)) = true := by simp; omega
    go_enter Try.func39, Try.ntmps39
    go_wp2_with fail
    go_ret
    exact ⟨ret1 (M.ptErr_long hl), Below.refl _ _⟩
  · have g1 : decide ((L : Int) < (xs.length : Nat)) = false := by simp; omega
    have HL := Lib.hid hl
    go_enter Try.func39, Try.ntmps39
    go_wp2_with fail
    go_loopw [7, 16] (fun t7 t wr => ∃ k : Nat, k ≤ xs.length ∧ t = .int .i64 k ∧ wr.ownsRow w.heap.size 22 1 t7 k (vals (xs.take k)) ∧ M.within p (xs.take k) = true ∧ M.within p (ys.take k) = true ∧ Below w.heap.size w wr) (fun _ t _ => xs.length - (intOf t).toNat)
    case atStart => exact ⟨0, by omega, rfl, World.ownsRow_nil _ _ _ _, by simp [M.within], by simp [M.within], Below.refl _ _⟩
    case round =>
      obtain ⟨k, hk, rfl, hown, hw1, hw2, hB⟩ := hrel
      have HO := Lib.hid hown
      have HW1 := Lib.hid hw1
      have HW2 := Lib.hid hw2
      have HB := Lib.hid hB
      clear hw1 hw2 hB hown
      by_cases hlt : k < xs.length
      · obtain ⟨b, off, rfl, hb, hcell⟩ := HV.out (by omega)
        have hc1 := (HB.out.cell (p := ⟨b, off + k * 2, none⟩) hb).trans (hcell k hlt).1
        have hc2 := (HB.out.cell (p := ⟨b, off + k * 2 + 1, none⟩) hb).trans (hcell k hlt).2
        have hsn := vals_take_snoc hlt
        obtain ⟨x, hx⟩ : ∃ x, x = xs.getD k 0 := ⟨_, rfl⟩
        obtain ⟨y, hy⟩ : ∃ y, y = ys.getD k 0 := ⟨_, rfl⟩
        rw [← hx] at hc1 hsn
        rw [← hy] at hc2
        have HX := Lib.hid hx
        have HY := Lib.hid hy
        have HSN := Lib.hid hsn
        have hud : ∀ b : Bool, undef ≠ Value.bool b := fun b h => by cases h
        clear hx hy hcell hsn
        have hb1 : wr.heap.size ≠ b := by have := HB.out.size; omega
        by_cases hpx : p ≤ x
        · have g1 : decide ((p : Int) ≤ (x : Int)) = true := by simp; omega
          go_wp2_with fail
          go_ret
          refine ⟨ret1 (M.ptErr_out HL.out (fun h => ?_)), HB.out.alloc HB.out.size _⟩
          have := M.within_mem h.1 hlt
          rw [← HX.out] at this
          omega
        · have g1 : decide ((p : Int) ≤ (x : Int)) = false := by simp; omega
          by_cases hpy : p ≤ y
          · have g2 : decide ((p : Int) ≤ (y : Int)) = true := by simp; omega
            go_wp2_with fail
            go_ret
            refine ⟨ret1 (M.ptErr_out HL.out (fun h => ?_)), HB.out.alloc HB.out.size _⟩
            have := M.within_mem h.2 (show k < ys.length by have := HYL.out; omega)
            rw [← HY.out] at this
            omega
          · have g2 : decide ((p : Int) ≤ (y : Int)) = false := by simp; omega
            go_wp2_with (at_builtin; refine wpList_append_own _ rfl _ _ 24 rfl w.heap.size 22 i0 (.int .u64 0) 1 8 Try.underlying24 hi0 hz0 hz1 hz2 rfl (by decide) _ _ _ rfl ((HO.out.alloc (.cells #[.int .u64 x, .int .u64 y] 86)).alloc _) ⟨wr.heap.size + 1, 0, none⟩ 1 1 [.int .u64 (x : Nat)] rfl rfl ?c1 ?c2 ?c3 ?c4 ?c5 ?_)
            case c1 =>
              intro j u hu
              rw [Addr.add_lit]
              match j, hu with
              | 0, hu => simpa using hu
            case c2 => intro u hu; simp at hu; subst hu; rfl
            case c3 => unfold maxLen; omega
            case c4 => omega
            case c5 => have := HB.out.size; simp; omega
            intro v' w4 hown' hgrow _
            have hlt' := fun r hr => (HO.out.lt r hr).1
            have HB4 := Lib.hid (((HB.out.alloc HB.out.size _).alloc (Nat.le_trans HB.out.size (by simp)) _).grown hgrow (by have := HB.out.size; simp; omega) (fun r hr => hlt' r hr))
            rw [← HSN.out] at hown'
            have HOW := Lib.hid hown'
            clear hown' hgrow hlt'
            go_wp2_with fail
            go_roundw
            case rel => exact ⟨k + 1, by omega, by go_num, HOW.out, M.within_take hlt HW1.out (by rw [← HX.out]; omega), M.within_take (by have := HYL.out; omega) HW2.out (by rw [← HY.out]; omega), HB4.out⟩
            case measure => simp [intOf]; omega
      · obtain rfl : k = xs.length := by omega
        have h1 := HW1.out
        have h2 := HW2.out
        have h3 := HO.out
        rw [List.take_length] at h1 h3
        rw [← HYL.out, List.take_length] at h2
        have hNX := nums_of_owns h3 HXU.out hlen
        have HT := Lib.hid (twice_any _ xs wr hNX)
        obtain ⟨A7, cap7, rfl⟩ := nums_slice' hNX
        have H1 := Lib.hid h1
        have H2 := Lib.hid h2
        clear h1 h2 h3 hNX
        by_cases hn : xs.Nodup
        · have ht := HT.out
          rw [← M.twice_no hn] at ht
          have HT' := Lib.hid ht
          have HN := Lib.hid hn
          clear ht hn HT
          go_wp2_with fail
          refine HT'.out.mono ?_
          rintro e w5 ⟨rfl, hb5⟩
          have B5 := Lib.hid (bnext HB.out hb5)
          clear hb5
          go_wp2_with fail
          go_ret
          exact ⟨ret1 (M.ptErr_ok HL.out ⟨H1.out, H2.out⟩ HN.out), B5.out⟩
        · have ht := HT.out
          rw [← M.twice_yes hn] at ht
          have HT' := Lib.hid ht
          have HN := Lib.hid hn
          clear ht hn HT
          go_wp2_with fail
          refine HT'.out.mono ?_
          rintro e w5 ⟨rfl, hb5⟩
          have B5 := Lib.hid (bnext HB.out hb5)
          clear hb5
          go_wp2_with fail
          go_ret
          exact ⟨ret1 (M.ptErr_twice HL.out ⟨H1.out, H2.out⟩ HN.out), B5.out⟩

set_option maxHeartbeats 2000000 in
theorem rplaces_any (v : Value) (xs ys : List Nat) (w : World) (hv : Pts w v xs ys) :
    Calls Try.prog 93 #[v] w (Gives w xs) := by
  obtain ⟨hyl, hlen, hxu, hyu, A, cap, rfl, hcap, hC⟩ := hv
  have HV := Lib.hid hC
  have HXU := Lib.hid hxu
  obtain ⟨i0, hi0, hz0, hz1, hz2⟩ := info_parts infoU64
  clear hC hcap hxu hyu hyl
  go_enter Try.func93, Try.ntmps93
  go_wp2_with fail
  go_loopw [3, 8] (fun t7 t wr => ∃ k : Nat, k ≤ xs.length ∧ t = .int .i64 k ∧ wr.ownsRow w.heap.size 22 1 t7 k (vals (xs.take k)) ∧ Below w.heap.size w wr) (fun _ t _ => xs.length - (intOf t).toNat)
  case atStart => exact ⟨0, by omega, rfl, World.ownsRow_nil _ _ _ _, Below.refl _ _⟩
  case round =>
    obtain ⟨k, hk, rfl, hown, hB⟩ := hrel
    have HO := Lib.hid hown
    have HB := Lib.hid hB
    clear hB hown
    by_cases hlt : k < xs.length
    · obtain ⟨b, off, rfl, hb, hcell⟩ := HV.out (by omega)
      have hc1 := (HB.out.cell (p := ⟨b, off + k * 2, none⟩) hb).trans (hcell k hlt).1
      have hc2 := (HB.out.cell (p := ⟨b, off + k * 2 + 1, none⟩) hb).trans (hcell k hlt).2
      have hsn := vals_take_snoc hlt
      obtain ⟨x, hx⟩ : ∃ x, x = xs.getD k 0 := ⟨_, rfl⟩
      obtain ⟨y, hy⟩ : ∃ y, y = ys.getD k 0 := ⟨_, rfl⟩
      rw [← hx] at hc1 hsn
      rw [← hy] at hc2
      have HSN := Lib.hid hsn
      clear hx hy hcell hsn
      have hb1 : wr.heap.size ≠ b := by have := HB.out.size; omega
      go_wp2_with (at_builtin; refine wpList_append_own _ rfl _ _ 24 rfl w.heap.size 22 i0 (.int .u64 0) 1 8 Try.underlying24 hi0 hz0 hz1 hz2 rfl (by decide) _ _ _ rfl ((HO.out.alloc (.cells #[.int .u64 x, .int .u64 y] 86)).alloc _) ⟨wr.heap.size + 1, 0, none⟩ 1 1 [.int .u64 (x : Nat)] rfl rfl ?c1 ?c2 ?c3 ?c4 ?c5 ?_)
      case c1 =>
        intro j u hu
        rw [Addr.add_lit]
        match j, hu with
        | 0, hu => simpa using hu
      case c2 => intro u hu; simp at hu; subst hu; rfl
      case c3 => unfold maxLen; omega
      case c4 => omega
      case c5 => have := HB.out.size; simp; omega
      intro v' w4 hown' hgrow _
      have hlt' := fun r hr => (HO.out.lt r hr).1
      have HB4 := Lib.hid (((HB.out.alloc HB.out.size _).alloc (Nat.le_trans HB.out.size (by simp)) _).grown hgrow (by have := HB.out.size; simp; omega) (fun r hr => hlt' r hr))
      rw [← HSN.out] at hown'
      have HOW := Lib.hid hown'
      clear hown' hgrow hlt'
      go_wp2_with fail
      go_roundw
      case rel => exact ⟨k + 1, by omega, by go_num, HOW.out, HB4.out⟩
      case measure => simp [intOf]; omega
    · obtain rfl : k = xs.length := by omega
      have h3 := HO.out
      rw [List.take_length] at h3
      have HN := Lib.hid (nums_of_owns h3 HXU.out hlen)
      clear h3
      go_wp2_with fail
      go_ret
      exact ⟨_, rfl, HN.out, HB.out⟩

set_option maxHeartbeats 4000000 in
theorem rthrough_any (p : Nat) (v : Value) (xs ys : List Nat) (w : World) (hi : M.isP p = true) (hxl : xs.length ≤ 201) (hwx : M.within p xs = true) (hwy : M.within p ys = true) (hn : xs.Nodup) (hv : Pts w v xs ys) :
    Calls Try.prog 52 #[.int .u64 p, v] w fun e w' => ∃ v' f, e = .returned v' ∧ Nums w' v' f ∧ M.Thru p xs ys f ∧ Below w.heap.size w w' := by
  obtain ⟨h3, hp⟩ := M.pos_of hi
  have HP := Lib.hid hv
  have hyl := hv.1
  obtain ⟨_, _, _, _, A, cap, rfl, _, hcells⟩ := hv
  have HI := Lib.hid hi
  have HWX := Lib.hid hwx
  have HWY := Lib.hid hwy
  have HYL := Lib.hid hyl
  have HN := Lib.hid hn
  have HV := Lib.hid hcells
  have PL := Lib.hid fun W (h : Pts W (.slice A xs.length cap) xs ys) => rplaces_any _ xs ys W h
  clear hi hwx hwy hyl hcells hn
  go_enter Try.func52, Try.ntmps52
  go_wp2_with fail
  go_loopw [5, 10] (fun t5 t wr => ∃ (k : Nat) (f : List Nat), k ≤ xs.length ∧ t = .int .i64 k ∧ Nums wr t5 f ∧ M.LagK p xs ys k f ∧ Below w.heap.size w wr) (fun _ t _ => xs.length - (intOf t).toNat)
  case atStart => exact ⟨0, [], by omega, rfl, ⟨by simp, by simp, .inl ⟨none, 0, rfl, rfl, fun _ => rfl⟩⟩, M.LagK.start _ _ _, Below.refl _ _⟩
  case round =>
    obtain ⟨k, f, hk, rfl, hf, hL, hB⟩ := hrel
    have HF := Lib.hid hf
    have HLK := Lib.hid hL
    have HB := Lib.hid hB
    clear hf hL hB
    by_cases hlt : k < xs.length
    · obtain ⟨b, off, rfl, hb, hcell⟩ := HV.out (by omega)
      have hc1 := (HB.out.cell (p := ⟨b, off + k * 2, none⟩) hb).trans (hcell k hlt).1
      have hc2 := (HB.out.cell (p := ⟨b, off + k * 2 + 1, none⟩) hb).trans (hcell k hlt).2
      have hy := M.within_mem HWY.out (show k < ys.length by have := HYL.out; omega)
      have hst := fun u (hu : M.UnitK p xs k xs.length u) => M.LagK.step HI.out HWX.out HWY.out HYL.out HN.out hlt HLK.out hu
      obtain ⟨x, ex⟩ : ∃ x, x = xs.getD k 0 := ⟨_, rfl⟩
      obtain ⟨y, ey⟩ : ∃ y, y = ys.getD k 0 := ⟨_, rfl⟩
      rw [← ex] at hc1
      rw [← ey] at hc2 hy hst
      have hb1 : wr.heap.size ≠ b := by have := HB.out.size; omega
      have hul : ∀ u, M.UnitK p xs k xs.length u → u.length ≤ 202 := fun u hu => by have := hu.2.1; unfold M.cnt at this; split at this <;> omega
      have hfl := HLK.out.2.2.1
      have u1 := fun W V (h1 : Nums W V xs) => unit_any p k V xs W h3 hp HWX.out hxl hlt h1
      have s1 := fun W V u (hu : M.UnitK p xs k xs.length u) (h1 : Nums W V u) => rscale_any p y V u W (by omega) hp hy hu.1 (by have := hul u hu; omega) h1
      have a1 := fun W V V2 u (hu : M.UnitK p xs k xs.length u) (h1 : Nums W V f) (h2 : Nums W V2 (M.pscale p u y)) => radd_any p V V2 f (M.pscale p u y) W (by omega) hp HLK.out.1 (M.poly_within (by omega) _ _) (by omega) (by have := hul u hu; have := M.poly_len p u.length (fun i => u.getD i 0 * y); unfold M.pscale; omega) h1 h2
      have U1 := Lib.hid u1
      have S1 := Lib.hid s1
      have A1 := Lib.hid a1
      have HST := Lib.hid hst
      have HPD : Hid (Pts (wr.alloc (.cells #[.int .u64 x, .int .u64 y] 86)).drew (.slice (some ⟨b, off, none⟩) xs.length cap) xs ys) := Lib.hid ((HP.out.below HB.out).below (balloc wr _).drew)
      have HFD : Hid (Nums (wr.alloc (.cells #[.int .u64 x, .int .u64 y] 86)).drew u5 f) := Lib.hid (HF.out.below (balloc wr _).drew)
      have cyD : Hid ((wr.alloc (.cells #[.int .u64 x, .int .u64 y] 86)).drew.cell? ⟨wr.heap.size, 1, none⟩ = some (.int .u64 y)) := Lib.hid (by simp)
      clear ex ey hcell u1 s1 a1 hst hul
      go_wp2_with fail
      go_region_with (first
        | (go_at_call 93; refine (PL.out _ HPD.out).mono ?_; rintro e w3 ⟨v3, rfl, hn3, hb3⟩; have cy3 := (hb3.cell (p := ⟨wr.heap.size, 1, none⟩) (by simp)).trans cyD.out)
        | (go_at_call 92; refine (U1.out _ _ (by assumption)).mono ?_; rintro e w4 ⟨v4, u, rfl, hn4, hu4, hb4⟩; have cy4 := (hb4.cell (p := ⟨wr.heap.size, 1, none⟩) (World.block_lt_of_cell? _ _ cy3)).trans cy3)
        | (go_at_call 89; refine (S1.out _ _ u hu4 (by assumption)).mono ?_; rintro e w5 ⟨v5, rfl, hn5, hb5⟩)
        | (go_at_call 88; refine (A1.out _ _ _ u hu4 (((HFD.out.below hb3).below hb4).below hb5) (by assumption)).mono ?_; rintro e w6 ⟨v6, rfl, hn6, hb6⟩))
      all_goals
        have hB3 := Below.trans (balloc wr (.cells #[.int .u64 x, .int .u64 y] 86)).drew (Below.mono hb3 (by simp))
        have HB6 := Lib.hid (bnext (bnext (bnext (bnext HB.out hB3) hb4) hb5) hb6)
        have HN6 := Lib.hid hn6
        have HU := Lib.hid hu4
        clear hb3 hb4 hb5 hb6 hn3 hn4 hn5 hn6 cy3 cy4 hB3 hu4
        go_wp2_with fail
        go_roundw
        case rel => exact ⟨k + 1, _, by omega, by go_num, HN6.out, HST.out _ HU.out, HB6.out⟩
        case measure => simp [intOf]; omega
    · obtain rfl : k = xs.length := by omega
      go_wp2_with fail
      go_ret
      exact ⟨_, f, rfl, HF.out, HLK.out.done, HB.out⟩
end Go.Proofs.Ytgoognipljknjaa
