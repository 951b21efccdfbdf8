/-
  Package decode: Check.
-/
import Derived.Test.YtfgfapbhgehfiaaLF
import Derived.Test.YtfgfapbhgehfiaaDmap
import Derived.Test.YtfgfapbhgehfiaaDecM
import Derived.WalkArith
import Derived.Outline
namespace Go.Proofs.Ytfgfapbhgehfiaa
open Go.RowKit
open Go.Maps
set_option linter.unusedVariables false
set_option maxRecDepth 100000

namespace M
/-- what decode's Check answers -/
def dchk (p : Nat) (d : Int) (xs ys : List Nat) : Int :=
  if isP p = false ∨ d < 0 ∨ 63 < d then 2 else if 64 < xs.length then 3 else if within p xs = true ∧ within p ys = true then (if xs.Nodup then 0 else 6) else 2
theorem dchk_no {p : Nat} {d : Int} (xs ys : List Nat) (h : isP p = false ∨ d < 0 ∨ 63 < d) : 2 = dchk p d xs ys := by unfold dchk; rw [if_pos h]
theorem dchk_long {p : Nat} {d : Int} {xs : List Nat} (ys : List Nat) (h : ¬ (isP p = false ∨ d < 0 ∨ 63 < d)) (hl : 64 < xs.length) : 3 = dchk p d xs ys := by unfold dchk; rw [if_neg h, if_pos hl]
theorem dchk_out {p : Nat} {d : Int} {xs ys : List Nat} (h : ¬ (isP p = false ∨ d < 0 ∨ 63 < d)) (hl : ¬ 64 < xs.length) (hw : ¬ (within p xs = true ∧ within p ys = true)) : 2 = dchk p d xs ys := by unfold dchk; rw [if_neg h, if_neg hl, if_neg hw]
theorem dchk_twice {p : Nat} {d : Int} {xs ys : List Nat} (h : ¬ (isP p = false ∨ d < 0 ∨ 63 < d)) (hl : ¬ 64 < xs.length) (hw : within p xs = true ∧ within p ys = true) (hn : ¬ xs.Nodup) : 6 = dchk p d xs ys := by unfold dchk; rw [if_neg h, if_neg hl, if_pos hw, if_neg hn]
theorem dchk_ok {p : Nat} {d : Int} {xs ys : List Nat} (h : ¬ (isP p = false ∨ d < 0 ∨ 63 < d)) (hl : ¬ 64 < xs.length) (hw : within p xs = true ∧ within p ys = true) (hn : xs.Nodup) : 0 = dchk p d xs ys := by unfold dchk; rw [if_neg h, if_neg hl, if_pos hw, if_pos hn]
/-- arguments in order -/
structure DOk (p d : Nat) (xs ys : List Nat) : Prop where
  isp : isP p = true
  d63 : d ≤ 63
  len : xs.length ≤ 64
  wx : within p xs = true
  wy : within p ys = true
  nod : xs.Nodup
theorem dchk_zero {p : Nat} {d : Int} {xs ys : List Nat} (h : dchk p d xs ys = 0) : ∃ D : Nat, d = D ∧ DOk p D xs ys := by
  unfold dchk at h
  split at h
  · cases h
  · rename_i h1
    split at h
    · cases h
    · split at h
      · split at h
        · rename_i h2 h3 h4
          exact ⟨d.toNat, by omega, by simpa using fun e => h1 (.inl e), by omega, by omega, h3.1, h3.2, h4⟩
        · cases h
      · cases h
theorem DOk.chk {p d : Nat} {xs ys : List Nat} (h : DOk p d xs ys) : dchk p d xs ys = 0 := (dchk_ok (by have := h.isp; have := h.d63; simp [*]; omega) (by have := h.len; omega) ⟨h.wx, h.wy⟩ h.nod).symm
theorem take_nodup {xs : List Nat} {k : Nat} (hk : k < xs.length) (h : (xs.take k).Nodup) (hn : xs.getD k 0 ∉ xs.take k) : (xs.take (k + 1)).Nodup := by
  rw [List.take_add_one, List.getElem?_eq_getElem hk, Option.toList_some]
  rw [getD_lt hk] at hn
  rw [List.nodup_append]
  refine ⟨h, by simp, ?_⟩
  intro a ha b hb e
  simp at hb
  subst hb
  exact hn (e ▸ ha)
theorem take_twice {xs : List Nat} {k : Nat} (hk : k < xs.length) (hn : xs.getD k 0 ∈ xs.take k) : ¬ xs.Nodup := by
  intro h
  rw [getD_lt hk] at hn
  have hd : xs[k] ∈ xs.drop k := by rw [List.drop_eq_getElem_cons hk]; exact List.mem_cons_self ..
  rw [← List.take_append_drop k xs, List.nodup_append] at h
  exact h.2.2 _ hn _ hd rfl
end M

theorem key22 : Keyed Try.prog 22 := int_keyed Try.underlying22
theorem zero4 (w : World) : (zeroValue 4).run Try.prog w = .ok (.bool false) w := by kernel_rfl
theorem u64_wf {x : Nat} (h : x < 18446744073709551616) : (Lit.int .u64 (x : Nat)).wf = true := WalkArith.wf_u64 (by omega)

set_option maxHeartbeats 2000000 in
theorem dcheck_no (p : Nat) (d : Int) (v : Value) (xs ys : List Nat) (w : World) (hp : p < 18446744073709551616) (hv : Pts w v xs ys) (h : M.isP p = false ∨ d < 0 ∨ 63 < d) :
    Calls Try.prog 12 #[.int .u64 p, .int .i64 d, v] w fun e w' => e = .returned (.int .i64 2) ∧ Below w.heap.size w w' := by
  obtain ⟨hyl, hlen, hxu, hyu, A, cap, rfl, hcap, hC⟩ := hv
  have hc := is_any p w hp
  have hud : ∀ b : Bool, undef ≠ Value.bool b := fun b h => by cases h
  cases hi : M.isP p with
  | false =>
    rw [hi] at hc
    have HC := Lib.hid hc
    clear hi hc hp hC h
    go_enter Try.func12, Try.ntmps12
    go_wp2_with (go_at_call 34; refine HC.out.mono ?_; rintro e w' ⟨rfl, rfl⟩)
    go_ret
    exact ⟨rfl, Below.refl _ _⟩
  | true =>
    rw [hi] at hc
    have HC := Lib.hid hc
    by_cases hd : d < 0
    · clear hi hc hp hC h
      go_enter Try.func12, Try.ntmps12
      go_wp2_with (go_at_call 34; refine HC.out.mono ?_; rintro e w' ⟨rfl, rfl⟩)
      go_ret
      exact ⟨rfl, Below.refl _ _⟩
    · have hd2 : 63 < d := by rcases h with h | h | h <;> simp_all
      clear hi hc hp hC h
      go_enter Try.func12, Try.ntmps12
      go_wp2_with (go_at_call 34; refine HC.out.mono ?_; rintro e w' ⟨rfl, rfl⟩)
      go_ret
      exact ⟨rfl, Below.refl _ _⟩

set_option maxHeartbeats 2000000 in
theorem dcheck_long (p : Nat) (d : Int) (v : Value) (xs ys : List Nat) (w : World) (hp : p < 18446744073709551616) (hv : Pts w v xs ys) (h : ¬ (M.isP p = false ∨ d < 0 ∨ 63 < d)) (hl : 64 < xs.length) :
    Calls Try.prog 12 #[.int .u64 p, .int .i64 d, v] w fun e w' => e = .returned (.int .i64 3) ∧ Below w.heap.size w w' := by
  obtain ⟨hyl, hlen, hxu, hyu, A, cap, rfl, hcap, hC⟩ := hv
  have hc := is_any p w hp
  have hud : ∀ b : Bool, undef ≠ Value.bool b := fun b h => by cases h
  rw [show M.isP p = true by cases hi : M.isP p <;> simp_all] at hc
  have HC := Lib.hid hc
  have hd1 : ¬ d < 0 := fun e => h (.inr (.inl e))
  have hd2 : ¬ 63 < d := fun e => h (.inr (.inr e))
  clear hc hp hC h
  go_enter Try.func12, Try.ntmps12
  go_wp2_with (go_at_call 34; refine HC.out.mono ?_; rintro e w' ⟨rfl, rfl⟩)
  go_ret
  exact ⟨rfl, Below.refl _ _⟩

set_option maxHeartbeats 4000000 in
theorem dcheck_rest (p : Nat) (d : Int) (v : Value) (xs ys : List Nat) (w : World) (hp : p < 18446744073709551616) (hv : Pts w v xs ys) (h : ¬ (M.isP p = false ∨ d < 0 ∨ 63 < d)) (hl : ¬ 64 < xs.length) :
    Calls Try.prog 12 #[.int .u64 p, .int .i64 d, v] w fun e w' => e = .returned (.int .i64 (M.dchk p d xs ys)) ∧ Below w.heap.size w w' := by
  obtain ⟨hyl, hlen, hxu, hyu, A, cap, rfl, hcap, hC⟩ := hv
  have hc := is_any p w hp
  have hud : ∀ b : Bool, undef ≠ Value.bool b := fun b h => by cases h
  rw [show M.isP p = true by cases hi : M.isP p <;> simp_all] at hc
  have HC := Lib.hid hc
  have HV := Lib.hid hC
  have HYL := Lib.hid hyl
  have HH := Lib.hid h
  have HXU := Lib.hid hxu
  have hd1 : ¬ d < 0 := fun e => h (.inr (.inl e))
  have hd2 : ¬ 63 < d := fun e => h (.inr (.inr e))
  have hmm := fun W => makeMap_hint (P := Try.prog) (t := 66) Try.underlying66 W xs.length
  clear hc hp hC h hyl hyu hxu
  go_enter Try.func12, Try.ntmps12
  go_wp2_with (go_at_call 34; refine HC.out.mono ?_; rintro e w' ⟨rfl, rfl⟩)
  go_loopw [28] (fun t wr => ∃ k : Nat, k ≤ xs.length ∧ t = .int .i64 k ∧ M.within p (xs.take k) = true ∧ M.within p (ys.take k) = true ∧ Below w.heap.size w wr) (fun t _ => xs.length - (intOf t).toNat)
  case atStart => exact ⟨0, by omega, rfl, by simp [M.within], by simp [M.within], Below.refl _ _⟩
  case round =>
    obtain ⟨k, hk, rfl, hw1, hw2, hB⟩ := hrel
    have HW1 := Lib.hid hw1
    have HW2 := Lib.hid hw2
    have HB := Lib.hid hB
    clear hw1 hw2 hB
    by_cases hlt : k < xs.length
    · obtain ⟨b, off, rfl, hb, hcell⟩ := HV.out (by omega)
      have hc1 := (HB.out.cell (p := ⟨b, off + k * 2, none⟩) hb).trans (hcell k hlt).1
      have hc2 := (HB.out.cell (p := ⟨b, off + k * 2 + 1, none⟩) hb).trans (hcell k hlt).2
      obtain ⟨x, hx⟩ : ∃ x, x = xs.getD k 0 := ⟨_, rfl⟩
      obtain ⟨y, hy⟩ : ∃ y, y = ys.getD k 0 := ⟨_, rfl⟩
      rw [← hx] at hc1
      rw [← hy] at hc2
      have HX := Lib.hid hx
      have HY := Lib.hid hy
      clear hx hy hcell hmm
      have hb1 : wr.heap.size ≠ b := by have := HB.out.size; omega
      by_cases hpx : p ≤ x
      · have g1 : decide ((p : Int) ≤ (x : Int)) = true := by simp; omega
        go_wp2
        go_ret
        refine ⟨ret1 (M.dchk_out HH.out hl (fun h => ?_)), HB.out.alloc HB.out.size _⟩
        have := M.within_mem h.1 hlt
        rw [← HX.out] at this
        omega
      · have g1 : decide ((p : Int) ≤ (x : Int)) = false := by simp; omega
        by_cases hpy : p ≤ y
        · have g2 : decide ((p : Int) ≤ (y : Int)) = true := by simp; omega
          go_wp2
          go_ret
          refine ⟨ret1 (M.dchk_out HH.out hl (fun h => ?_)), HB.out.alloc HB.out.size _⟩
          have := M.within_mem h.2 (show k < ys.length by have := HYL.out; omega)
          rw [← HY.out] at this
          omega
        · have g2 : decide ((p : Int) ≤ (y : Int)) = false := by simp; omega
          go_wp2
          go_roundw
          case rel => exact ⟨k + 1, by omega, by go_num, M.within_take hlt HW1.out (by rw [← HX.out]; omega), M.within_take (by have := HYL.out; omega) HW2.out (by rw [← HY.out]; omega), HB.out.alloc HB.out.size _⟩
          case measure => simp [intOf]; omega
    · have hW : M.within p xs = true ∧ M.within p ys = true := by
        have hk' : k = xs.length := by omega
        have h := HW1.out
        have h2 := HW2.out
        rw [hk', List.take_length] at h
        rw [hk', ← HYL.out, List.take_length] at h2
        exact ⟨h, h2⟩
      have HWW := Lib.hid hW
      have HM0 := Lib.hid (World.ownsMap_made wr Try.prog 22 (plainElem (H := Unit) Try.prog 4))
      have HB1 := Lib.hid (HB.out.alloc HB.out.size (.map #[] 0))
      have hmw := hmm wr
      obtain ⟨gx, hgx⟩ : ∃ g, g = wr.heap.size := ⟨_, rfl⟩
      have HGX := Lib.hid hgx
      have HGB := Lib.hid (show w.heap.size ≤ gx by have := HB.out.size; omega)
      rw [← hgx] at hmw HM0
      clear hW HW1 HW2 hmm hgx
      go_wp2
      go_loopw [48] (fun t wx => ∃ k : Nat, k ≤ xs.length ∧ t = .int .i64 k ∧ (xs.take k).Nodup ∧ wx.ownsMap Try.prog 22 (plainElem (H := Unit) Try.prog 4) gx k (seenD xs k) ∧ Below w.heap.size w wx ∧ gx < wx.heap.size) (fun t _ => xs.length - (intOf t).toNat)
      case atStart => exact ⟨0, by omega, rfl, by simp, (by rw [seenD_zero]; exact HM0.out), HB1.out, (by have := HGX.out; simp; omega)⟩
      case round =>
        obtain ⟨j, hj, rfl, hn, hm, hB, hsz⟩ := hrel
        have HN := Lib.hid hn
        have HM := Lib.hid hm
        have HB2 := Lib.hid hB
        clear hn hm hB
        by_cases hlt : j < xs.length
        · obtain ⟨b, off, rfl, hb, hcell⟩ := HV.out (by omega)
          have hc1 := (HB2.out.cell (p := ⟨b, off + j * 2, none⟩) hb).trans (hcell j hlt).1
          have hc2 := (HB2.out.cell (p := ⟨b, off + j * 2 + 1, none⟩) hb).trans (hcell j hlt).2
          have hxlt : xs.getD j 0 < 18446744073709551616 := HXU.out _ (M.getD_mem hlt)
          obtain ⟨x, hx⟩ : ∃ x, x = xs.getD j 0 := ⟨_, rfl⟩
          rw [← hx] at hc1 hxlt
          have HX := Lib.hid hx
          have hkey : keyOf Try.prog 22 (.int .u64 (x : Nat)) = some (.int .u64 (x : Nat)) := keyOf_int_mk Try.underlying22 (u64_wf hxlt)
          clear hx hcell
          have hb1 : wr.heap.size ≠ b := by have := HB2.out.size; omega
          have hj62 : j < 64 := by omega
          cases hin : decide (x ∈ xs.take j) with
          | true =>
            go_wp2_with (at_lookup; refine wpList_lookup_own_bool _ rfl _ _ 66 rfl 22 4 key22 Try.underlying66 Try.underlying4 (zero4 _) gx j _ rfl (HM.out.alloc _) _ _ rfl hkey ?_; intro c hat; rw [seen_at, hin] at hat; injection hat with hat; injection hat with hat; subst hat)
            go_ret
            refine ⟨ret1 (M.dchk_twice HH.out hl HWW.out (M.take_twice hlt ?_)), HB2.out.alloc HB2.out.size _⟩
            rw [← HX.out]
            simpa using hin
          | false =>
            go_wp2_with (first | (at_lookup; refine wpList_lookup_own_bool _ rfl _ _ 66 rfl 22 4 key22 Try.underlying66 Try.underlying4 (zero4 _) gx j _ rfl (HM.out.alloc _) _ _ rfl hkey ?_; intro c hat; rw [seen_at, hin] at hat; injection hat with hat; injection hat with hat; subst hat) | (at_mapUpdate; refine wpList_mapUpdate_own _ rfl _ _ _ 66 rfl 22 4 key22 Try.underlying66 (plainElem (H := Unit) Try.prog 4) gx j _ rfl (HM.out.alloc _) (by unfold maxLen; omega) _ _ _ rfl rfl hkey _ [] (plainElem_bool Try.underlying4 true) ?_; intro w1 hown1 hgrow1))
            go_roundw
            case rel =>
              have hs := hgrow1.size
              simp at hs
              refine ⟨j + 1, by omega, by go_num, M.take_nodup hlt HN.out (by rw [← HX.out]; simpa using hin), (by rw [seenD_succ hlt, ← HX.out]; exact hown1), (HB2.out.alloc HB2.out.size _).grown hgrow1 (by have := HB2.out.size; simp; omega) (fun k hk => by have := HGB.out; injection hk with hk; omega), by omega⟩
            case measure => simp [intOf]; omega
        · have hj' : j = xs.length := by omega
          have hnod := HN.out
          rw [hj', List.take_length] at hnod
          clear hmw
          go_wp2
          go_ret
          exact ⟨ret1 (M.dchk_ok HH.out hl HWW.out hnod), HB2.out⟩

theorem dcheck_any (p : Nat) (d : Int) (v : Value) (xs ys : List Nat) (w : World) (hp : p < 18446744073709551616) (hv : Pts w v xs ys) :
    Calls Try.prog 12 #[.int .u64 p, .int .i64 d, v] w fun e w' => e = .returned (.int .i64 (M.dchk p d xs ys)) ∧ Below w.heap.size w w' := by
  by_cases h : M.isP p = false ∨ d < 0 ∨ 63 < d
  · rw [← M.dchk_no xs ys h]
    exact dcheck_no p d v xs ys w hp hv h
  · by_cases hl : 64 < xs.length
    · rw [← M.dchk_long ys h hl]
      exact dcheck_long p d v xs ys w hp hv h hl
    · exact dcheck_rest p d v xs ys w hp hv h hl
end Go.Proofs.Ytfgfapbhgehfiaa
