/-
  Package pair of the program: the places; the rows as polynomials; Quarrels.
-/
import Derived.Test.YtglehjcohdjhoaaPr12
import Derived.Test.YtglehjcohdjhoaaPp2
import Derived.Test.YtglehjcohdjhoaaLE
import Derived.Test.YtglehjcohdjhoaaLF
import Derived.Test.YtglehjcohdjhoaaLG
namespace Go.Proofs.Ytglehjcohdjhoaa
open Go.RowKit
set_option linter.unusedVariables false
set_option maxRecDepth 100000

/-! ### slices.Contains at any number -/
set_option maxHeartbeats 1000000 in
theorem index6_any (x : Nat) (v : Value) (zs : List Nat) (w : World) (hN : Nums w v zs) :
    Calls Try.prog 109 #[v, .int .u64 x] w fun e w' => (∃ k : Int, e = .returned (.int .i64 k) ∧ decide (k ≥ 0) = decide (x ∈ zs)) ∧ w = w' := by
  obtain ⟨A, cap, rfl, _, _, hC⟩ := nums_view hN
  have HC := Lib.hid hC
  clear hN hC
  go_enter Try.func109, Try.ntmps109
  go_wp2_with fail
  go_loop [8] (fun t => ∃ k : Nat, k ≤ zs.length ∧ t = .int .i64 k ∧ ∀ i, i < k → zs.getD i 0 ≠ x) (fun t => zs.length - (intOf t).toNat)
  case atStart => exact ⟨0, by omega, rfl, fun i hi => by omega⟩
  case round =>
    obtain ⟨k, hk, rfl, hn⟩ := hrel
    have HN := Lib.hid hn
    clear hn
    by_cases hlt : k < zs.length
    · obtain ⟨b, off, rfl, hb, hcell⟩ := HC.out (by omega)
      have hc := hcell k hlt
      obtain ⟨y, hy⟩ : ∃ y, y = zs.getD k 0 := ⟨_, rfl⟩
      rw [← hy] at hc
      have HY := Lib.hid hy
      clear hy hcell
      by_cases h0 : x = y
      · have hb : ((x : Int) == (y : Int)) = true := by simp; omega
        have H0 := Lib.hid h0
        clear h0
        go_wp2_with fail
        go_ret
        refine ⟨⟨_, rfl, ?_⟩, rfl⟩
        have hm : x ∈ zs := by rw [H0.out, HY.out, List.getD_eq_getElem?_getD, List.getElem?_eq_getElem hlt]; exact List.getElem_mem hlt
        simp [hm]
      · have hb : ((x : Int) == (y : Int)) = false := by simp; omega
        have H0 := Lib.hid h0
        clear h0
        go_wp2_with fail
        go_round
        case rel =>
          refine ⟨k + 1, by omega, by go_num, ?_⟩
          intro i hi
          by_cases he : i = k
          · subst he; rw [← HY.out]; exact fun e => H0.out e.symm
          · exact HN.out i (by omega)
        case measure => simp [intOf]; omega
    · obtain rfl : k = zs.length := by omega
      go_wp2_with fail
      go_ret
      refine ⟨⟨_, rfl, ?_⟩, rfl⟩
      have hm : x ∉ zs := by
        intro h
        obtain ⟨i, hi, e⟩ := List.getElem_of_mem h
        exact HN.out i hi (by rw [List.getD_eq_getElem?_getD, List.getElem?_eq_getElem hi]; exact e)
      simp [hm]
set_option maxHeartbeats 400000 in
theorem contains6_any (x : Nat) (v : Value) (zs : List Nat) (w : World) (hN : Nums w v zs) :
    Calls Try.prog 101 #[v, .int .u64 x] w fun e w' => e = .returned (.bool (decide (x ∈ zs))) ∧ w = w' := by
  have HI := Lib.hid (index6_any x v zs w hN)
  obtain ⟨A, cap, rfl⟩ := nums_slice' hN
  clear hN
  go_enter Try.func101, Try.ntmps101
  go_wp2_with fail
  refine HI.out.mono ?_
  rintro e w' ⟨⟨k, rfl, hx⟩, rfl⟩
  have HX := Lib.hid hx
  clear hx
  go_wp2_with fail
  go_ret
  exact ⟨ret_bool HX.out, rfl⟩

namespace M
/-- the error of the places, R rows -/
def plcE (p : Nat) (xs : List Nat) (R : Nat) : Int := if isP p = true then (if 13 < xs.length then 3 else if R ≠ xs.length ∨ within p xs = false then 2 else if ¬ xs.Nodup then 6 else 0) else 2
theorem nodup_next {xs : List Nat} {k : Nat} (hk : k < xs.length) (h : (xs.take k).Nodup) (hn : xs.getD k 0 ∉ xs.take k) : (xs.take (k + 1)).Nodup := by
  have e : xs.take (k + 1) = xs.take k ++ [xs.getD k 0] := by
    rw [List.take_add_one, List.getElem?_eq_getElem hk, List.getD_eq_getElem?_getD, List.getElem?_eq_getElem hk]; rfl
  rw [e, List.nodup_append]
  refine ⟨h, by simp, fun a ha b hb => ?_⟩
  have : b = xs.getD k 0 := by simpa using hb
  subst this
  exact fun e => hn (e ▸ ha)
theorem nodup_not {xs : List Nat} {k : Nat} (hk : k < xs.length) (hn : xs.getD k 0 ∈ xs.take k) : ¬ xs.Nodup := by
  intro h
  have e : xs.take (k + 1) = xs.take k ++ [xs.getD k 0] := by
    rw [List.take_add_one, List.getElem?_eq_getElem hk, List.getD_eq_getElem?_getD, List.getElem?_eq_getElem hk]; rfl
  have h2 := h.sublist (List.take_sublist (k + 1) xs)
  rw [e, List.nodup_append] at h2
  exact h2.2.2 _ hn _ (by simp) rfl
end M

set_option maxHeartbeats 1000000 in
theorem plcE_any (p : Nat) (vx : Value) (xs : List Nat) (R : Nat) (w : World) (hp : p < 18446744073709551616) (hx : Nums w vx xs) :
    Calls Try.prog 89 #[.int .u64 p, vx, .int .i64 R] w fun e w' => e = .returned (.int .i64 (M.plcE p xs R)) ∧ Below w.heap.size w w' := by
  have hud : ∀ b : Bool, undef ≠ Value.bool b := fun b h => by cases h
  have hc := is_any p w hp
  have HX := Lib.hid hx
  have HBL := Lib.hid (pbelow_any p vx xs w hx)
  obtain ⟨A, cap, rfl, hcap, _, hC⟩ := nums_view hx
  have HXC := Lib.hid hC
  clear hC
  cases hi : M.isP p with
  | false =>
    rw [hi] at hc
    have HC := Lib.hid hc
    have HE := Lib.hid (show M.plcE p xs R = 2 by unfold M.plcE; rw [if_neg (by simp [hi])])
    clear hi hc hx
    go_enter Try.func89, Try.ntmps89
    go_wp2_with fail
    refine HC.out.mono ?_
    rintro e w' ⟨rfl, rfl⟩
    go_wp2_with fail
    go_ret
    exact ⟨ret1 HE.out.symm, Below.refl _ _⟩
  | true =>
    rw [hi] at hc
    have HC := Lib.hid hc
    by_cases h13 : 13 < xs.length
    · have hd : decide ((xs.length : Int) > 13) = true := by simp; omega
      have HE := Lib.hid (show M.plcE p xs R = 3 by unfold M.plcE; rw [if_pos (by simp [hi]), if_pos h13])
      clear hi hc hx
      go_enter Try.func89, Try.ntmps89
      go_wp2_with fail
      refine HC.out.mono ?_
      rintro e w' ⟨rfl, rfl⟩
      go_wp2_with fail
      go_ret
      exact ⟨ret1 HE.out.symm, Below.refl _ _⟩
    have hd : decide ((xs.length : Int) > 13) = false := by simp; omega
    by_cases hR : R = xs.length
    case neg =>
      have hne : ((xs.length : Int) != (R : Int)) = true := by rw [bne_iff_ne]; omega
      have HE := Lib.hid (show M.plcE p xs R = 2 by unfold M.plcE; rw [if_pos (by simp [hi]), if_neg h13, if_pos (.inl hR)])
      clear hi hc hx hR
      go_enter Try.func89, Try.ntmps89
      go_wp2_with fail
      refine HC.out.mono ?_
      rintro e w' ⟨rfl, rfl⟩
      go_wp2_with fail
      go_ret
      exact ⟨ret1 HE.out.symm, Below.refl _ _⟩
    have hne : ((xs.length : Int) != (R : Int)) = false := by rw [hR]; simp
    cases hw : M.within p xs with
    | false =>
      rw [hw] at HBL
      have HE := Lib.hid (show M.plcE p xs R = 2 by unfold M.plcE; rw [if_pos (by simp [hi]), if_neg h13, if_pos (.inr hw)])
      clear hi hc hx hR hw
      go_enter Try.func89, Try.ntmps89
      go_wp2_with fail
      refine HC.out.mono ?_
      rintro e w' ⟨rfl, rfl⟩
      go_wp2_with fail
      refine HBL.out.mono ?_
      rintro e w' ⟨rfl, hb⟩
      have B1 := Lib.hid hb
      clear hb
      go_wp2_with fail
      go_ret
      exact ⟨ret1 HE.out.symm, B1.out⟩
    | true =>
      rw [hw] at HBL
      have HE := Lib.hid (show M.plcE p xs R = if ¬ xs.Nodup then 6 else 0 by unfold M.plcE; rw [if_pos (by simp [hi]), if_neg h13, if_neg (by simp [hw, hR])])
      clear hi hc hx hR hw
      go_enter Try.func89, Try.ntmps89
      go_wp2_with fail
      refine HC.out.mono ?_
      rintro e w' ⟨rfl, rfl⟩
      go_wp2_with fail
      refine HBL.out.mono ?_
      rintro e w1 ⟨rfl, hb⟩
      have B1 := Lib.hid hb
      clear hb
      go_wp2_with fail
      go_loopw [27] (fun t wr => ∃ k : Nat, k ≤ xs.length ∧ t = .int .i64 k ∧ (xs.take k).Nodup ∧ Below w.heap.size w wr) (fun t _ => xs.length - (intOf t).toNat)
      case atStart => exact ⟨0, by omega, rfl, by simp, B1.out⟩
      case round =>
        obtain ⟨k, hk, rfl, hnd, hB⟩ := hrel
        have HND := Lib.hid hnd
        have HB := Lib.hid hB
        clear hnd hB
        by_cases hlt : k < xs.length
        · obtain ⟨b, off, rfl, hbl, hcell⟩ := HXC.out (by omega)
          have ck := (HB.out.cell (p := ⟨b, off + k, none⟩) hbl).trans (hcell k hlt)
          have HP := Lib.hid (nums_prefix (HX.out.below HB.out) (m := k) hk)
          obtain ⟨x, ex⟩ : ∃ x, x = xs.getD k 0 := ⟨_, rfl⟩
          rw [← ex] at ck
          have EX := Lib.hid ex
          have HCO := Lib.hid (contains6_any x _ _ wr HP.out)
          have hkc : (k : Int) ≤ (cap : Nat) := by omega
          have hk0 : (0 : Int) ≤ (k : Nat) := by omega
          clear ex hcell
          by_cases hm : x ∈ xs.take k
          · have hdm : decide (x ∈ xs.take k) = true := by simp [hm]
            rw [hdm] at HCO
            have HNN := Lib.hid (M.nodup_not hlt (by rw [← EX.out]; exact hm))
            clear hm hdm HP
            go_wp2_with fail
            refine HCO.out.mono ?_
            rintro e w2 ⟨rfl, rfl⟩
            go_wp2_with fail
            go_ret
            exact ⟨ret1 (by rw [HE.out, if_pos HNN.out]), HB.out⟩
          · have hdm : decide (x ∈ xs.take k) = false := by simp [hm]
            rw [hdm] at HCO
            have HNN := Lib.hid (M.nodup_next hlt HND.out (by rw [← EX.out]; exact hm))
            clear hm hdm HP
            go_wp2_with fail
            refine HCO.out.mono ?_
            rintro e w2 ⟨rfl, rfl⟩
            go_wp2_with fail
            go_roundw
            case rel => exact ⟨k + 1, by omega, by go_num, HNN.out, HB.out⟩
            case measure => simp [intOf]; omega
        · obtain rfl : k = xs.length := by omega
          have h := HND.out
          rw [List.take_length] at h
          have HE2 := Lib.hid (show M.plcE p xs R = 0 by rw [HE.out, if_neg (by simpa using h)])
          clear h
          go_wp2_with fail
          go_ret
          exact ⟨ret1 HE2.out.symm, HB.out⟩

/-! ### rows that are handed from elsewhere -/
theorem nums_set_other {w : World} {v : Value} {zs : List Nat} {B k : Nat} {u : Value} {cs : Array Value} {t : TypeId} {fr : Nat × Nat} (h : Nums w v zs) (hB : w.heap[B]? = some (.cells cs t fr)) (hc : ∀ (j : Nat) (x : Nat), cs[j]? ≠ some (.int .u64 x)) : Nums (w.setCell ⟨B, k, none⟩ u) v zs := by
  obtain ⟨h1, h2, h3⟩ := h
  refine ⟨h1, h2, ?_⟩
  rcases h3 with h3 | ⟨b, off, cap, e, hcap, hl, hcell⟩
  · exact .inl h3
  · by_cases h0 : zs.length = 0
    · rw [h0] at hcell e
      by_cases hbB : b = B
      · exact .inr ⟨b, off, cap, by rw [h0]; exact e, hcap, by simpa using hl, fun i hi => absurd hi (by omega)⟩
      · exact .inr ⟨b, off, cap, by rw [h0]; exact e, hcap, by simpa using hl, fun i hi => absurd hi (by omega)⟩
    · have hbB : b ≠ B := by
        rintro rfl
        have h4 := hcell 0 (by omega)
        rw [cell_of_row w b _ cs t fr hB] at h4
        exact hc _ _ h4
      exact .inr ⟨b, off, cap, e, hcap, by simpa using hl, fun i hi => by
        have hh := Below.heap_setCell w ⟨B, k, none⟩ u b hbB
        have h4 := hcell i hi
        unfold World.cell? at h4 ⊢
        rw [hh]
        exact h4⟩
/-- k of n rows are laid; each reads as Q says -/
structure LayV (w : World) (B n k : Nat) (Q : Nat → List Nat) : Prop where
  top : ∃ cs, w.heap[B]? = some (.cells cs 30 (0, 0)) ∧ cs.size = n ∧ (∀ i, i < k → ∃ A l c, cs[i]? = some (.slice A l c) ∧ Nums w (.slice A l c) (Q i)) ∧ ∀ i, k ≤ i → i < n → cs[i]? = some (.slice none 0 0)
section
variable {w w' : World} {B n k : Nat} {Q : Nat → List Nat}
theorem LayV.lt (h : LayV w B n k Q) : B < w.heap.size := by obtain ⟨cs, h1, _⟩ := h.top; exact lt_of_block h1
theorem LayV.free (h : LayV w B n k Q) (j : Nat) : w.frozen? ⟨B, j, none⟩ = false := by obtain ⟨cs, h1, _⟩ := h.top; exact frozen_of_row w B j cs _ h1
theorem LayV.cell (h : LayV w B n k Q) (hk : k < n) : w.cell? ⟨B, k, none⟩ = some (.slice none 0 0) := by
  obtain ⟨cs, h1, _, _, h4⟩ := h.top; rw [cell_of_row w B k cs _ (0, 0) h1]; exact h4 k (Nat.le_refl _) hk
theorem LayV.below (h : LayV w B n k Q) (hb : Below w.heap.size w w') : LayV w' B n k Q := by
  obtain ⟨cs, h1, h2, h3, h4⟩ := h.top
  exact ⟨cs, (hb.block B (lt_of_block h1)).trans h1, h2, fun i hi => by obtain ⟨A, l, c, e, hn⟩ := h3 i hi; exact ⟨A, l, c, e, hn.below hb⟩, h4⟩
theorem LayV.push (h : LayV w B n k Q) (hk : k < n) {A : Option Addr} {l c : Nat} (hu : Nums w (.slice A l c) (Q k)) : LayV (w.setCell ⟨B, k, none⟩ (.slice A l c)) B n (k + 1) Q := by
  obtain ⟨cs, h1, h2, h3, h4⟩ := h.top
  have hc : ∀ (j x : Nat), cs[j]? ≠ some (.int .u64 x) := by
    intro j x e
    by_cases hj : j < k
    · obtain ⟨A', l', c', e', _⟩ := h3 j hj
      rw [e'] at e; cases e
    · have hjn : j < n := by
        rw [← h2]
        exact (Array.getElem?_eq_some_iff.1 e).1
      rw [h4 j (by omega) hjn] at e; cases e
  refine ⟨_, heap_setCell_same w B k cs _ _ h1, by simpa using h2, fun i hi => ?_, fun i hi hin => ?_⟩
  · by_cases e : i = k
    · subst e
      exact ⟨A, l, c, by rw [Array.getElem?_setIfInBounds_self_of_lt (by omega)], nums_set_other hu h1 hc⟩
    · obtain ⟨A', l', c', e', hn⟩ := h3 i (by omega)
      exact ⟨A', l', c', by rw [Array.getElem?_setIfInBounds_ne (Ne.symm e), e'], nums_set_other hn h1 hc⟩
  · rw [Array.getElem?_setIfInBounds_ne (by omega), h4 i (by omega) hin]
theorem LayV.mat (h : LayV w B n n Q) (hn : n ≤ 1000) : Mat w (.slice (some ⟨B, 0, none⟩) n n) ((List.range n).map Q) := by
  obtain ⟨cs, h1, h2, h3, h4⟩ := h.top
  refine ⟨by simp; omega, some ⟨B, 0, none⟩, n, by simp, by simp, fun h0 => ⟨B, 0, rfl, lt_of_block h1, fun i hi => ?_⟩⟩
  have hi' : i < n := by simpa using hi
  obtain ⟨A, l, c, e, hnn⟩ := h3 i hi'
  refine ⟨_, ?_, by simpa [List.getD_eq_getElem?_getD, hi'] using hnn⟩
  rw [cell_of_row w B _ cs _ (0, 0) h1, Nat.zero_add]
  exact e
end
end Go.Proofs.Ytglehjcohdjhoaa
