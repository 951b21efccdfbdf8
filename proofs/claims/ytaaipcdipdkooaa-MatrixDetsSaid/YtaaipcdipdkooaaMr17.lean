/-
  Package matrix: transposed, Mul.
-/
import Derived.Test.YtaaipcdipdkooaaMr16
namespace Go.Proofs.Ytaaipcdipdkooaa
open Go.RowKit
set_option linter.unusedVariables false

namespace M
/-- the first n elements of column j -/
def col (m : List (List Nat)) (j n : Nat) : List Nat := tabM n fun i => el m i j
theorem col_succ (m : List (List Nat)) (j n : Nat) : col m j (n + 1) = col m j n ++ [el m n j] := by simp [col, tabM, List.range_succ]
theorem col_len (m : List (List Nat)) (j n : Nat) : (col m j n).length = n := tabM_len _ _
/-- the columns as rows -/
def tr (m : List (List Nat)) (R K : Nat) : List (List Nat) := tabMM K R fun j i => el m i j
theorem tr_row {m : List (List Nat)} {R K j : Nat} (h : j < K) : (tr m R K).getD j [] = col m j R := by unfold tr; rw [tabMM_at _ _ h]; rfl
theorem tr_rows {p : Nat} {m : List (List Nat)} {R K : Nat} (h : Ok p m R K) : Rows p (tr m R K) K R :=
  ⟨tabMM_len _ _ _, h.K64, h.R64, fun j hj => by rw [tr_row hj, col_len], fun j hj => by rw [tr_row hj]; exact within_tabM fun i hi => h.el_lt hi hj⟩
end M

/-- columns under construction -/
structure TrS (w : World) (base Bc K : Nat) (V : Nat → Value) (n : Nat → Nat) (m : List (List Nat)) : Prop where
  top : ∃ cs, w.heap[Bc]? = some (.cells cs 31 (0, 0)) ∧ cs.size = K ∧ ∀ j, j < K → cs[j]? = some (V j)
  own : ∀ j, j < K → w.ownsRow base 22 1 (V j) (n j) (vals (M.col m j (n j)))
  sep : ∀ i j, i < K → j < K → i ≠ j → (V i).ownBlock = none ∨ (V i).ownBlock ≠ (V j).ownBlock
theorem TrS.cell {w : World} {base Bc K : Nat} {V : Nat → Value} {n : Nat → Nat} {m : List (List Nat)} (h : TrS w base Bc K V n m) {j : Nat} (hj : j < K) : w.cell? ⟨Bc, j, none⟩ = some (V j) := by
  obtain ⟨cs, h1, _, h2⟩ := h.top; rw [cell_of_row w Bc j cs _ (0, 0) h1]; exact h2 j hj
theorem TrS.free {w : World} {base Bc K : Nat} {V : Nat → Value} {n : Nat → Nat} {m : List (List Nat)} (h : TrS w base Bc K V n m) (j : Nat) : w.frozen? ⟨Bc, j, none⟩ = false := by
  obtain ⟨cs, h1, _, h2⟩ := h.top; exact frozen_of_row w Bc j cs _ h1
theorem TrS.ne {w : World} {base Bc K : Nat} {V : Nat → Value} {n : Nat → Nat} {m : List (List Nat)} (h : TrS w base Bc K V n m) {j : Nat} (hj : j < K) : (V j).ownBlock ≠ some Bc := by
  obtain ⟨cs, h1, _, h2⟩ := h.top; exact own_ne (h.own j hj) h1 (by decide)
/-- one more number in column k -/
theorem TrS.push {w w' : World} {base Bc K : Nat} {V : Nat → Value} {n : Nat → Nat} {m : List (List Nat)} (h : TrS w base Bc K V n m) {k g c : Nat} (hk : k < K)
    (hown : w'.ownsRow base 22 1 (.slice (some ⟨g, 0, none⟩) (n k + 1) c) (n k + 1) (vals (M.col m k (n k + 1)))) (hgr : w.grownBy w' (V k).ownBlock) (hat : (V k).ownBlock = some g ∨ w.heap.size ≤ g) (hB : Bc < w.heap.size) :
    TrS (w'.setCell ⟨Bc, k, none⟩ (.slice (some ⟨g, 0, none⟩) (n k + 1) c)) base Bc K (fun j => if j = k then .slice (some ⟨g, 0, none⟩) (n k + 1) c else V j) (fun j => if j = k then n k + 1 else n j) m := by
  obtain ⟨cs, h1, h2, h3⟩ := h.top
  have h1' : w'.heap[Bc]? = some (.cells cs 31 (0, 0)) := (hgr.block Bc hB (Ne.symm (h.ne hk))).trans h1
  have hgB : g ≠ Bc := by
    intro e
    rcases hat with e2 | e2
    · exact h.ne hk (e2.trans (by rw [e]))
    · omega
  have hoth : ∀ j, j < K → j ≠ k → (V j).ownBlock = none ∨ (V j).ownBlock ≠ some g := fun j hj hjk => by
    rcases hat with e2 | e2
    · rw [← e2]; exact h.sep j k hj hk hjk
    · right
      intro e
      have := ((h.own j hj).lt g e).2
      omega
  refine ⟨⟨_, heap_setCell_same w' Bc k cs _ _ h1', by simpa using h2, fun j hj => ?_⟩, fun j hj => ?_, fun i j hi hj hij => ?_⟩
  · by_cases e : j = k
    · subst e; rw [Array.getElem?_setIfInBounds_self_of_lt (by omega)]; simp
    · rw [Array.getElem?_setIfInBounds_ne (Ne.symm e), h3 j hj]; simp [e]
  · by_cases e : j = k
    · subst e; simp only [if_true]; exact ownsRow_setCell_other hown (by simp [Value.ownBlock]; omega) _
    · simp only [if_neg e]; exact ownsRow_setCell_other ((h.own j hj).kept hgr (h.sep j k hj hk e)) (h.ne hj) _
  · by_cases e1 : i = k <;> by_cases e2 : j = k
    · omega
    · simp only [if_pos e1, if_neg e2]
      right
      rcases hoth j hj e2 with e | e
      · rw [e]; simp [Value.ownBlock]
      · intro e3; exact e e3.symm
    · simp only [if_neg e1, if_pos e2]
      exact hoth i hi e1
    · simp only [if_neg e1, if_neg e2]
      exact h.sep i j hi hj hij

set_option maxHeartbeats 2000000 in
set_option maxRecDepth 100000 in
theorem transposed_any (p R K : Nat) (v : Value) (m : List (List Nat)) (w : World) (hok : M.Ok p m R K) (hv : Mat w v m) :
    Calls Try.prog 50 #[v] w fun e w' => ∃ v', e = .returned v' ∧ Mat w' v' (M.tr m R K) ∧ Below w.heap.size w w' := by
  obtain ⟨h3, hp⟩ := M.pos_of hok.isp
  obtain ⟨A, cap, rfl, _, _, hrows⟩ := mat_view hv
  have hR1 := hok.R1
  have hR64 := hok.R64
  have hK1 := hok.K1
  have hK64 := hok.K64
  rw [hok.rows] at hrows ⊢
  obtain ⟨bm, om, rfl, hbm, hcells⟩ := hrows (by omega)
  have HC := Lib.hid hcells
  obtain ⟨A0, k0, cm, _⟩ := hcells 0 (by omega)
  rw [Nat.add_zero, hok.cols 0 (by omega)] at cm
  have HOK := Lib.hid hok
  obtain ⟨cs, hcs, hcz, hmk⟩ := make_rows K (by omega)
  obtain ⟨Bc, eB⟩ : ∃ Bc, Bc = w.heap.size := ⟨_, rfl⟩
  obtain ⟨W0, eW0⟩ : ∃ W0, W0 = w.alloc (.cells cs 31) := ⟨_, rfl⟩
  have hB0 : W0.heap[Bc]? = some (.cells cs 31 (0, 0)) := by rw [eW0, eB]; exact heap_alloc_new w _
  have hT0 : TrS W0 w.heap.size Bc K (fun _ => .slice none 0 0) (fun _ => 0) m := ⟨⟨cs, hB0, hcs, hcz⟩, fun j hj => World.ownsRow_nil _ _ _ _, fun i j _ _ _ => .inl rfl⟩
  have HT0 := Lib.hid hT0
  have HB0 := Lib.hid (show Below w.heap.size w W0 by rw [eW0]; exact balloc w _)
  have EW0 := Lib.hid eW0
  have EB := Lib.hid eB
  have hbB : w.heap.size ≤ Bc := by omega
  have HBL := Lib.hid (lt_of_block hB0)
  obtain ⟨i0, hi0, hz0, hz1, hz2⟩ := info_parts infoU64
  clear hrows hv hcells hok hcs hcz eW0 eB hB0 hT0
  go_enter Try.func50, Try.ntmps50
  go_wp2_with fail
  rw [← EW0.out]
  simp only [← EB.out]
  clear hmk cm
  go_loopw [15] (fun ti wr => ∃ i : Nat, i ≤ R ∧ ti = .int .i64 i ∧ (∃ V, TrS wr w.heap.size Bc K V (fun _ => i) m) ∧ Below w.heap.size w wr ∧ Bc < wr.heap.size) (fun ti _ => R - (intOf ti).toNat)
  case atStart => exact ⟨0, by omega, rfl, ⟨_, HT0.out⟩, HB0.out, HBL.out⟩
  case round =>
    obtain ⟨i, hi, rfl, ⟨V, hT⟩, hB, hbl⟩ := hrel
    have HT := Lib.hid hT
    have HB := Lib.hid hB
    have HBS := Lib.hid hbl
    clear hT hB hbl HT0 HB0 HBL
    by_cases hlt : i < R
    · obtain ⟨Au, cu, ck, hN⟩ := HC.out i hlt
      rw [HOK.out.cols i hlt] at ck hN
      have ck2 := (HB.out.cell (p := ⟨bm, om + i, none⟩) hbm).trans ck
      obtain ⟨Au', cu', eu, _, _, hCe⟩ := nums_view hN
      simp only [Value.slice.injEq] at eu
      obtain ⟨rfl, -, rfl⟩ := eu
      have HCE := Lib.hid hCe
      obtain ⟨wo, ewo⟩ : ∃ wo : World, wo = wr := ⟨_, rfl⟩
      rw [← ewo] at HT HB HBS ck2 ⊢
      clear ck hN hCe ewo
      go_wp2_with fail
      clear ck2
      go_loopw [21] (fun tj wr => ∃ j : Nat, j ≤ K ∧ tj = .int .i64 j ∧ (∃ V, TrS wr w.heap.size Bc K V (fun c => if c < j then i + 1 else i) m) ∧ Below w.heap.size w wr ∧ Bc < wr.heap.size) (fun tj _ => K - (intOf tj).toNat)
      case atStart => exact ⟨0, by omega, rfl, ⟨V, by simpa using HT.out⟩, HB.out, HBS.out⟩
      case round =>
        obtain ⟨j, hj, rfl, ⟨V2, hT⟩, hB, hbl⟩ := hrel
        have HT2 := Lib.hid hT
        have HB2 := Lib.hid hB
        have hBS2 := hbl
        clear hT hB hbl HT HB HBS
        by_cases hltj : j < K
        · obtain ⟨bu, ou, rfl, hbu, hce⟩ := HCE.out (by rw [HOK.out.cols i hlt]; omega)
          have cx := (HB2.out.cell (p := ⟨bu, ou + j, none⟩) hbu).trans (hce j (by rw [HOK.out.cols i hlt]; exact hltj))
          obtain ⟨x, ex⟩ : ∃ x, (m.getD i []).getD j 0 = x := ⟨_, rfl⟩
          rw [ex] at cx
          have EX := Lib.hid ex
          have cB := HT2.out.cell hltj
          have fB := HT2.out.free j
          have hown := HT2.out.own j hltj
          rw [if_neg (by omega)] at hown
          obtain ⟨vj, evj⟩ : ∃ vj, V2 j = vj := ⟨_, rfl⟩
          rw [evj] at cB hown
          have EVJ := Lib.hid evj
          obtain ⟨av, cv, rfl⟩ : ∃ a c, vj = .slice a i c := by
            rcases hown.2 with ⟨rfl, h0⟩ | ⟨g, c, cur, rfl, _⟩
            · exact ⟨none, 0, by rw [h0]⟩
            · exact ⟨_, _, rfl⟩
          have HOWN := Lib.hid hown
          have nBs : Bc ≠ wr.heap.size := by omega
          have hws : w.heap.size ≤ wr.heap.size := HB2.out.size
          clear hce ex hown evj
          go_wp2_with (at_builtin; refine wpList_append_lies _ rfl _ _ 31 rfl w.heap.size 22 i0 (.int .u64 0) 1 8 Try.underlying31 hi0 hz0 hz1 hz2 rfl (by decide) _ i _ rfl (HOWN.out.alloc _) ⟨wr.heap.size, 0, none⟩ 1 1 [.int .u64 (x : Nat)] rfl rfl (World.news_of_block (cs := #[.int .u64 (x : Nat)]) (fr := (0, 0)) (heap_alloc_new wr _)) (by intro u hu; simp at hu; subst hu; rfl) (by omega) (by unfold maxLen; omega) (by omega) (by simp; omega) (wr.heap.size + 1) (by simp) ?_)
          intro g c w4 hown4 hgr4 hat4 hgl4
          have hgr : wr.grownBy w4 (V2 j).ownBlock := by
            rw [EVJ.out]
            have hal := World.grownBy_alloc wr (.cells #[.int .u64 (x : Nat)] 22) (Value.slice av i cv).ownBlock
            exact ⟨hgr4.os.trans hal.os, hgr4.tape.trans hal.tape, hgr4.output.trans hal.output, Nat.le_trans hal.size hgr4.size, fun k hk hne => (hgr4.block k (Nat.lt_of_lt_of_le hk hal.size) hne).trans (hal.block k hk hne)⟩
          have hpush := HT2.out.push (k := j) (g := g) (c := c) hltj (w' := w4) (by
            rw [if_neg (by omega), M.col_succ, vals_app]
            have e : M.el m i j = x := EX.out
            rw [e]
            exact hown4) hgr (by rw [EVJ.out]; rcases hat4 with h | h
                                 · exact .inl h
                                 · exact .inr (by omega)) hBS2
          rw [if_neg (show ¬ j < j by omega)] at hpush
          have cB4 : w4.cell? ⟨Bc, j, none⟩ = some (.slice av i cv) := (World.grownBy.cell_far hgr ⟨Bc, j, none⟩ hBS2 (Ne.symm (HT2.out.ne hltj))).trans cB
          have fB4 : w4.frozen? ⟨Bc, j, none⟩ = false := (World.grownBy.frozen_far hgr ⟨Bc, j, none⟩ hBS2 (Ne.symm (HT2.out.ne hltj))).trans fB
          have HP := Lib.hid hpush
          have HB4 := Lib.hid (HB2.out.grown hgr hws (fun r hr => ((HT2.out.own j hltj).lt r hr).1))
          have hsz4 : Bc < w4.heap.size := by have := hgr.size; omega
          clear hown4 hgr4 hat4 hgl4 hgr hpush cB fB
          go_wp2_with fail
          go_roundw
          case rel => exact ⟨j + 1, by omega, by go_num, ⟨_, by
            have := HP.out
            have e : (fun c => if c = j then i + 1 else if c < j then i + 1 else i) = fun c => if c < j + 1 then i + 1 else i := by
              funext c
              by_cases e1 : c = j
              · rw [if_pos e1, if_pos (by omega)]
              · rw [if_neg e1]
                by_cases e2 : c < j
                · rw [if_pos e2, if_pos (by omega)]
                · rw [if_neg e2, if_neg (by omega)]
            rw [← e]
            exact this⟩, HB4.out.setCell (p := ⟨Bc, j, none⟩) hbB _, by simpa using hsz4⟩
          case measure => simp [intOf]; omega
        · obtain rfl : K = j := by omega
          have hfin : TrS wr w.heap.size Bc K V2 (fun c => if c < K then i + 1 else i) m := HT2.out
          have hT3 : TrS wr w.heap.size Bc K V2 (fun _ => i + 1) m := ⟨hfin.top, fun j hj => by have := hfin.own j hj; rwa [if_pos hj] at this, hfin.sep⟩
          have HT3 := Lib.hid hT3
          clear hfin hT3
          go_wp2_with fail
          go_roundw
          case rel => exact ⟨i + 1, by omega, by go_num, ⟨_, HT3.out⟩, HB2.out, hBS2⟩
          case measure => simp [intOf]; omega
    · obtain rfl : R = i := by omega
      go_wp2_with fail
      go_ret
      refine ⟨.slice (some ⟨Bc, 0, none⟩) K K, rfl, ?_, HB.out⟩
      obtain ⟨ds, e1, e2, e3⟩ := HT.out.top
      refine ⟨by unfold M.tr; rw [M.tabMM_len]; omega, _, K, by unfold M.tr; rw [M.tabMM_len], by unfold M.tr; rw [M.tabMM_len]; exact Nat.le_refl _, fun _ => ⟨Bc, 0, rfl, lt_of_block e1, fun j hj => ?_⟩⟩
      have hjK : j < K := by unfold M.tr at hj; rwa [M.tabMM_len] at hj
      rw [M.tr_row hjK, Nat.zero_add, cell_of_row _ Bc j ds _ (0, 0) e1]
      refine ⟨_, e3 j hjK, nums_of_owns (HT.out.own j hjK) (fun x hx => ?_) (by rw [M.col_len]; omega)⟩
      unfold M.col M.tabM at hx
      obtain ⟨i, hi, rfl⟩ := List.mem_map.1 hx
      have := HOK.out.el_lt (List.mem_range.1 hi) hjK
      omega
end Go.Proofs.Ytaaipcdipdkooaa
