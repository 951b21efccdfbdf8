/-
  Package pair of the program: Join.
-/
import Derived.Test.YtglehjcohdjhoaaPp8
import Derived.Test.YtglehjcohdjhoaaPr13
namespace Go.Proofs.Ytglehjcohdjhoaa
open Go.RowKit
set_option linter.unusedVariables false
set_option maxRecDepth 100000

set_option maxHeartbeats 400000 in
theorem lenGt_any (A : Option Addr) (l cap T b : Nat) (w : World) (hT : T ≤ 3) (hb : w.cell? ⟨b, 0, none⟩ = some (.int .i64 (T : Nat))) {r : Bool} (hr : decide (T + 1 < l) = r) :
    Calls Try.prog 90 #[.slice A l cap, .pointer (some ⟨b, 0, none⟩)] w fun e w' => e = .returned (.bool r) ∧ w = w' := by
  have hw1 : IntKind.i64.wrap ((T : Int) + 1) = (T : Int) + 1 := by rw [IntKind.wrap_i64]; omega
  have HR := Lib.hid (show decide ((l : Int) > (T : Int) + 1) = r by rw [← hr, decide_eq_decide]; omega)
  clear hr
  go_enter Try.func90, Try.ntmps90
  go_wp2_with fail
  go_ret
  exact ⟨ret_bool (by rw [← HR.out]; try simp), rfl⟩

set_option maxHeartbeats 1000000 in
theorem idxGt_any (T b : Nat) (v : Value) (m : List (List Nat)) (w : World) (hT : T ≤ 3) (hv : Mat w v m) (hb : w.cell? ⟨b, 0, none⟩ = some (.int .i64 (T : Nat))) :
    Calls Try.prog 97 #[v, .func (.func 90) #[] #[.pointer (some ⟨b, 0, none⟩)]] w fun e w' => (∃ x : Int, e = .returned (.int .i64 x) ∧ decide (x ≥ 0) = !(m.all fun r => decide (r.length ≤ T + 1))) ∧ w = w' := by
  obtain ⟨A, cap, rfl, hcap, hlen, hC⟩ := mat_view6 hv
  have HV := Lib.hid hC
  clear hv hC hcap
  go_enter Try.func97, Try.ntmps97
  go_wp2_with fail
  go_loop [8] (fun t => ∃ k : Nat, k ≤ m.length ∧ t = .int .i64 k ∧ ∀ i, i < k → (m.getD i []).length ≤ T + 1) (fun t => m.length - (intOf t).toNat)
  case atStart => exact ⟨0, by omega, rfl, fun i hi => absurd hi (by omega)⟩
  case round =>
    obtain ⟨k, hk, rfl, hw⟩ := hrel
    have HW := Lib.hid hw
    clear hw
    by_cases hlt : k < m.length
    · obtain ⟨bb, off, rfl, hbb, hcell⟩ := HV.out (by omega)
      obtain ⟨Au, cu, hc, _⟩ := hcell k hlt
      obtain ⟨x, hx⟩ : ∃ x, x = (m.getD k []).length := ⟨_, rfl⟩
      rw [← hx] at hc
      have HX := Lib.hid hx
      clear hx hcell
      by_cases hpx : x ≤ T + 1
      · have HG := Lib.hid (lenGt_any Au x cu T b w hT hb (r := false) (by simp; omega))
        have HPX := Lib.hid hpx
        clear hpx
        go_wp2_with fail
        refine HG.out.mono ?_
        rintro e w' ⟨rfl, rfl⟩
        go_wp2_with fail
        go_round
        case rel =>
          refine ⟨k + 1, by omega, by go_num, fun i hi => ?_⟩
          rcases (show i < k ∨ i = k by omega) with h | rfl
          · exact HW.out i h
          · rw [← HX.out]; exact HPX.out
        case measure => simp [intOf]; omega
      · have HG := Lib.hid (lenGt_any Au x cu T b w hT hb (r := true) (by simp; omega))
        have HPX := Lib.hid hpx
        clear hpx
        go_wp2_with fail
        refine HG.out.mono ?_
        rintro e w' ⟨rfl, rfl⟩
        go_wp2_with fail
        go_ret
        exact ⟨⟨_, rfl, by rw [M.all_rows_no hlt (by rw [← HX.out]; simpa using HPX.out)]; simp⟩, rfl⟩
    · go_wp2_with fail
      go_ret
      obtain rfl : k = m.length := by omega
      exact ⟨⟨_, rfl, by rw [M.all_rows.2 fun i hi => by simpa using HW.out i hi]; rfl⟩, rfl⟩

set_option maxHeartbeats 400000 in
theorem anyGt_any (T b : Nat) (v : Value) (m : List (List Nat)) (w : World) (hT : T ≤ 3) (hv : Mat w v m) (hb : w.cell? ⟨b, 0, none⟩ = some (.int .i64 (T : Nat))) :
    Calls Try.prog 79 #[v, .func (.func 90) #[] #[.pointer (some ⟨b, 0, none⟩)]] w fun e w' => e = .returned (.bool (!(m.all fun r => decide (r.length ≤ T + 1)))) ∧ w = w' := by
  have HI := Lib.hid (idxGt_any T b v m w hT hv hb)
  obtain ⟨A, cap, rfl, _⟩ := mat_view6 hv
  clear hv
  go_enter Try.func79, Try.ntmps79
  go_wp2_with fail
  refine HI.out.mono ?_
  rintro e w' ⟨⟨x, rfl, hx⟩, rfl⟩
  have HX := Lib.hid hx
  clear hx
  go_wp2_with fail
  go_ret
  exact ⟨ret_bool HX.out, rfl⟩

theorem LayV.congr {w : World} {B n k : Nat} {Q Q' : Nat → List Nat} (h : LayV w B n k Q) (e : ∀ j, j < k → Q j = Q' j) : LayV w B n k Q' := by
  obtain ⟨cs, h1, h2, h3, h4⟩ := h.top
  exact ⟨cs, h1, h2, fun i hi => by rw [← e i hi]; exact h3 i hi, h4⟩

set_option maxHeartbeats 2000000 in
theorem joined_any (p T : Nat) (vx v : Value) (xs : List Nat) (rows : List (List Nat)) (w : World) (hip : M.isP p = true) (hT : T ≤ 3) (hok : M.ROk p xs rows) (hn : T + 1 ≤ xs.length) (hx : Nums w vx xs) (hv : Mat w v (rows.map M.trim)) :
    Calls Try.prog 73 #[.int .u64 p, .int .i64 T, vx, v] w fun e w' => Below w.heap.size w w' ∧ ((∃ (F : Nat → Nat → Nat) (v' : Value), M.PairOf p (T + 1) xs rows F ∧ e = .returned (.tuple #[v', .int .i64 0]) ∧ Mat w' v' (M.tabMM (T + 1) (T + 1) F)) ∨
      ((∀ F, ¬ M.PairOf p (T + 1) xs rows F) ∧ e = .returned (.tuple #[.slice none 0 0, .int .i64 12]))) := by
  have hud : ∀ b : Bool, undef ≠ Value.bool b := fun b h => by cases h
  obtain ⟨h3, hp⟩ := M.pos_of hip
  have hx13 := hok.len
  have hml : (rows.map M.trim).length = xs.length := by rw [List.length_map, hok.rl]
  have BX := Lib.hid (balloc w (.cells #[.int .i64 (T : Nat)] 3))
  have AG := Lib.hid (anyGt_any T w.heap.size v _ (w.alloc (.cells #[.int .i64 (T : Nat)] 3)) hT (hv.below (balloc w _)) (by simp))
  have HX := Lib.hid hx
  have HV := Lib.hid hv
  have TE := Lib.hid fun (k : Nat) (W : World) (b : Below w.heap.size w W) => terms_any k vx v xs _ W hml hx13 (hx.below b) (hv.below b)
  have hcol : ∀ k, M.colY xs (rows.map M.trim) k = M.colY xs rows k := fun k => by
    unfold M.colY
    exact M.tabM_congr fun i _ => by rw [M.map_trim_get, M.trim_get]
  simp only [hcol] at TE
  obtain ⟨Ax, cx, rfl⟩ := nums_slice' hx
  obtain ⟨A, cap, rfl, _⟩ := mat_view6 hv
  rw [hml] at AG TE HV ⊢
  have HOK := Lib.hid hok
  have hn1000 : T + 1 ≤ 1000 := by omega
  by_cases hs : ∀ i, i < rows.length → (M.trim (rows.getD i [])).length ≤ T + 1
  case neg =>
    obtain ⟨i, hi, hlen⟩ : ∃ i, i < rows.length ∧ ¬ (M.trim (rows.getD i [])).length ≤ T + 1 := by
      refine Classical.byContradiction fun h => hs fun i hi => Classical.byContradiction fun h2 => h ⟨i, hi, h2⟩
    have hno : ∀ F, ¬ M.PairOf p (T + 1) xs rows F := fun F hF => hlen (hF.short (by rw [← hok.rl]; exact hi))
    have hany : (!((rows.map M.trim).all fun r => decide (r.length ≤ T + 1))) = true := by
      rw [M.all_rows_no (i := i) (by simpa using hi) (by rw [M.map_trim_get]; simpa using hlen)]; rfl
    rw [hany] at AG
    have HNO := Lib.hid hno
    clear hs hi hlen hno hany hcol hx hv
    go_enter Try.func73, Try.ntmps73
    go_wp2_with fail
    refine AG.out.mono ?_
    rintro e w1 ⟨rfl, rfl⟩
    go_wp2_with fail
    go_ret2
    exact ⟨BX.out, .inr ⟨HNO.out, rfl⟩⟩
  have hany : (!((rows.map M.trim).all fun r => decide (r.length ≤ T + 1))) = false := by
    rw [M.all_rows.2 fun i hi => by rw [M.map_trim_get]; simpa using hs i (by simpa using hi)]; rfl
  rw [hany] at AG
  have HS := Lib.hid (show ∀ i, i < xs.length → (M.trim (rows.getD i [])).length ≤ T + 1 by rw [← hok.rl]; exact hs)
  obtain ⟨n, en⟩ : ∃ n, n = T + 1 := ⟨_, rfl⟩
  rw [← en] at HS hn hn1000 ⊢
  have hn4 : n ≤ 4 := by omega
  have hn0 : 0 < n := by omega
  have hw1 : IntKind.i64.wrap ((T : Int) + 1) = (n : Nat) := by rw [IntKind.wrap_i64]; omega
  have TH := Lib.hid fun (k : Nat) (v : Value) (W : World) (h : Pts W v xs (M.colY xs rows k)) => through_any p v xs (M.colY xs rows k) W h (M.chkP_of hip (by omega) ⟨hok.wx, M.within_tabM fun i hi => M.within_getD (by omega) (hok.row i hi).2 k⟩).symm
  have PD := Lib.hid fun (v : Value) (zs : List Nat) (W : World) (hl : zs.length ≤ n) (h : Nums W v zs) => padded_any v zs n W hl hn1000 h
  have HN := Lib.hid hn
  have HIP := Lib.hid hip
  obtain ⟨cs, hcs, hcz, hmk⟩ := make6_rows n (by omega)
  obtain ⟨w1, ew1⟩ : ∃ w1, w1 = w.alloc (.cells #[.int .i64 (T : Nat)] 3) := ⟨_, rfl⟩
  have hbx : w1.cell? ⟨w.heap.size, 0, none⟩ = some (.int .i64 (T : Nat)) := by rw [ew1]; simp
  obtain ⟨bB, eB⟩ : ∃ B, B = w1.heap.size := ⟨_, rfl⟩
  have hwB : w.heap.size < bB := by rw [eB, ew1]; simp
  obtain ⟨W0, eW0⟩ : ∃ W0, W0 = w1.alloc (.cells cs 30) := ⟨_, rfl⟩
  have hB0 : W0.heap[bB]? = some (.cells cs 30 (0, 0)) := by rw [eW0, eB]; exact heap_alloc_new w1 _
  have HL0 := Lib.hid (show LayV W0 bB n 0 (fun _ => []) from ⟨cs, hB0, hcs, fun i hi => absurd hi (by omega), fun i _ hi => hcz i hi⟩)
  have hb01 : Below w.heap.size w W0 := by rw [eW0, ew1]; exact bnext (balloc w _) (balloc _ _)
  have HB0 := Lib.hid hb01
  have hbx0 : W0.cell? ⟨w.heap.size, 0, none⟩ = some (.int .i64 (T : Nat)) := by rw [eW0]; exact ((balloc w1 _).cell (p := ⟨w.heap.size, 0, none⟩) (by rw [ew1]; simp)).trans hbx
  have HBX0 := Lib.hid hbx0
  have EW0 := Lib.hid eW0
  have EB := Lib.hid eB
  have EW1 := Lib.hid ew1
  rw [← EW1.out] at AG
  have EN := Lib.hid en
  have hcb0 : ((0 : Int) != 0) = false := rfl
  clear hs hany hcol hx hv hbx0 hb01 hB0 hcs hcz eW0 eB ew1 hip hok en
  go_enter Try.func73, Try.ntmps73
  go_wp2_with fail
  rw [← EW1.out]
  refine AG.out.mono ?_
  rintro e w2 ⟨rfl, rfl⟩
  go_wp2_with fail
  rw [← EW0.out]
  simp only [← EB.out]
  clear hmk hbx
  go_loopw [22] (fun t wr => ∃ k : Nat, k ≤ n ∧ t = .int .i64 k ∧ (∃ g : Nat → List Nat, (∀ j, j < k → M.Thru p xs (M.colY xs rows j) (g j) ∧ (g j).length ≤ n) ∧ LayV wr bB n k (fun j => M.tabM n fun i => (g j).getD i 0)) ∧ Below w.heap.size w wr ∧ wr.cell? ⟨w.heap.size, 0, none⟩ = some (.int .i64 (T : Nat))) (fun t _ => n - (intOf t).toNat)
  case atStart => exact ⟨0, by omega, rfl, ⟨fun _ => [], fun j hj => absurd hj (by omega), HL0.out.congr fun j hj => absurd hj (by omega)⟩, HB0.out, HBX0.out⟩
  case round =>
    obtain ⟨k, hk, rfl, ⟨g, hg, hL⟩, hB, hc⟩ := hrel
    obtain ⟨wx, ewx⟩ : ∃ x, x = wr := ⟨_, rfl⟩
    rw [← ewx] at hL hB hc ⊢
    have HG := Lib.hid hg
    have HL := Lib.hid hL
    have HB := Lib.hid hB
    clear hg hL hB HL0 HB0 HBX0 ewx
    by_cases hlt : k < n
    · have T1 := Lib.hid (TE.out k _ HB.out)
      have hws : w.heap.size < wx.heap.size := by have := HL.out.lt; omega
      have hkn : (k : Int) < (n : Nat) := by omega
      go_wp2_with fail
      refine T1.out.mono ?_
      rintro e w3 ⟨v3, rfl, hp3, hb3⟩
      have HB3 := Lib.hid (bnext HB.out hb3)
      have HL3 := Lib.hid (HL.out.below hb3)
      have hc3 := (hb3.cell (p := ⟨w.heap.size, 0, none⟩) hws).trans hc
      have hws3 : w.heap.size < w3.heap.size := Nat.lt_of_lt_of_le hws hb3.size
      have T2 := Lib.hid (TH.out k _ _ hp3)
      obtain ⟨_, _, _, _, A3, cap3, rfl, _⟩ := hp3
      clear hb3
      go_wp2_with fail
      refine T2.out.mono ?_
      rintro e w4 ⟨hb4, ⟨_, v4, f, rfl, hn4', hf⟩ | ⟨hnd, _⟩⟩
      case inr => exact absurd HOK.out.nod hnd
      have HB4 := Lib.hid (bnext HB3.out hb4)
      have HL4 := Lib.hid (HL3.out.below hb4)
      have hc4 := (hb4.cell (p := ⟨w.heap.size, 0, none⟩) hws3).trans hc3
      have hws4 : w.heap.size < w4.heap.size := Nat.lt_of_lt_of_le hws3 hb4.size
      have HF := Lib.hid hf
      have HN4 := Lib.hid hn4'
      obtain ⟨A4, c4, rfl⟩ := nums_slice' hn4'
      clear hb4 hn4' hf hc3 hws3
      by_cases hfl : f.length ≤ n
      · have hd : ¬ n < f.length := by omega
        have P4 := Lib.hid (PD.out _ f w4 hfl HN4.out)
        have HFL := Lib.hid hfl
        clear hfl
        go_wp2_with fail
        refine P4.out.mono ?_
        rintro e w5 ⟨v5, rfl, hn5, hb5⟩
        have HL5 := Lib.hid (HL4.out.below hb5)
        have hB5 := bnext HB4.out hb5
        have hc5 := (hb5.cell (p := ⟨w.heap.size, 0, none⟩) hws4).trans hc4
        have cB := HL5.out.cell hlt
        have fB := HL5.out.free k
        have lB := HL5.out.lt
        obtain ⟨g2, eg2⟩ : ∃ g2 : Nat → List Nat, g2 = fun j => if j = k then f else g j := ⟨_, rfl⟩
        have e2 : g2 k = f := by rw [eg2]; simp
        have e3 : ∀ j, j < k → g2 j = g j := fun j hj => by rw [eg2]; simp [show j ≠ k by omega]
        have HG2 := Lib.hid (show ∀ j, j < k + 1 → M.Thru p xs (M.colY xs rows j) (g2 j) ∧ (g2 j).length ≤ n from fun j hj => by
          rcases (show j < k ∨ j = k by omega) with h | rfl
          · rw [e3 j h]; exact HG.out j h
          · rw [e2]; exact ⟨HF.out, HFL.out⟩)
        obtain ⟨A5, c5, e5⟩ := nums_slice' hn5
        subst e5
        have hL6 := (HL5.out.congr (Q' := fun j => M.tabM n fun i => (g2 j).getD i 0) (fun j hj => by simp only [e3 j hj])).push hlt (A := A5) (l := (M.tabM n fun i => f.getD i 0).length) (c := c5) (by simp only [e2]; exact hn5)
        have HL6 := Lib.hid hL6
        have HB6 := Lib.hid (hB5.setCell (p := ⟨bB, k, none⟩) (by show w.heap.size ≤ bB; omega) (.slice A5 (M.tabM n fun i => f.getD i 0).length c5))
        have hne : w.heap.size ≠ bB := by omega
        have hc6 : (w5.setCell ⟨bB, k, none⟩ (.slice A5 (M.tabM n fun i => f.getD i 0).length c5)).cell? ⟨w.heap.size, 0, none⟩ = some (.int .i64 (T : Nat)) := by
          have hh := Below.heap_setCell w5 ⟨bB, k, none⟩ (.slice A5 (M.tabM n fun i => f.getD i 0).length c5) w.heap.size hne
          unfold World.cell? at hc5 ⊢
          rw [hh]
          exact hc5
        have HC6 := Lib.hid hc6
        obtain ⟨L5, eL5⟩ : ∃ L5, L5 = (M.tabM n fun i => f.getD i 0).length := ⟨_, rfl⟩
        rw [← eL5] at HL6 HB6 HC6 ⊢
        clear hn5 hb5 hL6 hc6 eL5 e2 e3 eg2 hB5
        go_wp2_with fail
        go_roundw
        case rel => exact ⟨k + 1, by omega, by go_num, ⟨g2, HG2.out, HL6.out⟩, HB6.out, HC6.out⟩
        case measure => simp [intOf]; omega
      · have hd : n < f.length := by omega
        have HNO := Lib.hid (show ∀ F, ¬ M.PairOf p n xs rows F from fun F hF => hfl (hF.column HIP.out HOK.out.nod HOK.out.wx HN.out hlt HF.out).1)
        clear hfl
        go_wp2_with fail
        go_ret2
        exact ⟨HB4.out, .inr ⟨HNO.out, rfl⟩⟩
    · obtain rfl : k = n := by omega
      have hm := HL.out.mat (by omega)
      obtain ⟨m, em⟩ : ∃ m, m = (List.range k).map fun j => M.tabM k fun i => (g j).getD i 0 := ⟨_, rfl⟩
      have em2 : m = M.tabMM k k fun j i => (g j).getD i 0 := em
      rw [← em] at hm
      have hmlen : m.length = k := by rw [em2, M.tabMM_len]
      have hml2 : ∀ i, i < m.length → (m.getD i []).length = m.length := fun i hi => by
        rw [hmlen] at hi ⊢
        rw [em2, M.tabMM_at _ _ hi, M.tabM_len]
      have SY := Lib.hid (isSym_any _ m wx hm hml2)
      rw [hmlen] at SY
      have hel : ∀ j i, j < k → i < k → M.el m j i = (g j).getD i 0 := fun j i hj hi => by rw [em2]; exact M.tabMM_el _ hj hi
      have HM := Lib.hid hm
      have HEM := Lib.hid em2
      clear em em2 hml2
      cases hsy : M.symB k m with
      | true =>
        rw [hsy] at SY
        have hsf := M.symB_iff.1 hsy
        have hsf2 : M.SymF k fun j i => (g j).getD i 0 := fun a b ha hb => by
          have := hsf a b ha hb
          rwa [hel a b ha hb, hel b a hb ha] at this
        have hpo := M.PairOf.of_columns (n := k) (p := p) (by omega) HS.out (fun j hj => (HG.out j hj).1) (fun j hj => (HG.out j hj).2) hsf2
        have HPO := Lib.hid hpo
        have HME := Lib.hid (show m = M.tabMM k k fun i j => (g j).getD i 0 by rw [HEM.out]; exact M.tabMM_congr fun a ha b hb => hsf2 a b ha hb)
        clear hsy hsf hsf2 hpo hel hm hmlen
        go_wp2_with fail
        refine SY.out.mono ?_
        rintro e w3 ⟨rfl, hb3⟩
        have HB3 := Lib.hid (bnext HB.out hb3)
        have HM3 := Lib.hid (HM.out.below hb3)
        clear hb3
        go_wp2_with fail
        go_ret2
        exact ⟨HB3.out, .inl ⟨_, _, HPO.out, rfl, by rw [← HME.out]; exact HM3.out⟩⟩
      | false =>
        rw [hsy] at SY
        have HNO := Lib.hid (show ∀ F, ¬ M.PairOf p k xs rows F from fun F hF => by
          have hgF : ∀ j i, j < k → i < k → (g j).getD i 0 = F i j := fun j i hj hi => (hF.column HIP.out HOK.out.nod HOK.out.wx HN.out hj (HG.out j hj).1).2 i hi
          have : M.symB k m = true := M.symB_iff.2 fun a b ha hb => by
            rw [hel a b ha hb, hel b a hb ha, hgF a b ha hb, hgF b a hb ha]
            exact hF.sym b a hb ha
          rw [hsy] at this
          cases this)
        clear hsy hel hm hmlen
        go_wp2_with fail
        refine SY.out.mono ?_
        rintro e w3 ⟨rfl, hb3⟩
        have HB3 := Lib.hid (bnext HB.out hb3)
        clear hb3
        go_wp2_with fail
        go_ret2
        exact ⟨HB3.out, .inr ⟨HNO.out, rfl⟩⟩
end Go.Proofs.Ytglehjcohdjhoaa
