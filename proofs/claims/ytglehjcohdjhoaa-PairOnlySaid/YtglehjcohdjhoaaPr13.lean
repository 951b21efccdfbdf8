/-
  The reference of package pair: Join.
-/
import Derived.Test.YtglehjcohdjhoaaPr12
import Derived.Test.YtglehjcohdjhoaaPr10
import Derived.Test.YtglehjcohdjhoaaDpt
import Derived.Test.YtglehjcohdjhoaaThr6
namespace Go.Proofs.Ytglehjcohdjhoaa
open Go.RowKit
set_option linter.unusedVariables false
set_option maxRecDepth 100000

theorem nums_cell {w : World} {A : Option Addr} {n cap : Nat} {zs : List Nat} (h : Nums w (.slice A n cap) zs) {i : Nat} (hi : i < zs.length) :
    ∃ b off, A = some ⟨b, off, none⟩ ∧ b < w.heap.size ∧ w.cell? ⟨b, off + i, none⟩ = some (.int .u64 (zs.getD i 0 : Nat)) := by
  obtain ⟨A', cap', e, _, _, hc⟩ := nums_view h
  simp only [Value.slice.injEq] at e
  obtain ⟨rfl, rfl, rfl⟩ := e
  obtain ⟨b, off, rfl, hb, hcell⟩ := hc (by omega)
  exact ⟨b, off, rfl, hb, hcell i hi⟩

set_option maxHeartbeats 800000 in
theorem same_dec (va vb : Value) (zs ys : List Nat) (w : World) (ha : Nums w va zs) (hb : Nums w vb ys) :
    Calls Try.prog 24 #[va, vb] w fun e w' => e = .returned (.bool (decide (zs = ys))) ∧ Below w.heap.size w w' := by
  have hl1 := ha.2.1
  have hl2 := hb.2.1
  have HA := Lib.hid ha
  have HB := Lib.hid hb
  obtain ⟨A, cap, rfl⟩ := nums_slice' ha
  obtain ⟨A2, cap2, rfl⟩ := nums_slice' hb
  clear ha hb
  obtain ⟨r, er⟩ : ∃ r, r = decide (zs = ys) := ⟨_, rfl⟩
  rw [← er]
  by_cases hnm : zs.length = ys.length
  · have EQ := Lib.hid (show (∀ i, i < zs.length → zs.getD i 0 = ys.getD i 0) → r = true from fun h => by
      rw [er, decide_eq_true_eq]
      refine M.ext_getD hnm fun i => ?_
      by_cases hi : i < zs.length
      · exact h i hi
      · rw [M.getD_ge (by omega), M.getD_ge (by omega)])
    have NE := Lib.hid (show ∀ i, zs.getD i 0 ≠ ys.getD i 0 → r = false from fun i h => by
      rw [er, decide_eq_false_iff_not]
      intro e; rw [e] at h; exact h rfl)
    obtain ⟨n, en⟩ : ∃ n, ys.length = n := ⟨_, rfl⟩
    rw [en] at hnm hl2 ⊢
    rw [hnm] at hl1 EQ ⊢
    have HN1 := Lib.hid hnm
    have HN2 := Lib.hid en
    clear er en hnm
    go_enter Try.func24, Try.ntmps24
    go_wp2_with fail
    go_loopw [13] (fun t wr => ∃ k : Nat, k ≤ n ∧ t = .int .i64 k ∧ (∀ i, i < k → zs.getD i 0 = ys.getD i 0) ∧ Below w.heap.size w wr) (fun t _ => n - (intOf t).toNat)
    case atStart => exact ⟨0, by omega, rfl, fun i hi => absurd hi (by omega), Below.refl _ _⟩
    case round =>
      obtain ⟨k, hk, rfl, hsame, hbw⟩ := hrel
      by_cases hlt : k < n
      · obtain ⟨b, off, rfl, hb, hc0⟩ := nums_cell HA.out (i := k) (by rw [HN1.out]; exact hlt)
        obtain ⟨b2, off2, rfl, hb2, hc2⟩ := nums_cell HB.out (i := k) (by rw [HN2.out]; exact hlt)
        have c1 := (hbw.cell (p := ⟨b, off + k, none⟩) hb).trans hc0
        have c2 := (hbw.cell (p := ⟨b2, off2 + k, none⟩) hb2).trans hc2
        have NEk := Lib.hid (NE.out k)
        have SK := Lib.hid (show zs.getD k 0 = ys.getD k 0 → ∀ i, i < k + 1 → zs.getD i 0 = ys.getD i 0 from fun h i hi => by
          by_cases hik : i < k
          · exact hsame i hik
          · obtain rfl : i = k := by omega
            exact h)
        obtain ⟨x, hx⟩ : ∃ x, zs.getD k 0 = x := ⟨_, rfl⟩
        obtain ⟨y, hy⟩ : ∃ y, ys.getD k 0 = y := ⟨_, rfl⟩
        rw [hx] at c1 NEk
        rw [hy] at c2 NEk
        rw [hx, hy] at SK
        clear hx hy hc0 hc2 hsame
        have hi : (k : Int) < (n : Int) := by omega
        have HBW := Lib.hid hbw
        clear hbw
        by_cases hxy : x = y
        · subst hxy
          have hzb : ((x : Int) != x) = false := by simp
          have SK2 := Lib.hid (SK.out rfl)
          clear SK
          go_wp2_with fail
          go_quiet (fail)
          go_wp2_with fail
          go_roundw
          case rel => exact ⟨k + 1, by omega, by go_num, SK2.out, below_drewN HBW.out _⟩
          case measure => simp [intOf]; omega
        · have hzb : ((x : Int) != y) = true := by rw [bne_iff_ne]; omega
          obtain rfl := NEk.out hxy
          go_wp2_with fail
          go_quiet (fail)
          go_wp2_with fail
          go_ret
          exact ⟨rfl, below_drewN HBW.out _⟩
      · obtain rfl : k = n := by omega
        obtain rfl := EQ.out hsame
        go_wp2_with fail
        go_ret
        exact ⟨rfl, hbw⟩
  · obtain rfl : r = false := by
      rw [er, decide_eq_false_iff_not]; intro e; exact hnm (by rw [e])
    obtain ⟨n, en⟩ : ∃ n, ys.length = n := ⟨_, rfl⟩
    obtain ⟨m, em⟩ : ∃ m, zs.length = m := ⟨_, rfl⟩
    rw [en] at hnm hl2 ⊢
    rw [em] at hnm hl1 ⊢
    have hzb : ((m : Int) != n) = true := by rw [bne_iff_ne]; omega
    clear er en em HA HB
    go_enter Try.func24, Try.ntmps24
    go_wp2_with fail
    go_ret
    exact ⟨rfl, Below.refl _ _⟩
theorem wpList_append_ptAt {w : World} {ops : Array Oper} {rest : List Oper} {o : Oper} {a : Act} {Q : Exit → Act → World → Prop} (hgd : o.guard = none) (s x : Operand)
    (ho : o.op = .call { callee := .builtin .append, args := #[s, x], argTypes := #[107, 107] }) {base n X x0 y0 : Nat} {tv : Value} {l : List Value} (hs : a.eval s = tv)
    (hx : a.eval x = .slice (some ⟨X, 0, none⟩) 1 1) (hX : w.heap[X]? = some (.cells #[.int .u64 (x0 : Nat), .int .u64 (y0 : Nat)] 109 (0, 0))) (hown : w.ownsRow base 109 2 tv n l) (hn : n ≤ 1000) (hbase : base ≤ w.heap.size)
    (h : ∀ v' w', w'.ownsRow base 109 2 v' (n + 1) (l ++ [.int .u64 (x0 : Nat), .int .u64 (y0 : Nat)]) → w.grownBy w' tv.ownBlock → Below base w w' → wpList Try.prog ops Q rest (a.put o.dst v') w') :
    wpList Try.prog ops Q (o :: rest) a w := by
  obtain ⟨i0, hi0, hz0, hz1, hz2⟩ := info_parts infoPt
  refine wpList_append_own _ hgd s x 107 ho base 109 i0 (.agg #[.int .u64 0, .int .u64 0]) 2 16 Try.underlying107 hi0 hz0 hz1 hz2 rfl (by decide) tv n _ hs hown ⟨X, 0, none⟩ 1 1 [.int .u64 (x0 : Nat), .int .u64 (y0 : Nat)] hx rfl ?_ ?_ ?_ ?_ hbase ?_
  · exact World.news_of_block (cs := #[.int .u64 (x0 : Nat), .int .u64 (y0 : Nat)]) (fr := (0, 0)) hX
  · intro u hu; simp at hu; rcases hu with rfl | rfl <;> rfl
  · unfold maxLen; omega
  · omega
  · intro v' w' hown' hgr _
    have hlt := hown.lt
    exact h v' w' hown' hgr ((Below.refl base w).grown hgr hbase (fun r hr => (hlt r hr).1))

theorem ptRow4_xs {xs zs ys : List Nat} : ∀ k, (∀ i, i < k → xs.getD i 0 = zs.getD i 0) → ptRow4 xs ys k = ptRow4 zs ys k
  | 0, _ => rfl
  | k + 1, h => by
    unfold ptRow4
    rw [ptRow4_xs k fun i hi => h i (by omega), h k (by omega)]

namespace M
/-- the matrix whose columns are the polynomials g 0, .., g (k - 1), and of g k the first i coefficients -/
def colF (g : Nat → List Nat) (k i a b : Nat) : Nat := if b < k then (g b).getD a 0 else if b = k ∧ a < i then (g k).getD a 0 else 0
theorem colF_zero (g : Nat → List Nat) (a b : Nat) : colF g 0 0 a b = 0 := by
  unfold colF
  rw [if_neg (by omega), if_neg (by omega)]
theorem colF_step (g : Nat → List Nat) (k i a b : Nat) : colF g k (i + 1) a b = if a = i ∧ b = k then (g k).getD i 0 else colF g k i a b := by
  unfold colF
  by_cases h : a = i ∧ b = k
  · rw [if_pos h, if_neg (by omega), if_pos ⟨h.2, by omega⟩, h.1]
  · rw [if_neg h]
    by_cases h1 : b < k
    · rw [if_pos h1, if_pos h1]
    · rw [if_neg h1, if_neg h1]
      by_cases h2 : b = k ∧ a < i
      · rw [if_pos h2, if_pos ⟨h2.1, by omega⟩]
      · rw [if_neg h2, if_neg (by omega)]
theorem colF_next (g : Nat → List Nat) (k : Nat) (a b : Nat) : colF g k (g k).length a b = colF g (k + 1) 0 a b := by
  unfold colF
  by_cases h1 : b < k
  · rw [if_pos h1, if_pos (show b < k + 1 by omega)]
  · rw [if_neg h1]
    by_cases h2 : b = k
    · subst h2
      rw [if_pos (show b < b + 1 by omega)]
      by_cases h3 : a < (g b).length
      · rw [if_pos ⟨rfl, h3⟩]
      · rw [if_neg (fun h => h3 h.2), getD_ge (by omega)]
    · rw [if_neg (fun h => h2 h.1), if_neg (show ¬ b < k + 1 by omega), if_neg (fun h => by omega)]
theorem colF_congr {g h : Nat → List Nat} {k : Nat} (e : ∀ j, j < k → g j = h j) (a b : Nat) : colF g k 0 a b = colF h k 0 a b := by
  unfold colF
  by_cases h1 : b < k
  · rw [if_pos h1, if_pos h1, e b h1]
  · rw [if_neg h1, if_neg h1, if_neg (by omega), if_neg (by omega)]
end M

namespace M
theorem rowp_tab {p n : Nat} (F : Nat → Nat → Nat) (x : Nat) : rowp p n (el (tabMM n n F)) x = rowp p n F x := by
  refine rowp_of_colv fun k hk => pv_congr (fun j hj => ?_) _
  rw [tabMM_el F hj hk]
theorem PairOf.of_tab {p n : Nat} {xs : List Nat} {rows : List (List Nat)} {F : Nat → Nat → Nat} (h : POk p n (tabMM n n F)) (hl : ∀ i k, i < n → k < n → F i k < p) (hr : ∀ i, i < xs.length → rowp p n (el (tabMM n n F)) (xs.getD i 0) = trim (rows.getD i [])) : PairOf p n xs rows F where
  sym i k h1 h2 := by have := h.sym i k h1 h2; rwa [tabMM_el F h1 h2, tabMM_el F h2 h1] at this
  lt := hl
  row i hi := by rw [← hr i hi, rowp_tab]
end M

set_option maxHeartbeats 8000000 in
theorem rjoin6_any (p T : Nat) (vx vr : Value) (xs : List Nat) (rows : List (List Nat)) (w : World) (hip : M.isP p = true) (hT : T ≤ 3) (hok : M.ROk p xs rows) (hn : T + 1 ≤ xs.length) (hx : Nums w vx xs) (hr : Mat w vr rows) :
    Calls Try.prog 43 #[.int .u64 p, .int .i64 T, vx, vr] w fun e w' => Below w.heap.size w w' ∧ ((∃ (F : Nat → Nat → Nat) (v' : Value), M.PairOf p (T + 1) xs rows F ∧ e = .returned (.tuple #[v', .bool true]) ∧ Mat w' v' (M.tabMM (T + 1) (T + 1) F)) ∨
      ((∀ F, ¬ M.PairOf p (T + 1) xs rows F) ∧ e = .returned (.tuple #[.slice none 0 0, .bool false]))) := by
  have hud : ∀ b : Bool, undef ≠ Value.bool b := fun b h => by cases h
  obtain ⟨h3, hp⟩ := M.pos_of hip
  have hx13 := hok.len
  have hrl := hok.rl
  have HX := Lib.hid hx
  have HR := Lib.hid hr
  have HOK := Lib.hid hok
  obtain ⟨Ax, cx, rfl, _, _, hcx⟩ := nums_view hx
  have HCX := Lib.hid hcx
  obtain ⟨A, cap, rfl, _⟩ := mat_view6 hr
  have HM := Lib.hid (mat_row hr).2
  have HRL := Lib.hid hrl
  obtain ⟨n, en⟩ : ∃ n, n = T + 1 := ⟨_, rfl⟩
  obtain ⟨R, eR⟩ : ∃ R, R = xs.length := ⟨_, rfl⟩
  have HER := Lib.hid eR
  rw [hrl, ← eR]
  rw [← en, ← eR] at hn
  rw [← en]
  have hn4 : n ≤ 4 := by omega
  have hn0 : 0 < n := by omega
  rw [← eR] at hx13
  have hw1 : IntKind.i64.wrap ((T : Int) + 1) = (n : Nat) := by rw [IntKind.wrap_i64]; omega
  have HNT := Lib.hid (show (n : Int) = (T : Int) + 1 by omega)
  obtain ⟨cs, hcs, hcz, hmk⟩ := make6_rows n (by omega)
  obtain ⟨cu, hmu, hmurow⟩ := make6_u64 n (by omega)
  have HMR := Lib.hid hmurow
  obtain ⟨bB, eB⟩ : ∃ B, B = w.heap.size := ⟨_, rfl⟩
  obtain ⟨W0, eW0⟩ : ∃ W0, W0 = w.alloc (.cells cs 30) := ⟨_, rfl⟩
  have hB0 : W0.heap[bB]? = some (.cells cs 30 (0, 0)) := by rw [eW0, eB]; exact heap_alloc_new w _
  have HL0 := Lib.hid (show Lay W0 w.heap.size bB n 0 (fun _ => 0) from ⟨by omega, ⟨cs, hB0, hcs, fun i hi => absurd hi (by omega), fun i _ hi => hcz i hi⟩, fun i hi => absurd hi (by omega), fun i hi => absurd hi (by omega), fun i j hi => absurd hi (by omega)⟩)
  have HB0 := Lib.hid (show Below w.heap.size w W0 by rw [eW0]; exact balloc w _)
  have EW0 := Lib.hid eW0
  have EB := Lib.hid eB
  clear hx hr hok hcx hrl en eR hmurow eW0 eB hB0 hcs hcz
  go_enter Try.func43, Try.ntmps43
  go_wp2_with fail
  rw [← EW0.out]
  simp only [← EB.out]
  clear hmk
  go_loopw [25] (fun t wr => ∃ k : Nat, k ≤ n ∧ t = .int .i64 k ∧ (∃ G, Lay wr w.heap.size bB n k G) ∧ Below w.heap.size w wr) (fun t _ => n - (intOf t).toNat)
  case atStart => exact ⟨0, by omega, rfl, ⟨_, HL0.out⟩, HB0.out⟩
  case round =>
    obtain ⟨k, hk, rfl, ⟨G, hLy⟩, hB⟩ := hrel
    have HLy := Lib.hid hLy
    have HB := Lib.hid hB
    clear hLy hB HL0 HB0
    by_cases hlt : k < n
    · have cB := HLy.out.cell hlt
      have fB := HLy.out.free k
      have lB := HLy.out.lt
      have nB : bB ≠ wr.heap.size := by omega
      have nB2 : wr.heap.size ≠ bB := by omega
      have HP := Lib.hid (HLy.out.push hlt HB.out.size HMR.out)
      have HBB := Lib.hid (HLy.out.baseB)
      go_wp2_with fail
      go_roundw
      case rel => exact ⟨k + 1, by omega, by go_num, ⟨_, HP.out⟩, (HB.out.setCell (p := ⟨bB, k, none⟩) HBB.out _).alloc (by simp; exact HB.out.size) _⟩
      case measure => simp [intOf]; omega
    · obtain rfl : k = n := by omega
      obtain ⟨w6, hw6⟩ : ∃ x, x = wr := ⟨_, rfl⟩
      rw [← hw6] at HLy HB ⊢
      have HMO := Lib.hid (HLy.out.done.congr (F' := M.colF (fun _ => []) 0 0) (fun i _ j _ => (M.colF_zero _ i j).symm))
      obtain ⟨n, rfl⟩ : ∃ n, n = k := ⟨k, rfl⟩
      clear hw6 HLy hmu
      go_wp2_with fail
      go_loopw [12] (fun t wr => ∃ k : Nat, k ≤ n ∧ t = .int .i64 k ∧ (∃ g : Nat → List Nat, (∀ j, j < k → M.Thru p (xs.take n) (M.tabM n fun i => (rows.getD i []).getD j 0) (g j)) ∧ MatO wr w.heap.size bB n n G (fun _ => n) (M.colF g k 0)) ∧ Below w.heap.size w wr) (fun t _ => n - (intOf t).toNat)
      case atStart => exact ⟨0, by omega, rfl, ⟨_, fun j hj => absurd hj (by omega), HMO.out⟩, HB.out⟩
      case round =>
        obtain ⟨k, hk, rfl, ⟨g, hg, hM⟩, hBk⟩ := hrel
        have HG := Lib.hid hg
        have HMk := Lib.hid hM
        have HBk := Lib.hid hBk
        clear hg hM hBk HMO
        by_cases hlt : k < n
        · obtain ⟨w7, hw7⟩ : ∃ x, x = wr := ⟨_, rfl⟩
          rw [← hw7] at HMk HBk ⊢
          have hkT : (k : Int) ≤ (T : Int) := by have := HNT.out; omega
          have hd : decide ((k : Int) ≤ (T : Int)) = true := by rw [decide_eq_true_eq]; exact hkT
          have hd2 : k ≤ T := by omega
          obtain ⟨ys, eys⟩ : ∃ ys, ys = M.tabM n fun i => (rows.getD i []).getD k 0 := ⟨_, rfl⟩
          have HYS := Lib.hid eys
          clear hw7 eys
          go_wp2_with fail
          go_loopw [14, 13] (fun t tl wx => ∃ i : Nat, i ≤ n ∧ t = .int .i64 i ∧ wx.ownsRow w7.heap.size 109 2 tl i (ptRow4 xs ys i) ∧ Below w7.heap.size w7 wx) (fun t _ _ => n - (intOf t).toNat)
          case atStart => exact ⟨0, by omega, rfl, World.ownsRow_nil _ _ _ _, Below.refl _ _⟩
          case round =>
            obtain ⟨i, hi, rfl, ho, hBi⟩ := hrel
            have HO := Lib.hid ho
            have HBi := Lib.hid hBi
            clear ho hBi
            by_cases hlti : i < n
            · obtain ⟨bx, ox, rfl, hbx, hcx⟩ := HCX.out (by rw [← HER.out]; omega)
              obtain ⟨b, off, rfl, hbl, hcells⟩ := HM.out (by rw [HRL.out, ← HER.out]; omega)
              obtain ⟨A1, u1, cc1, n1, hr1⟩ := hcells i (by rw [HRL.out, ← HER.out]; omega)
              have hbw := bnext HBk.out HBi.out
              have hwsz := HBi.out.size
              have c1 := (hbw.cell (p := ⟨b, off + i, none⟩) hbl).trans cc1
              have c2 := (hbw.cell (p := ⟨bx, ox + i, none⟩) hbx).trans (hcx i (by rw [← HER.out]; omega))
              have hsn : ptRow4 xs ys (i + 1) = ptRow4 xs ys i ++ [.int .u64 (xs.getD i 0 : Nat), .int .u64 (ys.getD i 0 : Nat)] := rfl
              rw [show ys.getD i 0 = (rows.getD i []).getD k 0 by rw [HYS.out, M.tabM_get, if_pos hlti]] at hsn
              have hiT : (i : Int) ≤ (T : Int) := by have := HNT.out; omega
              have he : decide ((i : Int) ≤ (T : Int)) = true := by rw [decide_eq_true_eq]; exact hiT
              have he2 : i ≤ T := by omega
              have hiR : (i : Int) < (R : Nat) := by omega
              have hiR2 : i < R := by omega
              obtain ⟨L, eL⟩ : ∃ L, L = (rows.getD i []).length := ⟨_, rfl⟩
              rw [← eL] at c1 hr1
              have EL := Lib.hid eL
              obtain ⟨x, ex⟩ : ∃ x, x = xs.getD i 0 := ⟨_, rfl⟩
              rw [← ex] at c2 hsn
              by_cases hkL : k < L
              · obtain ⟨g1, o1, rfl, hg1, hc1⟩ := hr1 (by omega)
                have c3 := (hbw.cell (p := ⟨g1, o1 + k, none⟩) hg1).trans (hc1 k hkL)
                obtain ⟨y, ey⟩ : ∃ y, y = M.el rows i k := ⟨_, rfl⟩
                rw [← ey] at c3
                rw [show (rows.getD i []).getD k 0 = y from ey.symm] at hsn
                have HSN := Lib.hid hsn
                have hkL2 : (k : Int) < (L : Nat) := by omega
                have HX1 := Lib.hid (heap_alloc_new wr (.cells #[.int .u64 (x : Nat), .int .u64 (y : Nat)] 109))
                have HO1 := Lib.hid (HO.out.alloc (.cells #[.int .u64 (x : Nat), .int .u64 (y : Nat)] 109))
                have HB2 := Lib.hid (HBi.out.alloc hwsz (.cells #[.int .u64 (x : Nat), .int .u64 (y : Nat)] 109))
                clear ey ex hsn hc1 hr1 hcells cc1 n1 hcx hbw eL
                go_wp2_with (at_builtin; refine wpList_append_ptAt (X := wr.heap.size) rfl _ _ rfl rfl (by rfl) HX1.out HO1.out (by omega) HB2.out.size ?_; intro v1 w2 ho1 hg1 hb1')
                have HO3 := Lib.hid ho1
                have HB3 := Lib.hid (HB2.out.trans hb1')
                clear ho1 hg1 hb1'
                go_roundw
                case rel => exact ⟨i + 1, by omega, by go_num, by rw [HSN.out]; exact HO3.out, HB3.out⟩
                case measure => simp [intOf]; omega
              · have hkL2 : ¬ (k : Int) < (L : Nat) := by omega
                rw [show (rows.getD i []).getD k 0 = 0 from M.getD_ge (by rw [← eL]; omega)] at hsn
                have HSN := Lib.hid hsn
                have HX1 := Lib.hid (heap_alloc_new wr (.cells #[.int .u64 (x : Nat), .int .u64 (0 : Nat)] 109))
                have HO1 := Lib.hid (HO.out.alloc (.cells #[.int .u64 (x : Nat), .int .u64 (0 : Nat)] 109))
                have HB2 := Lib.hid (HBi.out.alloc hwsz (.cells #[.int .u64 (x : Nat), .int .u64 (0 : Nat)] 109))
                clear ex hsn hr1 hcells cc1 n1 hcx hbw eL
                go_wp2_with (at_builtin; refine wpList_append_ptAt (y0 := 0) (X := wr.heap.size) rfl _ _ rfl rfl (by rfl) HX1.out HO1.out (by omega) HB2.out.size ?_; intro v1 w2 ho1 hg1 hb1')
                have HO3 := Lib.hid ho1
                have HB3 := Lib.hid (HB2.out.trans hb1')
                clear ho1 hg1 hb1'
                go_roundw
                case rel => exact ⟨i + 1, by omega, by go_num, by rw [HSN.out]; exact HO3.out, HB3.out⟩
                case measure => simp [intOf]; omega
            · obtain rfl : i = n := by omega
              have he : decide ((i : Int) ≤ (T : Int)) = false := by rw [decide_eq_false_iff_not]; have := HNT.out; omega
              have he2 : ¬ i ≤ T := by have := HNT.out; omega
              have hyl : ys.length = i := by rw [HYS.out]; simp [M.tabM]
              have hxt : (xs.take i).length = i := by rw [List.length_take]; have := HER.out; omega
              have hyw : M.within p ys = true := by
                rw [HYS.out]
                exact M.within_tabM fun a ha => M.within_getD (by omega) (HOK.out.row a (by rw [← HER.out]; omega)).2 k
              have hxw : M.within p (xs.take i) = true := M.within_sub HOK.out.wx fun x hx => List.mem_of_mem_take hx
              have hpts : Pts wr u13 (xs.take i) ys := by
                refine pts_of_row4 (base := w7.heap.size) (by rw [hyl, hxt]) (fun x hx => by have := within_lt6 hxw x hx; omega) (fun y hy => by have := within_lt6 hyw y hy; omega) (by omega) ?_
                rw [hxt, ptRow4_xs (xs := xs.take i) (zs := xs) (ys := ys) i (fun a ha => by rw [M.getD_take, if_pos ha])]
                exact HO.out
              obtain ⟨A9, c9, e9, _⟩ := hpts.2.2.2.2
              rw [hxt] at e9
              subst e9
              have HTH := Lib.hid (rthrough_own p _ (xs.take i) ys wr hip (by omega) hxw hyw (HOK.out.nod.sublist (List.take_sublist _ _)) hpts)
              clear hyl hyw hxw hpts
              go_wp2_with fail
              (with_reducible refine HTH.out.mono ?_)
              rintro e w8 ⟨v8, f8, rfl, hn8, ht8, hb8⟩
              have hf8 : f8.length ≤ i := by have := ht8.2.2.1; rwa [hxt] at this
              have hb8w := hb8.size
              have h7r := HBi.out.size
              have HB8 := Lib.hid (HBi.out.trans (hb8.mono HBi.out.size))
              have HN8 := Lib.hid (nums_of_owns hn8 (fun z hz => by have := within_lt ht8.1 z hz; omega) (by omega))
              obtain ⟨A8, c8, rfl, hA8⟩ : ∃ A8 c8, v8 = .slice A8 f8.length c8 ∧ (0 < f8.length → ∃ b, A8 = some ⟨b, 0, none⟩ ∧ w7.heap.size ≤ b ∧ b < w8.heap.size ∧ Row w8 b f8.length (fun j => f8.getD j 0)) := by
                obtain ⟨A9, c9, e9, _⟩ := nums_view HN8.out
                refine ⟨A9, c9, e9, fun h0 => ?_⟩
                obtain ⟨g, c, e, hg, hg2⟩ := hn8.form h0
                rw [e9] at e
                simp only [Value.slice.injEq] at e
                have hn9 := hn8
                rw [e9, e.1] at hn9
                exact ⟨g, e.1, by omega, hg2, (row_of_owns hn9).2.2.2⟩
              obtain ⟨A9, c9, e9, _, _, hc8⟩ := nums_view HN8.out
              simp only [Value.slice.injEq] at e9
              obtain ⟨rfl, _, rfl⟩ := e9
              have HC8 := Lib.hid hc8
              have HA8 := Lib.hid hA8
              have HT8 := Lib.hid ht8
              have HM8 := Lib.hid (HMk.out.below HB8.out (Nat.le_refl _))
              have HBk8 := Lib.hid (bnext HBk.out HB8.out)
              have h7 := HBk.out.size
              clear hb8 hn8 ht8 hc8 hA8
              go_wp2_with fail
              go_loopw [72] (fun t wr => ∃ a : Nat, a ≤ f8.length ∧ t = .int .i64 a ∧ MatO wr w.heap.size bB i i G (fun _ => i) (M.colF (fun j => if j = k then f8 else g j) k a) ∧ Below w.heap.size w wr ∧ wr.heap.size = w8.heap.size ∧ ∀ b, w7.heap.size ≤ b → wr.heap[b]? = w8.heap[b]?) (fun t _ => f8.length - (intOf t).toNat)
              case atStart =>
                exact ⟨0, by omega, rfl, HM8.out.congr (fun a _ b _ => M.colF_congr (fun j hj => (if_neg (by omega)).symm) a b), HBk8.out, rfl, fun b _ => rfl⟩
              case round =>
                obtain ⟨a, ha, rfl, hMa, hBa, hsz, hfar⟩ := hrel
                have HMa := Lib.hid hMa
                have HBa := Lib.hid hBa
                have HFAR := Lib.hid hfar
                clear hMa hBa hfar HM8
                by_cases hlta : a < f8.length
                · obtain ⟨b8, rfl, hb8a, hb8b, hR8⟩ := HA8.out (by omega)
                  have c8 := (hR8.same (HFAR.out b8 hb8a)).cell hlta
                  have hai : a < i := by omega
                  have hai2 : (a : Int) < (i : Nat) := by omega
                  have hki2 : (k : Int) < (i : Nat) := by omega
                  have hal8 : (a : Int) < (f8.length : Nat) := by omega
                  have cB := HMa.out.cell hai
                  have dG := (HMa.out.row a hai).cell hlt
                  have fG := (HMa.out.row a hai).free k
                  have hGb := (HMa.out.baseG a hai).1
                  have hG7 := (HMk.out.row a hai).lt
                  have hGm : G a ≠ b8 := by omega
                  obtain ⟨y, ey⟩ : ∃ y, y = f8.getD a 0 := ⟨_, rfl⟩
                  rw [← ey] at c8
                  have HNX := Lib.hid ((HMa.out.put hai hlt y).congr (F' := M.colF (fun j => if j = k then f8 else g j) k (a + 1)) (fun i' _ k' _ => by rw [M.colF_step]; simp only [if_true]; rw [← ey]))
                  have HBX := Lib.hid (HBa.out.setCell (p := ⟨G a, k, none⟩) hGb (.int .u64 (y : Nat)))
                  have HFX := Lib.hid (show ∀ b, w7.heap.size ≤ b → (wr.setCell ⟨G a, k, none⟩ (.int .u64 (y : Nat))).heap[b]? = w8.heap[b]? from fun b hb => (Below.heap_setCell wr _ _ b (by simp; omega)).trans (HFAR.out b hb))
                  clear ey hR8 HMk HC8 HN8 HT8
                  go_wp2_with fail
                  go_roundw
                  case rel => exact ⟨a + 1, by omega, by go_num, HNX.out, HBX.out, by simp; omega, HFX.out⟩
                  case measure => simp [intOf]; omega
                · obtain rfl : a = f8.length := by omega
                  go_wp2_with fail
                  refine ⟨⟨k + 1, by omega, by go_num, ⟨fun j => if j = k then f8 else g j, fun j hj => ?_, ?_⟩, HBa.out⟩, by simp [intOf]; omega⟩
                  · by_cases e : j = k
                    · subst e
                      simp only [if_true]
                      rw [← HYS.out]
                      exact HT8.out
                    · simp only [if_neg e]
                      exact HG.out j (by omega)
                  · refine HMa.out.congr fun a' _ b' _ => ?_
                    have e := M.colF_next (fun j => if j = k then f8 else g j) k a' b'
                    simpa only [if_true] using e
        · obtain rfl : k = n := by omega
          have hd : decide ((k : Int) ≤ (T : Int)) = false := by rw [decide_eq_false_iff_not]; have := HNT.out; omega
          have hd2 : ¬ k ≤ T := by have := HNT.out; omega
          obtain ⟨n, rfl⟩ : ∃ n, n = k := ⟨k, rfl⟩
          obtain ⟨F, eF⟩ : ∃ F, F = fun i k => (g k).getD i 0 := ⟨_, rfl⟩
          have hC := M.cols_of_thru (p := p) (n := n) (xs := xs) (rows := rows) (by omega) (by rw [← HER.out]; exact hn) HG.out
          have hMC := HMk.out.congr (F' := F) (fun a _ b hb => by unfold M.colF; rw [if_pos hb, eF])
          rw [← eF] at hC
          have hmat := hMC.mat (cap := n) (Nat.le_refl _) (by omega) (by omega) (fun a ha b hb => by have := hC.lt a b ha hb; omega)
          have HCO := Lib.hid hC
          have hF6 := rform6_any p T _ _ wr hT hmat
          rw [show T + 1 = n by have := HNT.out; omega] at hF6
          have HMAT := Lib.hid hmat
          have HF6 := Lib.hid hF6
          have HNO := Lib.hid (show ¬ M.PairOf p n xs rows F → ∀ F, ¬ M.PairOf p n xs rows F from fun h => hC.none hip HOK.out.nod HOK.out.wx (by rw [← HER.out]; exact hn) h)
          obtain ⟨c, ec⟩ : ∃ c, M.pform p n (M.tabMM n n F) = c := ⟨_, rfl⟩
          rw [ec] at HF6
          have EC := Lib.hid ec
          clear hC hMC hmat hF6 eF ec HG HMk HMR hw1
          by_cases h0 : c = 0
          · have hb : (c != 0) = false := by simp [h0]
            have hOK := M.pform_zero (EC.out.trans h0)
            have HPO := Lib.hid hOK
            have H0 := Lib.hid h0
            clear h0 hOK
            go_wp2_with fail
            (with_reducible refine HF6.out.mono ?_)
            rintro e w' ⟨rfl, hb1⟩
            have HMAT1 := Lib.hid (HMAT.out.below hb1)
            have HB1 := Lib.hid (bnext HBk.out hb1)
            clear hb1
            go_wp2_with fail
            go_loopw [92] (fun t wr => ∃ j : Nat, j ≤ R ∧ t = .int .i64 j ∧ (∀ i, i < j → M.rowp p n (M.el (M.tabMM n n F)) (xs.getD i 0) = M.trim (rows.getD i [])) ∧ Below w.heap.size w wr ∧ Mat wr (.slice (some ⟨bB, 0, none⟩) n n) (M.tabMM n n F)) (fun t _ => R - (intOf t).toNat)
            case atStart => exact ⟨0, by omega, rfl, fun i hi => absurd hi (by omega), HB1.out, HMAT1.out⟩
            case round =>
              obtain ⟨j, hj, rfl, hpre, hBj, hMj⟩ := hrel
              have HPRE := Lib.hid hpre
              have HBj := Lib.hid hBj
              have HMj := Lib.hid hMj
              clear hpre hBj hMj HMAT HMAT1 HB1 HF6
              by_cases hltj : j < R
              · obtain ⟨bx, ox, rfl, hbx, hcx⟩ := HCX.out (by rw [← HER.out]; omega)
                obtain ⟨b, off, rfl, hbl, hcells⟩ := HM.out (by rw [HRL.out, ← HER.out]; omega)
                obtain ⟨A1, u1, cc1, n1, _⟩ := hcells j (by rw [HRL.out, ← HER.out]; omega)
                have c1 := (HBj.out.cell (p := ⟨b, off + j, none⟩) hbl).trans cc1
                have c2 := (HBj.out.cell (p := ⟨bx, ox + j, none⟩) hbx).trans (hcx j (by rw [← HER.out]; omega))
                have hjx : j < xs.length := by rw [← HER.out]; exact hltj
                have hxj : xs.getD j 0 < p := M.within_mem HOK.out.wx hjx
                have hnil : rows.getD j [] = rows.getD j [] := rfl
                have HSTEP := Lib.hid (show M.rowp p n (M.el (M.tabMM n n F)) (xs.getD j 0) = M.trim (rows.getD j []) → ∀ i, i < j + 1 → M.rowp p n (M.el (M.tabMM n n F)) (xs.getD i 0) = M.trim (rows.getD i []) from fun h i hi => by
                  by_cases e : i = j
                  · subst e; exact h
                  · exact HPRE.out i (by omega))
                have HBAD := Lib.hid (show M.rowp p n (M.el (M.tabMM n n F)) (xs.getD j 0) ≠ M.trim (rows.getD j []) → ∀ F, ¬ M.PairOf p n xs rows F from fun h => HNO.out fun hP => h (by rw [M.rowp_tab]; exact hP.row j hjx))
                have ROW := Lib.hid fun (W : World) (h : Mat W (.slice (some ⟨bB, 0, none⟩) n n) (M.tabMM n n F)) => rrow_any p n (xs.getD j 0) _ _ W h3 hp hn0 hn4 hxj HPO.out h
                have TRM := Lib.hid fun (W : World) (h : Below w.heap.size w W) => rtrim_any _ _ W (n1.below h)
                obtain ⟨ra, era⟩ : ∃ ra, ra = M.rowp p n (M.el (M.tabMM n n F)) (xs.getD j 0) := ⟨_, rfl⟩
                obtain ⟨rb, erb⟩ : ∃ rb, rb = M.trim (rows.getD j []) := ⟨_, rfl⟩
                rw [← era, ← erb] at HSTEP HBAD
                rw [← era] at ROW
                rw [← erb] at TRM
                obtain ⟨r, er⟩ : ∃ r, r = decide (ra = rb) := ⟨_, rfl⟩
                have SM := Lib.hid fun (W : World) (V V2 : Value) (h1 : Nums W V ra) (h2 : Nums W V2 rb) => same_dec V V2 ra rb W h1 h2
                rw [← er] at SM
                obtain ⟨L, eL⟩ : ∃ L, L = (rows.getD j []).length := ⟨_, rfl⟩
                rw [← eL] at c1 TRM
                obtain ⟨x, ex⟩ : ∃ x, x = xs.getD j 0 := ⟨_, rfl⟩
                rw [← ex] at c2 ROW
                have hjR : (j : Int) < (R : Nat) := by omega
                have C1D := Lib.hid (show wr.drew.cell? ⟨b, off + j, none⟩ = _ from c1)
                have MD := Lib.hid (HMj.out.below (Below.refl wr.heap.size wr).drew)
                have HBD := Lib.hid HBj.out.drew
                have hbw : b < wr.heap.size := by have := HBj.out.size; omega
                clear n1 cc1 hcells hcx era erb eL ex hnil
                by_cases hr : r = true
                · subst hr
                  have HS := Lib.hid (HSTEP.out (of_decide_eq_true er.symm))
                  clear er HSTEP HBAD
                  go_wp2_with fail
                  go_region_with (first
                    | (go_at_call 33; refine (ROW.out _ MD.out).mono ?_; rintro e w4 ⟨v4, rfl, hn4', hb4⟩; have c14 := (hb4.cell (p := ⟨b, off + j, none⟩) (by simp; omega)).trans C1D.out)
                    | (go_at_call 45; refine (TRM.out _ (bnext HBD.out hb4)).mono ?_; rintro e w5 ⟨v5, rfl, hn5, hb5⟩)
                    | (go_at_call 24; refine (SM.out _ _ _ (hn4'.below hb5) hn5).mono ?_; rintro e w6 ⟨rfl, hb6⟩))
                  all_goals
                    have HB6 := Lib.hid (bnext (bnext (bnext HBD.out hb4) hb5) hb6)
                    have HM6 := Lib.hid (((MD.out.below hb4).below hb5).below hb6)
                    clear hb4 hb5 hb6 hn4' hn5 c14
                    go_wp2_with fail
                    go_roundw
                    case rel => exact ⟨j + 1, by omega, by go_num, HS.out, HB6.out, HM6.out⟩
                    case measure => simp [intOf]; omega
                · obtain rfl : r = false := by cases r <;> simp_all
                  have HS := Lib.hid (HBAD.out (of_decide_eq_false er.symm))
                  clear er HSTEP HBAD
                  go_wp2_with fail
                  go_region_with (first
                    | (go_at_call 33; refine (ROW.out _ MD.out).mono ?_; rintro e w4 ⟨v4, rfl, hn4', hb4⟩; have c14 := (hb4.cell (p := ⟨b, off + j, none⟩) (by simp; omega)).trans C1D.out)
                    | (go_at_call 45; refine (TRM.out _ (bnext HBD.out hb4)).mono ?_; rintro e w5 ⟨v5, rfl, hn5, hb5⟩)
                    | (go_at_call 24; refine (SM.out _ _ _ (hn4'.below hb5) hn5).mono ?_; rintro e w6 ⟨rfl, hb6⟩))
                  all_goals
                    have HB6 := Lib.hid (bnext (bnext (bnext HBD.out hb4) hb5) hb6)
                    have HM6 := Lib.hid (((MD.out.below hb4).below hb5).below hb6)
                    clear hb4 hb5 hb6 hn4' hn5 c14
                    go_wp2_with fail
                    go_ret2
                    exact ⟨HB6.out, .inr ⟨HS.out, rfl⟩⟩
              · obtain rfl : j = R := by omega
                go_wp2_with fail
                go_ret2
                exact ⟨HBj.out, .inl ⟨F, _, M.PairOf.of_tab HPO.out HCO.out.lt (by rw [← HER.out]; exact HPRE.out), rfl, HMj.out⟩⟩
          · have hb : (c != 0) = true := by rw [bne_iff_ne]; exact h0
            have H0 := Lib.hid h0
            clear h0
            go_wp2_with fail
            (with_reducible refine HF6.out.mono ?_)
            rintro e w' ⟨rfl, hb1⟩
            have HB1 := Lib.hid (bnext HBk.out hb1)
            clear hb1
            go_wp2_with fail
            go_ret2
            exact ⟨HB1.out, .inr ⟨HNO.out fun h => H0.out (EC.out.symm.trans (M.pform_ok (M.POk.tab h.sym h.lt))), rfl⟩⟩
end Go.Proofs.Ytglehjcohdjhoaa
