/-
  Package decode: Gaps; bools.
-/
import Derived.Test.YtfgfapbhgehfiaaD8
import Derived.Outline
namespace Go.Proofs.Ytfgfapbhgehfiaa
open Go.RowKit
set_option linter.unusedVariables false
set_option maxRecDepth 100000

/-- the slice of bools v reads as bs -/
def Bools (w : World) (v : Value) (bs : List Bool) : Prop :=
  bs.length ≤ 140737488351232 ∧ ∃ A cap, v = .slice A bs.length cap ∧ bs.length ≤ cap ∧ (0 < bs.length → ∃ b off, A = some ⟨b, off, none⟩ ∧ b < w.heap.size ∧ ∀ i, i < bs.length → w.cell? ⟨b, off + i, none⟩ = some (.bool (bs.getD i false)))
theorem Bools.below {w w' : World} {v : Value} {bs : List Bool} (h : Bools w v bs) (hb : Below w.heap.size w w') : Bools w' v bs := by
  obtain ⟨h1, A, cap, e, hc, h⟩ := h
  refine ⟨h1, A, cap, e, hc, fun h0 => ?_⟩
  obtain ⟨b, off, e2, hlt, hcell⟩ := h h0
  exact ⟨b, off, e2, Nat.lt_of_lt_of_le hlt hb.size, fun i hi => (hb.cell (p := ⟨b, off + i, none⟩) hlt).trans (hcell i hi)⟩
namespace M
/-- the places among the first k that are there -/
def thereK (bs : List Bool) (k : Nat) : List Nat := (List.range k).filter fun i => bs.getD i false
theorem thereK_zero (bs : List Bool) : thereK bs 0 = [] := rfl
theorem thereK_yes {bs : List Bool} {k : Nat} (h : bs.getD k false = true) : thereK bs (k + 1) = thereK bs k ++ [k] := by
  unfold thereK
  rw [List.range_succ, List.filter_append, List.filter_cons, h]
  simp
theorem thereK_no {bs : List Bool} {k : Nat} (h : bs.getD k false = false) : thereK bs (k + 1) = thereK bs k := by
  unfold thereK
  rw [List.range_succ, List.filter_append, List.filter_cons, h]
  simp
theorem thereK_len (bs : List Bool) (k : Nat) : (thereK bs k).length ≤ k := by
  have := List.length_filter_le (fun i => bs.getD i false) (List.range k)
  rw [List.length_range] at this
  exact this
theorem thereK_lt {bs : List Bool} {k i : Nat} (h : i ∈ thereK bs k) : i < k := by
  unfold thereK at h
  simp at h
  exact h.1
theorem thereK_nodup (bs : List Bool) (k : Nat) : (thereK bs k).Nodup := List.Pairwise.filter _ List.nodup_range
/-- arguments in order stay so where points are left out -/
theorem DOk.pick {p d : Nat} {xs ys : List Nat} (h : DOk p d xs ys) (hyl : ys.length = xs.length) {l : List Nat} (hl : l.Nodup) (hlt : ∀ i ∈ l, i < xs.length) (hlen : l.length ≤ xs.length) : DOk p d (pick xs l) (pick ys l) where
  isp := h.isp
  d63 := h.d63
  len := by rw [pick_len]; exact Nat.le_trans hlen h.len
  wx := pick_within h.wx hlt
  wy := pick_within h.wy fun i hi => by rw [hyl]; exact hlt i hi
  nod := pick_nodup h.nod hl hlt
theorem pick_snoc (xs l : List Nat) (k : Nat) : pick xs (l ++ [k]) = pick xs l ++ [xs.getD k 0] := by simp [pick]
end M

/-- points at some places, as the cells of a row -/
def ptL (xs ys l : List Nat) : List Value := l.flatMap fun i => [.int .u64 (xs.getD i 0 : Nat), .int .u64 (ys.getD i 0 : Nat)]
theorem ptL_snoc (xs ys l : List Nat) (k : Nat) : ptL xs ys (l ++ [k]) = ptL xs ys l ++ [.int .u64 (xs.getD k 0 : Nat), .int .u64 (ys.getD k 0 : Nat)] := by simp [ptL]
theorem ptRow4_flat (xs ys : List Nat) : ∀ k, ptRow4 xs ys k = (List.range k).flatMap fun i => [.int .u64 (xs.getD i 0 : Nat), .int .u64 (ys.getD i 0 : Nat)]
  | 0 => rfl
  | k + 1 => by
    rw [List.range_succ, List.flatMap_append, ← ptRow4_flat xs ys k]
    simp [ptRow4]
theorem flat_range {β : Type} (f : Nat → List β) : ∀ l : List Nat, l.flatMap f = (List.range l.length).flatMap fun i => f (l.getD i 0)
  | [] => rfl
  | a :: t => by
    rw [List.flatMap_cons, flat_range f t, List.length_cons, List.range_succ_eq_map, List.flatMap_cons, List.flatMap_map]
    simp [List.getD_eq_getElem?_getD]
theorem flat_congr {β : Type} {f g : Nat → List β} : ∀ n, (∀ i, i < n → f i = g i) → (List.range n).flatMap f = (List.range n).flatMap g
  | 0, _ => rfl
  | n + 1, h => by
    rw [List.range_succ, List.flatMap_append, List.flatMap_append, flat_congr n fun i hi => h i (by omega)]
    simp [h n (by omega)]
theorem ptL_row (xs ys l : List Nat) : ptL xs ys l = ptRow4 (M.pick xs l) (M.pick ys l) l.length := by
  unfold ptL
  rw [ptRow4_flat, flat_range]
  refine flat_congr _ fun i hi => ?_
  simp [M.pick, List.getD_eq_getElem?_getD, hi]
theorem pts_of_ptL {w : World} {base : Nat} {v : Value} {xs ys l : List Nat} (hx : ∀ x ∈ xs, x < 18446744073709551616) (hy : ∀ y ∈ ys, y < 18446744073709551616) (hyl : ys.length = xs.length) (hlt : ∀ i ∈ l, i < xs.length) (hl : l.length ≤ 1000)
    (h : w.ownsRow base 64 2 v l.length (ptL xs ys l)) : Pts w v (M.pick xs l) (M.pick ys l) := by
  rw [ptL_row] at h
  refine pts_of_row4 (by rw [M.pick_len, M.pick_len]) (fun x hx' => ?_) (fun y hy' => ?_) (by rw [M.pick_len]; exact hl) (by rw [M.pick_len]; exact h)
  · obtain ⟨i, hi, rfl⟩ := M.pick_mem hx'
    exact hx _ (M.getD_mem (hlt i hi))
  · obtain ⟨i, hi, rfl⟩ := M.pick_mem hy'
    exact hy _ (M.getD_mem (by rw [hyl]; exact hlt i hi))

theorem own_apartG {w : World} {b1 b2 n1 n2 s1 s2 : Nat} {e1 e2 : TypeId} {v1 v2 : Value} {l1 l2 : List Value} (h1 : w.ownsRow b1 e1 s1 v1 n1 l1) (h2 : w.ownsRow b2 e2 s2 v2 n2 l2) (he : e1 ≠ e2) : v1.ownBlock = none ∨ v1.ownBlock ≠ v2.ownBlock := by
  rcases h1.2 with ⟨rfl, _⟩ | ⟨g, cap, cur, rfl, _, hg, _⟩
  · exact .inl rfl
  · refine .inr fun e => ?_
    rcases h2.2 with ⟨rfl, _⟩ | ⟨g2, cap2, cur2, rfl, _, hg2, _⟩
    · simp [Value.ownBlock] at e
    · simp [Value.ownBlock] at e
      subst e
      rw [hg] at hg2
      injection hg2 with hg2
      injection hg2 with _ hg2 _
      exact he hg2
theorem pts_cells {w : World} {A : Option Addr} {n cap : Nat} {xs ys : List Nat} (h : Pts w (.slice A n cap) xs ys) (h0 : 0 < xs.length) : ∃ b off, A = some ⟨b, off, none⟩ ∧ b < w.heap.size ∧ ∀ i, i < xs.length → w.cell? ⟨b, off + i * 2, none⟩ = some (.int .u64 (xs.getD i 0 : Nat)) ∧ w.cell? ⟨b, off + i * 2 + 1, none⟩ = some (.int .u64 (ys.getD i 0 : Nat)) := by
  obtain ⟨_, _, _, _, A', cap', e, _, h5⟩ := h
  simp only [Value.slice.injEq] at e
  obtain ⟨rfl, _, _⟩ := e
  exact h5 h0
theorem bools_cells {w : World} {A : Option Addr} {n cap : Nat} {bs : List Bool} (h : Bools w (.slice A n cap) bs) (h0 : 0 < bs.length) : ∃ b off, A = some ⟨b, off, none⟩ ∧ b < w.heap.size ∧ ∀ i, i < bs.length → w.cell? ⟨b, off + i, none⟩ = some (.bool (bs.getD i false)) := by
  obtain ⟨_, A', cap', e, _, h5⟩ := h
  simp only [Value.slice.injEq] at e
  obtain ⟨rfl, _, _⟩ := e
  exact h5 h0
theorem wpList_append_ptAt {w : World} {ops : Array Oper} {rest : List Oper} {o : Oper} {a : Act} {Q : Exit → Act → World → Prop} (hgd : o.guard = none) (s x : Operand)
    (ho : o.op = .call { callee := .builtin .append, args := #[s, x], argTypes := #[23, 23] }) {base n X x0 y0 : Nat} {tv : Value} {l : List Value} (hs : a.eval s = tv)
    (hx : a.eval x = .slice (some ⟨X, 0, none⟩) 1 1) (hX : w.heap[X]? = some (.cells #[.int .u64 (x0 : Nat), .int .u64 (y0 : Nat)] 64 (0, 0))) (hown : w.ownsRow base 64 2 tv n l) (hn : n ≤ 1000) (hbase : base ≤ w.heap.size)
    (h : ∀ v' w', w'.ownsRow base 64 2 v' (n + 1) (l ++ [.int .u64 (x0 : Nat), .int .u64 (y0 : Nat)]) → w.grownBy w' tv.ownBlock → Below base w w' → wpList Try.prog ops Q rest (a.put o.dst v') w') :
    wpList Try.prog ops Q (o :: rest) a w := by
  obtain ⟨i0, hi0, hz0, hz1, hz2⟩ := info_parts infoPt
  refine wpList_append_own _ hgd s x 23 ho base 64 i0 (.agg #[.int .u64 0, .int .u64 0]) 2 16 Try.underlying23 hi0 hz0 hz1 hz2 rfl (by decide) tv n _ hs hown ⟨X, 0, none⟩ 1 1 [.int .u64 (x0 : Nat), .int .u64 (y0 : Nat)] hx rfl ?_ ?_ ?_ ?_ hbase ?_
  · exact World.news_of_block (cs := #[.int .u64 (x0 : Nat), .int .u64 (y0 : Nat)]) (fr := (0, 0)) hX
  · intro u hu; simp at hu; rcases hu with rfl | rfl <;> rfl
  · unfold maxLen; omega
  · omega
  · intro v' w' hown' hgr _
    have hlt := hown.lt
    exact h v' w' hown' hgr ((Below.refl base w).grown hgr hbase (fun r hr => (hlt r hr).1))

/-- what Gaps answers where the arguments are in order: l the places that are there -/
def GapsEnd (w : World) (p d : Nat) (xs ys l : List Nat) (e : Ending) (w' : World) : Prop :=
  Below w.heap.size w w' ∧ ((l.length < d + 1 ∧ e = .returned (.tuple #[.slice none 0 0, .slice none 0 0, .int .i64 11])) ∨
    (d + 1 ≤ l.length ∧ ((∃ f v u, M.Good p d ((l.length - d - 1) / 2) (M.pick xs l) (M.pick ys l) f ∧ e = .returned (.tuple #[v, u, .int .i64 0]) ∧ Nums w' v f ∧ Ints w' u (M.pick l (M.offI p f (M.pick xs l) (M.pick ys l)))) ∨
      ((∀ f, ¬ M.Good p d ((l.length - d - 1) / 2) (M.pick xs l) (M.pick ys l) f) ∧ e = .returned (.tuple #[.slice none 0 0, .slice none 0 0, .int .i64 12])))))
/-- a row of ints where the first k are replaced by what they point to -/
def mixI (l o : List Nat) (k : Nat) : List Nat := (o.take k).map (fun i => l.getD i 0) ++ o.drop k
theorem mixI_zero (l o : List Nat) : mixI l o 0 = o := by simp [mixI]
theorem mixI_len (l o : List Nat) (k : Nat) : (mixI l o k).length = o.length := by simp [mixI]; omega
theorem mixI_full (l o : List Nat) : mixI l o o.length = M.pick l o := by simp [mixI, M.pick]
theorem mixI_at {l o : List Nat} {k : Nat} (h : k < o.length) : (mixI l o k).getD k 0 = o.getD k 0 := by
  unfold mixI
  rw [List.getD_eq_getElem?_getD, List.getElem?_append_right (by simp; omega)]
  simp [List.getD_eq_getElem?_getD, Nat.min_eq_left (Nat.le_of_lt h)]
theorem mixI_set {l o : List Nat} {k : Nat} (h : k < o.length) : (mixI l o k).set k (l.getD (o.getD k 0) 0) = mixI l o (k + 1) := by
  apply List.ext_getElem?
  intro i
  rw [List.getElem?_set]
  unfold mixI
  by_cases hi : i = k
  · subst hi
    rw [if_pos rfl, if_pos (by simp; omega), List.getElem?_append_left (by simp; omega)]
    simp [List.getD_eq_getElem?_getD, h]
  · rw [if_neg (Ne.symm hi)]
    by_cases hlt : i < k
    · rw [List.getElem?_append_left (by simp; omega), List.getElem?_append_left (by simp; omega)]
      simp [hlt, show i < k + 1 by omega]
    · rw [List.getElem?_append_right (by simp; omega), List.getElem?_append_right (by simp; omega)]
      simp only [List.length_map, List.length_take, Nat.min_eq_left (Nat.le_of_lt h), Nat.min_eq_left (show k + 1 ≤ o.length from h), List.getElem?_drop]
      congr 1
      omega

theorem nums_keep {W : World} {g k : Nat} {z : Int} {v : Value} {zs : List Nat} (h : Nums W v zs) (hc : W.cell? ⟨g, k, none⟩ = some (.int .i64 z)) (u : Value) : Nums (W.setCell ⟨g, k, none⟩ u) v zs := by
  obtain ⟨h1, h2, h3⟩ := h
  refine ⟨h1, h2, ?_⟩
  rcases h3 with h3 | ⟨b, off, cap, e, hcap, hlt, hcell⟩
  · exact .inl h3
  · refine .inr ⟨b, off, cap, e, hcap, by simpa using hlt, fun i hi => ?_⟩
    have h := hcell i hi
    rw [World.cell?_setCell_other _ (a := ⟨g, k, none⟩) (b := ⟨b, off + i, none⟩) _ (fun e2 => by
      rw [← e2, hc] at h
      simp at h)]
    exact h
theorem ints_set (l : List Nat) (k z : Nat) : (ints l).set k (.int .i64 (z : Nat)) = ints (l.set k z) := by
  unfold ints
  rw [List.map_set]
theorem ints_cells {w : World} {A : Option Addr} {n cap : Nat} {l : List Nat} (h : Ints w (.slice A n cap) l) (h0 : 0 < l.length) : ∃ b, A = some ⟨b, 0, none⟩ ∧ b < w.heap.size ∧ ∀ i, i < l.length → w.cell? ⟨b, i, none⟩ = some (.int .i64 (l.getD i 0 : Nat)) := by
  obtain ⟨A', cap', e, _, h5⟩ := h
  simp only [Value.slice.injEq] at e
  obtain ⟨rfl, _, _⟩ := e
  exact h5 h0

set_option maxHeartbeats 8000000 in
theorem gaps_ok (p d : Nat) (v vb : Value) (xs ys : List Nat) (bs : List Bool) (w : World) (hok : M.DOk p d xs ys) (hbl : bs.length = xs.length) (hv : Pts w v xs ys) (hb : Bools w vb bs) :
    Calls Try.prog 22 #[.int .u64 p, .int .i64 d, v, vb] w (GapsEnd w p d xs ys (M.thereK bs xs.length)) := by
  have hud : ∀ b : Bool, undef ≠ Value.bool b := fun b h => by cases h
  obtain ⟨h3, hp⟩ := M.pos_of hok.isp
  have hc := dcheck_any p d v xs ys w (by omega) hv
  rw [hok.chk] at hc
  have HC := Lib.hid hc
  have HV := Lib.hid hv
  have HBB := Lib.hid hb
  have HOK := Lib.hid hok
  have hR := hok.len
  obtain ⟨A, cap, rfl, hcap, hC⟩ := hv.2.2.2.2
  obtain ⟨Ab, cb, rfl, hcb, hD⟩ := hb.2
  obtain ⟨R, eR⟩ : ∃ R, xs.length = R := ⟨_, rfl⟩
  have HER := Lib.hid eR
  have HBL := Lib.hid (hbl.trans eR)
  rw [hbl, eR]
  rw [eR] at HC hR
  obtain ⟨l, el⟩ : ∃ l, l = M.thereK bs R := ⟨_, rfl⟩
  rw [← el]
  have HEL := Lib.hid el
  unfold GapsEnd
  clear hc hv hb hok hC hD hcap hcb eR hbl el
  go_enter Try.func22, Try.ntmps22
  go_wp2_with fail
  refine HC.out.mono ?_
  rintro e w1 ⟨rfl, hb⟩
  have B1 := Lib.hid hb
  have V1 := Lib.hid (HV.out.below hb)
  have C1 := Lib.hid (HBB.out.below hb)
  clear hb HV HBB HC
  go_wp2
  go_loopw [12, 13, 35] (fun tp ti t wr => ∃ k : Nat, k ≤ R ∧ t = .int .i64 k ∧ wr.ownsRow w1.heap.size 64 2 tp (M.thereK bs k).length (ptL xs ys (M.thereK bs k)) ∧ wr.ownsRow w1.heap.size 3 1 ti (M.thereK bs k).length (ints (M.thereK bs k)) ∧ Below w1.heap.size w1 wr) (fun _ _ t _ => R - (intOf t).toNat)
  case atStart => exact ⟨0, by omega, rfl, World.ownsRow_nil _ _ _ _, World.ownsRow_nil _ _ _ _, Below.refl _ _⟩
  case round =>
    obtain ⟨k, hk, rfl, hp1, hp2, hB⟩ := hrel
    have HP1 := Lib.hid hp1
    have HP2 := Lib.hid hp2
    have HB := Lib.hid hB
    have hln := M.thereK_len bs k
    clear hp1 hp2 hB
    by_cases hlt : k < R
    · obtain ⟨b, off, rfl, hb, hcell⟩ := pts_cells V1.out (by rw [HER.out]; omega)
      obtain ⟨bb, ob, rfl, hbb, hcb⟩ := bools_cells C1.out (by rw [HBL.out]; omega)
      have hbs := HB.out.size
      have hc1 := (HB.out.cell (p := ⟨b, off + k * 2, none⟩) hb).trans (hcell k (by rw [HER.out]; exact hlt)).1
      have hc2 := (HB.out.cell (p := ⟨b, off + k * 2 + 1, none⟩) hb).trans (hcell k (by rw [HER.out]; exact hlt)).2
      have hc3 := (HB.out.cell (p := ⟨bb, ob + k, none⟩) hbb).trans (hcb k (by rw [HBL.out]; exact hlt))
      have hb1 : wr.heap.size ≠ b := by omega
      have hb2 : wr.heap.size ≠ bb := by omega
      have hb3 : bb ≠ wr.heap.size := by omega
      have hb4 : bb < wr.heap.size := by omega
      have hy1 := fun h => M.thereK_yes (bs := bs) (k := k) h
      have hn1 := fun h => M.thereK_no (bs := bs) (k := k) h
      have hsn := ptL_snoc xs ys (M.thereK bs k) k
      obtain ⟨x, hx⟩ : ∃ x, x = xs.getD k 0 := ⟨_, rfl⟩
      obtain ⟨y, hy⟩ : ∃ y, y = ys.getD k 0 := ⟨_, rfl⟩
      obtain ⟨z, hz⟩ : ∃ z, z = bs.getD k false := ⟨_, rfl⟩
      rw [← hx] at hc1 hsn
      rw [← hy] at hc2 hsn
      rw [← hz] at hc3 hy1 hn1
      have HY1 := Lib.hid hy1
      have HN1 := Lib.hid hn1
      have HSN := Lib.hid hsn
      obtain ⟨WP, eWP⟩ : ∃ W, W = wr.alloc (.cells #[.int .u64 (x : Nat), .int .u64 (y : Nat)] 64) := ⟨_, rfl⟩
      clear hx hy hz hcell hcb hy1 hn1 hsn eWP
      cases z with
      | false =>
        go_wp2
        go_roundw
        case rel => exact ⟨k + 1, by omega, by go_num, by rw [HN1.out rfl]; exact HP1.out.alloc _, by rw [HN1.out rfl]; exact HP2.out.alloc _, HB.out.alloc hbs _⟩
        case measure => simp [intOf]; omega
      | true =>
        have HX := Lib.hid (show ((wr.alloc (.cells #[.int .u64 (x : Nat), .int .u64 (y : Nat)] 64)).alloc (.cells #[.int .u64 (x : Nat), .int .u64 (y : Nat)] 64)).heap[wr.heap.size + 1]? = some (.cells #[.int .u64 (x : Nat), .int .u64 (y : Nat)] 64 (0, 0)) by
          have h := heap_alloc_new (wr.alloc (.cells #[.int .u64 (x : Nat), .int .u64 (y : Nat)] 64)) (.cells #[.int .u64 (x : Nat), .int .u64 (y : Nat)] 64)
          rw [World.size_alloc] at h
          exact h)
        have HO1 := Lib.hid ((HP1.out.alloc (.cells #[.int .u64 (x : Nat), .int .u64 (y : Nat)] 64)).alloc (.cells #[.int .u64 (x : Nat), .int .u64 (y : Nat)] 64))
        have HO2 := Lib.hid ((HP2.out.alloc (.cells #[.int .u64 (x : Nat), .int .u64 (y : Nat)] 64)).alloc (.cells #[.int .u64 (x : Nat), .int .u64 (y : Nat)] 64))
        have HB2 := Lib.hid ((HB.out.alloc hbs (.cells #[.int .u64 (x : Nat), .int .u64 (y : Nat)] 64)).alloc (by simp; omega) (.cells #[.int .u64 (x : Nat), .int .u64 (y : Nat)] 64))
        go_wp2_with (first
          | (at_builtin; refine wpList_append_ptAt (X := wr.heap.size + 1) rfl _ _ rfl rfl (by rfl) HX.out HO1.out (by omega) HB2.out.size ?_; intro v1 w2 ho1 hg1 hb1'; have HQ := Lib.hid (HO2.out.kept hg1 (own_apartG HO2.out HO1.out (by decide))); have HB3 := Lib.hid (HB2.out.trans hb1'); have hs3 := HB3.out.size; have HQ2 := Lib.hid (HQ.out.alloc (.cells #[.int .i64 (k : Nat)] 3)); have HR2 := Lib.hid (ho1.alloc (.cells #[.int .i64 (k : Nat)] 3)); have hs4 : w1.heap.size ≤ (w2.alloc (.cells #[.int .i64 (k : Nat)] 3)).heap.size := (by simp; omega); have HX2 := Lib.hid (heap_alloc_new w2 (.cells #[.int .i64 (k : Nat)] 3)); clear ho1 hg1 hb1')
          | (at_builtin; refine wpList_append_intAt (X := w2.heap.size) rfl _ _ rfl rfl (by rfl) HX2.out HQ2.out (by omega) hs4 ?_; intro v2 w3 ho2 hg2 hb2'))
        have HR3 := Lib.hid (HR2.out.kept hg2 (own_apartG HR2.out HQ2.out (by decide)))
        have HB4 := Lib.hid ((HB3.out.alloc hs3 (.cells #[.int .i64 (k : Nat)] 3)).trans hb2')
        have HQ3 := Lib.hid ho2
        clear ho2 hg2 hb2'
        go_roundw
        case rel => exact ⟨k + 1, by omega, by go_num, by rw [HY1.out rfl, HSN.out, List.length_append]; exact HR3.out, by rw [HY1.out rfl, ints_snoc, List.length_append]; exact HQ3.out, HB4.out⟩
        case measure => simp [intOf]; omega
    · obtain rfl : R = k := by omega
      have hl := M.thereK_len bs R
      have hpick := HOK.out.pick (l := M.thereK bs R) (by have := V1.out.1; exact this) (M.thereK_nodup bs R) (fun i hi => by rw [HER.out]; exact M.thereK_lt hi) (by rw [HER.out]; exact hl)
      have hpts := pts_of_ptL (w := wr) (xs := xs) (ys := ys) (l := M.thereK bs R) V1.out.2.2.1 V1.out.2.2.2.1 V1.out.1 (fun i hi => by rw [HER.out]; exact M.thereK_lt hi) (by omega) HP1.out
      have el := HEL.out
      have hll : ∀ i ∈ l, i < R := fun i hi => by rw [el] at hi; exact M.thereK_lt hi
      rw [← el] at hpick hpts hl HP1 HP2
      have HPL := Lib.hid hpts
      have HPK := Lib.hid hpick
      have HLL := Lib.hid hll
      have hxl : (M.pick xs l).length = l.length := M.pick_len xs l
      obtain ⟨A2, c2, rfl, _⟩ := hpts.2.2.2.2
      obtain ⟨A3, c3, rfl⟩ := ints_slice (ints_of_owns HP2.out)
      have BW := Lib.hid (bnext B1.out HB.out)
      rw [hxl] at HPL
      by_cases hfew : l.length < d + 1
      · have hE : M.bestE p d (M.pick xs l) (M.pick ys l) = 11 := by
          unfold M.bestE
          rw [if_neg (by simp [hpick.chk]), if_pos]
          unfold M.most
          rw [if_pos (by rw [hxl]; omega)]
          decide
        have hbf := best_fail p d (.slice A2 l.length c2) (M.pick xs l) (M.pick ys l) wr (by omega) (by omega) (by have := hpick.d63; omega) HPL.out (by rw [hE]; decide)
        rw [hE] at hbf
        have HBF := Lib.hid hbf
        rw [hxl]
        clear hbf hE hpick hpts hll el HB HP1 hxl
        go_wp2_with fail
        refine HBF.out.mono ?_
        rintro e w5 ⟨rfl, hb⟩
        have B5 := Lib.hid (bnext BW.out hb)
        clear hb
        go_wp2
        go_loopw [63] (fun t wx => t = .int .i64 0 ∧ Below w5.heap.size w5 wx) (fun _ _ => 0)
        case atStart => exact ⟨rfl, Below.refl _ _⟩
        case round =>
          obtain ⟨rfl, hB⟩ := hrel
          have HB6 := Lib.hid hB
          clear hB
          go_wp2
          go_ret3
          exact ⟨bnext B5.out HB6.out, .inl ⟨hfew, rfl⟩⟩
      · have hn : d + 1 ≤ l.length := by omega
        have hbf := best_ok p d (.slice A2 l.length c2) (M.pick xs l) (M.pick ys l) wr hpick (by rw [hxl]; exact hn) HPL.out
        rw [hxl] at hbf
        unfold DecEnd at hbf
        have HBF := Lib.hid hbf
        have HI3 := Lib.hid (ints_of_owns HP2.out)
        clear hbf hpts hll el HB HP1 hfew
        go_wp2_with fail
        refine HBF.out.mono ?_
        rintro e w5 ⟨hb, ⟨f, v1, u, hg, rfl, hf, ho⟩ | ⟨hno, rfl⟩⟩
        · have B5 := Lib.hid (bnext BW.out hb)
          have HG := Lib.hid hg
          have HF := Lib.hid hf
          have HO := Lib.hid ho
          have HI5 := Lib.hid (HI3.out.below hb)
          have hs5 := hb.size
          have HB5 := Lib.hid hb
          have hol : ∀ i ∈ M.offI p f (M.pick xs l) (M.pick ys l), i < l.length := fun i hi => by have := (M.offI_mem.1 hi).1; rwa [hxl] at this
          have hol2 : (M.offI p f (M.pick xs l) (M.pick ys l)).length ≤ l.length := by have := M.offK_len p f (M.pick xs l) (M.pick ys l) (M.pick xs l).length; rw [M.offK_all, hxl] at this; exact this
          obtain ⟨o, eo⟩ : ∃ o, o = M.offI p f (M.pick xs l) (M.pick ys l) := ⟨_, rfl⟩
          rw [← eo] at HO hol hol2
          have HEO := Lib.hid eo
          have HOL := Lib.hid hol
          obtain ⟨Af, cf, rfl⟩ := nums_slice' hf
          obtain ⟨Au, cu, rfl⟩ := ints_slice (ints_of_owns ho)
          rw [← eo] at HO ⊢
          clear hb hg hf ho hol eo hpick
          obtain ⟨bw, ebw⟩ : ∃ b, b = wr.heap.size := ⟨_, rfl⟩
          have HKP := Lib.hid fun (W : World) (hW : Below bw w5 W) => HI3.out.below (Below.trans (B := wr.heap.size) HB5.out (ebw ▸ hW))
          have HWX := Lib.hid fun (W : World) (hW : Below bw w5 W) => bnext BW.out (Below.trans (B := wr.heap.size) HB5.out (ebw ▸ hW))
          rw [← ebw] at HO hs5
          have HO0 := Lib.hid (show w5.ownsRow bw 3 1 (.slice Au o.length cu) o.length (ints (mixI l o 0)) by rw [mixI_zero]; exact HO.out)
          have HBW := Lib.hid (show w.heap.size ≤ bw by rw [ebw]; exact BW.out.size)
          clear ebw HO
          go_wp2
          go_loopw [63] (fun t wx => ∃ k : Nat, k ≤ o.length ∧ t = .int .i64 k ∧ wx.ownsRow bw 3 1 (.slice Au o.length cu) o.length (ints (mixI l o k)) ∧ Nums wx (.slice Af f.length cf) f ∧ Below bw w5 wx) (fun t _ => o.length - (intOf t).toNat)
          case atStart => exact ⟨0, by omega, rfl, HO0.out, HF.out, Below.refl _ _⟩
          case round =>
            obtain ⟨k, hk, rfl, hx, hff, hB⟩ := hrel
            have HX := Lib.hid hx
            have HFF := Lib.hid hff
            have HBX := Lib.hid hB
            clear hx hB hff
            by_cases hlt2 : k < o.length
            · obtain ⟨gu, cu', e, hgb, hgl⟩ := HX.out.form (by omega)
              simp only [Value.slice.injEq] at e
              obtain ⟨rfl, _, rfl⟩ := e
              obtain ⟨b3, rfl, hb3, hc3⟩ := ints_cells (HKP.out _ HBX.out) (by have := HOL.out _ (M.getD_mem hlt2); omega)
              have hix := HOL.out _ (M.getD_mem hlt2)
              have hc1 := HX.out.cells (g := gu) rfl k (.int .i64 (o.getD k 0 : Nat)) (by unfold ints; rw [List.getElem?_map, ← mixI_at (l := l) hlt2, List.getD_eq_getElem?_getD, List.getElem?_eq_getElem (by rw [mixI_len]; exact hlt2)]; rfl)
              rw [Addr.add_lit, Nat.zero_add] at hc1
              have hc2 := hc3 _ hix
              have hst := HX.out.stored k (.int .i64 ((l.getD (o.getD k 0) 0 : Nat) : Int))
              rw [ints_set, mixI_set hlt2] at hst
              have hfr : wr.frozen? ⟨gu, k, none⟩ = false := HX.out.frozenAt k
              obtain ⟨ix, eix⟩ : ∃ ix, ix = o.getD k 0 := ⟨_, rfl⟩
              rw [← eix] at hc1 hc2 hix hst
              obtain ⟨z, ez⟩ : ∃ z, z = l.getD ix 0 := ⟨_, rfl⟩
              rw [← ez] at hc2 hst
              have HS := Lib.hid hst
              have HFK := Lib.hid (nums_keep HFF.out hc1 (.int .i64 (z : Nat)))
              clear eix ez hc3 hst
              go_wp2
              go_roundw
              case rel => exact ⟨k + 1, by omega, by go_num, HS.out.1, HFK.out, HBX.out.setCell (p := ⟨gu, k, none⟩) hgb _⟩
              case measure => simp [intOf]; omega
            · obtain rfl : k = o.length := by omega
              have hfin := ints_of_owns HX.out
              rw [mixI_full] at hfin
              have HFIN := Lib.hid hfin
              clear hfin
              go_wp2
              go_ret3
              exact ⟨HWX.out _ HBX.out, .inr ⟨hn, .inl ⟨f, _, _, HG.out, rfl, HFF.out, by rw [← HEO.out]; exact HFIN.out⟩⟩⟩
        · have B5 := Lib.hid (bnext BW.out hb)
          have HN := Lib.hid hno
          clear hb hno hpick
          go_wp2
          go_loopw [63] (fun t wx => t = .int .i64 0 ∧ Below w5.heap.size w5 wx) (fun _ _ => 0)
          case atStart => exact ⟨rfl, Below.refl _ _⟩
          case round =>
            obtain ⟨rfl, hB⟩ := hrel
            have HB6 := Lib.hid hB
            clear hB
            go_wp2
            go_ret3
            exact ⟨bnext B5.out HB6.out, .inr ⟨hn, .inr ⟨HN.out, rfl⟩⟩⟩
end Go.Proofs.Ytfgfapbhgehfiaa
