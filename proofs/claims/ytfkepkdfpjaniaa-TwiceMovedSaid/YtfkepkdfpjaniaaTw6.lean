/-
  Package twice of the program: whole.
-/
import Derived.Test.YtfkepkdfpjaniaaTw3
import Derived.Test.YtfkepkdfpjaniaaP7m
import Derived.Test.YtfkepkdfpjaniaaP7r
import Derived.Test.YtfkepkdfpjaniaaLE
import Derived.Test.YtfkepkdfpjaniaaP7b
namespace Go.Proofs.Ytfkepkdfpjaniaa
open Go.RowKit Go.Shelf
set_option linter.unusedVariables false
attribute [local go_sem] Oper.semAt_some

/-- a slice that reads as row j of m, wherever W has come from w -/
def RdM (w0 : World) (m : List (List Nat)) (j : Nat) (x : Sl) : Prop := x.2.1 = (m.getD j []).length ∧ Nums w0 (.slice x.1 x.2.1 x.2.2) (m.getD j [])
/-- what slices.Backward reads of a matrix that the rounds leave alone -/
theorem read_rows {w : World} {A : Option Addr} {m : List (List Nat)} {cap0 : Nat} (hM : Mat w (.slice A m.length cap0) m) (cap Bs : Nat) {w0 : World} (hw : Below w.heap.size w w0) (hBs : Bs < w0.heap.size) (hb : w0.cell? ⟨Bs, 0, none⟩ = some (.slice A m.length cap)) :
    ∀ W W', Below w0.heap.size w0 W → KB w.heap.size Bs W W' → W'.cell? ⟨Bs, 0, none⟩ = some (.slice A m.length cap) ∧ ∀ j, j < m.length → ∃ (b off : Nat) (x : Sl), A = some ⟨b, off, none⟩ ∧ W'.cell? ⟨b, off + j, none⟩ = some (.slice x.1 x.2.1 x.2.2) ∧ RdM w m j x := by
  intro W W' h1 h2
  refine ⟨h2.2.trans ((h1.cell (p := ⟨Bs, 0, none⟩) hBs).trans hb), fun j hj => ?_⟩
  obtain ⟨b, off, rfl, hl, hc⟩ := (mat_row hM).2 (by omega)
  obtain ⟨Au, cu, ck, hn, _⟩ := hc j hj
  refine ⟨b, off, (Au, (m.getD j []).length, cu), rfl, ?_, rfl, hn⟩
  rw [h2.1.cell (p := ⟨b, off + j, none⟩) hl, h1.cell (p := ⟨b, off + j, none⟩) (Nat.lt_of_lt_of_le hl hw.size), hw.cell (p := ⟨b, off + j, none⟩) hl, ck]

theorem numsTurn7 {X W : World} {v : Value} {zs : List Nat} {row : Option Nat} (h : Nums X v zs) (hg : X.grownBy W row) (hr : ∀ r, row = some r → ∃ o : Obj, X.heap[r]? = some o ∧ o.isCells = false) : Nums W v zs := by
  obtain ⟨h1, h2, h3⟩ := h
  refine ⟨h1, h2, ?_⟩
  rcases h3 with h3 | ⟨b, off, cap, e, hc, hb, hcell⟩
  · exact .inl h3
  · exact .inr ⟨b, off, cap, e, hc, Nat.lt_of_lt_of_le hb hg.size, fun i hi => cell_kept (hcell i hi) hg hr⟩
theorem keeps_of_below {W W' : World} (h : Below W.heap.size W W') (B : Nat) : KeepsFrom B W W' := ⟨h.size, fun k o _ hk _ => (h.block k (Array.getElem?_eq_some_iff.1 hk).1).trans hk⟩
theorem boxBelow {W W' : World} {B n : Nat} {t : TypeId} {v : Value} (h : Boxed W B t v) (hb : Below n W W') (hB : B < n) : Boxed W' B t v := (hb.block B hB).trans h
theorem nums_set_box {w : World} {v u : Value} {zs : List Nat} {B : Nat} {t : TypeId} {A : Option Addr} {l c : Nat} (h : Nums w v zs) (hB : w.heap[B]? = some (.cells #[.slice A l c] t (0, 0))) : Nums (w.setCell ⟨B, 0, none⟩ u) v zs := by
  obtain ⟨h1, h2, h3⟩ := h
  refine ⟨h1, h2, ?_⟩
  rcases h3 with h3 | ⟨b, off, cap, e, hcap, hl, hcell⟩
  · exact .inl h3
  · refine .inr ⟨b, off, cap, e, hcap, by simpa using hl, fun i hi => ?_⟩
    have h4 := hcell i hi
    have hbB : b ≠ B := by
      rintro rfl
      rw [cell_of_row w b _ #[.slice A l c] t (0, 0) hB] at h4
      rcases Nat.eq_zero_or_pos (off + i) with h0 | h0
      · rw [h0] at h4; simp at h4
      · rw [Array.getElem?_eq_none (by simp; omega)] at h4; cases h4
    have hh := Below.heap_setCell w ⟨B, 0, none⟩ u b hbB
    unfold World.cell? at h4 ⊢
    rw [hh]
    exact h4
theorem nums_set_errno {w : World} {v u : Value} {zs : List Nat} {B : Nat} {t : TypeId} {x : Int} (h : Nums w v zs) (hB : w.heap[B]? = some (.cells #[.int .i64 x] t (0, 0))) : Nums (w.setCell ⟨B, 0, none⟩ u) v zs := by
  obtain ⟨h1, h2, h3⟩ := h
  refine ⟨h1, h2, ?_⟩
  rcases h3 with h3 | ⟨b, off, cap, e, hcap, hl, hcell⟩
  · exact .inl h3
  · refine .inr ⟨b, off, cap, e, hcap, by simpa using hl, fun i hi => ?_⟩
    have h4 := hcell i hi
    have hbB : b ≠ B := by
      rintro rfl
      rw [cell_of_row w b _ #[.int .i64 x] t (0, 0) hB] at h4
      rcases Nat.eq_zero_or_pos (off + i) with h0 | h0
      · rw [h0] at h4; simp at h4
      · rw [Array.getElem?_eq_none (by simp; omega)] at h4; cases h4
    have hh := Below.heap_setCell w ⟨B, 0, none⟩ u b hbB
    unfold World.cell? at h4 ⊢
    rw [hh]
    exact h4
theorem downR_len {len : Nat} {Rd : Nat → Sl → Prop} {l : List (PlcR len Rd)} {n k : Nat} (h : fstsR l = down n k) (h2 : fstsR l = down n n) : k = n := by
  have := congrArg List.length (h.symm.trans h2)
  rwa [down_len, down_len] at this

set_option maxRecDepth 100000 in
set_option maxHeartbeats 4000000 in
theorem twhole_any (p n : Nat) (v : Value) (m : List (List Nat)) (w : World) (hi : M.isP p = true) (hn : n ≤ 4) (hm : M.TOk p n m) (hv : Mat w v m) :
    Calls Try.prog 60 #[.int .u64 p, v] w (Gives2 w (M.wholeK p m n)) := by
  obtain ⟨h3, hp⟩ := M.pos_of hi
  obtain ⟨A, cap, rfl, _, hlen, _⟩ := mat_view6 hv
  have HV := Lib.hid hv
  have HOK := Lib.hid hm
  have HI := Lib.hid hi
  have HWH := Lib.hid (M.hor_whole (p := p) (by omega) m n)
  have hml := hm.len
  clear hm hv hi
  refine (callsIn_wide (n := 8)).1 ?_
  refine callsIn_of_wp_marks Try.func60 rfl trivial ?_ rfl
  simp only [Try.ntmps60, List.size_toArray, List.length_cons, List.length_nil, Nat.reduceAdd, Nat.reduceSub, Array.replicate_succ, Array.replicate_zero, List.push_toArray, List.append_toArray, List.nil_append, List.cons_append]
  gi_wp2_with (refine ⟨trivial, ?_⟩; gi_at_call 85; refine (backR_in Fence.wide _ trivial rfl _ _ _ _).mono ?_; rintro e w' ⟨rfl, rfl⟩)
  obtain ⟨W0, hW0⟩ : ∃ W0, ((((((w.alloc (.cells #[.int .u64 p] 22)).alloc (.cells #[.slice none 0 0] 31)).alloc (.cells #[.int .i64 0] 26)).alloc (.cells #[.slice none 0 0] 31))).alloc (.cells #[.slice A n cap] 25)) = W0 := ⟨_, rfl⟩
  have hsz0 : W0.heap.size = w.heap.size + 5 := by rw [← hW0]; simp
  have hB0 : Below w.heap.size w W0 := by rw [← hW0]; exact (((((Below.refl _ _).alloc (Nat.le_refl _) _).alloc (by simp) _).alloc (by simp; omega) _).alloc (by simp; omega) _).alloc (by simp; omega) _
  have bP := ((((Boxed.new w 22 (.int .u64 p)).alloc (.cells #[.slice none 0 0] 31)).alloc (.cells #[.int .i64 0] 26)).alloc (.cells #[.slice none 0 0] 31)).alloc (.cells #[.slice A n cap] 25)
  have bR := (((Boxed.new (w.alloc (.cells #[.int .u64 p] 22)) 31 (.slice none 0 0)).alloc (.cells #[.int .i64 0] 26)).alloc (.cells #[.slice none 0 0] 31)).alloc (.cells #[.slice A n cap] 25)
  have bE := ((Boxed.new ((w.alloc (.cells #[.int .u64 p] 22)).alloc (.cells #[.slice none 0 0] 31)) 26 (.int .i64 0)).alloc (.cells #[.slice none 0 0] 31)).alloc (.cells #[.slice A n cap] 25)
  have bS := (Boxed.new (((w.alloc (.cells #[.int .u64 p] 22)).alloc (.cells #[.slice none 0 0] 31)).alloc (.cells #[.int .i64 0] 26)) 31 (.slice none 0 0)).alloc (.cells #[.slice A n cap] 25)
  have bB := Boxed.new ((((w.alloc (.cells #[.int .u64 p] 22)).alloc (.cells #[.slice none 0 0] 31)).alloc (.cells #[.int .i64 0] 26)).alloc (.cells #[.slice none 0 0] 31)) 25 (.slice A n cap)
  simp only [World.size_alloc] at bR bE bS bB
  rw [hW0] at bP bR bE bS bB ⊢
  have hrr := read_rows (w0 := W0) HV.out cap (w.heap.size + 1 + 1 + 1 + 1) hB0 (by omega) (by rw [hml]; exact bB.cell)
  rw [hml] at hrr
  refine wpIn_rangeFunc_ownG rfl (by decide) (gf := 102) (lb := #[.pointer (some ⟨w.heap.size + 1 + 1 + 1 + 1, 0, none⟩)]) rfl trivial (enters_of Try.func102 (by kernel_rfl) rfl)
    (backR_stops Fence.wide _ trivial rfl (by decide) (w.heap.size + 1 + 1 + 1 + 1) n cap A (RdM w m) (by omega) (KB w.heap.size (w.heap.size + 1 + 1 + 1 + 1)) (KB.refl _ _) KB.trans W0 hrr) KB.trans (kb_b (by omega) (by omega)) (Below.refl _ _) (fun _ => rfl)
    (fun pre W => (∃ (zs : List Nat) (vs : Value), ((∀ k, k ≤ n → fstsR pre = down n k → zs = M.hor p m n k) ∧ zs.length ≤ n + pre.length ∧ M.within p zs = true) ∧ Nums W vs zs ∧ w.heap.size + 5 ≤ W.heap.size ∧ Boxed W w.heap.size 22 (.int .u64 p) ∧ Boxed W (w.heap.size + 1) 31 (.slice none 0 0) ∧ Boxed W (w.heap.size + 1 + 1) 26 (.int .i64 0) ∧ Boxed W (w.heap.size + 1 + 1 + 1) 31 vs) ∧ Below w.heap.size w W)
    (fun _ _ _ => False)
    (OwnFrom.and (Own.from (fun s A B row hs hg hr => by obtain ⟨zs, vs, g1, g3, g8, g4, g5, g6, g7⟩ := hs; exact ⟨zs, vs, g1, numsTurn7 g3 hg hr, Nat.le_trans g8 hg.size, boxTurn g4 hg hr, boxTurn g5 hg hr, boxTurn g6 hg hr, boxTurn g7 hg hr⟩) _) (ownFrom_below (Nat.le_refl _) (by omega)))
    (fun _ _ _ _ _ hs _ _ => hs)
    ⟨⟨[], .slice none 0 0, ⟨?start, Nat.zero_le _, rfl⟩, ⟨by simp, by simp, .inl ⟨none, 0, rfl, rfl, fun _ => rfl⟩⟩, by omega, bP, bR, bE, bS⟩, hB0⟩
    (fun y => { tmps := #[.int .u64 p, .slice A n cap, .pointer (some ⟨w.heap.size, 0, none⟩), undef, .pointer (some ⟨w.heap.size + 1, 0, none⟩), .pointer (some ⟨w.heap.size + 1 + 1, 0, none⟩), .pointer (some ⟨w.heap.size + 1 + 1 + 1, 0, none⟩), undef,
      .slice y.1.2.1 y.1.2.2.1 y.1.2.2.2, undef, undef, .slice A n cap, .func (.func 102) #[] #[.pointer (some ⟨w.heap.size + 1 + 1 + 1 + 1, 0, none⟩)], .int .i64 (y.1.1 : Nat), .slice y.1.2.1 y.1.2.2.1 y.1.2.2.2,
      undef, undef, undef, undef, undef, undef, undef, undef, undef, undef, undef, undef, undef], defers := [] }) ?assign ?body ?done ?stop
  case start =>
    intro k hk e
    have := congrArg List.length e
    rw [down_len] at this
    obtain rfl : k = 0 := by simpa [fstsR] using this.symm
    rfl
  case assign =>
    intro l y W K hK
    gi_wp2
    exact hK
  case stop =>
    rintro D c pre W _ _ h _
    exact h.elim
  case body =>
    rintro l pre y W ⟨⟨zs, vs, ⟨hgood, hzl, hzw⟩, hN, hsz, b1, b2, b3, b4⟩, hB⟩ hlen
    have hy1 := y.2.1
    obtain ⟨hyl, hyn⟩ := y.2.2
    have hfl := HOK.out.rows y.1.1 hy1
    have hfw := HOK.out.lt y.1.1 hy1
    have hg2 : ∀ k, k ≤ n → fstsR (pre ++ [y]) = down n k → M.padd p (m.getD y.1.1 []) (0 :: zs) = M.hor p m n k := by
      intro k hk e
      obtain ⟨k', rfl, e1, e2⟩ := downR_snoc e
      rw [hgood k' (by omega) e1, e2]
      rfl
    obtain ⟨f, ef⟩ : ∃ f, f = m.getD y.1.1 [] := ⟨_, rfl⟩
    rw [← ef] at hfl hfw hg2 hyl hyn
    obtain ⟨Af, lf, cf, ey⟩ : ∃ a b c, y.1.2 = (a, b, c) := ⟨_, _, _, rfl⟩
    rw [ey] at hyl hyn ⊢
    dsimp only at hyl hyn ⊢
    subst hyl
    have hxw : M.within p (0 :: zs) = true := by
      unfold M.within at hzw ⊢
      rw [List.all_cons, hzw]; simp; omega
    have hxl : (0 :: zs).length ≤ n + (pre ++ [y]).length := by simp; omega
    have hpl : (M.padd p f (0 :: zs)).length ≤ n + (pre ++ [y]).length := Nat.le_trans (M.poly_len _ _ _) (by simp at hxl ⊢; omega)
    have hpw : M.within p (M.padd p f (0 :: zs)) = true := M.poly_within (by omega) _ _
    have HTX := Lib.hid fun W' V (h : Nums W' V zs) => timesX_any V zs W' (by omega) h
    have HAD := Lib.hid fun W' V (h : Nums W' (.slice Af f.length cf) f) (h2 : Nums W' V (0 :: zs)) => add2_ok p _ V f (0 :: zs) W' h h2 (by rw [M.rgt_two, if_pos (M.chk_of HI.out (by omega) hfw)]; exact M.chk_of HI.out (by simp at hxl ⊢; omega) hxw)
    obtain ⟨q, eq⟩ : ∃ q, q = M.padd p f (0 :: zs) := ⟨_, rfl⟩
    rw [← eq] at hg2 hpl hpw HAD
    have HG := Lib.hid (And.intro hg2 (And.intro hpl hpw))
    have HYN := Lib.hid hyn
    have HN := Lib.hid hN
    have HB := Lib.hid hB
    obtain ⟨Av, cv, rfl⟩ := nums_slice' hN
    obtain ⟨ZL, eZL⟩ : ∃ ZL, ZL = zs.length := ⟨_, rfl⟩
    obtain ⟨FL, eFL⟩ : ∃ FL, FL = f.length := ⟨_, rfl⟩
    rw [← eZL] at HN b4
    rw [← eFL] at HYN HAD
    rw [← eFL]
    have hc1 := b1.cell
    have hc4 := b4.cell
    have P1 := Lib.hid b1
    have P2 := Lib.hid b2
    have P3 := Lib.hid b3
    have P4 := Lib.hid b4
    clear hgood hzl hzw hN b1 b2 b3 b4 hB hfl hfw hg2 hyn hpl hpw hxw hxl eq eZL eFL ef bP bR bE bS bB hW0 hB0 hrr
    gi_wp2
    have q0 : w.heap.size < W.heap.size := by omega
    have q3 : w.heap.size + 1 + 1 + 1 < W.heap.size := by omega
    refine wpIn_region_lexR (S := fun W' => W'.cell? ⟨w.heap.size, 0, none⟩ = some (.int .u64 (p : Nat)) ∧ W'.cell? ⟨w.heap.size + 1 + 1 + 1, 0, none⟩ = some (.slice Av ZL cv)) (by kernel_rfl) (by kernel_rfl) (by kernel_rfl) (fun _ _ _ _ _ h => h) ⟨hc1, hc4⟩ ?_
    repeat (first
      | (refine LexH.yield (v := ?_) (by rfl) ?_ ?_; rotate_left 1; (· intro w hSw; (try dsimp only at hSw); go_simp; try with_reducible rfl); (try simp only [Act.put, List.setIfInBounds_toArray, List.set_cons_zero, List.set_cons_succ]))
      | (refine LexH.alone (by rfl) (by kernel_rfl) (fun K hKK => ?_); go_simp; go_at_call 87; (with_reducible refine (HTX.out _ _ (HN.out.below (Below.refl _ _).drew)).mono ?_); rintro e w4 ⟨v4, rfl, hn4, hb4⟩; have s1 : w4.cell? ⟨w.heap.size, 0, none⟩ = some (.int .u64 (p : Nat)) := (hb4.cell (p := ⟨w.heap.size, 0, none⟩) q0).trans hc1; have s2 : w4.cell? ⟨w.heap.size + 1 + 1 + 1, 0, none⟩ = some (.slice Av ZL cv) := (hb4.cell (p := ⟨w.heap.size + 1 + 1 + 1, 0, none⟩) q3).trans hc4; go_wp2_with fail; refine hKK.out _ _ ⟨s1, s2⟩ (fun hHeld => ?_); clear hKK K hHeld; (try simp only [Act.put, List.setIfInBounds_toArray, List.set_cons_zero, List.set_cons_succ]))
      | (refine LexH.alone (by rfl) (by kernel_rfl) (fun K hKK => ?_); go_simp; go_at_call 86; (with_reducible refine (HAD.out _ _ (((HYN.out.below HB.out).below (Below.refl _ _).drew).below hb4) hn4).mono ?_); rintro e w5 ⟨v5, rfl, hn5, hb5⟩; have hB5 := bnext hb4 hb5; have s3 : w5.cell? ⟨w.heap.size, 0, none⟩ = some (.int .u64 (p : Nat)) := (hB5.cell (p := ⟨w.heap.size, 0, none⟩) q0).trans hc1; have s4 : w5.cell? ⟨w.heap.size + 1 + 1 + 1, 0, none⟩ = some (.slice Av ZL cv) := (hB5.cell (p := ⟨w.heap.size + 1 + 1 + 1, 0, none⟩) q3).trans hc4; go_wp2_with fail; refine hKK.out _ _ ⟨s3, s4⟩ (fun hHeld => ?_); clear hKK K hHeld; (try simp only [Act.put, List.setIfInBounds_toArray, List.set_cons_zero, List.set_cons_succ])))
    refine LexH.nil ?_
    have hb5' := below_of_drew6 hB5
    obtain ⟨A5, c5, rfl⟩ := nums_slice' hn5
    have N5 := Lib.hid hn5
    obtain ⟨QL, eQL⟩ : ∃ QL, QL = q.length := ⟨_, rfl⟩
    rw [← eQL] at N5 ⊢
    have EQL := Lib.hid eQL
    have B5 := Lib.hid hb5'
    have Z4 := boxBelow P4.out hb5' q3
    have hz4 := Z4.cell
    have hf4 := Z4.frozen
    have hs5 := hb5'.size
    have Z4' := Lib.hid Z4
    have HB5 := Lib.hid (bnext HB.out hb5')
    clear hb4 hb5 hB5 s1 s2 s3 s4 hn4 hn5 hb5' eQL Z4 hc1 hc4
    simp only [noOut]
    gi_wp2
    have k1 : KeepsFrom W0.heap.size W w5 := keeps_of_below B5.out _
    have k2 : KeepsFrom W0.heap.size w5 (w5.setCell ⟨w.heap.size + 1 + 1 + 1, 0, none⟩ (.slice A5 QL c5)) := (KeepsOthers.setCell w5 ⟨w.heap.size + 1 + 1 + 1, 0, none⟩ _).from _
    have m1 : KB w.heap.size (w.heap.size + 1 + 1 + 1 + 1) W w5 := ⟨B5.out.mono (by omega), B5.out.cell (p := ⟨w.heap.size + 1 + 1 + 1 + 1, 0, none⟩) (by dsimp only; omega)⟩
    have m2 : KB w.heap.size (w.heap.size + 1 + 1 + 1 + 1) w5 (w5.setCell ⟨w.heap.size + 1 + 1 + 1, 0, none⟩ (.slice A5 QL c5)) := ⟨(Below.refl _ _).setCell (p := ⟨w.heap.size + 1 + 1 + 1, 0, none⟩) (by simp; omega) _, World.cell?_setCell_other _ _ _ _ (by intro e; have := congrArg Addr.block e; simp at this)⟩
    have hcs : w5.heap[w.heap.size + 1 + 1 + 1]? = some (.cells #[.slice Av ZL cv] 31 (0, 0)) := Z4'.out
    have n5 : Nums (w5.setCell ⟨w.heap.size + 1 + 1 + 1, 0, none⟩ (.slice A5 QL c5)) (.slice A5 QL c5) q := nums_set_box N5.out hcs
    exact ⟨k1.trans k2, m1.trans m2, ⟨q, .slice A5 QL c5, HG.out, n5, by simp; omega, boxOther (boxBelow P1.out B5.out q0) (by omega) _, boxOther (boxBelow P2.out B5.out (by omega)) (by omega) _, boxOther (boxBelow P3.out B5.out (by omega)) (by omega) _, Z4'.out.set _⟩, HB5.out.setCell (p := ⟨w.heap.size + 1 + 1 + 1, 0, none⟩) (by simp; omega) _⟩
  case done =>
    rintro D ys W hD hys ⟨⟨zs, vs, ⟨hgood, _, _⟩, hN, hsz, b1, b2, b3, b4⟩, hB⟩ hK
    have hz := hgood n (Nat.le_refl _) hys
    rw [HWH.out] at hz
    subst hz
    obtain ⟨As, cs, rfl⟩ := nums_slice' hN
    have HN := Lib.hid hN
    obtain ⟨SL, eSL⟩ : ∃ SL, SL = (M.wholeK p m n).length := ⟨_, rfl⟩
    rw [← eSL] at b4 HN
    have c4 := b4.cell
    have c2 := b2.cell
    have f2 := b2.frozen
    have c3 := b3.cell
    have f3 := b3.frozen
    have HB := Lib.hid hB
    have P2 := Lib.hid b2
    have P3 := Lib.hid b3
    clear hgood hN hB b1 bP bR bE bS bB hW0 hB0 hrr hys eSL
    gi_wp2
    obtain ⟨Wd, eWd⟩ : ∃ Wd, Wd = (W.setCell ⟨w.heap.size + 1, 0, none⟩ (.slice As SL cs)).setCell ⟨w.heap.size + 1 + 1, 0, none⟩ (.int .i64 0) := ⟨_, rfl⟩
    have hK' : Wd.heap[D]? = some (.deferred (some [])) := by rw [eWd]; exact ((KeepsOthers.setCell W ⟨w.heap.size + 1, 0, none⟩ (.slice As SL cs)).trans (KeepsOthers.setCell _ ⟨w.heap.size + 1 + 1, 0, none⟩ (.int .i64 0))).same D _ hK rfl
    have d2 : Boxed Wd (w.heap.size + 1) 31 (.slice As SL cs) := by rw [eWd]; exact boxOther (P2.out.set _) (by omega) _
    have d3 : Boxed Wd (w.heap.size + 1 + 1) 26 (.int .i64 0) := by rw [eWd]; exact (boxOther P3.out (by omega) _).set _
    have nd : Nums Wd (.slice As SL cs) (M.wholeK p m n) := by
      rw [eWd]
      exact nums_set_errno (nums_set_box HN.out P2.out) (boxOther P3.out (by omega) _)
    have bd : Below w.heap.size w Wd := by rw [eWd]; exact (HB.out.setCell (p := ⟨w.heap.size + 1, 0, none⟩) (by simp) _).setCell (p := ⟨w.heap.size + 1 + 1, 0, none⟩) (by simp; omega) _
    rw [← eWd]
    clear eWd hK
    refine ⟨by simp, .inl ⟨_, _, rfl, run_takeDeferred hK', ?_⟩⟩
    have hc2 := cell_kept d2.cell (grownBy_putObj' _ D (.deferred none)) (fun r e => by cases e; exact ⟨_, hK', rfl⟩)
    have hc3 := cell_kept d3.cell (grownBy_putObj' _ D (.deferred none)) (fun r e => by cases e; exact ⟨_, hK', rfl⟩)
    have hnd := numsTurn7 nd (grownBy_putObj' _ D (.deferred none)) (fun r e => by cases e; exact ⟨_, hK', rfl⟩)
    refine ⟨.tuple #[.slice As SL cs, .int .i64 0], ?_, .slice As SL cs, rfl, hnd, bd.trans (belowK_b (w := w) (Nat.le_refl _) Wd D _ (.deferred none) (by omega) hK' rfl rfl)⟩
    simp [results, Try.f60, go_sem, hc2, hc3]
end Go.Proofs.Ytfkepkdfpjaniaa
