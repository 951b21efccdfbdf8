/-
  P11 (joined).
-/
import Derived.Test.YtfkepkdfpjaniaaLE
import Derived.Test.YtfkepkdfpjaniaaLD
import Derived.Test.YtfkepkdfpjaniaaMB
import Derived.Deep.RegionHeld3
namespace Go.Proofs.Ytfkepkdfpjaniaa
open Go.RowKit Go.Shelf
set_option linter.unusedVariables false
attribute [local go_sem] Oper.semAt_some

/-- a clone of a slice that is not empty: a row of its own -/
def CloneOwn (w : World) (zs : List Nat) (e : Ending) (w' : World) : Prop := ∃ g cap, e = .returned (.slice (some ⟨g, 0, none⟩) zs.length cap) ∧ zs.length ≤ cap ∧ w.heap.size ≤ g ∧ g < w'.heap.size ∧ Rw w' g zs.length (fun i => zs.getD i 0) ∧ Below w.heap.size w w'
set_option maxHeartbeats 400000 in
theorem clone_own (v : Value) (zs : List Nat) (w : World) (h0 : 0 < zs.length) (hv : Nums w v zs) :
    Calls Try.prog 81 #[v] w (CloneOwn w zs) := by
  obtain ⟨A, cap, rfl, _, hl, hC⟩ := nums_view hv
  have hz := hv.1
  obtain ⟨b, off, rfl, hb, hcell⟩ := hC h0
  have h1 := Lib.run_eql_slice_nil (P := Try.prog) w 31 22 (some ⟨b, off, none⟩) zs.length cap 0 0 Try.underlying31
  obtain ⟨i0, hi, hz0, hz1, hz2⟩ := info_parts infoU64
  have HC := Lib.hid hcell
  have HL := Lib.hid hl
  have HZ := Lib.hid hz
  have H0 := Lib.hid h0
  clear hcell hl hz hv hC h0
  go_enter Try.func81, Try.ntmps81
  go_wp2_with (at_builtin; refine wpList_append_own _ rfl _ _ 31 rfl w.heap.size 22 i0 (.int .u64 0) 1 8 Try.underlying31 hi hz0 hz1 hz2 rfl (by decide) _ _ _ rfl (World.ownsRow_made w #[] 0 (Nat.le_refl _) (by decide) rfl) ⟨b, off, none⟩ zs.length cap (vals zs) rfl ?c0 ?c1 ?c2 ?c3 ?c4 ?c5 ?_)
  case c0 => simp [vals]
  case c1 =>
    intro j u hu
    have hj : j < zs.length := by
      apply Nat.lt_of_not_le; intro hc
      rw [List.getElem?_eq_none (by simpa [vals] using hc)] at hu; cases hu
    have h := HC.out j hj
    have e : u = .int .u64 (zs.getD j 0 : Nat) := by
      simp [vals, List.getD_eq_getElem?_getD, hj] at hu ⊢
      exact hu.symm
    subst e
    rw [Addr.add_lit]
    exact (Below.cell (p := ⟨b, off + j, none⟩) (Below.alloc (Below.refl _ _) (Nat.le_refl _) _) (World.block_lt_of_cell? w _ h)).trans h
  case c2 => intro u hu; simp [vals] at hu; obtain ⟨z, _, rfl⟩ := hu; rfl
  case c3 => have := HL.out; unfold maxLen; omega
  case c4 => have := HL.out; omega
  case c5 => simp
  intro v' w1 hown hgrow _
  have HO := Lib.hid hown
  have HG := Lib.hid hgrow
  clear hown hgrow
  go_wp2
  go_ret
  rcases HO.out.2 with ⟨_, h⟩ | ⟨gb, cp, cur, rfl, hb1, hg1, hc1, _⟩
  · have := H0.out; omega
  · refine ⟨gb, cp, rfl, hc1, hb1, (Array.getElem?_eq_some_iff.1 hg1).1, fun i hi => ?_, ((Below.refl _ _).alloc (Nat.le_refl _) _).grown HG.out (by simp) (fun k hk => by simp [Value.ownBlock] at hk; omega)⟩
    refine ⟨?_, frozen_of_row _ _ i _ _ hg1⟩
    have := HO.out.cells (g := gb) rfl i (.int .u64 (zs.getD i 0 : Nat)) (by simp [vals, List.getD_eq_getElem?_getD, hi])
    rw [Addr.add_lit] at this
    simpa using this

theorem keepNew {W w3 : World} {v : Value} {t : TypeId} (hb : Below (W.alloc (.cells #[v] t)).drew.heap.size (W.alloc (.cells #[v] t)).drew w3) : w3.cell? ⟨W.heap.size, 0, none⟩ = some v ∧ w3.frozen? ⟨W.heap.size, 0, none⟩ = false := by
  have h := Boxed.new W t v
  have h3 : Boxed w3 W.heap.size t v := (hb.block W.heap.size (by show _ < (W.alloc (.cells #[v] t)).heap.size; simp)).trans h
  exact ⟨h3.cell, h3.frozen⟩
/-- what a round of divide must leave alone: what lies below n₀, the box that is gone through, that the quotient's cells are numbers -/
def KD (n₀ bi Bq : Nat) (W W' : World) : Prop := Below n₀ W W' ∧ W'.cell? ⟨bi, 0, none⟩ = W.cell? ⟨bi, 0, none⟩ ∧ ∀ (j x : Nat), W.cell? ⟨Bq, j, none⟩ = some (.int .u64 (x : Nat)) → ∃ x' : Nat, W'.cell? ⟨Bq, j, none⟩ = some (.int .u64 (x' : Nat))
theorem KD.refl (n₀ bi Bq : Nat) (W : World) : KD n₀ bi Bq W W := ⟨Below.refl _ _, rfl, fun j x h => ⟨x, h⟩⟩
theorem KD.trans {n₀ bi Bq : Nat} {A B C : World} (h : KD n₀ bi Bq A B) (h2 : KD n₀ bi Bq B C) : KD n₀ bi Bq A C := ⟨h.1.trans h2.1, h2.2.1.trans h.2.1, fun j x hx => by
  obtain ⟨y, hy⟩ := h.2.2 j x hx
  exact h2.2.2 j y hy⟩
theorem kd_b {n₀ bi Bq : Nat} {w : World} (hn : n₀ ≤ w.heap.size) (hb : bi < w.heap.size) (hq : Bq < w.heap.size) (W : World) (l : Nat) (o o' : Obj) (hl : w.heap.size ≤ l) (h : W.heap[l]? = some o) (h1 : o.isCells = false) (h2 : o.isWalk = false) : KD n₀ bi Bq W (W.putObj l o') :=
  ⟨belowK_b hn W l o o' hl h h1 h2, World.cell?_of_block ((grownBy_putObj' W l o').block bi (by have := (Array.getElem?_eq_some_iff.1 h).1; omega) (fun e => by cases e; omega)),
    fun j x hx => ⟨x, (World.cell?_of_block (a := ⟨Bq, j, none⟩) ((grownBy_putObj' W l o').block Bq (by have := (Array.getElem?_eq_some_iff.1 h).1; omega) (fun e => by cases e; omega))).trans hx⟩⟩
theorem rwTurn {X W : World} {B n : Nat} {F : Nat → Nat} {row : Option Nat} (h : Rw X B n F) (hg : X.grownBy W row) (hr : ∀ r, row = some r → ∃ o : Obj, X.heap[r]? = some o ∧ o.isCells = false) : Rw W B n F := fun i hi => ⟨cell_kept (h i hi).1 hg hr, (frozen_kept (h i hi).1 hg hr).trans (h i hi).2⟩
theorem nums_cap {w : World} {B n c : Nat} {zs : List Nat} (h : Nums w (.slice (some ⟨B, 0, none⟩) n n) zs) (hc : n ≤ c) : Nums w (.slice (some ⟨B, 0, none⟩) n c) zs := by
  obtain ⟨h1, h2, h3⟩ := h
  refine ⟨h1, h2, ?_⟩
  rcases h3 with ⟨a, c', e, hz, hn⟩ | ⟨b, off, c', e, hc', hb, hcell⟩
  · simp only [Value.slice.injEq] at e
    obtain ⟨rfl, e2, rfl⟩ := e
    subst hz
    exact .inl ⟨some ⟨B, 0, none⟩, c, by rw [e2], rfl, by simp⟩
  · simp only [Value.slice.injEq, Option.some.injEq, Addr.mk.injEq, and_true] at e
    obtain ⟨⟨rfl, rfl⟩, e2, e3⟩ := e
    exact .inr ⟨_, _, c, by rw [e2], by omega, hb, hcell⟩
theorem numsTurn {X W : World} {v : Value} {zs : List Nat} {row : Option Nat} (h : Nums X v zs) (hg : X.grownBy W row) (hr : ∀ r, row = some r → ∃ o : Obj, X.heap[r]? = some o ∧ o.isCells = false) : Nums W v zs := by
  obtain ⟨h1, h2, h3⟩ := h
  refine ⟨h1, h2, ?_⟩
  rcases h3 with h3 | ⟨b, off, cap, e, hc, hb, hcell⟩
  · exact .inl h3
  · exact .inr ⟨b, off, cap, e, hc, Nat.lt_of_lt_of_le hb hg.size, fun i hi => cell_kept (hcell i hi) hg hr⟩
/-- the boxes of divide -/
def DBox (W : World) (w0 s1 bl gr cr p fl n ld : Nat) (gs : Value) : Prop := Boxed W w0 22 (.int .u64 (p : Nat)) ∧ Boxed W (w0 + 1) 31 gs ∧ Boxed W s1 31 (.slice (some ⟨gr, 0, none⟩) fl cr) ∧ Boxed W (s1 + 2) 31 (.slice (some ⟨s1 + 1, 0, none⟩) n n) ∧ Boxed W bl 22 (.int .u64 (ld : Nat))
theorem DBox.turn {X W : World} {w0 s1 bl gr cr p fl n ld : Nat} {gs : Value} {row : Option Nat} (h : DBox X w0 s1 bl gr cr p fl n ld gs) (hg : X.grownBy W row) (hr : ∀ r, row = some r → ∃ o : Obj, X.heap[r]? = some o ∧ o.isCells = false) : DBox W w0 s1 bl gr cr p fl n ld gs :=
  ⟨boxTurn h.1 hg hr, boxTurn h.2.1 hg hr, boxTurn h.2.2.1 hg hr, boxTurn h.2.2.2.1 hg hr, boxTurn h.2.2.2.2 hg hr⟩
theorem boxOther' {W : World} {B B' i : Nat} {t : TypeId} {v : Value} (h : Boxed W B t v) (hne : B ≠ B') (u : Value) : Boxed (W.setCell ⟨B', i, none⟩ u) B t v := by
  show (W.heap.modify B' _)[B]? = _
  rw [Array.getElem?_modify, if_neg (fun e => hne e.symm)]
  exact h
theorem DBox.other {W : World} {w0 s1 bl gr cr p fl n ld : Nat} {gs : Value} (h : DBox W w0 s1 bl gr cr p fl n ld gs) {b : Nat} (h1 : w0 ≠ b) (h2 : w0 + 1 ≠ b) (h3 : s1 ≠ b) (h4 : s1 + 2 ≠ b) (h5 : bl ≠ b) (i : Nat) (u : Value) : DBox (W.setCell ⟨b, i, none⟩ u) w0 s1 bl gr cr p fl n ld gs :=
  ⟨boxOther' h.1 h1 u, boxOther' h.2.1 h2 u, boxOther' h.2.2.1 h3 u, boxOther' h.2.2.2.1 h4 u, boxOther' h.2.2.2.2 h5 u⟩
theorem DBox.drewN {W : World} {w0 s1 bl gr cr p fl n ld : Nat} {gs : Value} (h : DBox W w0 s1 bl gr cr p fl n ld gs) (k : Nat) : DBox (W.drewN k) w0 s1 bl gr cr p fl n ld gs := h
/-- a write beside leaves the rest -/
theorem KD.set {n₀ bi Bq b i : Nat} (W : World) (x : Nat) (h1 : n₀ ≤ b) (h2 : bi ≠ b) : KD n₀ bi Bq W (W.setCell ⟨b, i, none⟩ (.int .u64 (x : Nat))) := by
  refine ⟨(Below.refl _ _).setCell (p := ⟨b, i, none⟩) h1 _, World.cell?_setCell_other _ _ _ _ (by intro e; have h3 := congrArg Addr.block e; simp at h3; omega), fun j y hy => ?_⟩
  by_cases e : (⟨Bq, j, none⟩ : Addr) = ⟨b, i, none⟩
  · exact ⟨x, by rw [← e]; exact World.cell?_setCell_same _ _ _ hy⟩
  · exact ⟨y, (World.cell?_setCell_other _ _ _ _ (by first | exact e | exact fun h => e h.symm)).trans hy⟩
def DivEnd (w : World) (p : Nat) (f g : List Nat) (e : Ending) (w' : World) : Prop := ∃ vq vr q r, e = .returned (.tuple #[vq, vr]) ∧ Nums w' vq q ∧ Nums w' vr r ∧ M.IsDiv p f g q r ∧ Below w.heap.size w w'

set_option maxRecDepth 100000 in
set_option maxHeartbeats 4000000 in
theorem divide_main (p : Nat) (v v2 : Value) (f g : List Nat) (w : World) (hi : M.isP p = true) (hwf : M.within p f = true) (tf : M.trim f = f) (hg : M.Lead p g) (hle : g.length ≤ f.length) (hfl : f.length ≤ 201) (hv : Nums w v f) (hv2 : Nums w v2 g) :
    Calls Try.prog 95 #[.int .u64 p, v, v2] w (DivEnd w p f g) := by
  obtain ⟨h3, hp⟩ := M.pos_of hi
  have hg0 := hg.2.1
  have hgl := M.within_mem hg.1 (show g.length - 1 < g.length by omega)
  have hgn := hg.2.2
  have HCL := Lib.hid fun W (h : Nums W v f) => clone_own v f W (by omega) h
  obtain ⟨A, cap, rfl, _, _, _⟩ := nums_view hv
  obtain ⟨A2, cap2, rfl, _, _, hC2⟩ := nums_view hv2
  obtain ⟨b2, off2, rfl, hb2, hcell2⟩ := hC2 hg0
  obtain ⟨n, en⟩ : ∃ n, n + g.length = f.length + 1 := ⟨f.length + 1 - g.length, by omega⟩
  have en' : (f.length : Int) - g.length + 1 = (n : Nat) := by omega
  obtain ⟨la, ela⟩ : ∃ la, la = g.getD (g.length - 1) 0 := ⟨_, rfl⟩
  have hla := hcell2 (g.length - 1) (by omega)
  rw [← ela] at hla hgl hgn
  have hinv := fun W => pinv_any p la W (M.valid1_iff.2 ⟨hi, hgl⟩) hgn
  obtain ⟨ld, eld⟩ : ∃ ld, ld = M.pw p la (p - 2) := ⟨_, rfl⟩
  have hldl : ld < p := by rw [eld]; exact M.pw_lt _ _ (by omega)
  rw [← eld] at hinv
  obtain ⟨i0, hi0, hz0, hz1, hz2⟩ := info_parts infoU64
  have HINV := Lib.hid hinv
  have HWF := Lib.hid hwf
  have HTF := Lib.hid tf
  have HI := Lib.hid hi
  have HGL := Lib.hid hg
  have HV := Lib.hid hv
  have HC2 := Lib.hid hcell2
  have HLA := Lib.hid hla
  have HLD := Lib.hid eld
  have HLE := Lib.hid ela
  have hlt : ¬ f.length < g.length := by omega
  have hB2 : b2 < w.heap.size := hb2
  have i1 : (0 : Int) ≤ (g.length : Int) - 1 := by omega
  have i2 : (g.length : Int) - 1 < (g.length : Nat) := by omega
  have i4 : IntKind.i64.wrap ((g.length : Int) - 1) = (g.length : Int) - 1 := IntWalk.i64_in _ (by omega)
  have i5 : (1 : Int) ≤ (g.length : Int) := by omega
  have i6 : 1 ≤ g.length := hg0
  have i7 : (g.length : Int) ≤ 201 := by omega
  have i3 : ((g.length : Int) - 1).toNat = g.length - 1 := by omega
  clear hi hwf tf hg hv hv2 hC2 hcell2 hla hinv eld ela
  refine (callsIn_wide (n := 8)).1 ?_
  refine callsIn_of_wp_marks Try.func95 rfl trivial ?_ rfl
  simp only [Try.ntmps95, List.size_toArray, List.length_cons, List.length_nil, Nat.reduceAdd, Nat.reduceSub, Array.replicate_succ, Array.replicate_zero, List.push_toArray, List.append_toArray, List.nil_append, List.cons_append]
  gi_wp2_with (refine ⟨trivial, ?_⟩; gi_at_call 81; refine (callsIn_wide.2 (HCL.out _ (HV.out.below (((Below.refl w.heap.size w).alloc (Nat.le_refl _) _).alloc (by simp) _)))).mono ?_)
  rintro e w1 ⟨gr, cr, rfl, hcr, hgr, hgr2, hR1, hb1⟩
  have bP := (Boxed.new w 22 (.int .u64 p)).alloc (.cells #[.slice (some ⟨b2, off2, none⟩) g.length cap2] 31)
  have bG := Boxed.new (w.alloc (.cells #[.int .u64 p] 22)) 31 (.slice (some ⟨b2, off2, none⟩) g.length cap2)
  simp only [World.size_alloc] at bG hgr hb1
  have hs1 : w.heap.size + 2 ≤ w1.heap.size := by have := hb1.size; simp at this; omega
  have bP1 : Boxed w1 w.heap.size 22 (.int .u64 p) := (hb1.block _ (by omega)).trans bP
  have bG1 : Boxed w1 (w.heap.size + 1) 31 (.slice (some ⟨b2, off2, none⟩) g.length cap2) := (hb1.block _ (by omega)).trans bG
  have hB1 : Below w.heap.size w w1 := (((Below.refl w.heap.size w).alloc (Nat.le_refl _) _).alloc (by simp) _).trans (hb1.mono (by omega))
  clear bP bG hb1
  have bP2 := bP1.alloc (.cells #[.slice (some ⟨gr, 0, none⟩) f.length cr] 31)
  have bG2 := bG1.alloc (.cells #[.slice (some ⟨gr, 0, none⟩) f.length cr] 31)
  have bR2 := Boxed.new w1 31 (.slice (some ⟨gr, 0, none⟩) f.length cr)
  have hR2 : Rw (w1.alloc (.cells #[.slice (some ⟨gr, 0, none⟩) f.length cr] 31)) gr f.length (fun i => f.getD i 0) := hR1.below (balloc w1 _) hgr2
  have cG2 := bG2.cell
  have HP2 := Lib.hid bP2
  have HG2 := Lib.hid bG2
  have HR2 := Lib.hid bR2
  have HRW2 := Lib.hid hR2
  have HB1 := Lib.hid hB1
  clear bP1 bG1 bP2 bG2 bR2 hR1 hR2 hB1
  gi_wp2_with (gi_at_make; refine wpListIn_make_full _ rfl _ _ _ rfl 22 i0 (.int .u64 0) Try.underlying31 hi0 hz0 hz1 rfl .i64 .i64 n rfl rfl (by rw [hz2]; omega) (by omega) ?_; intro cs hcs)
  have HCS := Lib.hid hcs
  clear hcs
  obtain ⟨s1, es1⟩ : ∃ s1, s1 = w1.heap.size := ⟨_, rfl⟩
  obtain ⟨W4, hW4⟩ : ∃ W4, (((w1.alloc (.cells #[.slice (some ⟨gr, 0, none⟩) f.length cr] 31)).alloc (.cells cs 22)).alloc (.cells #[.slice (some ⟨w1.heap.size + 1, 0, none⟩) n n] 31)) = W4 := ⟨_, rfl⟩
  have z4 : W4.heap.size = s1 + 3 := by rw [← hW4, es1]; simp
  have p4 : Boxed W4 w.heap.size 22 (.int .u64 p) := by rw [← hW4]; exact (HP2.out.alloc _).alloc _
  have g4 : Boxed W4 (w.heap.size + 1) 31 (.slice (some ⟨b2, off2, none⟩) g.length cap2) := by rw [← hW4]; exact (HG2.out.alloc _).alloc _
  have r4 : Boxed W4 s1 31 (.slice (some ⟨gr, 0, none⟩) f.length cr) := by rw [← hW4, es1]; exact (HR2.out.alloc _).alloc _
  have q4 : Boxed W4 (s1 + 2) 31 (.slice (some ⟨s1 + 1, 0, none⟩) n n) := by
    have := Boxed.new ((w1.alloc (.cells #[.slice (some ⟨gr, 0, none⟩) f.length cr] 31)).alloc (.cells cs 22)) 31 (.slice (some ⟨w1.heap.size + 1, 0, none⟩) n n)
    simp only [World.size_alloc] at this
    rw [← hW4, es1]; exact this
  have R4 : Rw W4 gr f.length (fun i => f.getD i 0) := by
    rw [← hW4]
    exact (HRW2.out.below (balloc _ _) (by simp; omega)).below (balloc _ _) (by simp; omega)
  have Q4 : Rw W4 (s1 + 1) n (fun _ => 0) := by
    have h1 := World.alloc_heap_new (w1.alloc (.cells #[.slice (some ⟨gr, 0, none⟩) f.length cr] 31)) (.cells cs 22)
    simp only [World.size_alloc] at h1
    have : Rw ((w1.alloc (.cells #[.slice (some ⟨gr, 0, none⟩) f.length cr] 31)).alloc (.cells cs 22)) (w1.heap.size + 1) n (fun _ => 0) := by
      intro i hi
      refine ⟨?_, frozen_of_row _ _ i _ _ h1⟩
      rw [cell_of_row _ _ i _ _ (0, 0) h1, ← Array.getElem?_toList, HCS.out]
      simp [hi]
    rw [← hW4, es1]
    exact this.below (balloc _ _) (by simp)
  have B4 : Below w.heap.size w W4 := by
    rw [← hW4]
    exact ((HB1.out.alloc HB1.out.size _).alloc (Nat.le_trans HB1.out.size (by simp)) _).alloc (Nat.le_trans HB1.out.size (by simp; omega)) _
  have hgs : gr < s1 := by omega
  have hs2 : w.heap.size + 2 ≤ s1 := by omega
  rw [hW4, ← es1]
  rw [← es1] at hgr2
  have l4 := (B4.cell (p := ⟨b2, off2 + (g.length - 1), none⟩) hb2).trans HLA.out
  have HP4 := Lib.hid p4
  have HG4 := Lib.hid g4
  have HR4 := Lib.hid r4
  have HQ4 := Lib.hid q4
  have HRW4 := Lib.hid R4
  have HQW4 := Lib.hid Q4
  have HB4 := Lib.hid B4
  have HL4 := Lib.hid l4
  have HZ4 := Lib.hid z4
  clear hW4 HP2 HG2 HR2 HRW2 HB1 HCS cG2 es1 hgr2 cs
  have c1 := p4.cell
  have c2 := g4.cell
  clear p4 g4 r4 q4 R4 Q4 B4 z4
  refine wpIn_wide.2 ?_
  go_region_held3 (fun W' => W'.cell? ⟨w.heap.size, 0, none⟩ = some (.int .u64 p) ∧ W'.cell? ⟨w.heap.size + 1, 0, none⟩ = some (.slice (some ⟨b2, off2, none⟩) g.length cap2) ∧ W'.cell? ⟨b2, off2 + (g.length - 1), none⟩ = some (.int .u64 la))
    (first | go_keep | (refine ⟨?_, ?_, ?_⟩ <;> first | assumption | exact cellAl _ (by assumption) | exact (hb3.cell (World.block_lt_of_cell? _ _ (by assumption))).trans (by assumption) | exact (hb3.cell (World.block_lt_of_cell? _ _ (cellAl _ (by assumption)))).trans (cellAl _ (by assumption)) | exact (World.cell?_setCell_other _ _ _ _ (by intro e; have h1 := congrArg Addr.block e; have h2 := HZ4.out; simp at h1; omega)).trans (by assumption) | exact cellAl _ ((hb3.cell (World.block_lt_of_cell? W4 _ c1)).trans c1) | exact (World.cell?_setCell_other _ _ _ _ (by intro e; have h1 := congrArg Addr.block e; have h2 := HZ4.out; simp at h1; omega)).trans ((hb3.cell (World.block_lt_of_cell? _ _ (cellAl _ c1))).trans (cellAl _ c1)) | exact cellAl _ ((hb3.cell (World.block_lt_of_cell? W4 _ c2)).trans c2) | exact (World.cell?_setCell_other _ _ _ _ (by intro e; have h1 := congrArg Addr.block e; have h2 := HZ4.out; simp at h1; omega)).trans ((hb3.cell (World.block_lt_of_cell? _ _ (cellAl _ c2))).trans (cellAl _ c2)) | exact cellAl _ ((hb3.cell (World.block_lt_of_cell? W4 _ l4)).trans l4) | exact (World.cell?_setCell_other _ _ _ _ (by intro e; have h1 := congrArg Addr.block e; have h2 := HZ4.out; simp at h1; omega)).trans ((hb3.cell (World.block_lt_of_cell? _ _ (cellAl _ l4))).trans (cellAl _ l4))))
    (first | (go_at_call 111; refine (HINV.out _).mono ?_; rintro e w3 ⟨rfl, hb3⟩; first | (have cN : w3.cell? ⟨W4.heap.size, 0, none⟩ = some (.int .u64 0) := (keepNew hb3).1; have fN : w3.frozen? ⟨W4.heap.size, 0, none⟩ = false := (keepNew hb3).2) | skip))
  · obtain ⟨bl, hbl⟩ : ∃ bl, bl = w3.heap.size := ⟨_, rfl⟩
    obtain ⟨W5, hW5⟩ : ∃ W5, w3.alloc (.cells #[.int .u64 (ld : Nat)] 22) = W5 := ⟨_, rfl⟩
    have hb3' : Below W4.heap.size W4 w3 := ⟨hb3.os, hb3.tape, hb3.output, hb3.size, hb3.block⟩
    have b45 : Below W4.heap.size W4 W5 := by rw [← hW5]; exact hb3'.alloc hb3'.size _
    have l5 : Boxed W5 bl 22 (.int .u64 (ld : Nat)) := by rw [← hW5, hbl]; exact Boxed.new _ _ _
    have hbl1 : s1 + 3 ≤ bl := by have := HZ4.out; have := hb3'.size; omega
    rw [hW5, ← hbl]
    clear hW5 hbl hb3 hb3'
    have g5 : Boxed W5 (w.heap.size + 1) 31 (.slice (some ⟨b2, off2, none⟩) g.length cap2) := (b45.block _ (by have := HZ4.out; omega)).trans HG4.out
    have p5 : Boxed W5 w.heap.size 22 (.int .u64 p) := (b45.block _ (by have := HZ4.out; omega)).trans HP4.out
    have r5 : Boxed W5 s1 31 (.slice (some ⟨gr, 0, none⟩) f.length cr) := (b45.block _ (by have := HZ4.out; omega)).trans HR4.out
    have q5 : Boxed W5 (s1 + 2) 31 (.slice (some ⟨s1 + 1, 0, none⟩) n n) := (b45.block _ (by have := HZ4.out; omega)).trans HQ4.out
    have R5 := HRW4.out.below b45 (by have := HZ4.out; omega)
    have Q5 := HQW4.out.below b45 (by have := HZ4.out; omega)
    have B5 : Below w.heap.size w W5 := HB4.out.trans (b45.mono (by have := HZ4.out; omega))
    have c3 := q5.cell
    have hbl2 := l5.lt
    clear b45 c1 c2 l4
    gi_wp2_with (refine ⟨trivial, ?_⟩; gi_at_call 106; refine (back_in Fence.wide _ trivial rfl _ _ _ _).mono ?_; rintro e w' ⟨rfl, rfl⟩)
    obtain ⟨W0, hW0⟩ : ∃ W0, W5.alloc (.cells #[.slice (some ⟨s1 + 1, 0, none⟩) n n] 31) = W0 := ⟨_, rfl⟩
    have hsz0 : W0.heap.size = W5.heap.size + 1 := by rw [← hW0]; simp
    have B0 : Below w.heap.size w W0 := by rw [← hW0]; exact B5.alloc B5.size _
    have d0 : DBox W0 w.heap.size s1 bl gr cr p f.length n ld (.slice (some ⟨b2, off2, none⟩) g.length cap2) := by rw [← hW0]; exact ⟨p5.alloc _, g5.alloc _, r5.alloc _, q5.alloc _, l5.alloc _⟩
    have R0 : Rw W0 gr f.length (fun i => f.getD i 0) := by rw [← hW0]; exact R5.below (balloc _ _) (by have := r5.lt; omega)
    have Q0 : Rw W0 (s1 + 1) n (fun _ => 0) := by rw [← hW0]; exact Q5.below (balloc _ _) (by omega)
    have i0c : W0.cell? ⟨W5.heap.size, 0, none⟩ = some (.slice (some ⟨s1 + 1, 0, none⟩) n n) := by rw [← hW0]; exact (Boxed.new _ _ _).cell
    rw [hW0]
    have D0 := Lib.hid d0
    have RR0 := Lib.hid R0
    have QQ0 := Lib.hid Q0
    have BB0 := Lib.hid B0
    have hs0 : s1 + 4 ≤ W5.heap.size := by omega
    have HSZ0 := Lib.hid hsz0
    clear hW0 d0 R0 B0 p5 g5 r5 q5 l5 R5 Q5 B5 c3
    refine wpIn_rangeFunc_ownG rfl (by decide) (gf := 115) (lb := #[.pointer (some ⟨W5.heap.size, 0, none⟩)]) rfl trivial (enters_of Try.func115 (by kernel_rfl) rfl)
      (backG_stops Fence.wide _ trivial rfl (by decide) W5.heap.size n n (some ⟨s1 + 1, 0, none⟩) (fun _ _ => True) (by omega) (KD w.heap.size W5.heap.size (s1 + 1)) (KD.refl _ _ _) KD.trans W0 ?read) KD.trans (kd_b (by omega) (by omega) (by omega)) (Below.refl _ _) (fun _ => rfl)
      (fun pre W => (∃ Q R : Nat → Nat, ((∀ i, R i < p) ∧ (∀ i, Q i < p) ∧ (∀ k, k ≤ n → fsts pre = down n k → M.DivK p f g n k Q R)) ∧ DBox W w.heap.size s1 bl gr cr p f.length n ld (.slice (some ⟨b2, off2, none⟩) g.length cap2) ∧ Rw W gr f.length R ∧ Rw W (s1 + 1) n Q) ∧ Below w.heap.size w W)
      (fun _ _ _ => False)
      (OwnFrom.and (Own.from (fun s A B row hs hg hr => by obtain ⟨Q, R, e1, e2, e3, e4⟩ := hs; exact ⟨Q, R, e1, e2.turn hg hr, rwTurn e3 hg hr, rwTurn e4 hg hr⟩) _) (ownFrom_below (Nat.le_refl _) (by omega)))
      (fun _ _ _ _ _ hs _ _ => hs)
      ⟨⟨fun _ => 0, fun i => f.getD i 0, ?start, D0.out, RR0.out, QQ0.out⟩, BB0.out⟩
      (fun y => { tmps := #[.int .u64 p, .slice A f.length cap, .slice (some ⟨b2, off2, none⟩) g.length cap2, .pointer (some ⟨w.heap.size, 0, none⟩), undef, .pointer (some ⟨w.heap.size + 1, 0, none⟩), .slice none 0 0, .slice none 0 0,
        .pointer (some ⟨s1, 0, none⟩), .pointer (some ⟨s1 + 1 + 1, 0, none⟩), .pointer (some ⟨bl, 0, none⟩), .int .i64 (y.1.1 : Nat), undef, undef, undef, .slice A f.length cap, .slice (some ⟨gr, 0, none⟩) f.length cr,
        .slice A f.length cap, .int .i64 (f.length : Nat), .slice (some ⟨b2, off2, none⟩) g.length cap2, .int .i64 (g.length : Nat), .bool false, undef, .slice A f.length cap, .int .i64 (f.length : Nat), .slice (some ⟨b2, off2, none⟩) g.length cap2, .int .i64 (g.length : Nat),
        .int .i64 ((f.length : Int) - g.length), .int .i64 (n : Nat), .slice (some ⟨s1 + 1, 0, none⟩) n n, .int .u64 p, .slice (some ⟨b2, off2, none⟩) g.length cap2, .slice (some ⟨b2, off2, none⟩) g.length cap2, .int .i64 (g.length : Nat), .int .i64 ((g.length : Int) - 1),
        .pointer (some ⟨b2, off2 + (g.length - 1), none⟩), .int .u64 la, .int .u64 ld, .slice (some ⟨s1 + 1, 0, none⟩) n n, .func (.func 115) #[] #[.pointer (some ⟨W5.heap.size, 0, none⟩)], .int .i64 (y.1.1 : Nat), .int .u64 (y.1.2 : Nat),
        undef, undef, undef, undef, undef, undef, undef, undef, undef, undef, undef, undef, undef, undef, undef, undef, undef, undef, undef, undef, undef, undef, undef, undef, undef, undef, undef, undef, undef, undef, undef, undef, undef, undef, undef, undef, undef, undef, undef, undef, undef, undef, undef, undef, undef, undef], defers := [] }) ?assign ?body ?done ?stop
    case read =>
      intro W W' h1 h2
      refine ⟨h2.2.1.trans ((h1.cell (p := ⟨W5.heap.size, 0, none⟩) (show W5.heap.size < W0.heap.size by omega)).trans i0c), fun j hj => ?_⟩
      have hq := (h1.cell (p := ⟨s1 + 1, j, none⟩) (show s1 + 1 < W0.heap.size by omega)).trans (QQ0.out j hj).1
      obtain ⟨x', hx'⟩ := h2.2.2 j 0 hq
      exact ⟨s1 + 1, 0, x', rfl, by rw [Nat.zero_add]; exact hx', trivial⟩
    case start =>
      refine ⟨fun i => M.within_getD (by omega) HWF.out i, fun _ => show 0 < p by omega, fun k hk e => ?_⟩
      have := congrArg List.length e
      rw [down_len] at this
      obtain rfl : k = 0 := by simpa [fsts] using this.symm
      exact M.DivK.start (by omega) HWF.out HTF.out (by omega) n
    case assign =>
      intro l y W K hK
      gi_wp2
      exact hK
    case stop =>
      rintro D c pre W _ _ h _
      exact h.elim
    case body =>
      clear hsz0
      rintro l pre y W ⟨⟨Q, R, ⟨hRl, hQl, hdv⟩, hd, hr, hq⟩, hB⟩ _
      have hy1 := y.2.1
      obtain ⟨yi, eyi⟩ : ∃ yi, yi = y.1.1 := ⟨_, rfl⟩
      obtain ⟨yv, eyv⟩ : ∃ yv, yv = y.1.2 := ⟨_, rfl⟩
      dsimp only
      rw [← eyi, ← eyv]
      rw [← eyi] at hy1
      have hidx : yi + g.length - 1 < f.length := by omega
      have hxl := hRl (yi + g.length - 1)
      obtain ⟨x, ex⟩ : ∃ x, x = R (yi + g.length - 1) := ⟨_, rfl⟩
      have hcx := (hr (yi + g.length - 1) hidx).1
      rw [← ex] at hxl hcx
      obtain ⟨c, ec⟩ : ∃ c, c = x * ld % p := ⟨_, rfl⟩
      have hcl : c < p := by rw [ec]; exact Nat.mod_lt _ (by omega)
      have ec' : (x : Int) * ld % p = (c : Nat) := by rw [ec, Int.natCast_emod, Int.natCast_mul]
      have hstep : ∀ k, k ≤ n → fsts (pre ++ [y]) = down n k → M.DivK p f g n k (fun j => if j = yi then c else Q j) (M.RJ p g R yi c g.length) := by
        intro k hk e
        obtain ⟨k', rfl, e1, e2⟩ := down_snoc e
        rw [← eyi] at e2
        have h1 := (hdv k' (by omega) e1).step HI.out HGL.out en (show k' < n by omega) (c := c) (by rw [ec, ex, HLD.out, HLE.out, e2])
        rw [← e2] at h1
        exact h1
      obtain ⟨m1, m2⟩ := mul_le hp hxl hldl
      have c1 := hd.1.cell
      have c2 := hd.2.1.cell
      have c3 := hd.2.2.1.cell
      have c5 := hd.2.2.2.2.cell
      have HST := Lib.hid hstep
      have HD := Lib.hid hd
      have HR := Lib.hid hr
      have HQ := Lib.hid hq
      have HBW := Lib.hid hB
      have HRL := Lib.hid hRl
      have HQL := Lib.hid hQl
      have HEC := Lib.hid ec'
      have j1 : IntKind.i64.wrap ((yi : Int) + g.length) = (yi : Int) + g.length := IntWalk.i64_in _ (by omega)
      have j2 : IntKind.i64.wrap ((yi : Int) + g.length - 1) = (yi : Int) + g.length - 1 := IntWalk.i64_in _ (by omega)
      have j3 : (0 : Int) ≤ (yi : Int) + g.length - 1 := by omega
      have j4 : (yi : Int) + g.length - 1 < (f.length : Nat) := by omega
      have j5 : ((yi : Int) + g.length - 1).toNat = yi + g.length - 1 := by omega
      have j6 : (1 : Int) ≤ (yi : Int) + g.length := by omega
      clear hstep hd hr hq hB hRl hQl hdv ex ec ec' eyi eyv
      gi_wp2
      refine wpIn_region_tail (F := Fence.wide) (lr := l) rfl (by kernel_rfl) (List.dropLast_concat_getLast (by simp)).symm (by kernel_rfl) (by kernel_rfl) (by kernel_rfl) (by kernel_rfl) (by kernel_rfl) ?_
      dsimp only [List.dropLast, List.getLast]
      repeat (gi_big_quiet_step (fail))
      refine wpQuietIn_nil ?_
      rintro _ ⟨nq, rfl⟩
      obtain ⟨W2, hW2⟩ : ∃ W2, W2 = W.drewN nq := ⟨_, rfl⟩
      have hd2 : DBox W2 w.heap.size s1 bl gr cr p f.length n ld (.slice (some ⟨b2, off2, none⟩) g.length cap2) := by rw [hW2]; exact HD.out
      have hr2 : Rw W2 gr f.length R := by rw [hW2]; exact HR.out
      have hq2 : Rw W2 (s1 + 1) n Q := by rw [hW2]; exact HQ.out
      have hB2 : Below w.heap.size w W2 := by rw [hW2]; exact HBW.out.trans ⟨rfl, rfl, rfl, Nat.le_refl _, fun _ _ => rfl⟩
      have hK2 : KD w.heap.size W5.heap.size (s1 + 1) W W2 := by rw [hW2]; exact ⟨⟨rfl, rfl, rfl, Nat.le_refl _, fun _ _ => rfl⟩, rfl, fun j x h => ⟨x, h⟩⟩
      have hF2 : KeepsFrom W0.heap.size W W2 := by rw [hW2]; exact ⟨Nat.le_refl _, fun _ _ _ h _ => h⟩
      rw [← hW2, HEC.out]
      have hd3 := hd2.other (b := s1 + 1) (by omega) (by omega) (by omega) (by omega) (by omega) yi (.int .u64 (c : Nat))
      have hr3 := hr2.other (b := s1 + 1) (by omega) yi (.int .u64 (c : Nat))
      have hq3 := hq2.set hy1 c
      have hB3 := hB2.setCell (p := ⟨s1 + 1, yi, none⟩) (show w.heap.size ≤ s1 + 1 by omega) (.int .u64 (c : Nat))
      have hK3 := hK2.trans (KD.set (bi := W5.heap.size) (Bq := s1 + 1) (i := yi) W2 c (show w.heap.size ≤ s1 + 1 by omega) (by omega))
      have hF3 := hF2.trans ((KeepsOthers.setCell W2 ⟨s1 + 1, yi, none⟩ (.int .u64 (c : Nat))).from W0.heap.size)
      have c4 : W2.cell? ⟨s1 + 1 + 1, 0, none⟩ = some (.slice (some ⟨s1 + 1, 0, none⟩) n n) := hd2.2.2.2.1.cell
      obtain ⟨c6, f6⟩ := hq2 yi hy1
      have c7 := hd3.2.1.cell
      have HD3 := Lib.hid hd3
      have HR3 := Lib.hid hr3
      have HQ3 := Lib.hid hq3
      have HB3 := Lib.hid hB3
      have HK3 := Lib.hid hK3
      have HF3 := Lib.hid hF3
      have hyn : (yi : Int) < (n : Nat) := by omega
      clear hW2 hd2 hr2 hq2 hB2 hK2 hF2 hd3 hr3 hq3 hB3 hK3 hF3 c1 c2 c3 c5 hcx HD HR HQ HBW
      gi_wp2
      gi_loopw [60] (fun t wr => ∃ j : Nat, j ≤ g.length ∧ t = .int .i64 j ∧ DBox wr w.heap.size s1 bl gr cr p f.length n ld (.slice (some ⟨b2, off2, none⟩) g.length cap2) ∧ Rw wr gr f.length (M.RJ p g R yi c j) ∧ Rw wr (s1 + 1) n (fun j => if j = yi then c else Q j) ∧ Below w.heap.size w wr ∧ KeepsFrom W0.heap.size W wr ∧ KD w.heap.size W5.heap.size (s1 + 1) W wr) (fun t _ => g.length - (intOf t).toNat)
      case atStart => exact ⟨0, by omega, rfl, HD3.out, HR3.out.congr (fun i _ => (M.RJ_zero p g R yi c i).symm), HQ3.out, HB3.out, HF3.out, HK3.out⟩
      case round =>
        obtain ⟨j, hj, rfl, hd, hr, hq, hB, hF, hK⟩ := hrel
        by_cases hlt2 : j < g.length
        · have hgc := (hB.cell (p := ⟨b2, off2 + j, none⟩) hb2).trans (HC2.out j hlt2)
          have hyl := M.within_mem HGL.out.1 hlt2
          have hid : yi + j < f.length := by omega
          obtain ⟨hzc, hzf⟩ := hr (yi + j) hid
          have hzl := M.RJ_lt (show 0 < p by omega) g HRL.out yi c j (yi + j)
          have hset := fun W3 (hW3 : Rw W3 gr f.length (M.RJ p g R yi c j)) => (show Rw (W3.setCell ⟨gr, yi + j, none⟩ (.int .u64 ((M.RJ p g R yi c j (yi + j) + (p - c) * g.getD j 0) % p : Nat))) gr f.length (M.RJ p g R yi c (j + 1)) from (hW3.set hid _).congr (fun i _ => by rw [M.RJ_at]; exact M.RJ_step p g R yi c j i))
          obtain ⟨z, ez⟩ : ∃ z, z = M.RJ p g R yi c j (yi + j) := ⟨_, rfl⟩
          obtain ⟨y2, ey2⟩ : ∃ y2, y2 = g.getD j 0 := ⟨_, rfl⟩
          obtain ⟨d, ed⟩ : ∃ d, d = p - c := ⟨_, rfl⟩
          rw [← ez] at hzc hzl hset
          rw [← ey2] at hgc hyl hset
          rw [← ed] at hset
          have hdI : (p : Int) - c = (d : Nat) := by omega
          have hm : d * y2 ≤ 65537 * 65537 := Nat.mul_le_mul (by omega) (by omega)
          obtain ⟨q, eq⟩ : ∃ q, q = (z + d * y2) % p := ⟨_, rfl⟩
          have eq' : ((z : Int) + (d : Int) * y2) % p = (q : Nat) := by rw [eq, Int.natCast_emod, Int.natCast_add, Int.natCast_mul]
          rw [← eq] at hset
          have c1 := hd.1.cell
          have c3 := hd.2.2.1.cell
          have k1 : IntKind.i64.wrap ((yi : Int) + j) = (yi : Int) + j := IntWalk.i64_in _ (by omega)
          have k2 : (0 : Int) ≤ (yi : Int) + j := by omega
          have k3 : (yi : Int) + j < (f.length : Nat) := by omega
          have k4 : ((yi : Int) + j).toNat = yi + j := by omega
          have hjn : (j : Int) < (g.length : Nat) := by omega
          have HD := Lib.hid hd
          have HR := Lib.hid hr
          have HQ := Lib.hid hq
          have HB := Lib.hid hB
          have HF := Lib.hid hF
          have HK := Lib.hid hK
          have HS := Lib.hid hset
          have HE := Lib.hid eq'
          clear hd hr hq hB hF hK hset ez ey2 ed eq eq'
          gi_wp2
          refine wpIn_region_tail (F := Fence.wide) (lr := l) rfl (by kernel_rfl) (List.dropLast_concat_getLast (by simp)).symm (by kernel_rfl) (by kernel_rfl) (by kernel_rfl) (by kernel_rfl) (by kernel_rfl) ?_
          dsimp only [List.dropLast, List.getLast]
          repeat (gi_big_quiet_step (fail))
          refine wpQuietIn_nil ?_
          rintro _ ⟨nq, rfl⟩
          obtain ⟨W3, hW3⟩ : ∃ W3, W3 = wr.drewN nq := ⟨_, rfl⟩
          have hd2 : DBox W3 w.heap.size s1 bl gr cr p f.length n ld (.slice (some ⟨b2, off2, none⟩) g.length cap2) := by rw [hW3]; exact HD.out
          have hr2 : Rw W3 gr f.length (M.RJ p g R yi c j) := by rw [hW3]; exact HR.out
          have hq2 : Rw W3 (s1 + 1) n (fun j => if j = yi then c else Q j) := by rw [hW3]; exact HQ.out
          have hB2 : Below w.heap.size w W3 := by rw [hW3]; exact HB.out.trans ⟨rfl, rfl, rfl, Nat.le_refl _, fun _ _ => rfl⟩
          have hK2 : KD w.heap.size W5.heap.size (s1 + 1) W W3 := by rw [hW3]; exact HK.out.trans ⟨⟨rfl, rfl, rfl, Nat.le_refl _, fun _ _ => rfl⟩, rfl, fun j x h => ⟨x, h⟩⟩
          have hF2 : KeepsFrom W0.heap.size W W3 := by rw [hW3]; exact HF.out.trans ⟨Nat.le_refl _, fun _ _ _ h _ => h⟩
          rw [← hW3, HE.out]
          have hd3 := hd2.other (b := gr) (by omega) (by omega) (by omega) (by omega) (by omega) (yi + j) (.int .u64 (q : Nat))
          have hq3 := hq2.other (b := gr) (by omega) (yi + j) (.int .u64 (q : Nat))
          have hr3 := HS.out W3 hr2
          have hB3 := hB2.setCell (p := ⟨gr, yi + j, none⟩) (show w.heap.size ≤ gr by omega) (.int .u64 (q : Nat))
          have hK3 := hK2.trans (KD.set (bi := W5.heap.size) (Bq := s1 + 1) (i := yi + j) W3 q (show w.heap.size ≤ gr by omega) (show W5.heap.size ≠ gr by omega))
          have hF3 := hF2.trans ((KeepsOthers.setCell W3 ⟨gr, yi + j, none⟩ (.int .u64 (q : Nat))).from W0.heap.size)
          obtain ⟨c6, f6⟩ := hr2 (yi + j) hid
          have HD3 := Lib.hid hd3
          have HR3 := Lib.hid hr3
          have HQ3 := Lib.hid hq3
          have HB3 := Lib.hid hB3
          have HK3 := Lib.hid hK3
          have HF3 := Lib.hid hF3
          clear hW3 hd2 hr2 hq2 hB2 hK2 hF2 hd3 hr3 hq3 hB3 hK3 hF3 c1 c3 hzc hzf hgc HD HR HQ HB HF HK
          gi_wp2
          go_roundw
          case rel => exact ⟨j + 1, by omega, by go_num, HD3.out, HR3.out, HQ3.out, HB3.out, HF3.out, HK3.out⟩
          case measure => simp [intOf]; omega
        · obtain rfl : j = g.length := by omega
          have hRl' := M.RJ_lt (show 0 < p by omega) g HRL.out yi c g.length
          have hQl' : ∀ i, (fun j => if j = yi then c else Q j) i < p := fun i => by
            dsimp only; split
            · exact hcl
            · exact HQL.out i
          have HRL' := Lib.hid hRl'
          have HQL' := Lib.hid hQl'
          have HD := Lib.hid hd
          have HR := Lib.hid hr
          have HQ := Lib.hid hq
          have HB := Lib.hid hB
          have HF := Lib.hid hF
          have HK := Lib.hid hK
          clear hd hr hq hB hF hK hRl' hQl'
          gi_wp2
          exact ⟨HF.out, HK.out, ⟨_, _, ⟨HRL'.out, HQL'.out, HST.out⟩, HD.out, HR.out, HQ.out⟩, HB.out⟩
    case done =>
      rintro D ys W hD hys ⟨⟨Q, R, ⟨hRl, hQl, hdv⟩, hd, hr, hq⟩, hB⟩ hK
      have hdone := (hdv n (Nat.le_refl _) hys).done HI.out HGL.out en (by omega)
      have hgrW : gr < W.heap.size := by have := hd.2.2.1.lt; omega
      have hqW : s1 + 1 < W.heap.size := by have := hd.2.2.2.1.lt; omega
      have hNR := hr.nums hgrW (by omega) (fun i _ => by have := hRl i; omega)
      have hNQ := hq.nums hqW (by omega) (fun i _ => by have := hQl i; omega)
      have hNR' : Nums W (.slice (some ⟨gr, 0, none⟩) f.length cr) (M.tabM f.length R) := nums_cap hNR hcr
      have hDW := (Array.getElem?_eq_some_iff.1 hK).1
      have htr := trim_any _ _ W.drew (show Nums W.drew _ _ from hNR')
      have c3 := hd.2.2.1.cell
      have c4 : W.cell? ⟨s1 + 1 + 1, 0, none⟩ = some (.slice (some ⟨s1 + 1, 0, none⟩) n n) := hd.2.2.2.1.cell
      have HDONE := Lib.hid hdone
      have HTR := Lib.hid htr
      have HNQ := Lib.hid hNQ
      have HB := Lib.hid hB
      have HK := Lib.hid hK
      clear hdone htr hNQ hB hK hRl hQl hdv hd hr hq hNR hNR' hys
      gi_wp2
      refine wpIn_wide.2 ?_
      go_region_held3 (fun W' => W'.cell? ⟨s1, 0, none⟩ = some (.slice (some ⟨gr, 0, none⟩) f.length cr) ∧ W'.cell? ⟨s1 + 1 + 1, 0, none⟩ = some (.slice (some ⟨s1 + 1, 0, none⟩) n n))
        (first | go_keep | exact ⟨(hb6.cell (World.block_lt_of_cell? W _ c3)).trans c3, (hb6.cell (World.block_lt_of_cell? W _ c4)).trans c4⟩)
        (first | (go_at_call 101; refine HTR.out.mono ?_; rintro e w6 ⟨v6, rfl, hn6, hb6⟩))
      all_goals
        have hb6' : Below W.heap.size W w6 := ⟨hb6.os, hb6.tape, hb6.output, hb6.size, hb6.block⟩
        have hK6 := (hb6'.block D hDW).trans HK.out
        have HN6 := Lib.hid hn6
        have HNQ6 := Lib.hid (HNQ.out.below hb6')
        have HB6 := Lib.hid (HB.out.trans (hb6'.mono HB.out.size))
        have HK6 := Lib.hid hK6
        clear hb6 hb6' hn6 hK6
        gi_wp2
        refine ⟨by simp, .inl ⟨_, _, rfl, run_takeDeferred HK6.out, ?_⟩⟩
        have hbD := belowK_b (w := w) (Nat.le_refl _) w6 D _ (.deferred none) (by have := BB0.out.size; omega) HK6.out rfl rfl
        have hturn := grownBy_putObj' w6 D (.deferred none)
        refine ⟨.tuple #[.slice (some ⟨s1 + 1, 0, none⟩) n n, v6], ?_, _, _, _, _, rfl, numsTurn HNQ6.out hturn (fun r e => by cases e; exact ⟨_, HK6.out, rfl⟩), numsTurn HN6.out hturn (fun r e => by cases e; exact ⟨_, HK6.out, rfl⟩), HDONE.out, HB6.out.trans hbD⟩
        simp [results, Try.f95, go_sem]
  · obtain ⟨bl, hbl⟩ : ∃ bl, bl = W4.heap.size := ⟨_, rfl⟩
    obtain ⟨W5, hW5⟩ : ∃ W5, w3.setCell ⟨W4.heap.size, 0, none⟩ (.int .u64 (ld : Nat)) = W5 := ⟨_, rfl⟩
    have hx3 := Boxed.new W4 22 (.int .u64 0)
    have hx4 : Boxed w3 W4.heap.size 22 (.int .u64 0) := (hb3.block W4.heap.size (by show _ < (W4.alloc (.cells #[.int .u64 0] 22)).heap.size; simp)).trans hx3
    have hb3' : Below W4.heap.size W4 w3 := (balloc W4 (.cells #[.int .u64 0] 22)).trans (Below.mono ⟨hb3.os, hb3.tape, hb3.output, hb3.size, hb3.block⟩ (by simp))
    have b45 : Below W4.heap.size W4 W5 := by rw [← hW5]; exact hb3'.setCell (p := ⟨W4.heap.size, 0, none⟩) (Nat.le_refl _) _
    have l5 : Boxed W5 bl 22 (.int .u64 (ld : Nat)) := by rw [← hW5, hbl]; exact hx4.set _
    have hbl1 : s1 + 3 ≤ bl := by have := HZ4.out; omega
    rw [hW5, ← hbl]
    clear hW5 hbl hb3 hb3' hx3 hx4 cN fN
    have g5 : Boxed W5 (w.heap.size + 1) 31 (.slice (some ⟨b2, off2, none⟩) g.length cap2) := (b45.block _ (by have := HZ4.out; omega)).trans HG4.out
    have p5 : Boxed W5 w.heap.size 22 (.int .u64 p) := (b45.block _ (by have := HZ4.out; omega)).trans HP4.out
    have r5 : Boxed W5 s1 31 (.slice (some ⟨gr, 0, none⟩) f.length cr) := (b45.block _ (by have := HZ4.out; omega)).trans HR4.out
    have q5 : Boxed W5 (s1 + 2) 31 (.slice (some ⟨s1 + 1, 0, none⟩) n n) := (b45.block _ (by have := HZ4.out; omega)).trans HQ4.out
    have R5 := HRW4.out.below b45 (by have := HZ4.out; omega)
    have Q5 := HQW4.out.below b45 (by have := HZ4.out; omega)
    have B5 : Below w.heap.size w W5 := HB4.out.trans (b45.mono (by have := HZ4.out; omega))
    have c3 := q5.cell
    have hbl2 := l5.lt
    clear b45 c1 c2 l4
    gi_wp2_with (refine ⟨trivial, ?_⟩; gi_at_call 106; refine (back_in Fence.wide _ trivial rfl _ _ _ _).mono ?_; rintro e w' ⟨rfl, rfl⟩)
    obtain ⟨W0, hW0⟩ : ∃ W0, W5.alloc (.cells #[.slice (some ⟨s1 + 1, 0, none⟩) n n] 31) = W0 := ⟨_, rfl⟩
    have hsz0 : W0.heap.size = W5.heap.size + 1 := by rw [← hW0]; simp
    have B0 : Below w.heap.size w W0 := by rw [← hW0]; exact B5.alloc B5.size _
    have d0 : DBox W0 w.heap.size s1 bl gr cr p f.length n ld (.slice (some ⟨b2, off2, none⟩) g.length cap2) := by rw [← hW0]; exact ⟨p5.alloc _, g5.alloc _, r5.alloc _, q5.alloc _, l5.alloc _⟩
    have R0 : Rw W0 gr f.length (fun i => f.getD i 0) := by rw [← hW0]; exact R5.below (balloc _ _) (by have := r5.lt; omega)
    have Q0 : Rw W0 (s1 + 1) n (fun _ => 0) := by rw [← hW0]; exact Q5.below (balloc _ _) (by omega)
    have i0c : W0.cell? ⟨W5.heap.size, 0, none⟩ = some (.slice (some ⟨s1 + 1, 0, none⟩) n n) := by rw [← hW0]; exact (Boxed.new _ _ _).cell
    rw [hW0]
    have D0 := Lib.hid d0
    have RR0 := Lib.hid R0
    have QQ0 := Lib.hid Q0
    have BB0 := Lib.hid B0
    have hs0 : s1 + 4 ≤ W5.heap.size := by omega
    have HSZ0 := Lib.hid hsz0
    clear hW0 d0 R0 B0 p5 g5 r5 q5 l5 R5 Q5 B5 c3
    refine wpIn_rangeFunc_ownG rfl (by decide) (gf := 115) (lb := #[.pointer (some ⟨W5.heap.size, 0, none⟩)]) rfl trivial (enters_of Try.func115 (by kernel_rfl) rfl)
      (backG_stops Fence.wide _ trivial rfl (by decide) W5.heap.size n n (some ⟨s1 + 1, 0, none⟩) (fun _ _ => True) (by omega) (KD w.heap.size W5.heap.size (s1 + 1)) (KD.refl _ _ _) KD.trans W0 ?read) KD.trans (kd_b (by omega) (by omega) (by omega)) (Below.refl _ _) (fun _ => rfl)
      (fun pre W => (∃ Q R : Nat → Nat, ((∀ i, R i < p) ∧ (∀ i, Q i < p) ∧ (∀ k, k ≤ n → fsts pre = down n k → M.DivK p f g n k Q R)) ∧ DBox W w.heap.size s1 bl gr cr p f.length n ld (.slice (some ⟨b2, off2, none⟩) g.length cap2) ∧ Rw W gr f.length R ∧ Rw W (s1 + 1) n Q) ∧ Below w.heap.size w W)
      (fun _ _ _ => False)
      (OwnFrom.and (Own.from (fun s A B row hs hg hr => by obtain ⟨Q, R, e1, e2, e3, e4⟩ := hs; exact ⟨Q, R, e1, e2.turn hg hr, rwTurn e3 hg hr, rwTurn e4 hg hr⟩) _) (ownFrom_below (Nat.le_refl _) (by omega)))
      (fun _ _ _ _ _ hs _ _ => hs)
      ⟨⟨fun _ => 0, fun i => f.getD i 0, ?start, D0.out, RR0.out, QQ0.out⟩, BB0.out⟩
      (fun y => { tmps := #[.int .u64 p, .slice A f.length cap, .slice (some ⟨b2, off2, none⟩) g.length cap2, .pointer (some ⟨w.heap.size, 0, none⟩), undef, .pointer (some ⟨w.heap.size + 1, 0, none⟩), .slice none 0 0, .slice none 0 0,
        .pointer (some ⟨s1, 0, none⟩), .pointer (some ⟨s1 + 1 + 1, 0, none⟩), .pointer (some ⟨bl, 0, none⟩), .int .i64 (y.1.1 : Nat), undef, undef, undef, .slice A f.length cap, .slice (some ⟨gr, 0, none⟩) f.length cr,
        .slice A f.length cap, .int .i64 (f.length : Nat), .slice (some ⟨b2, off2, none⟩) g.length cap2, .int .i64 (g.length : Nat), .bool false, undef, .slice A f.length cap, .int .i64 (f.length : Nat), .slice (some ⟨b2, off2, none⟩) g.length cap2, .int .i64 (g.length : Nat),
        .int .i64 ((f.length : Int) - g.length), .int .i64 (n : Nat), .slice (some ⟨s1 + 1, 0, none⟩) n n, .int .u64 p, .slice (some ⟨b2, off2, none⟩) g.length cap2, .slice (some ⟨b2, off2, none⟩) g.length cap2, .int .i64 (g.length : Nat), .int .i64 ((g.length : Int) - 1),
        .pointer (some ⟨b2, off2 + (g.length - 1), none⟩), .int .u64 la, .int .u64 ld, .slice (some ⟨s1 + 1, 0, none⟩) n n, .func (.func 115) #[] #[.pointer (some ⟨W5.heap.size, 0, none⟩)], .int .i64 (y.1.1 : Nat), .int .u64 (y.1.2 : Nat),
        undef, undef, undef, undef, undef, undef, undef, undef, undef, undef, undef, undef, undef, undef, undef, undef, undef, undef, undef, undef, undef, undef, undef, undef, undef, undef, undef, undef, undef, undef, undef, undef, undef, undef, undef, undef, undef, undef, undef, undef, undef, undef, undef, undef, undef, undef], defers := [] }) ?assign ?body ?done ?stop
    case read =>
      intro W W' h1 h2
      refine ⟨h2.2.1.trans ((h1.cell (p := ⟨W5.heap.size, 0, none⟩) (show W5.heap.size < W0.heap.size by omega)).trans i0c), fun j hj => ?_⟩
      have hq := (h1.cell (p := ⟨s1 + 1, j, none⟩) (show s1 + 1 < W0.heap.size by omega)).trans (QQ0.out j hj).1
      obtain ⟨x', hx'⟩ := h2.2.2 j 0 hq
      exact ⟨s1 + 1, 0, x', rfl, by rw [Nat.zero_add]; exact hx', trivial⟩
    case start =>
      refine ⟨fun i => M.within_getD (by omega) HWF.out i, fun _ => show 0 < p by omega, fun k hk e => ?_⟩
      have := congrArg List.length e
      rw [down_len] at this
      obtain rfl : k = 0 := by simpa [fsts] using this.symm
      exact M.DivK.start (by omega) HWF.out HTF.out (by omega) n
    case assign =>
      intro l y W K hK
      gi_wp2
      exact hK
    case stop =>
      rintro D c pre W _ _ h _
      exact h.elim
    case body =>
      clear hsz0
      rintro l pre y W ⟨⟨Q, R, ⟨hRl, hQl, hdv⟩, hd, hr, hq⟩, hB⟩ _
      have hy1 := y.2.1
      obtain ⟨yi, eyi⟩ : ∃ yi, yi = y.1.1 := ⟨_, rfl⟩
      obtain ⟨yv, eyv⟩ : ∃ yv, yv = y.1.2 := ⟨_, rfl⟩
      dsimp only
      rw [← eyi, ← eyv]
      rw [← eyi] at hy1
      have hidx : yi + g.length - 1 < f.length := by omega
      have hxl := hRl (yi + g.length - 1)
      obtain ⟨x, ex⟩ : ∃ x, x = R (yi + g.length - 1) := ⟨_, rfl⟩
      have hcx := (hr (yi + g.length - 1) hidx).1
      rw [← ex] at hxl hcx
      obtain ⟨c, ec⟩ : ∃ c, c = x * ld % p := ⟨_, rfl⟩
      have hcl : c < p := by rw [ec]; exact Nat.mod_lt _ (by omega)
      have ec' : (x : Int) * ld % p = (c : Nat) := by rw [ec, Int.natCast_emod, Int.natCast_mul]
      have hstep : ∀ k, k ≤ n → fsts (pre ++ [y]) = down n k → M.DivK p f g n k (fun j => if j = yi then c else Q j) (M.RJ p g R yi c g.length) := by
        intro k hk e
        obtain ⟨k', rfl, e1, e2⟩ := down_snoc e
        rw [← eyi] at e2
        have h1 := (hdv k' (by omega) e1).step HI.out HGL.out en (show k' < n by omega) (c := c) (by rw [ec, ex, HLD.out, HLE.out, e2])
        rw [← e2] at h1
        exact h1
      obtain ⟨m1, m2⟩ := mul_le hp hxl hldl
      have c1 := hd.1.cell
      have c2 := hd.2.1.cell
      have c3 := hd.2.2.1.cell
      have c5 := hd.2.2.2.2.cell
      have HST := Lib.hid hstep
      have HD := Lib.hid hd
      have HR := Lib.hid hr
      have HQ := Lib.hid hq
      have HBW := Lib.hid hB
      have HRL := Lib.hid hRl
      have HQL := Lib.hid hQl
      have HEC := Lib.hid ec'
      have j1 : IntKind.i64.wrap ((yi : Int) + g.length) = (yi : Int) + g.length := IntWalk.i64_in _ (by omega)
      have j2 : IntKind.i64.wrap ((yi : Int) + g.length - 1) = (yi : Int) + g.length - 1 := IntWalk.i64_in _ (by omega)
      have j3 : (0 : Int) ≤ (yi : Int) + g.length - 1 := by omega
      have j4 : (yi : Int) + g.length - 1 < (f.length : Nat) := by omega
      have j5 : ((yi : Int) + g.length - 1).toNat = yi + g.length - 1 := by omega
      have j6 : (1 : Int) ≤ (yi : Int) + g.length := by omega
      clear hstep hd hr hq hB hRl hQl hdv ex ec ec' eyi eyv
      gi_wp2
      refine wpIn_region_tail (F := Fence.wide) (lr := l) rfl (by kernel_rfl) (List.dropLast_concat_getLast (by simp)).symm (by kernel_rfl) (by kernel_rfl) (by kernel_rfl) (by kernel_rfl) (by kernel_rfl) ?_
      dsimp only [List.dropLast, List.getLast]
      repeat (gi_big_quiet_step (fail))
      refine wpQuietIn_nil ?_
      rintro _ ⟨nq, rfl⟩
      obtain ⟨W2, hW2⟩ : ∃ W2, W2 = W.drewN nq := ⟨_, rfl⟩
      have hd2 : DBox W2 w.heap.size s1 bl gr cr p f.length n ld (.slice (some ⟨b2, off2, none⟩) g.length cap2) := by rw [hW2]; exact HD.out
      have hr2 : Rw W2 gr f.length R := by rw [hW2]; exact HR.out
      have hq2 : Rw W2 (s1 + 1) n Q := by rw [hW2]; exact HQ.out
      have hB2 : Below w.heap.size w W2 := by rw [hW2]; exact HBW.out.trans ⟨rfl, rfl, rfl, Nat.le_refl _, fun _ _ => rfl⟩
      have hK2 : KD w.heap.size W5.heap.size (s1 + 1) W W2 := by rw [hW2]; exact ⟨⟨rfl, rfl, rfl, Nat.le_refl _, fun _ _ => rfl⟩, rfl, fun j x h => ⟨x, h⟩⟩
      have hF2 : KeepsFrom W0.heap.size W W2 := by rw [hW2]; exact ⟨Nat.le_refl _, fun _ _ _ h _ => h⟩
      rw [← hW2, HEC.out]
      have hd3 := hd2.other (b := s1 + 1) (by omega) (by omega) (by omega) (by omega) (by omega) yi (.int .u64 (c : Nat))
      have hr3 := hr2.other (b := s1 + 1) (by omega) yi (.int .u64 (c : Nat))
      have hq3 := hq2.set hy1 c
      have hB3 := hB2.setCell (p := ⟨s1 + 1, yi, none⟩) (show w.heap.size ≤ s1 + 1 by omega) (.int .u64 (c : Nat))
      have hK3 := hK2.trans (KD.set (bi := W5.heap.size) (Bq := s1 + 1) (i := yi) W2 c (show w.heap.size ≤ s1 + 1 by omega) (by omega))
      have hF3 := hF2.trans ((KeepsOthers.setCell W2 ⟨s1 + 1, yi, none⟩ (.int .u64 (c : Nat))).from W0.heap.size)
      have c4 : W2.cell? ⟨s1 + 1 + 1, 0, none⟩ = some (.slice (some ⟨s1 + 1, 0, none⟩) n n) := hd2.2.2.2.1.cell
      obtain ⟨c6, f6⟩ := hq2 yi hy1
      have c7 := hd3.2.1.cell
      have HD3 := Lib.hid hd3
      have HR3 := Lib.hid hr3
      have HQ3 := Lib.hid hq3
      have HB3 := Lib.hid hB3
      have HK3 := Lib.hid hK3
      have HF3 := Lib.hid hF3
      have hyn : (yi : Int) < (n : Nat) := by omega
      clear hW2 hd2 hr2 hq2 hB2 hK2 hF2 hd3 hr3 hq3 hB3 hK3 hF3 c1 c2 c3 c5 hcx HD HR HQ HBW
      gi_wp2
      gi_loopw [60] (fun t wr => ∃ j : Nat, j ≤ g.length ∧ t = .int .i64 j ∧ DBox wr w.heap.size s1 bl gr cr p f.length n ld (.slice (some ⟨b2, off2, none⟩) g.length cap2) ∧ Rw wr gr f.length (M.RJ p g R yi c j) ∧ Rw wr (s1 + 1) n (fun j => if j = yi then c else Q j) ∧ Below w.heap.size w wr ∧ KeepsFrom W0.heap.size W wr ∧ KD w.heap.size W5.heap.size (s1 + 1) W wr) (fun t _ => g.length - (intOf t).toNat)
      case atStart => exact ⟨0, by omega, rfl, HD3.out, HR3.out.congr (fun i _ => (M.RJ_zero p g R yi c i).symm), HQ3.out, HB3.out, HF3.out, HK3.out⟩
      case round =>
        obtain ⟨j, hj, rfl, hd, hr, hq, hB, hF, hK⟩ := hrel
        by_cases hlt2 : j < g.length
        · have hgc := (hB.cell (p := ⟨b2, off2 + j, none⟩) hb2).trans (HC2.out j hlt2)
          have hyl := M.within_mem HGL.out.1 hlt2
          have hid : yi + j < f.length := by omega
          obtain ⟨hzc, hzf⟩ := hr (yi + j) hid
          have hzl := M.RJ_lt (show 0 < p by omega) g HRL.out yi c j (yi + j)
          have hset := fun W3 (hW3 : Rw W3 gr f.length (M.RJ p g R yi c j)) => (show Rw (W3.setCell ⟨gr, yi + j, none⟩ (.int .u64 ((M.RJ p g R yi c j (yi + j) + (p - c) * g.getD j 0) % p : Nat))) gr f.length (M.RJ p g R yi c (j + 1)) from (hW3.set hid _).congr (fun i _ => by rw [M.RJ_at]; exact M.RJ_step p g R yi c j i))
          obtain ⟨z, ez⟩ : ∃ z, z = M.RJ p g R yi c j (yi + j) := ⟨_, rfl⟩
          obtain ⟨y2, ey2⟩ : ∃ y2, y2 = g.getD j 0 := ⟨_, rfl⟩
          obtain ⟨d, ed⟩ : ∃ d, d = p - c := ⟨_, rfl⟩
          rw [← ez] at hzc hzl hset
          rw [← ey2] at hgc hyl hset
          rw [← ed] at hset
          have hdI : (p : Int) - c = (d : Nat) := by omega
          have hm : d * y2 ≤ 65537 * 65537 := Nat.mul_le_mul (by omega) (by omega)
          obtain ⟨q, eq⟩ : ∃ q, q = (z + d * y2) % p := ⟨_, rfl⟩
          have eq' : ((z : Int) + (d : Int) * y2) % p = (q : Nat) := by rw [eq, Int.natCast_emod, Int.natCast_add, Int.natCast_mul]
          rw [← eq] at hset
          have c1 := hd.1.cell
          have c3 := hd.2.2.1.cell
          have k1 : IntKind.i64.wrap ((yi : Int) + j) = (yi : Int) + j := IntWalk.i64_in _ (by omega)
          have k2 : (0 : Int) ≤ (yi : Int) + j := by omega
          have k3 : (yi : Int) + j < (f.length : Nat) := by omega
          have k4 : ((yi : Int) + j).toNat = yi + j := by omega
          have hjn : (j : Int) < (g.length : Nat) := by omega
          have HD := Lib.hid hd
          have HR := Lib.hid hr
          have HQ := Lib.hid hq
          have HB := Lib.hid hB
          have HF := Lib.hid hF
          have HK := Lib.hid hK
          have HS := Lib.hid hset
          have HE := Lib.hid eq'
          clear hd hr hq hB hF hK hset ez ey2 ed eq eq'
          gi_wp2
          refine wpIn_region_tail (F := Fence.wide) (lr := l) rfl (by kernel_rfl) (List.dropLast_concat_getLast (by simp)).symm (by kernel_rfl) (by kernel_rfl) (by kernel_rfl) (by kernel_rfl) (by kernel_rfl) ?_
          dsimp only [List.dropLast, List.getLast]
          repeat (gi_big_quiet_step (fail))
          refine wpQuietIn_nil ?_
          rintro _ ⟨nq, rfl⟩
          obtain ⟨W3, hW3⟩ : ∃ W3, W3 = wr.drewN nq := ⟨_, rfl⟩
          have hd2 : DBox W3 w.heap.size s1 bl gr cr p f.length n ld (.slice (some ⟨b2, off2, none⟩) g.length cap2) := by rw [hW3]; exact HD.out
          have hr2 : Rw W3 gr f.length (M.RJ p g R yi c j) := by rw [hW3]; exact HR.out
          have hq2 : Rw W3 (s1 + 1) n (fun j => if j = yi then c else Q j) := by rw [hW3]; exact HQ.out
          have hB2 : Below w.heap.size w W3 := by rw [hW3]; exact HB.out.trans ⟨rfl, rfl, rfl, Nat.le_refl _, fun _ _ => rfl⟩
          have hK2 : KD w.heap.size W5.heap.size (s1 + 1) W W3 := by rw [hW3]; exact HK.out.trans ⟨⟨rfl, rfl, rfl, Nat.le_refl _, fun _ _ => rfl⟩, rfl, fun j x h => ⟨x, h⟩⟩
          have hF2 : KeepsFrom W0.heap.size W W3 := by rw [hW3]; exact HF.out.trans ⟨Nat.le_refl _, fun _ _ _ h _ => h⟩
          rw [← hW3, HE.out]
          have hd3 := hd2.other (b := gr) (by omega) (by omega) (by omega) (by omega) (by omega) (yi + j) (.int .u64 (q : Nat))
          have hq3 := hq2.other (b := gr) (by omega) (yi + j) (.int .u64 (q : Nat))
          have hr3 := HS.out W3 hr2
          have hB3 := hB2.setCell (p := ⟨gr, yi + j, none⟩) (show w.heap.size ≤ gr by omega) (.int .u64 (q : Nat))
          have hK3 := hK2.trans (KD.set (bi := W5.heap.size) (Bq := s1 + 1) (i := yi + j) W3 q (show w.heap.size ≤ gr by omega) (show W5.heap.size ≠ gr by omega))
          have hF3 := hF2.trans ((KeepsOthers.setCell W3 ⟨gr, yi + j, none⟩ (.int .u64 (q : Nat))).from W0.heap.size)
          obtain ⟨c6, f6⟩ := hr2 (yi + j) hid
          have HD3 := Lib.hid hd3
          have HR3 := Lib.hid hr3
          have HQ3 := Lib.hid hq3
          have HB3 := Lib.hid hB3
          have HK3 := Lib.hid hK3
          have HF3 := Lib.hid hF3
          clear hW3 hd2 hr2 hq2 hB2 hK2 hF2 hd3 hr3 hq3 hB3 hK3 hF3 c1 c3 hzc hzf hgc HD HR HQ HB HF HK
          gi_wp2
          go_roundw
          case rel => exact ⟨j + 1, by omega, by go_num, HD3.out, HR3.out, HQ3.out, HB3.out, HF3.out, HK3.out⟩
          case measure => simp [intOf]; omega
        · obtain rfl : j = g.length := by omega
          have hRl' := M.RJ_lt (show 0 < p by omega) g HRL.out yi c g.length
          have hQl' : ∀ i, (fun j => if j = yi then c else Q j) i < p := fun i => by
            dsimp only; split
            · exact hcl
            · exact HQL.out i
          have HRL' := Lib.hid hRl'
          have HQL' := Lib.hid hQl'
          have HD := Lib.hid hd
          have HR := Lib.hid hr
          have HQ := Lib.hid hq
          have HB := Lib.hid hB
          have HF := Lib.hid hF
          have HK := Lib.hid hK
          clear hd hr hq hB hF hK hRl' hQl'
          gi_wp2
          exact ⟨HF.out, HK.out, ⟨_, _, ⟨HRL'.out, HQL'.out, HST.out⟩, HD.out, HR.out, HQ.out⟩, HB.out⟩
    case done =>
      rintro D ys W hD hys ⟨⟨Q, R, ⟨hRl, hQl, hdv⟩, hd, hr, hq⟩, hB⟩ hK
      have hdone := (hdv n (Nat.le_refl _) hys).done HI.out HGL.out en (by omega)
      have hgrW : gr < W.heap.size := by have := hd.2.2.1.lt; omega
      have hqW : s1 + 1 < W.heap.size := by have := hd.2.2.2.1.lt; omega
      have hNR := hr.nums hgrW (by omega) (fun i _ => by have := hRl i; omega)
      have hNQ := hq.nums hqW (by omega) (fun i _ => by have := hQl i; omega)
      have hNR' : Nums W (.slice (some ⟨gr, 0, none⟩) f.length cr) (M.tabM f.length R) := nums_cap hNR hcr
      have hDW := (Array.getElem?_eq_some_iff.1 hK).1
      have htr := trim_any _ _ W.drew (show Nums W.drew _ _ from hNR')
      have c3 := hd.2.2.1.cell
      have c4 : W.cell? ⟨s1 + 1 + 1, 0, none⟩ = some (.slice (some ⟨s1 + 1, 0, none⟩) n n) := hd.2.2.2.1.cell
      have HDONE := Lib.hid hdone
      have HTR := Lib.hid htr
      have HNQ := Lib.hid hNQ
      have HB := Lib.hid hB
      have HK := Lib.hid hK
      clear hdone htr hNQ hB hK hRl hQl hdv hd hr hq hNR hNR' hys
      gi_wp2
      refine wpIn_wide.2 ?_
      go_region_held3 (fun W' => W'.cell? ⟨s1, 0, none⟩ = some (.slice (some ⟨gr, 0, none⟩) f.length cr) ∧ W'.cell? ⟨s1 + 1 + 1, 0, none⟩ = some (.slice (some ⟨s1 + 1, 0, none⟩) n n))
        (first | go_keep | exact ⟨(hb6.cell (World.block_lt_of_cell? W _ c3)).trans c3, (hb6.cell (World.block_lt_of_cell? W _ c4)).trans c4⟩)
        (first | (go_at_call 101; refine HTR.out.mono ?_; rintro e w6 ⟨v6, rfl, hn6, hb6⟩))
      all_goals
        have hb6' : Below W.heap.size W w6 := ⟨hb6.os, hb6.tape, hb6.output, hb6.size, hb6.block⟩
        have hK6 := (hb6'.block D hDW).trans HK.out
        have HN6 := Lib.hid hn6
        have HNQ6 := Lib.hid (HNQ.out.below hb6')
        have HB6 := Lib.hid (HB.out.trans (hb6'.mono HB.out.size))
        have HK6 := Lib.hid hK6
        clear hb6 hb6' hn6 hK6
        gi_wp2
        refine ⟨by simp, .inl ⟨_, _, rfl, run_takeDeferred HK6.out, ?_⟩⟩
        have hbD := belowK_b (w := w) (Nat.le_refl _) w6 D _ (.deferred none) (by have := BB0.out.size; omega) HK6.out rfl rfl
        have hturn := grownBy_putObj' w6 D (.deferred none)
        refine ⟨.tuple #[.slice (some ⟨s1 + 1, 0, none⟩) n n, v6], ?_, _, _, _, _, rfl, numsTurn HNQ6.out hturn (fun r e => by cases e; exact ⟨_, HK6.out, rfl⟩), numsTurn HN6.out hturn (fun r e => by cases e; exact ⟨_, HK6.out, rfl⟩), HDONE.out, HB6.out.trans hbD⟩
        simp [results, Try.f95, go_sem]
end Go.Proofs.Ytfkepkdfpjaniaa
