/-
  Package poly: trim and value, loops over slices.Backward.
-/
import Derived.Test.YtgoognipljknjaaP1
import Derived.Test.YtgoognipljknjaaBackG
import Derived.Test.YtgoognipljknjaaInv
namespace Go.Proofs.Ytgoognipljknjaa
open Go.RowKit Go.Shelf
set_option linter.unusedVariables false
attribute [local go_sem] Oper.semAt_some

theorem drop_pred (zs : List Nat) {m : Nat} (h : m < zs.length) : zs.drop m = zs.getD m 0 :: zs.drop (m + 1) := by
  rw [M.getD_lt h, ← List.drop_eq_getElem_cons h]
/-- what slices.Backward reads of a slice of numbers that the rounds leave alone -/
theorem read_cells {w : World} {A : Option Addr} {zs : List Nat} (hC : Cells w A zs) (cap Bs : Nat) {w0 : World} (hw : Below w.heap.size w w0) (hBs : Bs < w0.heap.size) (hb : w0.cell? ⟨Bs, 0, none⟩ = some (.slice A zs.length cap)) :
    ∀ W W', Below w0.heap.size w0 W → KB w.heap.size Bs W W' → W'.cell? ⟨Bs, 0, none⟩ = some (.slice A zs.length cap) ∧ ∀ j, j < zs.length → ∃ b off x : Nat, A = some ⟨b, off, none⟩ ∧ W'.cell? ⟨b, off + j, none⟩ = some (.int .u64 (x : Nat)) ∧ x = zs.getD j 0 := by
  intro W W' h1 h2
  refine ⟨h2.2.trans ((h1.cell (p := ⟨Bs, 0, none⟩) hBs).trans hb), fun j hj => ?_⟩
  obtain ⟨b, off, rfl, hl, hc⟩ := hC (by omega)
  refine ⟨b, off, zs.getD j 0, rfl, ?_, rfl⟩
  rw [h2.1.cell (p := ⟨b, off + j, none⟩) hl, h1.cell (p := ⟨b, off + j, none⟩) (Nat.lt_of_lt_of_le hl hw.size), hw.cell (p := ⟨b, off + j, none⟩) hl, hc j hj]

theorem boxTurn {X W : World} {B : Nat} {t : TypeId} {v : Value} {row : Option Nat} (h : Boxed X B t v) (hg : X.grownBy W row) (hr : ∀ r, row = some r → ∃ o : Obj, X.heap[r]? = some o ∧ o.isCells = false) : Boxed W B t v :=
  h.kept hg (fun e' => by obtain ⟨o, ho, hc⟩ := hr B e'.symm; rw [show X.heap[B]? = _ from h] at ho; cases ho; cases hc)
theorem boxOther {W : World} {B B' : Nat} {t : TypeId} {v : Value} (h : Boxed W B t v) (hne : B ≠ B') (u : Value) : Boxed (W.setCell ⟨B', 0, none⟩ u) B t v := h.kept (grownBy_setCell' W B' u) (fun e => hne (by cases e; rfl))

set_option maxRecDepth 100000 in
set_option maxHeartbeats 2000000 in
theorem value_any (p x : Nat) (v : Value) (zs : List Nat) (w : World) (h2 : 1 < p) (hp : p ≤ 65537) (hx : x < p) (hw : M.within p zs = true) (hN : Nums w v zs) :
    Calls Try.prog 113 #[.int .u64 p, v, .int .u64 x] w fun e w' => e = .returned (.int .u64 (M.pev p zs x : Nat)) ∧ Below w.heap.size w w' := by
  obtain ⟨A, cap, rfl, hcap, hlen, hC⟩ := nums_view hN
  have HC := Lib.hid hC
  have HW := Lib.hid hw
  clear hN hcap hC hw
  refine (callsIn_wide (n := 8)).1 ?_
  refine callsIn_of_wp_marks Try.func113 rfl trivial ?_ rfl
  simp only [Try.ntmps113, List.size_toArray, List.length_cons, List.length_nil, Nat.reduceAdd, Nat.reduceSub, Array.replicate_succ, Array.replicate_zero, List.push_toArray, List.append_toArray, List.nil_append, List.cons_append]
  gi_wp2_with (refine ⟨trivial, ?_⟩; gi_at_call 133; refine (back_in Fence.wide _ trivial rfl _ _ _ _).mono ?_; rintro e w' ⟨rfl, rfl⟩)
  obtain ⟨W0, hW0⟩ : ∃ W0, ((((w.alloc (.cells #[.int .u64 p] 22)).alloc (.cells #[.int .u64 x] 22)).alloc (.cells #[.int .u64 0] 22)).alloc (.cells #[.slice A zs.length cap] 24)) = W0 := ⟨_, rfl⟩
  have hsz0 : W0.heap.size = w.heap.size + 4 := by rw [← hW0]; simp
  have hB0 : Below w.heap.size w W0 := by rw [← hW0]; exact ((((Below.refl _ _).alloc (Nat.le_refl _) _).alloc (by simp) _).alloc (by simp; omega) _).alloc (by simp; omega) _
  have bP := (((Boxed.new w 22 (.int .u64 p)).alloc (.cells #[.int .u64 x] 22)).alloc (.cells #[.int .u64 0] 22)).alloc (.cells #[.slice A zs.length cap] 24)
  have bX := ((Boxed.new (w.alloc (.cells #[.int .u64 p] 22)) 22 (.int .u64 x)).alloc (.cells #[.int .u64 0] 22)).alloc (.cells #[.slice A zs.length cap] 24)
  have bS := (Boxed.new ((w.alloc (.cells #[.int .u64 p] 22)).alloc (.cells #[.int .u64 x] 22)) 22 (.int .u64 0)).alloc (.cells #[.slice A zs.length cap] 24)
  have bB := Boxed.new (((w.alloc (.cells #[.int .u64 p] 22)).alloc (.cells #[.int .u64 x] 22)).alloc (.cells #[.int .u64 0] 22)) 24 (.slice A zs.length cap)
  simp only [World.size_alloc] at bX bS bB
  rw [hW0] at bP bX bS bB ⊢
  refine wpIn_rangeFunc_ownG rfl (by decide) (gf := 136) (lb := #[.pointer (some ⟨w.heap.size + 1 + 1 + 1, 0, none⟩)]) rfl trivial (enters_of Try.func136 (by kernel_rfl) rfl)
    (backG_stops Fence.wide _ trivial rfl (by decide) (w.heap.size + 1 + 1 + 1) zs.length cap A (fun j y => y = zs.getD j 0) hlen (KB w.heap.size (w.heap.size + 1 + 1 + 1)) (KB.refl _ _) KB.trans W0 (read_cells HC.out cap _ hB0 (by omega) bB.cell)) KB.trans (kb_b (by omega) (by omega)) (Below.refl _ _) (fun _ => rfl)
    (fun pre W => (∃ s : Nat, s < p ∧ (∀ k, k ≤ zs.length → fsts pre = down zs.length k → s = M.pev p (zs.drop (zs.length - k)) x) ∧ Boxed W w.heap.size 22 (.int .u64 p) ∧ Boxed W (w.heap.size + 1) 22 (.int .u64 x) ∧ Boxed W (w.heap.size + 1 + 1) 22 (.int .u64 s)) ∧ Below w.heap.size w W)
    (fun _ _ _ => False)
    (OwnFrom.and (Own.from (fun s A B row hs hg hr => by obtain ⟨r, g1, g2, g3, g4, g5⟩ := hs; exact ⟨r, g1, g2, boxTurn g3 hg hr, boxTurn g4 hg hr, boxTurn g5 hg hr⟩) _) (ownFrom_below (Nat.le_refl _) (by omega)))
    (fun _ _ _ _ _ hs _ _ => hs)
    ⟨⟨0, by omega, ?start, bP, bX, bS⟩, hB0⟩
    (fun y => { tmps := #[.int .u64 p, .slice A zs.length cap, .int .u64 x, .pointer (some ⟨w.heap.size, 0, none⟩), undef, .pointer (some ⟨w.heap.size + 1, 0, none⟩), .int .u64 0, .pointer (some ⟨w.heap.size + 1 + 1, 0, none⟩), undef,
      .int .u64 (y.1.2 : Nat), .slice A zs.length cap, .func (.func 136) #[] #[.pointer (some ⟨w.heap.size + 1 + 1 + 1, 0, none⟩)], .int .i64 (y.1.1 : Nat), .int .u64 (y.1.2 : Nat),
      undef, undef, undef, undef, undef, undef, undef, undef], defers := [] }) ?assign ?body ?done ?stop
  case start =>
    intro k hk e
    have := congrArg List.length e
    rw [down_len] at this
    obtain rfl : k = 0 := by simpa [fsts] using this.symm
    rw [Nat.sub_zero, List.drop_length]; rfl
  case assign =>
    intro l y W K hK
    gi_wp2
    exact hK
  case stop =>
    rintro D c pre W _ _ h _
    exact h.elim
  case body =>
    rintro l pre y W ⟨⟨s, hs, hgood, bp, bx, bs⟩, hB⟩ _
    have hy1 := y.2.1
    have hy2 := y.2.2
    have hyl := M.within_mem HW.out hy1
    obtain ⟨yv, eyv⟩ : ∃ yv, yv = y.1.2 := ⟨_, rfl⟩
    obtain ⟨yi, eyi⟩ : ∃ yi, yi = y.1.1 := ⟨_, rfl⟩
    dsimp only at hy2
    rw [← hy2] at hyl
    have hg2 : ∀ k, k ≤ zs.length → fsts (pre ++ [y]) = down zs.length k → (s * x + y.1.2) % p = M.pev p (zs.drop (zs.length - k)) x := by
      intro k hk e
      obtain ⟨k', rfl, e1, e2⟩ := down_snoc e
      have h1 := hgood k' (by omega) e1
      have e3 : zs.length - (k' + 1) = y.1.1 := by omega
      have e4 : zs.length - k' = y.1.1 + 1 := by omega
      rw [e4] at h1
      rw [e3, drop_pred zs hy1, h1, hy2]
      unfold M.pev
      simp only [M.evN]
      rw [Nat.add_mod, Nat.mul_mod, Nat.mod_mod, ← Nat.mul_mod, Nat.mul_comm, ← Nat.add_mod, Nat.add_comm]
    rw [← eyv] at hyl hg2 ⊢
    rw [← eyi]
    have hm : s * x ≤ 65537 * 65537 := Nat.mul_le_mul (by omega) (by omega)
    have c1 := bp.cell
    have c2 := bx.cell
    have c3 := bs.cell
    have f3 := bs.frozen
    have HG := Lib.hid hg2
    have HB := Lib.hid hB
    have HP := Lib.hid bp
    have HX := Lib.hid bx
    have HS := Lib.hid bs
    obtain ⟨v1, ev1⟩ : ∃ v1, v1 = (s * x + yv) % p := ⟨_, rfl⟩
    have e1 : ((s : Int) * x + yv) % p = (v1 : Nat) := by rw [ev1]; simp only [Int.natCast_emod, Int.natCast_add, Int.natCast_mul]
    rw [← ev1] at HG
    have hv1 : v1 < p := by rw [ev1]; exact Nat.mod_lt _ (by omega)
    have E1 := Lib.hid e1
    clear hg2 hB bp bx bs hgood hy2 eyv eyi ev1 e1 bP bX bS bB hW0 hB0
    gi_wp2
    rw [E1.out]
    exact ⟨(KeepsOthers.setCell W ⟨w.heap.size + 1 + 1, 0, none⟩ _).from _, ⟨(Below.refl _ _).setCell (p := ⟨w.heap.size + 1 + 1, 0, none⟩) (by simp; omega) _, World.cell?_setCell_other _ _ _ _ (by intro e; have := congrArg Addr.block e; simp at this)⟩,
      ⟨v1, hv1, HG.out, boxOther HP.out (by omega) _, boxOther HX.out (by omega) _, HS.out.set _⟩, HB.out.setCell (p := ⟨w.heap.size + 1 + 1, 0, none⟩) (by simp; omega) _⟩
  case done =>
    rintro D ys W hD hys ⟨⟨s, hs, hgood, bp, bx, bs⟩, hB⟩ hK
    have h1 := hgood zs.length (Nat.le_refl _) hys
    rw [Nat.sub_self, List.drop_zero] at h1
    have c3 := bs.cell
    have H1 := Lib.hid h1
    clear h1 hgood
    gi_wp2
    refine ⟨by simp, .inl ⟨_, _, rfl, run_takeDeferred hK, ?_⟩⟩
    refine ⟨.int .u64 (s : Nat), ?_, by rw [H1.out], hB.trans (belowK_b (w := w) (Nat.le_refl _) W D _ _ (by omega) hK rfl rfl)⟩
    simp [results, Try.f113, go_sem]
end Go.Proofs.Ytgoognipljknjaa
