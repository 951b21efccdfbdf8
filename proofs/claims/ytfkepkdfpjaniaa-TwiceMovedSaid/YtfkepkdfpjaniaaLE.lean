/-
  P2, P3, P4 (joined).
-/
import Derived.Test.YtfkepkdfpjaniaaLD
import Derived.Test.YtfkepkdfpjaniaaLC
import Derived.OwnWalk
import Derived.BigQuiet
import Derived.Deep.QuietTactic
namespace Go.Proofs.Ytfkepkdfpjaniaa
open Go.RowKit Go.Shelf
set_option linter.unusedVariables false
attribute [local go_sem] Oper.semAt_some

theorem drop_pred (zs : List Nat) {m : Nat} (h : m < zs.length) : zs.drop m = zs.getD m 0 :: zs.drop (m + 1) := by
  rw [M.getD_lt h, ← List.drop_eq_getElem_cons h]
/-- what slices.Backward reads of a slice of numbers that the rounds leave alone -/
theorem read_cells {w : World} {A : Option Addr} {zs : List Nat} (hC : Cells w A zs) (cap Bs : Nat) {w0 : World} (hw : Below w.heap.size w w0) (hBs : Bs < w0.heap.size) (hb : w0.cell? ⟨Bs, 0, none⟩ = some (.slice A zs.length cap)) :
    ∀ W W', Below w0.heap.size w0 W → KB w.heap.size Bs W W' → W'.cell? ⟨Bs, 0, none⟩ = some (.slice A zs.length cap) ∧ ∀ j, j < zs.length → ∃ b off x : Nat, A = some ⟨b, off, none⟩ ∧ W'.cell? ⟨b, off + j, none⟩ = some (.int .u64 (x : Nat)) ∧ x = zs.getD j 0 := by
  intro W W' h1 h2
  refine ⟨h2.2.trans ((h1.cell (p := ⟨Bs, 0, none⟩) hBs).trans hb), fun j hj => ?_⟩
  obtain ⟨b, off, rfl, hl, hc⟩ := hC (by omega)
  refine ⟨b, off, zs.getD j 0, rfl, ?_, rfl⟩
  rw [h2.1.cell (p := ⟨b, off + j, none⟩) hl, h1.cell (p := ⟨b, off + j, none⟩) (Nat.lt_of_lt_of_le hl hw.size), hw.cell (p := ⟨b, off + j, none⟩) hl, hc j hj]

theorem boxTurn {X W : World} {B : Nat} {t : TypeId} {v : Value} {row : Option Nat} (h : Boxed X B t v) (hg : X.grownBy W row) (hr : ∀ r, row = some r → ∃ o : Obj, X.heap[r]? = some o ∧ o.isCells = false) : Boxed W B t v :=
  h.kept hg (fun e' => by obtain ⟨o, ho, hc⟩ := hr B e'.symm; rw [show X.heap[B]? = _ from h] at ho; cases ho; cases hc)
theorem boxOther {W : World} {B B' : Nat} {t : TypeId} {v : Value} (h : Boxed W B t v) (hne : B ≠ B') (u : Value) : Boxed (W.setCell ⟨B', 0, none⟩ u) B t v := h.kept (grownBy_setCell' W B' u) (fun e => hne (by cases e; rfl))

set_option maxRecDepth 100000 in
set_option maxHeartbeats 2000000 in
theorem value_any (p x : Nat) (v : Value) (zs : List Nat) (w : World) (h2 : 1 < p) (hp : p ≤ 65537) (hx : x < p) (hw : M.within p zs = true) (hN : Nums w v zs) :
    Calls Try.prog 89 #[.int .u64 p, v, .int .u64 x] w fun e w' => e = .returned (.int .u64 (M.pev p zs x : Nat)) ∧ Below w.heap.size w w' := by
  obtain ⟨A, cap, rfl, hcap, hlen, hC⟩ := nums_view hN
  have HC := Lib.hid hC
  have HW := Lib.hid hw
  clear hN hcap hC hw
  refine (callsIn_wide (n := 8)).1 ?_
  refine callsIn_of_wp_marks Try.func89 rfl trivial ?_ rfl
  simp only [Try.ntmps89, List.size_toArray, List.length_cons, List.length_nil, Nat.reduceAdd, Nat.reduceSub, Array.replicate_succ, Array.replicate_zero, List.push_toArray, List.append_toArray, List.nil_append, List.cons_append]
  gi_wp2_with (refine ⟨trivial, ?_⟩; gi_at_call 106; refine (back_in Fence.wide _ trivial rfl _ _ _ _).mono ?_; rintro e w' ⟨rfl, rfl⟩)
  obtain ⟨W0, hW0⟩ : ∃ W0, ((((w.alloc (.cells #[.int .u64 p] 22)).alloc (.cells #[.int .u64 x] 22)).alloc (.cells #[.int .u64 0] 22)).alloc (.cells #[.slice A zs.length cap] 31)) = W0 := ⟨_, rfl⟩
  have hsz0 : W0.heap.size = w.heap.size + 4 := by rw [← hW0]; simp
  have hB0 : Below w.heap.size w W0 := by rw [← hW0]; exact ((((Below.refl _ _).alloc (Nat.le_refl _) _).alloc (by simp) _).alloc (by simp; omega) _).alloc (by simp; omega) _
  have bP := (((Boxed.new w 22 (.int .u64 p)).alloc (.cells #[.int .u64 x] 22)).alloc (.cells #[.int .u64 0] 22)).alloc (.cells #[.slice A zs.length cap] 31)
  have bX := ((Boxed.new (w.alloc (.cells #[.int .u64 p] 22)) 22 (.int .u64 x)).alloc (.cells #[.int .u64 0] 22)).alloc (.cells #[.slice A zs.length cap] 31)
  have bS := (Boxed.new ((w.alloc (.cells #[.int .u64 p] 22)).alloc (.cells #[.int .u64 x] 22)) 22 (.int .u64 0)).alloc (.cells #[.slice A zs.length cap] 31)
  have bB := Boxed.new (((w.alloc (.cells #[.int .u64 p] 22)).alloc (.cells #[.int .u64 x] 22)).alloc (.cells #[.int .u64 0] 22)) 31 (.slice A zs.length cap)
  simp only [World.size_alloc] at bX bS bB
  rw [hW0] at bP bX bS bB ⊢
  refine wpIn_rangeFunc_ownG rfl (by decide) (gf := 115) (lb := #[.pointer (some ⟨w.heap.size + 1 + 1 + 1, 0, none⟩)]) rfl trivial (enters_of Try.func115 (by kernel_rfl) rfl)
    (backG_stops Fence.wide _ trivial rfl (by decide) (w.heap.size + 1 + 1 + 1) zs.length cap A (fun j y => y = zs.getD j 0) hlen (KB w.heap.size (w.heap.size + 1 + 1 + 1)) (KB.refl _ _) KB.trans W0 (read_cells HC.out cap _ hB0 (by omega) bB.cell)) KB.trans (kb_b (by omega) (by omega)) (Below.refl _ _) (fun _ => rfl)
    (fun pre W => (∃ s : Nat, s < p ∧ (∀ k, k ≤ zs.length → fsts pre = down zs.length k → s = M.pev p (zs.drop (zs.length - k)) x) ∧ Boxed W w.heap.size 22 (.int .u64 p) ∧ Boxed W (w.heap.size + 1) 22 (.int .u64 x) ∧ Boxed W (w.heap.size + 1 + 1) 22 (.int .u64 s)) ∧ Below w.heap.size w W)
    (fun _ _ _ => False)
    (OwnFrom.and (Own.from (fun s A B row hs hg hr => by obtain ⟨r, g1, g2, g3, g4, g5⟩ := hs; exact ⟨r, g1, g2, boxTurn g3 hg hr, boxTurn g4 hg hr, boxTurn g5 hg hr⟩) _) (ownFrom_below (Nat.le_refl _) (by omega)))
    (fun _ _ _ _ _ hs _ _ => hs)
    ⟨⟨0, by omega, ?start, bP, bX, bS⟩, hB0⟩
    (fun y => { tmps := #[.int .u64 p, .slice A zs.length cap, .int .u64 x, .pointer (some ⟨w.heap.size, 0, none⟩), undef, .pointer (some ⟨w.heap.size + 1, 0, none⟩), .int .u64 0, .pointer (some ⟨w.heap.size + 1 + 1, 0, none⟩), undef,
      .int .u64 (y.1.2 : Nat), .slice A zs.length cap, .func (.func 115) #[] #[.pointer (some ⟨w.heap.size + 1 + 1 + 1, 0, none⟩)], .int .i64 (y.1.1 : Nat), .int .u64 (y.1.2 : Nat),
      undef, undef, undef, undef, undef, undef, undef, undef], defers := [] }) ?assign ?body ?done ?stop
  case start =>
    intro k hk e
    have := congrArg List.length e
    rw [down_len] at this
    obtain rfl : k = 0 := by simpa [fsts] using this.symm
    rw [Nat.sub_zero, List.drop_length]; rfl
  case assign =>
    intro l y W K hK
    gi_wp2
    exact hK
  case stop =>
    rintro D c pre W _ _ h _
    exact h.elim
  case body =>
    rintro l pre y W ⟨⟨s, hs, hgood, bp, bx, bs⟩, hB⟩ _
    have hy1 := y.2.1
    have hy2 := y.2.2
    have hyl := M.within_mem HW.out hy1
    obtain ⟨yv, eyv⟩ : ∃ yv, yv = y.1.2 := ⟨_, rfl⟩
    obtain ⟨yi, eyi⟩ : ∃ yi, yi = y.1.1 := ⟨_, rfl⟩
    dsimp only at hy2
    rw [← hy2] at hyl
    have hg2 : ∀ k, k ≤ zs.length → fsts (pre ++ [y]) = down zs.length k → (s * x + y.1.2) % p = M.pev p (zs.drop (zs.length - k)) x := by
      intro k hk e
      obtain ⟨k', rfl, e1, e2⟩ := down_snoc e
      have h1 := hgood k' (by omega) e1
      have e3 : zs.length - (k' + 1) = y.1.1 := by omega
      have e4 : zs.length - k' = y.1.1 + 1 := by omega
      rw [e4] at h1
      rw [e3, drop_pred zs hy1, h1, hy2]
      unfold M.pev
      simp only [M.evN]
      rw [Nat.add_mod, Nat.mul_mod, Nat.mod_mod, ← Nat.mul_mod, Nat.mul_comm, ← Nat.add_mod, Nat.add_comm]
    rw [← eyv] at hyl hg2 ⊢
    rw [← eyi]
    have hm : s * x ≤ 65537 * 65537 := Nat.mul_le_mul (by omega) (by omega)
    have c1 := bp.cell
    have c2 := bx.cell
    have c3 := bs.cell
    have f3 := bs.frozen
    have HG := Lib.hid hg2
    have HB := Lib.hid hB
    have HP := Lib.hid bp
    have HX := Lib.hid bx
    have HS := Lib.hid bs
    obtain ⟨v1, ev1⟩ : ∃ v1, v1 = (s * x + yv) % p := ⟨_, rfl⟩
    have e1 : ((s : Int) * x + yv) % p = (v1 : Nat) := by rw [ev1]; simp only [Int.natCast_emod, Int.natCast_add, Int.natCast_mul]
    rw [← ev1] at HG
    have hv1 : v1 < p := by rw [ev1]; exact Nat.mod_lt _ (by omega)
    have E1 := Lib.hid e1
    clear hg2 hB bp bx bs hgood hy2 eyv eyi ev1 e1 bP bX bS bB hW0 hB0
    gi_wp2
    rw [E1.out]
    exact ⟨(KeepsOthers.setCell W ⟨w.heap.size + 1 + 1, 0, none⟩ _).from _, ⟨(Below.refl _ _).setCell (p := ⟨w.heap.size + 1 + 1, 0, none⟩) (by simp; omega) _, World.cell?_setCell_other _ _ _ _ (by intro e; have := congrArg Addr.block e; simp at this)⟩,
      ⟨v1, hv1, HG.out, boxOther HP.out (by omega) _, boxOther HX.out (by omega) _, HS.out.set _⟩, HB.out.setCell (p := ⟨w.heap.size + 1 + 1, 0, none⟩) (by simp; omega) _⟩
  case done =>
    rintro D ys W hD hys ⟨⟨s, hs, hgood, bp, bx, bs⟩, hB⟩ hK
    have h1 := hgood zs.length (Nat.le_refl _) hys
    rw [Nat.sub_self, List.drop_zero] at h1
    have c3 := bs.cell
    have H1 := Lib.hid h1
    clear h1 hgood
    gi_wp2
    refine ⟨by simp, .inl ⟨_, _, rfl, run_takeDeferred hK, ?_⟩⟩
    refine ⟨.int .u64 (s : Nat), ?_, by rw [H1.out], hB.trans (belowK_b (w := w) (Nat.le_refl _) W D _ _ (by omega) hK rfl rfl)⟩
    simp [results, Try.f89, go_sem]
end Go.Proofs.Ytfkepkdfpjaniaa
namespace Go.Proofs.Ytfkepkdfpjaniaa
open Go.RowKit Go.Shelf
set_option linter.unusedVariables false
attribute [local go_sem] Oper.semAt_some

/-- the first i+1 numbers of a slice of numbers -/
theorem nums_prefix {w : World} {A : Option Addr} {cap : Nat} {zs : List Nat} (h : Nums w (.slice A zs.length cap) zs) {m : Nat} (hm : m ≤ zs.length) : Nums w (.slice A m cap) (zs.take m) := by
  obtain ⟨h1, h2, h3⟩ := h
  refine ⟨fun n hn => h1 n (List.mem_of_mem_take hn), by rw [List.length_take]; omega, ?_⟩
  have hl : (zs.take m).length = m := by rw [List.length_take]; omega
  rcases h3 with ⟨a, c, e, rfl, hn⟩ | ⟨b, off, c, e, hc, hb, hcell⟩
  · left
    obtain rfl : m = 0 := by simpa using hm
    refine ⟨A, cap, rfl, by simp, fun hA => ?_⟩
    cases e
    exact hn hA
  · right
    cases e
    refine ⟨b, off, cap, by rw [hl], by omega, hb, fun i hi => ?_⟩
    rw [hcell i (by omega), M.getD_take, if_pos (by omega)]

def AllZ {len : Nat} {Rd : Nat → Nat → Prop} (l : List (Plc len Rd)) : Prop := ∀ y ∈ l, y.1.2 = 0
/-- the last of the places that came holds the first number that is not zero -/
def Hit {len : Nat} {Rd : Nat → Nat → Prop} (A : Option Addr) (cap B : Nat) (pre : List (Plc len Rd)) (W : World) : Prop := ∃ pre0 y, pre = pre0 ++ [y] ∧ AllZ pre0 ∧ y.1.2 ≠ 0 ∧ Boxed W B 31 (.slice A (y.1.1 + 1) cap)

set_option maxRecDepth 100000 in
set_option maxHeartbeats 2000000 in
theorem trim_any (v : Value) (zs : List Nat) (w : World) (hN : Nums w v zs) :
    Calls Try.prog 101 #[v] w (Gives w (M.trim zs)) := by
  obtain ⟨A, cap, rfl, hcap, hlen, hC⟩ := nums_view hN
  have HC := Lib.hid hC
  have HN := Lib.hid hN
  have hu64 := hN.1
  have HU := Lib.hid hu64
  clear hN hC hu64
  refine (callsIn_wide (n := 8)).1 ?_
  refine callsIn_of_wp_marks Try.func101 rfl trivial ?_ rfl
  simp only [Try.ntmps101, List.size_toArray, List.length_cons, List.length_nil, Nat.reduceAdd, Nat.reduceSub, Array.replicate_succ, Array.replicate_zero, List.push_toArray, List.append_toArray, List.nil_append, List.cons_append]
  gi_wp2_with (refine ⟨trivial, ?_⟩; gi_at_call 106; refine (back_in Fence.wide _ trivial rfl _ _ _ _).mono ?_; rintro e w' ⟨rfl, rfl⟩)
  obtain ⟨W0, hW0⟩ : ∃ W0, (((w.alloc (.cells #[.slice A zs.length cap] 31)).alloc (.cells #[.slice none 0 0] 31)).alloc (.cells #[.slice A zs.length cap] 31)) = W0 := ⟨_, rfl⟩
  have hsz0 : W0.heap.size = w.heap.size + 3 := by rw [← hW0]; simp
  have hB0 : Below w.heap.size w W0 := by rw [← hW0]; exact (((Below.refl _ _).alloc (Nat.le_refl _) _).alloc (by simp) _).alloc (by simp; omega) _
  have bP := ((Boxed.new w 31 (.slice A zs.length cap)).alloc (.cells #[.slice none 0 0] 31)).alloc (.cells #[.slice A zs.length cap] 31)
  have bX := (Boxed.new (w.alloc (.cells #[.slice A zs.length cap] 31)) 31 (.slice none 0 0)).alloc (.cells #[.slice A zs.length cap] 31)
  have bB := Boxed.new ((w.alloc (.cells #[.slice A zs.length cap] 31)).alloc (.cells #[.slice none 0 0] 31)) 31 (.slice A zs.length cap)
  simp only [World.size_alloc] at bX bB
  rw [hW0] at bP bX bB ⊢
  refine wpIn_rangeFunc_ownG rfl (by decide) (gf := 115) (lb := #[.pointer (some ⟨w.heap.size + 1 + 1, 0, none⟩)]) rfl trivial (enters_of Try.func115 (by kernel_rfl) rfl)
    (backG_stops Fence.wide _ trivial rfl (by decide) (w.heap.size + 1 + 1) zs.length cap A (fun j y => y = zs.getD j 0) hlen (KB w.heap.size (w.heap.size + 1 + 1)) (KB.refl _ _) KB.trans W0 (read_cells HC.out cap _ hB0 (by omega) bB.cell)) KB.trans (kb_b (by omega) (by omega)) (Below.refl _ _) (fun _ => rfl)
    (fun pre W => (AllZ pre ∧ Boxed W w.heap.size 31 (.slice A zs.length cap) ∧ Boxed W (w.heap.size + 1) 31 (.slice none 0 0)) ∧ Below w.heap.size w W)
    (fun c pre W => (c = .ret ∧ Hit A cap (w.heap.size + 1) pre W) ∧ Below w.heap.size w W)
    (OwnFrom.and (Own.from (fun s A B row hs hg hr => by obtain ⟨g1, g2, g3⟩ := hs; exact ⟨g1, boxTurn g2 hg hr, boxTurn g3 hg hr⟩) _) (ownFrom_below (Nat.le_refl _) (by omega)))
    (fun c => OwnFrom.and (Own.from (fun s A B row hs hg hr => by obtain ⟨g0, p0, y, g1, g2, g3, g4⟩ := hs; exact ⟨g0, p0, y, g1, g2, g3, boxTurn g4 hg hr⟩) _) (ownFrom_below (Nat.le_refl _) (by omega)))
    ⟨⟨fun y hy => by simp at hy, bP, bX⟩, hB0⟩
    (fun y => { tmps := #[.slice A zs.length cap, .pointer (some ⟨w.heap.size, 0, none⟩), .pointer (some ⟨w.heap.size + 1, 0, none⟩), .int .i64 (y.1.1 : Nat), .int .u64 (y.1.2 : Nat), .slice A zs.length cap,
      .func (.func 115) #[] #[.pointer (some ⟨w.heap.size + 1 + 1, 0, none⟩)], .int .i64 (y.1.1 : Nat), .int .u64 (y.1.2 : Nat), undef, undef, undef, undef, undef, undef], defers := [] }) ?assign ?body ?done ?stop
  case assign =>
    intro l y W K hK
    gi_wp2
    exact hK
  case body =>
    rintro l pre y W ⟨⟨hz, bp, bx⟩, hB⟩ _
    have hy1 := y.2.1
    obtain ⟨yv, eyv⟩ : ∃ yv, yv = y.1.2 := ⟨_, rfl⟩
    obtain ⟨yi, eyi⟩ : ∃ yi, yi = y.1.1 := ⟨_, rfl⟩
    dsimp only
    rw [← eyv, ← eyi]
    rw [← eyi] at hy1
    have c1 := bp.cell
    have c2 := bx.cell
    have f2 := bx.frozen
    have HB := Lib.hid hB
    have HP := Lib.hid bp
    have HX := Lib.hid bx
    have HZ := Lib.hid hz
    have HEV := Lib.hid eyv
    have HEI := Lib.hid eyi
    by_cases h0 : yv = 0
    · have hb : ((yv : Int) != 0) = false := by rw [bne_eq_false_iff_eq]; omega
      have H0 := Lib.hid h0
      clear hB bp bx hz eyv eyi h0 bP bX bB hW0 hB0
      gi_wp2
      refine ⟨KeepsFrom.refl _ _, KB.refl _ _ _, ⟨fun z hz => ?_, HP.out, HX.out⟩, HB.out⟩
      rcases List.mem_append.1 hz with h | h
      · exact HZ.out z h
      · rw [List.mem_singleton] at h; subst h; rw [← HEV.out]; exact H0.out
    · have hb : ((yv : Int) != 0) = true := by rw [bne_iff_ne]; omega
      have H0 := Lib.hid h0
      clear hB bp bx hz eyv eyi h0 bP bX bB hW0 hB0
      gi_wp2
      refine ⟨(KeepsOthers.setCell W ⟨w.heap.size + 1, 0, none⟩ _).from _, ⟨rfl, pre, y, rfl, HZ.out, by rw [← HEV.out]; exact H0.out, ?_⟩, HB.out.setCell (p := ⟨w.heap.size + 1, 0, none⟩) (by simp) _⟩
      rw [← HEI.out]
      exact HX.out.set _
  case done =>
    rintro D ys W hD hys ⟨⟨hz, bp, bx⟩, hB⟩ hK
    have hall : ∀ i, zs.getD i 0 = 0 := by
      intro i
      by_cases hi : i < zs.length
      · obtain ⟨y, hy, e⟩ := fsts_mem hys (by omega) hi
        have h1 := y.2.2
        have h2 := hz y hy
        rw [e] at h1
        rw [← h1, h2]
      · exact M.getD_ge (by omega)
    have HT := Lib.hid (M.trim_nil_iff.2 hall)
    have c1 := bp.cell
    have c2 := bx.cell
    have f2 := bx.frozen
    clear hall hz hys bP bX bB hW0 hB0
    gi_wp2
    have hK' := (KeepsOthers.setCell W ⟨w.heap.size + 1, 0, none⟩ (.slice none 0 0)).same D _ hK rfl
    refine ⟨by simp, .inl ⟨_, _, rfl, run_takeDeferred hK', ?_⟩⟩
    have hc5 := cell_kept (bx.set (.slice none 0 0)).cell (grownBy_putObj' _ D (.deferred none)) (fun r e => by cases e; exact ⟨_, hK', rfl⟩)
    have hBf := (hB.setCell (p := ⟨w.heap.size + 1, 0, none⟩) (by simp) (.slice none 0 0)).trans (belowK_b (w := w) (Nat.le_refl _) _ D _ (.deferred none) (by omega) hK' rfl rfl)
    refine ⟨.slice none 0 0, ?_, .slice none 0 0, rfl, ?_, hBf⟩
    · simp [results, Try.f101, go_sem, hc5]
    · rw [HT.out]
      exact ⟨by simp, by simp, .inl ⟨none, 0, rfl, rfl, fun _ => rfl⟩⟩
  case stop =>
    rintro D c pre W hD ⟨k, hk, hpre⟩ ⟨⟨rfl, pre0, y, rfl, hz, hy0, bx⟩, hB⟩ hK
    obtain ⟨k', rfl, e1, e2⟩ := down_snoc hpre
    have hy1 := y.2.1
    have hy2 := y.2.2
    have ht : M.tlen zs = y.1.1 + 1 := by
      apply M.tlen_unique
      · intro i hi
        by_cases hl : i < zs.length
        · obtain ⟨z, hz', e⟩ := fsts_mem e1 (by omega) hl
          have h1 := z.2.2
          have h2 := hz z hz'
          rw [e] at h1
          rw [← h1, h2]
        · exact M.getD_ge (by omega)
      · right
        rw [Nat.add_sub_cancel]
        dsimp only at hy2
        rw [← hy2]; exact hy0
    obtain ⟨m, em⟩ : ∃ m, m = y.1.1 + 1 := ⟨_, rfl⟩
    have e3 : ((y.1.1 : Nat) : Int) + 1 = (m : Nat) := by omega
    have hml : m ≤ zs.length := by omega
    rw [← em] at bx ht
    have c2 := bx.cell
    have HT := Lib.hid ht
    clear ht e3 em hz hy0 hy2 e1 e2 hpre bP bX bB hW0 hB0
    gi_wp2
    refine ⟨by simp, .inl ⟨_, _, rfl, run_takeDeferred hK, ?_⟩⟩
    have hc5 := cell_kept c2 (grownBy_putObj' _ D (.deferred none)) (fun r e => by cases e; exact ⟨_, hK, rfl⟩)
    have hBf := hB.trans (belowK_b (w := w) (Nat.le_refl _) W D _ (.deferred none) (by omega) hK rfl rfl)
    refine ⟨.slice A m cap, ?_, .slice A m cap, rfl, ?_, hBf⟩
    · simp [results, Try.f101, go_sem, hc5]
    · unfold M.trim
      rw [HT.out]
      exact nums_prefix (HN.out.below hBf) hml
end Go.Proofs.Ytfkepkdfpjaniaa
namespace Go.Proofs.Ytfkepkdfpjaniaa
open Go.RowKit
set_option linter.unusedVariables false

namespace M
/-- the coefficients after k rounds of the outer loop and j of the inner one -/
def prodAt (p : Nat) (f g : List Nat) (k j i : Nat) : Nat := (mulAt (f.take k) (at_ g) i + if k ≤ i ∧ i - k < j then f.getD k 0 * g.getD (i - k) 0 else 0) % p
theorem prodAt_zero (p : Nat) (f g : List Nat) (i : Nat) : prodAt p f g 0 0 i = 0 := by unfold prodAt; simp [mulAt]
theorem take_snoc {f : List Nat} {k : Nat} (h : k < f.length) : f.take (k + 1) = f.take k ++ [f.getD k 0] := by
  rw [List.take_succ_eq_append_getElem h, getD_lt h]
theorem prodAt_next (p : Nat) (f g : List Nat) {k : Nat} (h : k < f.length) (i : Nat) : prodAt p f g k g.length i = prodAt p f g (k + 1) 0 i := by
  unfold prodAt
  rw [take_snoc h, mulAt_snoc]
  have hl : (f.take k).length = k := by rw [List.length_take]; omega
  rw [hl]
  simp only [Nat.not_lt_zero, and_false, if_false, Nat.add_zero]
  by_cases h1 : k ≤ i
  · by_cases h2 : i - k < g.length
    · rw [if_pos ⟨h1, h2⟩, if_pos h1]; rfl
    · rw [if_neg (by omega), if_pos h1, show at_ g (i - k) = 0 from getD_ge (by omega)]; simp
  · rw [if_neg (by omega), if_neg h1]
theorem prodAt_step (p : Nat) (f g : List Nat) (k j i : Nat) : (if i = k + j then (prodAt p f g k j (k + j) + f.getD k 0 * g.getD j 0) % p else prodAt p f g k j i) = prodAt p f g k (j + 1) i := by
  by_cases h : i = k + j
  · subst h
    rw [if_pos rfl]
    unfold prodAt
    rw [if_neg (by omega), if_pos (by omega), Nat.add_sub_cancel_left, Nat.add_zero, Nat.mod_add_mod]
  · rw [if_neg h]
    unfold prodAt
    by_cases h1 : k ≤ i ∧ i - k < j
    · rw [if_pos h1, if_pos (by omega)]
    · rw [if_neg h1, if_neg (by omega)]
theorem prodAt_end (p : Nat) (f g : List Nat) (i : Nat) : prodAt p f g f.length 0 i = mulAt f (at_ g) i % p := by
  unfold prodAt; rw [List.take_length]; simp
theorem prodAt_lt {p : Nat} (hp : 0 < p) (f g : List Nat) (k j i : Nat) : prodAt p f g k j i < p := Nat.mod_lt _ hp
end M

set_option maxHeartbeats 1000000 in
theorem product_none (p : Nat) (vf vg : Value) (f g : List Nat) (w : World) (h0 : f.length = 0 ∨ g.length = 0) (hf : Nums w vf f) (hg : Nums w vg g) :
    Calls Try.prog 112 #[.int .u64 p, vf, vg] w fun e w' => e = .returned (.slice none 0 0) ∧ w = w' := by
  obtain ⟨A, cap, rfl, _, hlf, _⟩ := nums_view hf
  obtain ⟨A2, cap2, rfl, _, hlg, _⟩ := nums_view hg
  clear hf hg
  by_cases h1 : f.length = 0
  · obtain rfl : f = [] := List.eq_nil_of_length_eq_zero h1
    have e1 : ((([] : List Nat).length : Int) == 0) = true := rfl
    clear h0 h1
    go_enter Try.func112, Try.ntmps112
    go_wp2
    go_ret
    exact ⟨rfl, rfl⟩
  · obtain rfl : g = [] := List.eq_nil_of_length_eq_zero (by omega)
    have e1 : ((f.length : Int) == 0) = false := by rw [beq_eq_false_iff_ne]; omega
    have hud : ∀ b : Bool, undef ≠ Value.bool b := fun b h => by cases h
    clear h0 h1
    go_enter Try.func112, Try.ntmps112
    go_wp2
    go_ret
    exact ⟨rfl, rfl⟩

set_option maxHeartbeats 1000000 in
theorem product_some (p : Nat) (vf vg : Value) (f g : List Nat) (w : World) (h2 : 0 < p) (hp : p ≤ 65537) (hwf : M.within p f = true) (hwg : M.within p g = true) (hf0 : 0 < f.length) (hg0 : 0 < g.length) (hfl : f.length ≤ 1000) (hgl : g.length ≤ 1000) (hf : Nums w vf f) (hg : Nums w vg g) :
    Calls Try.prog 112 #[.int .u64 p, vf, vg] w (Gives w (M.prodL p f g)) := by
  obtain ⟨A, cap, rfl, _, hlf, hCf⟩ := nums_view hf
  obtain ⟨A2, cap2, rfl, _, hlg, hCg⟩ := nums_view hg
  obtain ⟨b, off, rfl, hb, hcf⟩ := hCf hf0
  obtain ⟨b2, off2, rfl, hb2, hcg⟩ := hCg hg0
  have HF := Lib.hid hcf
  have HG := Lib.hid hcg
  have HWF := Lib.hid hwf
  have HWG := Lib.hid hwg
  obtain ⟨i0, hi0, hz0, hz1, hz2⟩ := info_parts infoU64
  obtain ⟨n, en⟩ : ∃ n, n = f.length + g.length - 1 := ⟨_, rfl⟩
  have en' : (f.length : Int) + g.length - 1 = (n : Nat) := by omega
  have hn1 : n + 1 = f.length + g.length := by omega
  have HN := Lib.hid hn1
  have EN := Lib.hid en'
  have hnl : n ≤ 2000 := by omega
  have e1 : ((f.length : Int) == 0) = false := by rw [beq_eq_false_iff_ne]; omega
  have e2 : ((g.length : Int) == 0) = false := by rw [beq_eq_false_iff_ne]; omega
  have hud : ∀ b : Bool, undef ≠ Value.bool b := fun b h => by cases h
  have hpl : M.prodL p f g = M.tabM n fun i => M.mulAt f (M.at_ g) i % p := by unfold M.prodL; rw [if_neg (by omega), en]
  have HPL := Lib.hid hpl
  clear hf hg hCf hCg hcf hcg hwf hwg en en' hn1 hpl
  go_enter Try.func112, Try.ntmps112
  go_wp2_with (refine wpList_make_full _ rfl _ _ 31 rfl w.heap.size 22 i0 (.int .u64 0) 1 Try.underlying31 hi0 hz0 hz1 .i64 .i64 _ _ n rfl rfl EN.out EN.out ?c1 ?c2 ?c3 ?_)
  case c1 => rw [hz2]; omega
  case c2 => unfold maxLen; omega
  case c3 => exact Nat.le_refl _
  intro w1 hown hgrow
  have hr := Rw.start hown (toList_madeCells_one _ _)
  have HB := Lib.hid ((Below.refl w.heap.size w).grown hgrow (Nat.le_refl _) (by simp))
  have HS := Lib.hid (World.block_lt_of_cell? w1 _ (hr 0 (by have := HN.out; omega)).1)
  have HR := Lib.hid (hr.congr (G := M.prodAt p f g 0 0) (fun i _ => (M.prodAt_zero p f g i).symm))
  clear hr hown hgrow
  go_wp2_with fail
  go_loopw [29] (fun t wr => ∃ k : Nat, k ≤ f.length ∧ t = .int .i64 k ∧ Rw wr w.heap.size n (M.prodAt p f g k 0) ∧ Below w.heap.size w wr ∧ w.heap.size < wr.heap.size) (fun t _ => f.length - (intOf t).toNat)
  case atStart => exact ⟨0, by omega, rfl, HR.out, HB.out, HS.out⟩
  case round =>
    obtain ⟨k, hk, rfl, hr, hB, hsz⟩ := hrel
    have HR2 := Lib.hid hr
    have HB2 := Lib.hid hB
    have HS2 := Lib.hid hsz
    clear hr hB hsz
    by_cases hlt : k < f.length
    · have hc := (HB2.out.cell (p := ⟨b, off + k, none⟩) hb).trans (HF.out k hlt)
      have hx := M.within_mem HWF.out hlt
      obtain ⟨x, ex⟩ : ∃ x, x = f.getD k 0 := ⟨_, rfl⟩
      rw [← ex] at hc hx
      have HX := Lib.hid ex
      clear ex
      obtain ⟨wo, rfl⟩ : ∃ wo : World, wo = wr := ⟨_, rfl⟩
      go_wp2_with fail
      go_loopw [36] (fun t wr => ∃ j : Nat, j ≤ g.length ∧ t = .int .i64 j ∧ Rw wr w.heap.size n (M.prodAt p f g k j) ∧ Below w.heap.size w wr ∧ w.heap.size < wr.heap.size) (fun t _ => g.length - (intOf t).toNat)
      case atStart => exact ⟨0, by omega, rfl, HR2.out, HB2.out, HS2.out⟩
      case round =>
        obtain ⟨j, hj, rfl, hr3, hB3, hs3⟩ := hrel
        by_cases hjl : j < g.length
        · have hc2 := (hB3.cell (p := ⟨b2, off2 + j, none⟩) hb2).trans (HG.out j hjl)
          have hy := M.within_mem HWG.out hjl
          have hkj : k + j < n := by have := HN.out; omega
          obtain ⟨c3, f3⟩ := hr3 (k + j) hkj
          have hlt3 := M.prodAt_lt h2 f g k j (k + j)
          have hr4 := (hr3.set hkj ((M.prodAt p f g k j (k + j) + f.getD k 0 * g.getD j 0) % p)).congr (fun i _ => M.prodAt_step p f g k j i)
          have hB4 := hB3.setCell (p := ⟨w.heap.size, k + j, none⟩) (Nat.le_refl _) (.int .u64 (((M.prodAt p f g k j (k + j) + f.getD k 0 * g.getD j 0) % p : Nat) : Int))
          obtain ⟨y, ey⟩ : ∃ y, y = g.getD j 0 := ⟨_, rfl⟩
          obtain ⟨z, ez⟩ : ∃ z, z = M.prodAt p f g k j (k + j) := ⟨_, rfl⟩
          rw [← ey] at hc2 hy hr4 hB4
          rw [← HX.out] at hr4 hB4
          rw [← ez] at c3 hlt3 hr4 hB4
          obtain ⟨m1, m2⟩ := mul_le hp hx hy
          have e5 : (((z + x * y) % p : Nat) : Int) = ((z : Int) + x * y) % p := by rw [Int.natCast_emod, Int.natCast_add, Int.natCast_mul]
          rw [e5] at hr4 hB4
          have HR4 := Lib.hid hr4
          have HB4 := Lib.hid hB4
          have hi1 : (k : Int) + j < (n : Nat) := by omega
          have HS3 := Lib.hid hs3
          clear hr3 hB3 hr4 hB4 ey ez e5 hs3
          go_wp2_with fail
          go_roundw
          case rel => exact ⟨j + 1, by omega, by go_num, HR4.out, HB4.out, by simpa using HS3.out⟩
          case measure => simp [intOf]; omega
        · obtain rfl : j = g.length := by omega
          have HR3 := Lib.hid (hr3.congr (fun i _ => M.prodAt_next p f g hlt i))
          have HB3 := Lib.hid hB3
          have HS3 := Lib.hid hs3
          clear hr3 hB3 hs3
          go_wp2_with fail
          go_roundw
          case rel => exact ⟨k + 1, by omega, by go_num, HR3.out, HB3.out, HS3.out⟩
          case measure => simp [intOf]; omega
    · obtain rfl : k = f.length := by omega
      go_wp2_with fail
      go_ret
      refine ⟨_, rfl, ?_, HB2.out⟩
      rw [HPL.out]
      exact (HR2.out.congr (fun i _ => M.prodAt_end p f g i)).nums HS2.out (by omega) (fun i _ => by have := Nat.mod_lt (M.mulAt f (M.at_ g) i) h2; omega)

theorem product_any (p : Nat) (vf vg : Value) (f g : List Nat) (w : World) (h2 : 0 < p) (hp : p ≤ 65537) (hwf : M.within p f = true) (hwg : M.within p g = true) (hfl : f.length ≤ 1000) (hgl : g.length ≤ 1000) (hf : Nums w vf f) (hg : Nums w vg g) :
    Calls Try.prog 112 #[.int .u64 p, vf, vg] w (Gives w (M.prodL p f g)) := by
  by_cases h0 : f.length = 0 ∨ g.length = 0
  · refine (product_none p vf vg f g w h0 hf hg).mono ?_
    rintro e w' ⟨rfl, rfl⟩
    refine ⟨_, rfl, ?_, Below.refl _ _⟩
    unfold M.prodL
    rw [if_pos h0]
    exact ⟨by simp, by simp, .inl ⟨none, 0, rfl, rfl, fun _ => rfl⟩⟩
  · exact product_some p vf vg f g w h2 hp hwf hwg (by omega) (by omega) hfl hgl hf hg
end Go.Proofs.Ytfkepkdfpjaniaa
