/-
  Package poly: trim.
-/
import Derived.Test.YtgoognipljknjaaP2
namespace Go.Proofs.Ytgoognipljknjaa
open Go.RowKit Go.Shelf
set_option linter.unusedVariables false
attribute [local go_sem] Oper.semAt_some

/-- the first i+1 numbers of a slice of numbers -/
theorem nums_prefix {w : World} {A : Option Addr} {cap : Nat} {zs : List Nat} (h : Nums w (.slice A zs.length cap) zs) {m : Nat} (hm : m ≤ zs.length) : Nums w (.slice A m cap) (zs.take m) := by
  obtain ⟨h1, h2, h3⟩ := h
  refine ⟨fun n hn => h1 n (List.mem_of_mem_take hn), by rw [List.length_take]; omega, ?_⟩
  have hl : (zs.take m).length = m := by rw [List.length_take]; omega
  rcases h3 with ⟨a, c, e, rfl, hn⟩ | ⟨b, off, c, e, hc, hb, hcell⟩
  · left
    obtain rfl : m = 0 := by simpa using hm
    refine ⟨A, cap, rfl, by simp, fun hA => ?_⟩
    cases e
    exact hn hA
  · right
    cases e
    refine ⟨b, off, cap, by rw [hl], by omega, hb, fun i hi => ?_⟩
    rw [hcell i (by omega), M.getD_take, if_pos (by omega)]

def AllZ {len : Nat} {Rd : Nat → Nat → Prop} (l : List (Plc len Rd)) : Prop := ∀ y ∈ l, y.1.2 = 0
/-- the last of the places that came holds the first number that is not zero -/
def Hit {len : Nat} {Rd : Nat → Nat → Prop} (A : Option Addr) (cap B : Nat) (pre : List (Plc len Rd)) (W : World) : Prop := ∃ pre0 y, pre = pre0 ++ [y] ∧ AllZ pre0 ∧ y.1.2 ≠ 0 ∧ Boxed W B 24 (.slice A (y.1.1 + 1) cap)

set_option maxRecDepth 100000 in
set_option maxHeartbeats 2000000 in
theorem trim_any (v : Value) (zs : List Nat) (w : World) (hN : Nums w v zs) :
    Calls Try.prog 121 #[v] w (Gives w (M.trim zs)) := by
  obtain ⟨A, cap, rfl, hcap, hlen, hC⟩ := nums_view hN
  have HC := Lib.hid hC
  have HN := Lib.hid hN
  have hu64 := hN.1
  have HU := Lib.hid hu64
  clear hN hC hu64
  refine (callsIn_wide (n := 8)).1 ?_
  refine callsIn_of_wp_marks Try.func121 rfl trivial ?_ rfl
  simp only [Try.ntmps121, List.size_toArray, List.length_cons, List.length_nil, Nat.reduceAdd, Nat.reduceSub, Array.replicate_succ, Array.replicate_zero, List.push_toArray, List.append_toArray, List.nil_append, List.cons_append]
  gi_wp2_with (refine ⟨trivial, ?_⟩; gi_at_call 133; refine (back_in Fence.wide _ trivial rfl _ _ _ _).mono ?_; rintro e w' ⟨rfl, rfl⟩)
  obtain ⟨W0, hW0⟩ : ∃ W0, (((w.alloc (.cells #[.slice A zs.length cap] 24)).alloc (.cells #[.slice none 0 0] 24)).alloc (.cells #[.slice A zs.length cap] 24)) = W0 := ⟨_, rfl⟩
  have hsz0 : W0.heap.size = w.heap.size + 3 := by rw [← hW0]; simp
  have hB0 : Below w.heap.size w W0 := by rw [← hW0]; exact (((Below.refl _ _).alloc (Nat.le_refl _) _).alloc (by simp) _).alloc (by simp; omega) _
  have bP := ((Boxed.new w 24 (.slice A zs.length cap)).alloc (.cells #[.slice none 0 0] 24)).alloc (.cells #[.slice A zs.length cap] 24)
  have bX := (Boxed.new (w.alloc (.cells #[.slice A zs.length cap] 24)) 24 (.slice none 0 0)).alloc (.cells #[.slice A zs.length cap] 24)
  have bB := Boxed.new ((w.alloc (.cells #[.slice A zs.length cap] 24)).alloc (.cells #[.slice none 0 0] 24)) 24 (.slice A zs.length cap)
  simp only [World.size_alloc] at bX bB
  rw [hW0] at bP bX bB ⊢
  refine wpIn_rangeFunc_ownG rfl (by decide) (gf := 136) (lb := #[.pointer (some ⟨w.heap.size + 1 + 1, 0, none⟩)]) rfl trivial (enters_of Try.func136 (by kernel_rfl) rfl)
    (backG_stops Fence.wide _ trivial rfl (by decide) (w.heap.size + 1 + 1) zs.length cap A (fun j y => y = zs.getD j 0) hlen (KB w.heap.size (w.heap.size + 1 + 1)) (KB.refl _ _) KB.trans W0 (read_cells HC.out cap _ hB0 (by omega) bB.cell)) KB.trans (kb_b (by omega) (by omega)) (Below.refl _ _) (fun _ => rfl)
    (fun pre W => (AllZ pre ∧ Boxed W w.heap.size 24 (.slice A zs.length cap) ∧ Boxed W (w.heap.size + 1) 24 (.slice none 0 0)) ∧ Below w.heap.size w W)
    (fun c pre W => (c = .ret ∧ Hit A cap (w.heap.size + 1) pre W) ∧ Below w.heap.size w W)
    (OwnFrom.and (Own.from (fun s A B row hs hg hr => by obtain ⟨g1, g2, g3⟩ := hs; exact ⟨g1, boxTurn g2 hg hr, boxTurn g3 hg hr⟩) _) (ownFrom_below (Nat.le_refl _) (by omega)))
    (fun c => OwnFrom.and (Own.from (fun s A B row hs hg hr => by obtain ⟨g0, p0, y, g1, g2, g3, g4⟩ := hs; exact ⟨g0, p0, y, g1, g2, g3, boxTurn g4 hg hr⟩) _) (ownFrom_below (Nat.le_refl _) (by omega)))
    ⟨⟨fun y hy => by simp at hy, bP, bX⟩, hB0⟩
    (fun y => { tmps := #[.slice A zs.length cap, .pointer (some ⟨w.heap.size, 0, none⟩), .pointer (some ⟨w.heap.size + 1, 0, none⟩), .int .i64 (y.1.1 : Nat), .int .u64 (y.1.2 : Nat), .slice A zs.length cap,
      .func (.func 136) #[] #[.pointer (some ⟨w.heap.size + 1 + 1, 0, none⟩)], .int .i64 (y.1.1 : Nat), .int .u64 (y.1.2 : Nat), undef, undef, undef, undef, undef, undef], defers := [] }) ?assign ?body ?done ?stop
  case assign =>
    intro l y W K hK
    gi_wp2
    exact hK
  case body =>
    rintro l pre y W ⟨⟨hz, bp, bx⟩, hB⟩ _
    have hy1 := y.2.1
    obtain ⟨yv, eyv⟩ : ∃ yv, yv = y.1.2 := ⟨_, rfl⟩
    obtain ⟨yi, eyi⟩ : ∃ yi, yi = y.1.1 := ⟨_, rfl⟩
    dsimp only
    rw [← eyv, ← eyi]
    rw [← eyi] at hy1
    have c1 := bp.cell
    have c2 := bx.cell
    have f2 := bx.frozen
    have HB := Lib.hid hB
    have HP := Lib.hid bp
    have HX := Lib.hid bx
    have HZ := Lib.hid hz
    have HEV := Lib.hid eyv
    have HEI := Lib.hid eyi
    by_cases h0 : yv = 0
    · have hb : ((yv : Int) != 0) = false := by rw [bne_eq_false_iff_eq]; omega
      have H0 := Lib.hid h0
      clear hB bp bx hz eyv eyi h0 bP bX bB hW0 hB0
      gi_wp2
      refine ⟨KeepsFrom.refl _ _, KB.refl _ _ _, ⟨fun z hz => ?_, HP.out, HX.out⟩, HB.out⟩
      rcases List.mem_append.1 hz with h | h
      · exact HZ.out z h
      · rw [List.mem_singleton] at h; subst h; rw [← HEV.out]; exact H0.out
    · have hb : ((yv : Int) != 0) = true := by rw [bne_iff_ne]; omega
      have H0 := Lib.hid h0
      clear hB bp bx hz eyv eyi h0 bP bX bB hW0 hB0
      gi_wp2
      refine ⟨(KeepsOthers.setCell W ⟨w.heap.size + 1, 0, none⟩ _).from _, ⟨rfl, pre, y, rfl, HZ.out, by rw [← HEV.out]; exact H0.out, ?_⟩, HB.out.setCell (p := ⟨w.heap.size + 1, 0, none⟩) (by simp) _⟩
      rw [← HEI.out]
      exact HX.out.set _
  case done =>
    rintro D ys W hD hys ⟨⟨hz, bp, bx⟩, hB⟩ hK
    have hall : ∀ i, zs.getD i 0 = 0 := by
      intro i
      by_cases hi : i < zs.length
      · obtain ⟨y, hy, e⟩ := fsts_mem hys (by omega) hi
        have h1 := y.2.2
        have h2 := hz y hy
        rw [e] at h1
        rw [← h1, h2]
      · exact M.getD_ge (by omega)
    have HT := Lib.hid (M.trim_nil_iff.2 hall)
    have c1 := bp.cell
    have c2 := bx.cell
    have f2 := bx.frozen
    clear hall hz hys bP bX bB hW0 hB0
    gi_wp2
    have hK' := (KeepsOthers.setCell W ⟨w.heap.size + 1, 0, none⟩ (.slice none 0 0)).same D _ hK rfl
    refine ⟨by simp, .inl ⟨_, _, rfl, run_takeDeferred hK', ?_⟩⟩
    have hc5 := cell_kept (bx.set (.slice none 0 0)).cell (grownBy_putObj' _ D (.deferred none)) (fun r e => by cases e; exact ⟨_, hK', rfl⟩)
    have hBf := (hB.setCell (p := ⟨w.heap.size + 1, 0, none⟩) (by simp) (.slice none 0 0)).trans (belowK_b (w := w) (Nat.le_refl _) _ D _ (.deferred none) (by omega) hK' rfl rfl)
    refine ⟨.slice none 0 0, ?_, .slice none 0 0, rfl, ?_, hBf⟩
    · simp [results, Try.f121, go_sem, hc5]
    · rw [HT.out]
      exact ⟨by simp, by simp, .inl ⟨none, 0, rfl, rfl, fun _ => rfl⟩⟩
  case stop =>
    rintro D c pre W hD ⟨k, hk, hpre⟩ ⟨⟨rfl, pre0, y, rfl, hz, hy0, bx⟩, hB⟩ hK
    obtain ⟨k', rfl, e1, e2⟩ := down_snoc hpre
    have hy1 := y.2.1
    have hy2 := y.2.2
    have ht : M.tlen zs = y.1.1 + 1 := by
      apply M.tlen_unique
      · intro i hi
        by_cases hl : i < zs.length
        · obtain ⟨z, hz', e⟩ := fsts_mem e1 (by omega) hl
          have h1 := z.2.2
          have h2 := hz z hz'
          rw [e] at h1
          rw [← h1, h2]
        · exact M.getD_ge (by omega)
      · right
        rw [Nat.add_sub_cancel]
        dsimp only at hy2
        rw [← hy2]; exact hy0
    obtain ⟨m, em⟩ : ∃ m, m = y.1.1 + 1 := ⟨_, rfl⟩
    have e3 : ((y.1.1 : Nat) : Int) + 1 = (m : Nat) := by omega
    have hml : m ≤ zs.length := by omega
    rw [← em] at bx ht
    have c2 := bx.cell
    have HT := Lib.hid ht
    clear ht e3 em hz hy0 hy2 e1 e2 hpre bP bX bB hW0 hB0
    gi_wp2
    refine ⟨by simp, .inl ⟨_, _, rfl, run_takeDeferred hK, ?_⟩⟩
    have hc5 := cell_kept c2 (grownBy_putObj' _ D (.deferred none)) (fun r e => by cases e; exact ⟨_, hK, rfl⟩)
    have hBf := hB.trans (belowK_b (w := w) (Nat.le_refl _) W D _ (.deferred none) (by omega) hK rfl rfl)
    refine ⟨.slice A m cap, ?_, .slice A m cap, rfl, ?_, hBf⟩
    · simp [results, Try.f121, go_sem, hc5]
    · unfold M.trim
      rw [HT.out]
      exact nums_prefix (HN.out.below hBf) hml
end Go.Proofs.Ytgoognipljknjaa
