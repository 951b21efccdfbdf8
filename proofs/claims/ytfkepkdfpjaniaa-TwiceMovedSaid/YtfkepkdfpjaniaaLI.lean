/-
  P12 (joined).
-/
import Derived.Test.YtfkepkdfpjaniaaLH
import Derived.Test.YtfkepkdfpjaniaaLG
namespace Go.Proofs.Ytfkepkdfpjaniaa
open Go.RowKit Go.Shelf
set_option linter.unusedVariables false
attribute [local go_sem] Oper.semAt_some

set_option maxRecDepth 100000 in
set_option maxHeartbeats 2000000 in
theorem divide_short (p : Nat) (v v2 : Value) (f g : List Nat) (w : World) (hwf : M.within p f = true) (tf : M.trim f = f) (hlt : f.length < g.length) (hv : Nums w v f) (hv2 : Nums w v2 g) :
    Calls Try.prog 95 #[.int .u64 p, v, v2] w (DivEnd w p f g) := by
  have HCL := Lib.hid fun W (h : Nums W v f) => clone_any v f W h
  have HID := Lib.hid (M.isDiv_short hwf tf hlt)
  obtain ⟨A, cap, rfl, _, hl1, _⟩ := nums_view hv
  obtain ⟨A2, cap2, rfl, _, hl2, _⟩ := nums_view hv2
  have HV := Lib.hid hv
  clear hwf tf hv hv2
  go_enter Try.func95, Try.ntmps95
  go_wp2_with fail
  refine (HCL.out _ (HV.out.below (((Below.refl w.heap.size w).alloc (Nat.le_refl _) _).alloc (by simp) _))).mono ?_
  rintro e w1 ⟨v1, rfl, hn1, hb1⟩
  obtain ⟨A1, cap1, rfl⟩ := nums_slice' hn1
  have bG := Boxed.new (w.alloc (.cells #[.int .u64 p] 22)) 31 (.slice A2 g.length cap2)
  simp only [World.size_alloc] at bG hb1
  have hs1 : w.heap.size + 2 ≤ w1.heap.size := by have := hb1.size; simp at this; omega
  have bG1 : Boxed w1 (w.heap.size + 1) 31 (.slice A2 g.length cap2) := (hb1.block _ (by omega)).trans bG
  have hB1 : Below w.heap.size w w1 := (((Below.refl w.heap.size w).alloc (Nat.le_refl _) _).alloc (by simp) _).trans (hb1.mono (by omega))
  have cG2 := (bG1.alloc (.cells #[.slice A1 f.length cap1] 31)).cell
  have cR2 := (Boxed.new w1 31 (.slice A1 f.length cap1)).cell
  have HN := Lib.hid hn1
  have HB := Lib.hid hB1
  clear bG hb1 bG1 hn1 hB1
  go_wp2_with fail
  go_region
  all_goals
    go_wp2_with fail
    go_ret2
    exact ⟨_, _, [], f, rfl, ⟨by simp, by simp, .inl ⟨none, 0, rfl, rfl, fun _ => rfl⟩⟩, HN.out.below (balloc w1 _).drew, HID.out, (HB.out.alloc HB.out.size _).drew⟩

theorem divide_any (p : Nat) (v v2 : Value) (f g : List Nat) (w : World) (hi : M.isP p = true) (hwf : M.within p f = true) (tf : M.trim f = f) (hg : M.Lead p g) (hfl : f.length ≤ 201) (hv : Nums w v f) (hv2 : Nums w v2 g) :
    Calls Try.prog 95 #[.int .u64 p, v, v2] w (DivEnd w p f g) := by
  by_cases h : f.length < g.length
  · exact divide_short p v v2 f g w hwf tf h hv hv2
  · exact divide_main p v v2 f g w hi hwf tf hg (by omega) hfl hv hv2

theorem nums_set {W : World} {B : Nat} {v0 u v : Value} {zs : List Nat} (h : Nums W v zs) (hb : W.cell? ⟨B, 0, none⟩ = some v0) (hv0 : ∀ k x, v0 ≠ .int k x) : Nums (W.setCell ⟨B, 0, none⟩ u) v zs := by
  obtain ⟨h1, h2, h3⟩ := h
  refine ⟨h1, h2, ?_⟩
  rcases h3 with h3 | ⟨b, off, cap, e, hc, hl, hcell⟩
  · exact .inl h3
  · refine .inr ⟨b, off, cap, e, hc, by simpa using hl, fun i hi => ?_⟩
    rw [World.cell?_setCell_other _ _ _ _ (fun e' => ?_)]
    · exact hcell i hi
    · have h4 := hcell i hi
      first | rw [← e', hb] at h4 | rw [e', hb] at h4
      exact hv0 _ _ (Option.some.inj h4)

/-- what the closure of Divide leaves: the remainder, and the quotient in its box -/
def DivR (p : Nat) (f g : List Nat) (B : Nat) (u : Value) (c : Int) (w' : World) : Prop :=
  (g = [] → c = 7 ∧ u = .slice none 0 0 ∧ w'.cell? ⟨B, 0, none⟩ = some (.slice none 0 0)) ∧
  (g ≠ [] → c = 0 ∧ ∃ vq q r, Nums w' u r ∧ w'.cell? ⟨B, 0, none⟩ = some vq ∧ Nums w' vq q ∧ M.IsDiv p f g q r)

set_option maxHeartbeats 400000 in
theorem divide1_zero (n0 p : Nat) (v : Value) (f : List Nat) (A2 : Option Addr) (cap2 : Nat) (a : Addr) (B : Nat) (w : World) (hv : Nums w v f) (hc2 : w.cell? ⟨B, 0, none⟩ = some (.slice none 0 0)) :
    Calls Try.prog 94 #[v, .slice A2 0 cap2, .pointer (some a), .pointer (some ⟨B, 0, none⟩)] w fun e w' => ∃ u c, e = .returned (.tuple #[u, .int .i64 c]) ∧ DivR p f [] B u c w' ∧ Below n0 w w' := by
  obtain ⟨A, cap, rfl⟩ := nums_slice' hv
  clear hv
  have HC2 := Lib.hid hc2
  clear hc2
  go_enter Try.func94, Try.ntmps94
  go_wp2_with fail
  go_ret2
  exact ⟨_, _, rfl, ⟨fun _ => ⟨rfl, rfl, HC2.out⟩, fun h => absurd rfl h⟩, Below.refl _ _⟩

set_option maxHeartbeats 1000000 in
theorem divide1_any (n0 p : Nat) (v v2 : Value) (f g : List Nat) (a : Addr) (B : Nat) (w : World) (hi : M.isP p = true) (hwf : M.within p f = true) (tf : M.trim f = f) (hwg : M.within p g = true) (tg : M.trim g = g) (hfl : f.length ≤ 201) (hv : Nums w v f) (hv2 : Nums w v2 g)
    (hc : w.cell? a = some (.int .u64 p)) (hc2 : w.cell? ⟨B, 0, none⟩ = some (.slice none 0 0)) (hf2 : w.frozen? ⟨B, 0, none⟩ = false) (hB : n0 ≤ B) :
    Calls Try.prog 94 #[v, v2, .pointer (some a), .pointer (some ⟨B, 0, none⟩)] w fun e w' => ∃ u c, e = .returned (.tuple #[u, .int .i64 c]) ∧ DivR p f g B u c w' ∧ Below n0 w w' := by
  by_cases h0 : g = []
  · subst h0
    obtain ⟨A2, cap2, rfl⟩ := nums_slice' hv2
    exact divide1_zero n0 p v f A2 cap2 a B w hv hc2
  · have hgp : 0 < g.length := by cases g with | nil => exact absurd rfl h0 | cons x t => simp
    have HD := Lib.hid (divide_any p v v2 f g w hi hwf tf (M.lead_of hwg tg hgp) hfl hv hv2)
    have hBw := World.block_lt_of_cell? w _ hc2
    have HF2 := Lib.hid hf2
    have HC2 := Lib.hid hc2
    have H0 := Lib.hid h0
    obtain ⟨A, cap, rfl⟩ := nums_slice' hv
    obtain ⟨A2, cap2, rfl⟩ := nums_slice' hv2
    have hgz : ((g.length : Int) == 0) = false := by rw [beq_eq_false_iff_ne]; omega
    clear hi hwf tf hwg tg hv hv2 hc2 hf2 h0
    go_enter Try.func94, Try.ntmps94
    go_wp2_with fail
    refine HD.out.mono ?_
    rintro e w1 ⟨vq, vr, q, r, rfl, hq, hr, hdv, hb⟩
    obtain ⟨Aq, capq, rfl⟩ := nums_slice' hq
    obtain ⟨Ar, capr, rfl⟩ := nums_slice' hr
    have c1 := (hb.cell (p := ⟨B, 0, none⟩) hBw).trans HC2.out
    have f1 := (hb.frozen (p := ⟨B, 0, none⟩) hBw).trans HF2.out
    have HQ := Lib.hid (nums_set (u := .slice Aq q.length capq) hq c1 (fun k x h => by cases h))
    have HR := Lib.hid (nums_set (u := .slice Aq q.length capq) hr c1 (fun k x h => by cases h))
    have HS := Lib.hid (World.cell?_setCell_same _ _ (.slice Aq q.length capq) c1)
    have HDV := Lib.hid hdv
    have hn : Below n0 w w1 := by
      rcases Nat.lt_or_ge w.heap.size n0 with h | h
      · omega
      · exact hb.mono h
    have HB := Lib.hid (hn.setCell (p := ⟨B, 0, none⟩) hB (.slice Aq q.length capq))
    clear hq hr hdv hb hn
    go_wp2_with fail
    go_ret2
    exact ⟨_, _, rfl, ⟨fun h => absurd h H0.out, fun _ => ⟨rfl, _, _, _, HR.out, HS.out, HQ.out, HDV.out⟩⟩, HB.out⟩

set_option maxHeartbeats 400000 in
theorem onTwo_div (n0 : Nat) (p : Nat) (v v2 : Value) (f g : List Nat) (R : Value → Int → World → Prop) (a a2 : Addr) (w : World) (hn0 : n0 ≤ w.heap.size) (hv : Nums w v f) (hv2 : Nums w v2 g) (h : M.rgt p [f, g] = 0)
    (hop : ∀ W v' v'', Nums W v' (M.trim f) → Nums W v'' (M.trim g) → Below w.heap.size w W → Calls Try.prog 94 #[v', v'', .pointer (some a), .pointer (some a2)] W fun e W' => ∃ u c, e = .returned (.tuple #[u, .int .i64 c]) ∧ R u c W' ∧ Below n0 W W') :
    Calls Try.prog 93 #[.int .u64 p, v, v2, .func (.func 94) #[] #[.pointer (some a), .pointer (some a2)]] w fun e w' => ∃ u c, e = .returned (.tuple #[u, .int .i64 c]) ∧ R u c w' ∧ Below n0 w w' := by
  rw [M.rgt_two] at h
  have h1 : M.chk p f 201 = 0 := by
    by_cases h1 : M.chk p f 201 = 0
    · exact h1
    · rw [if_neg h1] at h; exact absurd h h1
  rw [if_pos h1] at h
  have hp : p < 18446744073709551616 := by have := M.pos_of (M.chk_ok h).1; omega
  have hc := check_any p v f 201 w hp (by omega) hv
  rw [h1] at hc
  have hc2 := check_any p v2 g 201 w hp (by omega) hv2
  rw [h] at hc2
  have HC := Lib.hid hc
  have HC2 := Lib.hid hc2
  have HT := Lib.hid (trim_any v f w hv)
  have HOP := Lib.hid hop
  have HV2 := Lib.hid hv2
  obtain ⟨A, cap, rfl⟩ := nums_slice' hv
  obtain ⟨A2, cap2, rfl⟩ := nums_slice' hv2
  clear hc hc2 h h1 hop hp hv hv2
  go_enter Try.func93, Try.ntmps93
  go_wp2_with fail
  refine HC.out.mono ?_
  rintro e w1 ⟨rfl, rfl⟩
  go_wp2_with fail
  refine HC2.out.mono ?_
  rintro e w1 ⟨rfl, rfl⟩
  go_wp2_with fail
  refine HT.out.mono ?_
  rintro e w2 ⟨v2, rfl, hn2, hb2⟩
  have HT2 := Lib.hid (trim_any _ g w2 (HV2.out.below hb2))
  have B2 := Lib.hid hb2
  have N2 := Lib.hid hn2
  clear hn2 hb2
  go_wp2_with fail
  refine HT2.out.mono ?_
  rintro e w3 ⟨v3, rfl, hn3, hb3⟩
  have HO3 := Lib.hid (HOP.out w3 v2 v3 (N2.out.below hb3) hn3 (bnext B2.out hb3))
  have B3 := Lib.hid (bnext B2.out hb3)
  clear hn3 hb3
  go_wp2_with fail
  refine HO3.out.mono ?_
  rintro e w4 ⟨v4, c4, rfl, hr4, hb4⟩
  have B4 := Lib.hid ((B3.out.mono hn0).trans hb4)
  have R4 := Lib.hid hr4
  clear hr4 hb4
  go_wp2_with fail
  go_ret2
  exact ⟨_, _, rfl, R4.out, B4.out⟩


set_option maxHeartbeats 400000 in
theorem divide2_bad (p : Nat) (v v2 : Value) (f g : List Nat) (w : World) (hp : p < 18446744073709551616) (hv : Nums w v f) (hv2 : Nums w v2 g) (h : M.rgt p [f, g] ≠ 0) :
    Calls Try.prog 69 #[.int .u64 p, v, v2] w fun e w' => e = .returned (.tuple #[.slice none 0 0, .slice none 0 0, .int .i64 (M.rgt p [f, g])]) ∧ Below w.heap.size w w' := by
  have hB2 : Below w.heap.size w ((w.alloc (.cells #[.int .u64 p] 22)).alloc (.cells #[.slice none 0 0] 31)) := ((Below.refl _ w).alloc (Nat.le_refl _) _).alloc (by simp) _
  have HC := Lib.hid fun op => onTwo_bad p v v2 op f g ((w.alloc (.cells #[.int .u64 p] 22)).alloc (.cells #[.slice none 0 0] 31)) hp (hv.below hB2) (hv2.below hB2) h
  have HB2 := Lib.hid hB2
  obtain ⟨A, cap, rfl⟩ := nums_slice' hv
  obtain ⟨A2, cap2, rfl⟩ := nums_slice' hv2
  clear h hp hv hv2 hB2
  go_enter Try.func69, Try.ntmps69
  go_wp2_with fail
  refine (HC.out _).mono ?_
  rintro e w1 ⟨rfl, hb⟩
  have cq := (hb.cell (p := ⟨w.heap.size + 1, 0, none⟩) (by simp)).trans (by simp : _ = some (Value.slice none 0 0))
  have HB := Lib.hid (bnext HB2.out hb)
  clear hb
  go_wp2_with fail
  go_ret3
  exact ⟨rfl, HB.out⟩

set_option maxHeartbeats 1000000 in
theorem divide2_ok (p : Nat) (v v2 : Value) (f g : List Nat) (w : World) (hv : Nums w v f) (hv2 : Nums w v2 g) (h : M.rgt p [f, g] = 0) :
    Calls Try.prog 69 #[.int .u64 p, v, v2] w fun e w' => ∃ vq vr c, e = .returned (.tuple #[vq, vr, .int .i64 c]) ∧ Below w.heap.size w w' ∧
      (M.trim g = [] → c = 7 ∧ vr = .slice none 0 0 ∧ vq = .slice none 0 0) ∧ (M.trim g ≠ [] → c = 0 ∧ ∃ q r, Nums w' vq q ∧ Nums w' vr r ∧ M.IsDiv p (M.trim f) (M.trim g) q r) := by
  obtain ⟨hi, ⟨hlf, hwf⟩, hlg, hwg⟩ := M.rgt_ok h
  have hB2 : Below w.heap.size w ((w.alloc (.cells #[.int .u64 p] 22)).alloc (.cells #[.slice none 0 0] 31)) := ((Below.refl _ w).alloc (Nat.le_refl _) _).alloc (by simp) _
  have HC := Lib.hid (onTwo_div w.heap.size p v v2 f g (fun u c w' => DivR p (M.trim f) (M.trim g) (w.heap.size + 1) u c w') ⟨w.heap.size, 0, none⟩ ⟨w.heap.size + 1, 0, none⟩ ((w.alloc (.cells #[.int .u64 p] 22)).alloc (.cells #[.slice none 0 0] 31)) (by simp; omega) (hv.below hB2) (hv2.below hB2) h
    (fun W v' v'' h1 h2 hb => divide1_any w.heap.size p v' v'' _ _ _ _ W hi (M.within_trim hwf) (M.trim_trim f) (M.within_trim hwg) (M.trim_trim g) (Nat.le_trans (M.trim_len_le f) hlf) h1 h2
      ((hb.cell (p := ⟨w.heap.size, 0, none⟩) (by simp; omega)).trans (cellAl _ (Boxed.new w 22 (.int .u64 p)).cell))
      ((hb.cell (p := ⟨w.heap.size + 1, 0, none⟩) (by simp)).trans (by simp)) ((hb.frozen (p := ⟨w.heap.size + 1, 0, none⟩) (by simp)).trans (by simp)) (Nat.le_succ _)))
  have HB2 := Lib.hid hB2
  obtain ⟨A, cap, rfl⟩ := nums_slice' hv
  obtain ⟨A2, cap2, rfl⟩ := nums_slice' hv2
  clear h hv hv2 hwf hwg hi hB2
  go_enter Try.func69, Try.ntmps69
  go_wp2_with fail
  refine HC.out.mono ?_
  rintro e w1 ⟨u, c, rfl, hdr, hb⟩
  have HB := Lib.hid (HB2.out.trans hb)
  clear hb
  by_cases hg0 : M.trim g = []
  · obtain ⟨rfl, rfl, cq⟩ := hdr.1 hg0
    have HG := Lib.hid hg0
    clear hdr hg0
    go_wp2_with fail
    go_ret3
    exact ⟨_, _, _, rfl, HB.out, fun _ => ⟨rfl, rfl, rfl⟩, fun h => absurd HG.out h⟩
  · obtain ⟨rfl, vq, q, r, hr, cq, hq, hdv⟩ := hdr.2 hg0
    have HG := Lib.hid hg0
    have HR := Lib.hid hr
    have HQ := Lib.hid hq
    have HDV := Lib.hid hdv
    clear hdr hg0 hr hq hdv
    go_wp2_with fail
    go_ret3
    exact ⟨_, _, _, rfl, HB.out, fun h => absurd h HG.out, fun _ => ⟨rfl, _, _, HQ.out, HR.out, HDV.out⟩⟩
end Go.Proofs.Ytfkepkdfpjaniaa
