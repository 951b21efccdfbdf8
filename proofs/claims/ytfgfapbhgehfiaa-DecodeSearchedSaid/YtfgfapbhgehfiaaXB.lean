/-
  Mr4 (joined).
-/
import Derived.Test.YtfgfapbhgehfiaaXA
namespace Go.Proofs.Ytfgfapbhgehfiaa
open Go.RowKit
set_option linter.unusedVariables false
set_option maxRecDepth 100000

set_option maxHeartbeats 4000000 in
set_option maxRecDepth 100000 in
theorem pivot_same (p base D B R C cap col r : Nat) (G Cp : Nat → Nat) (vp : Value) (s : M.Rd) (w : World) (hi : M.isP p = true) (hR : R ≤ 1000) (hC : C ≤ 1000) (hcol : col < C) (hb : base ≤ w.heap.size)
    (hlt : ∀ i, i < R → ∀ j, j < C → s.m i j < p) (hd : 0 < s.d ∧ s.d < p) (hz : ∀ i, s.lead.length ≤ i → i < R → ∀ j, j < col → s.m i j = 0)
    (h : RedO w base D B R C cap G Cp vp s) (hlen : s.lead.length < R) (hr : r = s.at_ R col) (hrR : r < R) (hrt : r = s.lead.length) :
    Calls Try.prog 91 #[.pointer (some ⟨D, 0, none⟩), .int .u64 p, .int .i64 col] w (RedEnd w base D B R C cap (M.rstep p R s col)) := by
  obtain ⟨h3, hp⟩ := M.pos_of hi
  have h1 := h.alloc (.cells #[.int .i64 (col : Nat)] 3)
  have hf := s.at_first (Nat.le_of_lt hlen) col
  rw [← hr] at hf
  have h0 := hf.2.2.2 hrR
  have hix := fun A cp hA => idxRows_any base B s.lead.length R C col w.heap.size cp A G Cp s.m (w.alloc (.cells #[.int .i64 (col : Nat)] 3)) hR hC hcol hA h1.mat (by simp) hf rfl
  simp only [if_pos hrR] at hix
  have e0 : ((r - s.lead.length : Nat) : Int) = 0 := by omega
  rw [e0] at hix
  have HI := Lib.hid hi
  have hend := M.rstep_swapped (p := p) (show s.at_ R col < R by rw [← hr]; exact hrR)
  rw [← hr, M.swapped_same s p r hrt] at hend
  rw [hrt] at h0
  have c0 := h1.c0
  have c1 := h1.c1
  have hcap := h.cap
  obtain ⟨A, cp, rfl⟩ := h.len
  obtain ⟨l, el⟩ : ∃ l, l = s.lead.length := ⟨_, rfl⟩
  rw [← el] at hix c1 hlen hend hz h0 h1
  have HIX := Lib.hid hix
  have HB := Lib.hid ((Below.refl base w).alloc hb (.cells #[.int .i64 (col : Nat)] 3))
  have hb' := hb
  obtain ⟨t, et⟩ : ∃ t, t = s := ⟨_, rfl⟩
  have hend2 : M.rstep p R s col = ⟨M.elimS p t.m l col, t.lead ++ [col], t.d * t.m l col % p⟩ := by rw [et]; exact hend
  rw [← et] at hlt hz h0 hd h1 el
  have HEND := Lib.hid hend2
  have HLT := Lib.hid hlt
  have HZ := Lib.hid hz
  have H0 := Lib.hid h0
  have H1 := Lib.hid h1
  have EL := Lib.hid el
  clear h h1 hix hr el hb hf e0 hi hlt hz h0 hrt et hend hend2
  go_enter Try.func91, Try.ntmps91
  go_wp2_with fail
  refine (HIX.out _ _ (fun _ => rfl)).mono ?_
  rintro e w' ⟨rfl, rfl⟩
  go_wp2_with fail
  have h1' := H1.out
  obtain ⟨cb, ecb⟩ : ∃ cb, cb = w.heap.size := ⟨_, rfl⟩
  have hbx : (w.alloc (.cells #[.int .i64 (col : Nat)] 3)).heap[cb]? = some (.cells #[.int .i64 (col : Nat)] 3 (0, 0)) := by rw [ecb]; exact heap_alloc_new w _
  rw [← ecb]
  obtain ⟨W1, eW1⟩ : ∃ W1, W1 = w.alloc (.cells #[.int .i64 (col : Nat)] 3) := ⟨_, rfl⟩
  rw [← eW1] at h1' hbx HB ⊢
  clear eW1 ecb c0 c1
  have H2 := Lib.hid h1'
  have HBX := Lib.hid hbx
  have hl2 : l < R := hlen
  obtain ⟨gl, egl⟩ : ∃ gl, G l = gl := ⟨_, rfl⟩
  obtain ⟨cl, ecl⟩ : ∃ cl, Cp l = cl := ⟨_, rfl⟩
  have k0 := H2.out.mat.cell hl2
  have kd := H2.out.neG hl2
  rw [egl, ecl] at k0
  rw [egl] at kd
  have k1 := cell_of_one hbx
  have kcl := (H2.out.mat.baseG l hl2).2
  have kgb := (H2.out.mat.baseG l hl2).1
  rw [ecl] at kcl
  rw [egl] at kgb
  have EGL := Lib.hid egl
  have ECL := Lib.hid ecl
  have kd' : gl ≠ D := Ne.symm kd
  clear h1' hbx egl ecl
  go_quiet (fail)
  go_wp2_with fail
  obtain ⟨W2, eW2⟩ : ∃ W2, W2 = W1.drewN nq := ⟨_, rfl⟩
  have h2 : RedO W2 base D B R C cap G Cp (.slice A l cp) t := by rw [eW2]; exact H2.out.heap rfl
  have hbx2 : W2.heap[cb]? = some (.cells #[.int .i64 (col : Nat)] 3 (0, 0)) := by rw [eW2]; exact HBX.out
  have hB2 : Below base w W2 := by rw [eW2]; exact ⟨HB.out.os, HB.out.tape, HB.out.output, HB.out.size, HB.out.block⟩
  rw [← eW2]
  have H2' := Lib.hid h2
  have HBX2 := Lib.hid hbx2
  have HB2 := Lib.hid hB2
  clear eW2 hbx2 hB2 k0 k1
  have f0 := h2.c2
  have f1 := h2.fr 2
  have f2 := (h2.mat.row l hl2).cell hcol
  have f3 := HLT.out l hl2 col hcol
  obtain ⟨x, ex⟩ : ∃ x, x = t.m l col := ⟨_, rfl⟩
  obtain ⟨d, ed⟩ : ∃ d, d = t.d := ⟨_, rfl⟩
  rw [← ex] at f2 f3
  rw [← ed] at f0 hd
  rw [EGL.out] at f2
  obtain ⟨m1, m2⟩ := mul_le hp hd.2 f3
  have EX := Lib.hid ex
  have ED := Lib.hid ed
  clear h2 ex ed
  go_region
  go_wp2_with fail
  have e1 : (d : Int) * x % p = ((d * x % p : Nat) : Int) := by rw [Int.natCast_emod, Int.natCast_mul]
  rw [e1]
  obtain ⟨d3, ed3⟩ : ∃ d3, d3 = d * x % p := ⟨_, rfl⟩
  rw [← ed3]
  obtain ⟨W3, eW3⟩ : ∃ W3, W3 = (W2.setCell ⟨D, 2, none⟩ (.int .u64 (d3 : Nat))).drew := ⟨_, rfl⟩
  have h3r : RedO W3 base D B R C cap G Cp (.slice A l cp) ⟨t.m, t.lead, d3⟩ := by rw [eW3]; exact (H2'.out.setD d3).heap rfl
  have hbx3 : W3.heap[cb]? = some (.cells #[.int .i64 (col : Nat)] 3 (0, 0)) := by rw [eW3]; exact (Below.heap_setCell W2 ⟨D, 2, none⟩ _ cb (by have := H2'.out.blk; intro e; rw [show cb = D from e] at HBX2; rw [HBX2.out] at this; simp at this)).trans HBX2.out
  have hB3 : Below base w W3 := by rw [eW3]; exact (HB2.out.setCell (p := ⟨D, 2, none⟩) H2'.out.baseD _).drew
  have x0 : x ≠ 0 := by rw [EX.out]; exact H0.out
  have ED3 := Lib.hid ed3
  have HINV := Lib.hid (inv_ok p x W3 (M.valid1_iff.2 ⟨HI.out, f3⟩) x0)
  rw [← eW3]
  have H3 := Lib.hid h3r
  have HBX3 := Lib.hid hbx3
  have HB3 := Lib.hid hB3
  clear eW3 h3r hbx3 hB3 ed3 e1 f0 f1 f2 m1 m2 x0
  refine HINV.out.mono ?_
  rintro e W4 ⟨rfl, hb4⟩
  obtain ⟨q, eq⟩ : ∃ q, q = M.pw p x (p - 2) := ⟨_, rfl⟩
  have hql : q < p := by rw [eq]; exact M.pw_lt _ _ (by omega)
  have H4 := Lib.hid (H3.out.below hb4 (Nat.le_refl _))
  have hbx4 : W4.heap[cb]? = some (.cells #[.int .i64 (col : Nat)] 3 (0, 0)) := (hb4.block cb (lt_of_block HBX3.out)).trans HBX3.out
  have HBX4 := Lib.hid hbx4
  have HB4 := Lib.hid (HB3.out.trans (hb4.mono (Nat.le_trans hb' HB3.out.size)))
  rw [← eq]
  have EQ := Lib.hid eq
  have hsc := scale_any p q gl col (C - col) (cl - col) C (t.m l) W4 hp hql (fun j hj => HLT.out l hl2 j hj) (by omega) hC (by have := H4.out.mat.row l hl2; rwa [EGL.out] at this)
  have HSC := Lib.hid hsc
  clear hb4 eq hbx4 hsc
  go_wp2_with fail
  refine HSC.out.mono ?_
  rintro e W5 ⟨rfl, hg5, hr5⟩
  have h5 : RedO W5 base D B R C cap G Cp (.slice A l cp) ⟨fun i j => if i < 0 ∨ i = l then M.elimS p t.m l col i j else t.m i j, t.lead, d3⟩ := by
    have a := H4.out.setRow hl2 (by rw [EGL.out]; exact hg5) (by rw [EGL.out]; exact hr5)
    refine a.congr fun i hi j hj => ?_
    by_cases e : i = l
    · subst e
      simp only [if_true, or_true]
      rw [M.elimS_row, ← EX.out, ← EQ.out]
      split
      · rfl
      · rw [HZ.out i (Nat.le_refl _) hi j (by omega), Nat.zero_mul, Nat.zero_mod]
    · simp [e]
  have hbx5 : W5.heap[cb]? = some (.cells #[.int .i64 (col : Nat)] 3 (0, 0)) := (hg5.block cb (lt_of_block HBX4.out) (by
    obtain ⟨cs, a, _⟩ := H4.out.mat.row l hl2
    rw [EGL.out] at a
    intro e
    simp only [Option.some.injEq] at e
    rw [← e, HBX4.out] at a
    simp at a)).trans HBX4.out
  have H5 := Lib.hid h5
  have HBX5 := Lib.hid hbx5
  have HB5 := Lib.hid (HB4.out.grown hg5 (Nat.le_trans hb' HB4.out.size) (fun k hk => by simp at hk; omega))
  have c0 := h5.c0
  clear h5 hbx5 hg5 hr5
  go_wp2_with fail
  clear c0
  go_loopw [88] (fun ti wr => ∃ k : Nat, k ≤ R ∧ ti = .int .i64 k ∧ RedO wr base D B R C cap G Cp (.slice A l cp) ⟨fun i j => if i < k ∨ i = l then M.elimS p t.m l col i j else t.m i j, t.lead, d3⟩ ∧ wr.heap[cb]? = some (.cells #[.int .i64 (col : Nat)] 3 (0, 0)) ∧ Below base w wr) (fun ti _ => R - (intOf ti).toNat)
  case atStart => exact ⟨0, by omega, rfl, H5.out, HBX5.out, HB5.out⟩
  case round =>
    obtain ⟨k, hk, rfl, hR6, hbx6, hB6⟩ := hrel
    have H6 := Lib.hid hR6
    have HBX6 := Lib.hid hbx6
    have HB6 := Lib.hid hB6
    clear hR6 hbx6 hB6
    have hud : ∀ b : Bool, undef ≠ Value.bool b := fun b h => by cases h
    by_cases hlt : k < R
    · have a0 := H6.out.mat.cell hlt
      by_cases hkl : k = l
      · have hne : ((k : Int) != (l : Int)) = false := by simp [hkl]
        have HKL := Lib.hid hkl
        clear hkl
        go_wp2_with fail
        go_roundw
        case rel => exact ⟨k + 1, by omega, by go_num, H6.out.congr fun i hi j hj => by
          dsimp only
          by_cases e : i < k ∨ i = l
          · rw [if_pos e, if_pos (by omega)]
          · rw [if_neg e, if_neg (by have := HKL.out; omega)], HBX6.out, HB6.out⟩
        case measure => simp [intOf]; omega
      · have hne : ((k : Int) != (l : Int)) = true := by simp; omega
        have a1 := cell_of_one HBX6.out
        have a2 := (H6.out.mat.row k hlt).cell hcol
        dsimp only at a2
        rw [if_neg (by omega)] at a2
        obtain ⟨gk, egk⟩ : ∃ gk, G k = gk := ⟨_, rfl⟩
        obtain ⟨ck, eck⟩ : ∃ ck, Cp k = ck := ⟨_, rfl⟩
        have kck := (H6.out.mat.baseG k hlt).2
        have kgk := (H6.out.mat.baseG k hlt).1
        have hgkl : gk ≠ gl := by rw [← egk, ← EGL.out]; intro e; exact hkl (H6.out.mat.inj k l hlt hl2 e)
        rw [egk, eck] at a0
        rw [egk] at a2 kgk
        rw [eck] at kck
        have EGK := Lib.hid egk
        have hyl := HLT.out k hlt col hcol
        obtain ⟨y, ey⟩ : ∃ y, y = t.m k col := ⟨_, rfl⟩
        rw [← ey] at a2 hyl
        have EY := Lib.hid ey
        have HKL := Lib.hid hkl
        clear hkl egk eck ey
        by_cases hy0 : y = 0
        · have hyb : ((y : Int) != 0) = false := by simp [hy0]
          have HY0 := Lib.hid hy0
          clear hy0
          go_wp2_with fail
          go_roundw
          case rel => exact ⟨k + 1, by omega, by go_num, H6.out.congr fun i hi j hj => by
            dsimp only
            by_cases e : i < k ∨ i = l
            · rw [if_pos e, if_pos (by omega)]
            · rw [if_neg e]
              by_cases e2 : i = k
              · subst e2
                rw [if_pos (by omega), M.elimS_none (by omega) (by rw [← EY.out, HY0.out]) HKL.out (HLT.out i hi j hj)]
              · rw [if_neg (by omega)], HBX6.out, HB6.out⟩
          case measure => simp [intOf]; omega
        · have hyb : ((y : Int) != 0) = true := by simp; omega
          clear hy0
          go_wp2_with fail
          have hrk : Row wr gk C (t.m k) := by
            have := (H6.out.mat.row k hlt).congr (F' := t.m k) (fun j hj => by dsimp only; rw [if_neg (by have := HKL.out; omega)])
            rwa [EGK.out] at this
          have hrl : Row wr gl C (M.elimS p t.m l col l) := by
            have := (H6.out.mat.row l hl2).congr (F' := M.elimS p t.m l col l) (fun j hj => by dsimp only; rw [if_pos (by omega)])
            rwa [EGL.out] at this
          have had := fun W (h1 : Row W gk C (t.m k)) (h2 : Row W gl C (M.elimS p t.m l col l)) => addTimes_any p (p - y) gk gl col (C - col) (ck - col) (cl - col) C (t.m k) (M.elimS p t.m l col l) W hp (by omega) (fun j hj => HLT.out k hlt j hj) (fun j hj => by rw [M.elimS_row]; exact Nat.mod_lt _ (by omega)) (by omega) hC hgkl h1 h2
          have ey : ((p - y : Nat) : Int) = (p : Int) - y := by omega
          rw [ey] at had
          have HAD := Lib.hid had
          have HRK := Lib.hid hrk
          have HRL := Lib.hid hrl
          have w1 : IntKind.u64.wrap ((p : Int) - y) = (p : Int) - y := by rw [IntKind.wrap_u64]; omega
          clear had ey hrk hrl
          have hcc : col ≤ C := by omega
          have hck : ¬ ck = col := by omega
          go_still_tail 11, (by kernel_rfl)
          change wpList _ _ _ _ _ wr.drew
          go_wp2_with fail
          refine (HAD.out wr.drew HRK.out HRL.out).mono ?_
          rintro e w7 ⟨rfl, hg7, hr7⟩
          have h7 : RedO w7 base D B R C cap G Cp (.slice A l cp) ⟨fun i j => if i < k + 1 ∨ i = l then M.elimS p t.m l col i j else t.m i j, t.lead, d3⟩ := by
            have a := (H6.out.heap (w' := wr.drew) rfl).setRow hlt (by rw [EGK.out]; exact hg7) (by rw [EGK.out]; exact hr7)
            refine a.congr fun i hi j hj => ?_
            by_cases e : i = k
            · subst e
              have hil := HKL.out
              simp only [if_true]
              rw [if_pos (show i < i + 1 ∨ i = l by omega)]
              split
              · rw [EY.out, M.elimS_row, M.elimS_some (by omega) hil (by have := HLT.out i hi col hcol; omega)]
              · rw [M.elimS_left (by omega) (HZ.out l (Nat.le_refl _) hl2 j (by omega)) hil (HLT.out i hi j hj)]
            · simp only [if_neg e]
              by_cases e2 : i < k ∨ i = l
              · rw [if_pos e2, if_pos (by omega)]
              · rw [if_neg e2, if_neg (by omega)]
          have hbx7 : w7.heap[cb]? = some (.cells #[.int .i64 (col : Nat)] 3 (0, 0)) := (hg7.block cb (lt_of_block HBX6.out) (by
            obtain ⟨cs, a, _⟩ := H6.out.mat.row k hlt
            rw [EGK.out] at a
            intro e
            simp only [Option.some.injEq] at e
            rw [← e, HBX6.out] at a
            simp at a)).trans HBX6.out
          have hB7 : Below base w w7 := HB6.out.drew.grown hg7 (Nat.le_trans hb' HB6.out.size) (fun k hk => by simp at hk; omega)
          have H7 := Lib.hid h7
          have HBX7 := Lib.hid hbx7
          have HB7 := Lib.hid hB7
          clear h7 hbx7 hB7 hg7 hr7 w1 hcc hck
          go_wp2_with fail
          go_roundw
          case rel => exact ⟨k + 1, by omega, by go_num, H7.out, HBX7.out, HB7.out⟩
          case measure => simp [intOf]; omega
    · obtain rfl : k = R := by omega
      have c1 := H6.out.c1
      have cx := cell_of_one HBX6.out
      have hx6 := lt_of_block HBX6.out
      have hd6 := H6.out.lt
      have n1 : D ≠ wr.heap.size := by omega
      have n2 : cb ≠ wr.heap.size := by omega
      have HA := Lib.hid ((H6.out.alloc (.cells #[.int .i64 (col : Nat)] 3)).heap (w' := (wr.alloc (.cells #[.int .i64 (col : Nat)] 3)).drew) rfl)
      have el := EL.out
      have hown := HA.out.piv
      rw [← el] at hown
      have HOWN := Lib.hid hown
      have hl1 : l ≤ 1000 := by omega
      have hbs : base ≤ wr.heap.size := Nat.le_trans hb' HB6.out.size
      obtain ⟨i0, hi0, hz0, hz1, hz2⟩ := info_parts infoI64
      clear el hown
      go_wp2_with fail
      go_region_law (refine step_append_lies _ (by rfl) _ _ _ (by rfl) base 3 i0 _ 1 8 Try.underlying32 hi0 hz0 hz1 hz2 rfl (by omega) (.slice A l cp) l _ (by rfl) HOWN.out ⟨wr.heap.size, 0, none⟩ 1 1 [.int .i64 (col : Nat)] (by rfl) (by rfl) (World.news_of_block (cs := #[.int .i64 (col : Nat)]) (t := 3) (fr := (0, 0)) (heap_alloc_new wr _)) (by simp [Value.oneCell']) (by omega) (by unfold maxLen; omega) (by omega) (by simp; omega) (wr.heap.size + 1) (by simp) ?_; intro gg cpp w8 hown8 hgrow8 hat8 hgl8; have fr8 : w8.frozen? ⟨D, 1, none⟩ = false := (World.grownBy.frozen_far hgrow8 ⟨D, 1, none⟩ (by simp; omega) (Ne.symm HA.out.pD)).trans (HA.out.fr 1); have cl8 : w8.cell? ⟨D, 1, none⟩ = some (.slice A l cp) := (World.grownBy.cell_far hgrow8 ⟨D, 1, none⟩ (by simp; omega) (Ne.symm HA.out.pD)).trans HA.out.c1)
      all_goals
        have B8 := Lib.hid (((HB6.out.alloc hbs (.cells #[.int .i64 (col : Nat)] 3)).drew).grown hgrow8 (by simp; omega) (fun r hr => (HA.out.piv.lt r hr).1))
        have hpu := HA.out.push hgrow8 (v2 := .slice (some ⟨gg, 0, none⟩) (l + 1) cpp) (l2 := t.lead ++ [col]) (by rw [ints_snoc, List.length_append, List.length_singleton, ← EL.out]; exact hown8)
        have HPU := Lib.hid hpu.2
        clear hown8 hgrow8 hat8 hgl8 hpu
        go_wp2_with fail
        go_end0
        refine ⟨rfl, B8.out.setCell (p := ⟨D, 1, none⟩) HA.out.baseD (.slice (some ⟨gg, 0, none⟩) (l + 1) cpp), G, Cp, .slice (some ⟨gg, 0, none⟩) (l + 1) cpp, ?_⟩
        rw [HEND.out, show t.d * t.m l col % p = d3 by rw [ED3.out, ED.out, EX.out]]
        exact HPU.out.congr fun i hi j hj => by dsimp only; rw [if_pos (.inl hi)]
end Go.Proofs.Ytfgfapbhgehfiaa
