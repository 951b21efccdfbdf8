/-
  Package decode: ratio.
-/
import Derived.Test.YtfgfapbhgehfiaaD4
import Derived.Test.YtfgfapbhgehfiaaLI
import Derived.Test.YtfgfapbhgehfiaaDapp
import Derived.Outline
namespace Go.Proofs.Ytfgfapbhgehfiaa
open Go.RowKit
set_option linter.unusedVariables false
set_option maxRecDepth 100000

def RatioEnd (w : World) (p d q : Nat) (xs ys : List Nat) (e : Ending) (w' : World) : Prop :=
  Below w.heap.size w w' ∧ ((∃ f v, M.Good p d q xs ys f ∧ e = .returned (.tuple #[v, .int .i64 0]) ∧ Nums w' v f) ∨ ((∀ f, ¬ M.Good p d q xs ys f) ∧ e = .returned (.tuple #[.slice none 0 0, .int .i64 12])))

theorem bnext2 {w w1 w2 : World} (h : Below w.heap.size w w1) (h2 : Below w1.heap.size w1 w2) : Below w.heap.size w w2 := bnext h h2
theorem M.eOf_trim (d q : Nat) (Y : Nat → Nat) : M.trim (M.eOf d q Y) ≠ [] := by
  rw [M.trim_of_last (.inr (by rw [M.eOf_len, Nat.add_sub_cancel, M.eOf_last]; omega))]
  intro h
  have := congrArg List.length h
  rw [M.eOf_len] at this
  simp at this
theorem bw_rgt {p d q : Nat} {Y : Nat → Nat} (hi : M.isP p = true) (hlt : ∀ j, j < d + 1 + 2 * q → Y j < p) (hn : d + 1 + q ≤ 64) : M.rgt p [M.qOf d q Y, M.eOf d q Y] = 0 := by
  have hp := M.pos_of hi
  have h1 : M.within p (M.qOf d q Y) = true := M.within_tabM fun j hj => hlt j (by omega)
  have h2 : M.within p (M.eOf d q Y) = true := by
    refine M.within_of fun i hi' => ?_
    rw [M.eOf_len] at hi'
    unfold M.eOf
    rw [M.getD_snoc, M.tabM_len, M.tabM_get]
    split
    · exact hlt _ (by omega)
    · split <;> omega
  have e1 : M.errW p (M.qOf d q Y) = 0 := by unfold M.errW; rw [if_neg (by rw [M.qOf_len]; omega), if_pos h1]
  have e2 : M.errW p (M.eOf d q Y) = 0 := by unfold M.errW; rw [if_neg (by rw [M.eOf_len]; omega), if_pos h2]
  unfold M.rgt
  rw [if_pos hi]
  simp only [M.rgts, e1, e2, if_true]

set_option maxHeartbeats 4000000 in
theorem ratio_any (p d q : Nat) (v : Value) (xs ys : List Nat) (w : World) (hok : M.DOk p d xs ys) (hn : d + 1 + 2 * q ≤ xs.length) (hv : Pts w v xs ys) :
    Calls Try.prog 48 #[.int .u64 p, .int .i64 d, .int .i64 q, v] w (RatioEnd w p d q xs ys) := by
  have hud : ∀ b : Bool, undef ≠ Value.bool b := fun b h => by cases h
  have HE := Lib.hid (equations_any p d q v xs ys w hok hn hv)
  have hyl := hv.1
  obtain ⟨h3, hp⟩ := M.pos_of hok.isp
  have hR64 := hok.len
  obtain ⟨n, en⟩ : ∃ n, n = d + 1 + q := ⟨_, rfl⟩
  have eK : d + 1 + 2 * q = n + q := by omega
  have HS := Lib.hid fun (W : World) (v1 v2 : Value) (h1 : Mat W v1 (M.bwL p d q xs ys)) (h2 : Nums W v2 (M.bwR p q xs ys)) => solve_ok p xs.length (n + q) v1 (M.bwL p d q xs ys) v2 (M.bwR p q xs ys) W (eK ▸ M.bwL_ok hok.isp hR64 hn) h1 h2 (M.bwR_len p q xs ys) (M.bwR_lt (by omega) q xs ys)
  have HBAD := Lib.hid (M.bw_stuck hok.isp hR64 hn hok.nod hok.wx hok.wy hyl)
  have HSOL := Lib.hid (M.bw_solved hok.isp hR64 hn hok.wy hyl)
  have HDIV := Lib.hid fun (Y : Nat → Nat) (a : ∀ j, j < d + 1 + 2 * q → Y j < p) (b : M.Eqs p xs ys (M.qOf d q Y) (M.eOf d q Y)) (f r : List Nat) (c : M.IsDiv p (M.trim (M.qOf d q Y)) (M.trim (M.eOf d q Y)) f r) => M.bw_div hok.isp hn hok.nod hok.wx hok.wy hyl a b c
  have HI := Lib.hid hok.isp
  have HEN := Lib.hid en
  have HEK := Lib.hid eK
  have hn64 : n + q ≤ 64 := by omega
  have hqn : q < n := by omega
  have hnn : (d : Int) + 1 + q = (n : Nat) := by omega
  obtain ⟨A, cap, e, _⟩ := hv.2.2.2.2
  obtain ⟨R, eR⟩ : ∃ R, xs.length = R := ⟨_, rfl⟩
  have HER := Lib.hid eR
  rw [e, eR] at HE ⊢
  rw [eR] at HBAD HSOL HS
  clear hok hv hyl hn en eK e hR64 eR
  unfold RatioEnd
  go_enter Try.func48, Try.ntmps48
  go_wp2_with fail
  refine HE.out.mono ?_
  rintro e w1 ⟨v1, v2, rfl, hm, hz, hb⟩
  have HB1 := Lib.hid hb
  have HS1 := Lib.hid (HS.out w1 v1 v2 hm hz)
  clear hb hm hz
  go_wp2_with fail
  refine HS1.out.mono ?_
  rintro e w2 ⟨hb, ⟨hst, rfl⟩ | ⟨hst, g, cp, rfl, hg, rfl, hrow⟩⟩
  · have HB2 := Lib.hid (bnext HB1.out hb)
    have HST := Lib.hid hst
    clear hb hst
    go_wp2
    go_ret2
    refine ⟨HB2.out, .inr ⟨fun f => HBAD.out (by unfold M.bwS; rw [HER.out, HEK.out]; exact HST.out) f, rfl⟩⟩
  · have HB2 := Lib.hid (bnext HB1.out hb)
    have hst' : ¬ M.Stuck (M.bwS p d q xs ys) R (d + 1 + 2 * q) := by unfold M.bwS; rw [HER.out, HEK.out]; exact hst
    obtain ⟨hlt, heqs⟩ := HSOL.out hst'
    have hrow' : Row w2 g (n + q) (M.bwY p d q xs ys) := by unfold M.bwY M.bwS; rw [HER.out, HEK.out]; exact hrow
    have HROW := Lib.hid hrow'
    obtain ⟨Y, eY⟩ : ∃ Y, Y = M.bwY p d q xs ys := ⟨_, rfl⟩
    rw [← eY] at hlt heqs HROW
    have HLT := Lib.hid hlt
    have HDV := Lib.hid (HDIV.out Y hlt heqs)
    clear hb hst hst' hlt heqs hrow hrow' eY
    have HD := Lib.hid fun (W : World) (u1 u2 : Value) (a : Nums W u1 (M.qOf d q Y)) (b : Nums W u2 (M.eOf d q Y)) => divide2_ok p u1 u2 (M.qOf d q Y) (M.eOf d q Y) W a b (bw_rgt HI.out HLT.out (by have := HEN.out; omega))
    have HTE := Lib.hid (M.eOf_trim d q Y)
    have hgl := HROW.out.lt
    have hYlt : ∀ j, j < n + q → Y j < 18446744073709551616 := fun j hj => by have := HLT.out j (by have := HEK.out; omega); omega
    have HP := Lib.hid (HROW.out.nums (n := n) (cap := n + q) (by omega) (by omega) (by omega) hYlt)
    have HYL := Lib.hid hYlt
    clear hYlt
    have hq1 : M.qOf d q Y = M.tabM n Y := by unfold M.qOf; rw [HEN.out]
    have hq2 : M.eOf d q Y = (M.tabM q fun j => Y (n + j)) ++ [1] := by unfold M.eOf; rw [HEN.out]
    rw [hq1, hq2] at HD HDV
    rw [hq2] at HTE
    clear hq1 hq2
    by_cases hq : q = 0
    · subst hq
      have hw0 : IntKind.i64.wrap (IntKind.i64.wrap ((d : Int) + 1)) = (n : Nat) := by
        rw [IntWalk.i64_in ((d : Int) + 1) (by omega), IntWalk.i64_in _ (by omega)]; omega
      go_wp2
      go_region_law (refine step_append_full (k := 0) (y := 1) (X := w2.heap.size) (by rfl) _ _ (by rfl) [] rfl (by rfl) (fun j hj => absurd hj (by omega)) (by simp) (by rfl) (by exact heap_alloc_new w2 _) (by omega) (by omega) ?_; intro v' w5 hN5 hb5)
      all_goals
        have B5 := Lib.hid (bnext2 HB2.out ((show Below w2.heap.size w2 (w2.alloc (.cells #[.int .u64 1] 22)).drew from (balloc w2 _).drew).trans (hb5.mono (by simp))))
        have hP5 : Nums w5 (.slice (some ⟨g, 0, none⟩) n n) (M.tabM n Y) := (HP.out).below ((show Below w2.heap.size w2 (w2.alloc (.cells #[.int .u64 1] 22)).drew from (balloc w2 _).drew).trans (hb5.mono (by simp)))
        have HD5 := Lib.hid (HD.out w5 _ v' hP5 (by simpa [M.tabM] using hN5))
        clear hb5 hN5 hP5
        go_wp2_with fail
        refine HD5.out.mono ?_
        rintro e w6 ⟨vq, vr, c, rfl, hb6, _, h6⟩
        obtain ⟨rfl, f, r, hf, hr, hdiv⟩ := h6 HTE.out
        have hgood := HDV.out f r hdiv
        have B6 := Lib.hid (bnext2 B5.out hb6)
        have HF := Lib.hid hf
        obtain ⟨Ar, cr, rfl⟩ := nums_slice' hr
        by_cases hr0 : r = []
        · subst hr0
          have HG := Lib.hid (hgood.1 rfl)
          clear hgood hdiv h6 hb6 hf hr
          go_wp2
          go_ret2
          exact ⟨B6.out, .inl ⟨f, _, HG.out, rfl, HF.out⟩⟩
        · have HG := Lib.hid (hgood.2 hr0)
          have hrl : 0 < r.length := List.length_pos_iff.2 hr0
          clear hgood hdiv h6 hb6 hf hr hr0
          go_wp2
          go_ret2
          exact ⟨B6.out, .inr ⟨HG.out, rfl⟩⟩
    · have hw0 : IntKind.i64.wrap (IntKind.i64.wrap ((d : Int) + 1) + q) = (n : Nat) := by
        rw [IntWalk.i64_in ((d : Int) + 1) (by omega), IntWalk.i64_in _ (by omega)]; omega
      have hqp : 0 < q := by omega
      have hcm : ¬ n + q = n := by omega
      have hcq : n + q - n = q := by omega
      have hnle : (n : Int) ≤ (n : Int) + q := by omega
      have hnle2 : n ≤ n + q := by omega
      have HCELL := Lib.hid fun (j : Nat) (hj : j < q) => HROW.out.cell (j := n + j) (by omega)
      go_wp2
      go_region_law (refine step_append_full (k := q) (y := 1) (X := w2.heap.size) (by rfl) _ _ (by rfl) (M.tabM q fun j => Y (n + j)) (M.tabM_len _ _) (by rfl) (fun j hj => by rw [M.tabM_at _ hj]; exact ((balloc w2 _).drew.cell (p := ⟨g, n + j, none⟩) hgl).trans (HCELL.out j hj)) (fun z hz => by unfold M.tabM at hz; obtain ⟨j, hj, rfl⟩ := List.mem_map.1 hz; exact HYL.out _ (by have := List.mem_range.1 hj; omega)) (by rfl) (by exact heap_alloc_new w2 _) (by omega) (by omega) ?_; intro v' w5 hN5 hb5)
      --PEEK
      all_goals
        have B5 := Lib.hid (bnext2 HB2.out ((show Below w2.heap.size w2 (w2.alloc (.cells #[.int .u64 1] 22)).drew from (balloc w2 _).drew).trans (hb5.mono (by simp))))
        have hP5 : Nums w5 (.slice (some ⟨g, 0, none⟩) n (n + q)) (M.tabM n Y) := (HP.out).below ((show Below w2.heap.size w2 (w2.alloc (.cells #[.int .u64 1] 22)).drew from (balloc w2 _).drew).trans (hb5.mono (by simp)))
        have HD5 := Lib.hid (HD.out w5 _ v' hP5 (hN5))
        clear hb5 hN5 hP5
        go_wp2_with fail
        refine HD5.out.mono ?_
        rintro e w6 ⟨vq, vr, c, rfl, hb6, _, h6⟩
        obtain ⟨rfl, f, r, hf, hr, hdiv⟩ := h6 HTE.out
        have hgood := HDV.out f r hdiv
        have B6 := Lib.hid (bnext2 B5.out hb6)
        have HF := Lib.hid hf
        obtain ⟨Ar, cr, rfl⟩ := nums_slice' hr
        by_cases hr0 : r = []
        · subst hr0
          have HG := Lib.hid (hgood.1 rfl)
          clear hgood hdiv h6 hb6 hf hr
          go_wp2
          go_ret2
          exact ⟨B6.out, .inl ⟨f, _, HG.out, rfl, HF.out⟩⟩
        · have HG := Lib.hid (hgood.2 hr0)
          have hrl : 0 < r.length := List.length_pos_iff.2 hr0
          clear hgood hdiv h6 hb6 hf hr hr0
          go_wp2
          go_ret2
          exact ⟨B6.out, .inr ⟨HG.out, rfl⟩⟩
end Go.Proofs.Ytfgfapbhgehfiaa
