/-
  Rred1, Rred2, Step3 (joined).
-/
import Derived.Test.YtfgfapbhgehfiaaXH
import Derived.StillTailTactics
import Derived.Outline
import Derived.Deep.RegionLaw
namespace Go.Proofs.Ytfgfapbhgehfiaa
open Go.RowKit
set_option linter.unusedVariables false
set_option maxRecDepth 100000

namespace M
/-- R rows of C numbers below p -/
structure Tab (p : Nat) (m : List (List Nat)) (R C : Nat) : Prop where
  rows : m.length = R
  R1 : 1 ≤ R
  R64 : R ≤ 64
  C1 : 1 ≤ C
  C128 : C ≤ 128
  cols : ∀ i, i < R → (m.getD i []).length = C
  lt : ∀ i, i < R → within p (m.getD i []) = true
theorem Ok.tab {p : Nat} {m : List (List Nat)} {R K : Nat} (h : Ok p m R K) : Tab p m R K := ⟨h.rows, h.R1, h.R64, h.K1, by have := h.K64; omega, h.cols, h.lt⟩
theorem Tab.el_lt {p : Nat} {m : List (List Nat)} {R C : Nat} (h : Tab p m R C) {i j : Nat} (hi : i < R) (hj : j < C) : el m i j < p := within_mem (h.lt i hi) (by rw [h.cols i hi]; exact hj)
end M

set_option maxHeartbeats 1000000 in
theorem copied_any (p R C : Nat) (v : Value) (m : List (List Nat)) (w : World) (hp : p ≤ 65537) (ht : M.Tab p m R C) (hv : Mat w v m) :
    Calls Try.prog 65 #[v] w fun e w' => ∃ B cap G Cp, e = .returned (.slice (some ⟨B, 0, none⟩) R cap) ∧ R ≤ cap ∧ MatO w' w.heap.size B R C G Cp (M.el m) ∧ Below w.heap.size w w' := by
  obtain ⟨A, cap, rfl, _, _, hrows⟩ := mat_view hv
  have HRW := Lib.hid hrows
  rw [ht.rows] at HRW ⊢
  have HT := Lib.hid ht
  have hR64 := ht.R64
  have hR1 := ht.R1
  have hC := ht.C128
  have hC1 := ht.C1
  clear hrows hv ht
  go_enter Try.func65, Try.ntmps65
  go_wp2_with fail
  go_loopw [8, 3] (fun ti tv wr => ∃ k : Nat, k ≤ R ∧ ti = .int .i64 k ∧ (∃ G Cp, MatA wr w.heap.size tv k C G Cp (M.el m)) ∧ Below w.heap.size w wr) (fun ti _ _ => R - (intOf ti).toNat)
  case atStart => exact ⟨0, by omega, rfl, ⟨_, _, MatA.start _ _ _ _⟩, Below.refl _ _⟩
  case round =>
    obtain ⟨k, hk, rfl, ⟨G, Cp, hA⟩, hB⟩ := hrel
    have HA := Lib.hid hA
    have HB := Lib.hid hB
    clear hA hB
    by_cases hlt : k < R
    · obtain ⟨b, off, rfl, hbl, hcells⟩ := HRW.out (by omega)
      obtain ⟨Au, cu, ck, hN⟩ := hcells k hlt
      rw [HT.out.cols k hlt] at ck hN
      have ck2 := (HB.out.cell (p := ⟨b, off + k, none⟩) hbl).trans ck
      obtain ⟨zs, ezs⟩ : ∃ zs, m.getD k [] = zs := ⟨_, rfl⟩
      have hzl : zs.length = C := by rw [← ezs]; exact HT.out.cols k hlt
      rw [ezs] at hN
      have EZS := Lib.hid ezs
      have HZL := Lib.hid hzl
      have hN2 := Lib.hid ((hN.below HB.out).below (balloc wr (.cells #[] 22)))
      have hmade := World.ownsRow_made (base := wr.heap.size) (e := 22) (size := 1) wr #[] 0 (Nat.le_refl _) (by decide) rfl
      have HM := Lib.hid hmade
      obtain ⟨Ao, co, hform⟩ := HA.out.form
      subst hform
      clear hcells ck hN hmade ezs hzl
      go_wp2_with (at_builtin; refine wpList_append_nums (by rfl) _ _ (by rfl) wr.heap.size _ _ _ (by rfl) HM.out _ zs (by rfl) hN2.out (by rw [HZL.out]; omega) (by simp) ?_)
      intro v' w2 hown2 hb2
      have hown3 : w2.ownsRow wr.heap.size 22 1 v' C (vals (M.tabM C (M.el m k))) := by
        have e : M.tabM C (M.el m k) = zs := by rw [← EZS.out]; exact M.tabM_of (HT.out.cols k hlt)
        rw [e]
        have := hown2
        rw [HZL.out] at this
        exact this
      obtain ⟨g, c, rfl, hg, hc, hr⟩ := row_own hown3 (by omega)
      have hb3 : Below wr.heap.size wr w2 := (balloc wr (.cells #[] 22)).trans hb2
      have HA2 := Lib.hid (HA.out.below hb3 (Nat.le_refl _))
      have HB3 := Lib.hid (bnext HB.out hb3)
      have hbs := HB.out.size
      have HR := Lib.hid hr
      have HNE := Lib.hid (show ∀ i, i < k → G i ≠ g from fun i hi => by have := (HA.out.row i hi).lt; omega)
      clear hown2 hb2 hown3 hb3 hr
      go_wp2_with (at_builtin; refine wpList_append_row rfl _ _ rfl rfl rfl HA2.out HR.out (by omega) hc HNE.out (by omega) HB3.out.size ?_)
      intro v' w4 hA' hb4
      have HA4 := Lib.hid hA'
      have HB4 := Lib.hid (HB3.out.trans hb4)
      clear hA' hb4
      go_wp2_with fail
      go_roundw
      case rel => exact ⟨k + 1, by omega, by go_num, ⟨_, _, HA4.out⟩, HB4.out⟩
      case measure => simp [intOf]; omega
    · obtain rfl : R = k := by omega
      obtain ⟨B, cp, rfl, hcp, hM⟩ := HA.out.done (by omega)
      go_wp2_with fail
      go_ret
      exact ⟨B, cp, G, Cp, rfl, hcp, hM, HB.out⟩

set_option maxHeartbeats 2000000 in
set_option maxRecDepth 100000 in
theorem less_any (p y g g2 cap cap2 C : Nat) (F F2 : Nat → Nat) (w : World) (h3 : 3 ≤ p) (hp : p ≤ 65537) (hy : y < p) (hF : ∀ j, j < C → F j < p) (hF2 : ∀ j, j < C → F2 j < p) (hC : C ≤ 1000) (hg : g ≠ g2) (h : Row w g C F) (h2 : Row w g2 C F2) :
    Calls Try.prog 66 #[.int .u64 p, .slice (some ⟨g, 0, none⟩) C cap, .slice (some ⟨g2, 0, none⟩) C cap2, .int .u64 y] w fun e w' => e = .returned (.tuple #[]) ∧ w.grownBy w' (some g) ∧ Row w' g C (fun j => (F j + p - y * F2 j % p) % p) := by
  have HR := Lib.hid h
  have HR2 := Lib.hid h2
  have HF := Lib.hid hF
  have HF2 := Lib.hid hF2
  clear h h2 hF hF2
  go_enter Try.func66, Try.ntmps66
  go_wp2_with fail
  go_loopw [11] (fun ti wr => ∃ t : Nat, t ≤ C ∧ ti = .int .i64 t ∧ w.grownBy wr (some g) ∧ Row wr g C (fun j => if j < t then (F j + p - y * F2 j % p) % p else F j)) (fun ti _ => C - (intOf ti).toNat)
  case atStart => exact ⟨0, by omega, rfl, World.grownBy.refl _ _, HR.out.congr fun j _ => by rw [if_neg (by omega)]⟩
  case round =>
    obtain ⟨t, ht, rfl, hg1, hr⟩ := hrel
    have HG := Lib.hid hg1
    have HRW := Lib.hid hr
    clear hg1 hr
    by_cases hlt : t < C
    · have hc := HRW.out.cell hlt
      have hf := HRW.out.free t
      have hc2 := (HR2.out.grown HG.out (by simp; omega)).cell hlt
      rw [if_neg (by omega)] at hc
      have hx := HF.out t hlt
      have hz := HF2.out t hlt
      have hs2 := (HRW.out.set hlt ((F t + p - y * F2 t % p) % p)).congr (F' := fun j => if j < t + 1 then (F j + p - y * F2 j % p) % p else F j) (fun j hj => by
        by_cases e : j = t
        · subst e; rw [if_pos rfl, if_pos (by omega)]
        · rw [if_neg e]
          by_cases e2 : j < t
          · rw [if_pos e2, if_pos (by omega)]
          · rw [if_neg e2, if_neg (by omega)])
      obtain ⟨x, ex⟩ : ∃ x, F t = x := ⟨_, rfl⟩
      obtain ⟨z, ez⟩ : ∃ z, F2 t = z := ⟨_, rfl⟩
      rw [ex] at hc hx hs2
      rw [ez] at hc2 hz hs2
      have hmu := fun W => (refMul_any p y z W (by omega) hp hy hz).mono (R' := fun e w'' => e = .returned (.int .u64 (y * z % p : Nat)) ∧ w'' = W) (fun e w' h => ⟨h.1, h.2.symm⟩)
      obtain ⟨q, eq⟩ : ∃ q, y * z % p = q := ⟨_, rfl⟩
      have hql : q < p := by rw [← eq]; exact Nat.mod_lt _ (by omega)
      rw [eq] at hmu hs2
      have hsu := fun W => (refSub_any p x q W (by omega) hp hx hql).mono (R' := fun e w'' => e = .returned (.int .u64 ((x + p - q) % p : Nat)) ∧ w'' = W) (fun e w' h => ⟨h.1, h.2.symm⟩)
      obtain ⟨u, eu⟩ : ∃ u, (x + p - q) % p = u := ⟨_, rfl⟩
      rw [eu] at hsu hs2
      have HMU := Lib.hid hmu
      have HSU := Lib.hid hsu
      have HS := Lib.hid hs2
      clear hs2 ex ez eq eu hmu hsu
      go_wp2_with fail
      refine wp_region_still_tail 16 (by kernel_rfl) (by kernel_rfl) ?_
      simp only [List.take_succ_cons, List.take_zero, List.drop_succ_cons, List.drop_zero]
      repeat still_step
      still_call (HMU.out _)
      repeat still_step
      still_call (HSU.out _)
      repeat still_step
      refine wpStill_nil ?_
      change wpList _ _ _ _ _ wr.drew
      go_wp2_with fail
      go_roundw
      case rel => exact ⟨t + 1, by omega, by go_num, by
        have a := grown_set HG.out (.int .u64 (u : Nat)) (j := t)
        exact ⟨a.os, a.tape, a.output, a.size, a.block⟩, HS.out⟩
      case measure => simp [intOf]; omega
    · obtain rfl : t = C := by omega
      go_wp2_with fail
      go_end0
      exact ⟨rfl, HG.out, HRW.out.congr fun j hj => by rw [if_pos hj]⟩
end Go.Proofs.Ytfgfapbhgehfiaa
namespace Go.Proofs.Ytfgfapbhgehfiaa
open Go.RowKit
set_option linter.unusedVariables false
set_option maxRecDepth 100000

/-- what the reference's Reduce answers -/
def RredEnd (w : World) (p R C K : Nat) (F : M.Mx) (e : Ending) (w' : World) : Prop :=
  ∃ B cap G Cp vl, e = .returned (.tuple #[.slice (some ⟨B, 0, none⟩) R cap, vl]) ∧ R ≤ cap ∧ MatO w' w.heap.size B R C G Cp (M.red p R F K).m ∧ w'.ownsRow w.heap.size 3 1 vl (M.red p R F K).lead.length (ints (M.red p R F K).lead) ∧ Below w.heap.size w w'

theorem setCell_some (w : World) (p q : Addr) (x v : Value) (h : w.cell? q = some v) : ∃ v', (w.setCell p x).cell? q = some v' := by
  by_cases e : q = p
  · subst e; exact ⟨x, World.cell?_setCell_same _ _ _ h⟩
  · exact ⟨v, (World.cell?_setCell_other _ _ _ _ (Ne.symm e)).trans h⟩

theorem own_grown {w w' : World} {base g : Nat} {e : TypeId} {size : Nat} {v : Value} {n : Nat} {xs : List Value} (h : w.ownsRow base e size v n xs) (hb : w.grownBy w' (some g)) (hne : v.ownBlock ≠ some g) : w'.ownsRow base e size v n xs := by
  obtain ⟨h1, h2⟩ := h
  refine ⟨h1, ?_⟩
  rcases h2 with h2 | ⟨g', cap, cur, hv, hg, hh, r⟩
  · exact .inl h2
  · refine .inr ⟨g', cap, cur, hv, hg, (hb.block g' (Array.getElem?_eq_some_iff.1 hh).1 ?_).trans hh, r⟩
    subst hv
    simpa [Value.ownBlock] using hne

set_option maxHeartbeats 8000000 in
set_option maxRecDepth 100000 in
theorem rreduce_any (p R C K : Nat) (v : Value) (m : List (List Nat)) (w : World) (hi : M.isP p = true) (ht : M.Tab p m R C) (hK : K ≤ C) (hv : Mat w v m) :
    Calls Try.prog 49 #[.int .u64 p, v, .int .i64 K] w (RredEnd w p R C K (M.el m)) := by
  obtain ⟨h3, hp⟩ := M.pos_of hi
  have HC := Lib.hid (copied_any p R C v m w hp ht hv)
  have hinv := M.red_inv hi (m := M.el m) (fun i hi' j hj => ht.el_lt hi' hj)
  have HINV := Lib.hid hinv
  have HI := Lib.hid hi
  have hR64 := ht.R64
  have hR1 := ht.R1
  have hC128 := ht.C128
  have hC1 := ht.C1
  obtain ⟨A, cap, rfl, _⟩ := mat_view hv
  have hml := ht.rows
  rw [hml] at HC ⊢
  clear hv hi hinv hml ht
  go_enter Try.func49, Try.ntmps49
  go_wp2_with fail
  refine HC.out.mono ?_
  rintro e w1 ⟨B, cap1, G, Cp, rfl, hcap, hM, hB⟩
  have HM1 := Lib.hid hM
  have HB1 := Lib.hid hB
  clear hM hB
  go_wp2_with fail
  go_loopw [9, 8] (fun tk tl wr => ∃ k : Nat, k ≤ K ∧ tk = .int .i64 k ∧ (∃ G Cp, MatO wr w.heap.size B R C G Cp (M.red p R (M.el m) k).m) ∧ wr.ownsRow w.heap.size 3 1 tl (M.red p R (M.el m) k).lead.length (ints (M.red p R (M.el m) k).lead) ∧ Below w.heap.size w wr) (fun tk _ _ => K - (intOf tk).toNat)
  case atStart => exact ⟨0, by omega, rfl, ⟨G, Cp, HM1.out⟩, World.ownsRow_nil _ _ _ _, HB1.out⟩
  case round =>
    obtain ⟨k, hk, rfl, ⟨G, Cp, hM⟩, hown, hB⟩ := hrel
    have hsucc : M.red p R (M.el m) (k + 1) = M.rstep p R (M.red p R (M.el m) k) k := rfl
    by_cases hlt : k < K
    case neg =>
      obtain rfl : K = k := by omega
      have HM := Lib.hid hM
      have HO := Lib.hid hown
      have HB := Lib.hid hB
      obtain ⟨Al, cl, rfl⟩ := reduce_vp hown
      clear hM hown hB HM1 HB1 hsucc
      go_wp2_with fail
      go_ret2
      exact ⟨B, cap1, G, Cp, _, rfl, hcap, HM.out, HO.out, HB.out⟩
    have hs := HINV.out k (by omega)
    obtain ⟨s, es⟩ : ∃ s, M.red p R (M.el m) k = s := ⟨_, rfl⟩
    rw [es] at hM hown hsucc hs
    have HS := Lib.hid hs
    have HSUCC := Lib.hid hsucc
    have hlenR := hs.len
    have hf := s.at_first hs.len k
    obtain ⟨Al, cl, rfl⟩ := reduce_vp hown
    obtain ⟨L, eL⟩ : ∃ L, s.lead.length = L := ⟨_, rfl⟩
    rw [eL] at hown hlenR hf ⊢
    have EL := Lib.hid eL
    have HF := Lib.hid hf
    have HM := Lib.hid hM
    have HO := Lib.hid hown
    have HB := Lib.hid hB
    obtain ⟨wo, ewo⟩ : ∃ wo : World, wo = wr := ⟨_, rfl⟩
    rw [← ewo] at HM HO HB
    rw [← ewo]
    have hkC : k < C := by omega
    have hwo : w.heap.size ≤ wo.heap.size := HB.out.size
    have hud : ∀ b : Bool, undef ≠ Value.bool b := fun b h => by cases h
    clear hM hown hB HM1 HB1 hsucc hs es eL hf ewo
    go_wp2_with fail
    go_loop [11] (fun ta => ∃ r : Nat, L ≤ r ∧ r ≤ R ∧ ta = .int .i64 r ∧ ∀ i, L ≤ i → i < r → s.m i k = 0) (fun ta => R - (intOf ta).toNat)
    case atStart => exact ⟨L, Nat.le_refl _, hlenR, rfl, fun i h1 h2 => absurd h2 (by omega)⟩
    case round =>
      obtain ⟨r, hr1, hr2, rfl, hz⟩ := hrel
      have HZ := Lib.hid hz
      clear hz
      by_cases hrR : r < R
      · have b1 := HM.out.cell hrR
        have b2 := (HM.out.row r hrR).cell hkC
        obtain ⟨x, ex⟩ : ∃ x, s.m r k = x := ⟨_, rfl⟩
        rw [ex] at b2
        have hxl := HS.out.lt r hrR k hkC
        rw [ex] at hxl
        obtain ⟨g2, eg2⟩ : ∃ g2, G r = g2 := ⟨_, rfl⟩
        obtain ⟨q2, eq2⟩ : ∃ q2, Cp r = q2 := ⟨_, rfl⟩
        rw [eg2, eq2] at b1
        rw [eg2] at b2
        by_cases hx0 : x = 0
        · have hxb : ((x : Int) == 0) = true := by simp [hx0]
          have HX0 := Lib.hid (ex.trans hx0)
          clear hx0 ex eg2 eq2
          go_wp2_with fail
          go_round
          case rel => exact ⟨r + 1, by omega, by omega, by go_num, fun i h1 h2 => by
            by_cases e : i = r
            · rw [e]; exact HX0.out
            · exact HZ.out i h1 (by omega)⟩
          case measure => simp [intOf]; omega
        · have hxb : ((x : Int) == 0) = false := by simp; omega
          have er : s.at_ R k = r := HF.out.unique ⟨hr1, hr2, HZ.out, fun _ => by rw [ex]; exact hx0⟩
          have HX0 := Lib.hid (show s.m r k ≠ 0 by rw [ex]; exact hx0)
          have ER := Lib.hid er
          have EG2 := Lib.hid eg2
          have EQ2 := Lib.hid eq2
          clear hx0 ex eg2 eq2 er
          have hLR : L < R := by omega
          have c1 := HM.out.cell hLR
          obtain ⟨g1, eg1⟩ : ∃ g1, G L = g1 := ⟨_, rfl⟩
          obtain ⟨q1, eq1⟩ : ∃ q1, Cp L = q1 := ⟨_, rfl⟩
          rw [eg1, eq1] at c1
          have f1 := HM.out.free L
          have f2 := HM.out.free r
          obtain ⟨y1, hy1⟩ := setCell_some wo ⟨B, L, none⟩ ⟨B, r, none⟩ (.slice (some ⟨g2, 0, none⟩) C q2) _ b1
          obtain ⟨y2, hy2⟩ := setCell_some wo ⟨B, r, none⟩ ⟨B, L, none⟩ (.slice (some ⟨g1, 0, none⟩) C q1) _ c1
          have hsw := HM.out.swap hLR hrR
          rw [eg1, eq1, EG2.out, EQ2.out] at hsw
          have HSW := Lib.hid hsw
          clear hsw eg1 eq1
          go_wp2_with fail
          go_region
          obtain ⟨W1, eW1⟩ : ∃ W1, W1 = ((wo.setCell ⟨B, L, none⟩ (.slice (some ⟨g2, 0, none⟩) C q2)).setCell ⟨B, r, none⟩ (.slice (some ⟨g1, 0, none⟩) C q1)).drew := ⟨_, rfl⟩
          rw [← eW1]
          obtain ⟨m1, em1⟩ : ∃ m1, m1 = M.swp s.m L r := ⟨_, rfl⟩
          have hm1 : MatO W1 w.heap.size B R C (fun i => if i = r then g1 else if i = L then g2 else G i) (fun i => if i = r then q1 else if i = L then q2 else Cp i) m1 := by
            rw [eW1]
            refine (HSW.out.congr (F' := m1) fun i hi j hj => ?_).heap rfl
            rw [em1]
            unfold M.swp
            by_cases e1 : i = L
            · subst e1
              by_cases e2 : i = r
              · subst e2; simp
              · rw [if_neg e2, if_pos rfl, if_pos rfl]
            · by_cases e2 : i = r
              · rw [if_pos e2, if_neg e1, if_pos e2]
              · rw [if_neg e2, if_neg e1, if_neg e1, if_neg e2]
          obtain ⟨G, hG⟩ : ∃ G', G' = (fun i => if i = r then g1 else if i = L then g2 else G i) := ⟨_, rfl⟩
          obtain ⟨Cp, hCp⟩ : ∃ C', C' = (fun i => if i = r then q1 else if i = L then q2 else Cp i) := ⟨_, rfl⟩
          rw [← hG, ← hCp] at hm1
          have hlt1 := M.swp_lt hLR hrR HS.out.lt
          rw [← em1] at hlt1
          have hz1 : ∀ i, L ≤ i → i < R → ∀ j, j < k → m1 i j = 0 := fun i h1 h2 j hj => by
            rw [em1]
            unfold M.swp
            have hzz := HS.out.zero
            rw [EL.out] at hzz
            split
            · exact hzz _ hr1 hrR j hj
            · split
              · exact hzz _ (Nat.le_refl _) hLR j hj
              · exact hzz i h1 h2 j hj
          have hend : M.red p R (M.el m) (k + 1) = ⟨M.elimS p m1 L k, s.lead ++ [k], (s.swapped p r).d * m1 L k % p⟩ := by
            rw [HSUCC.out, M.rstep_swapped (by rw [ER.out]; exact hrR), ER.out, EL.out, em1]
            unfold M.Rd.swapped
            rw [EL.out]
          have hx1 : m1 L k ≠ 0 := by rw [em1, M.swp_top]; exact HX0.out
          have hB1 : Below w.heap.size w W1 := by
            rw [eW1]
            exact ((HB.out.setCell (p := ⟨B, L, none⟩) HM.out.baseB _).setCell (p := ⟨B, r, none⟩) HM.out.baseB _).drew
          have ho1 : W1.ownsRow w.heap.size 3 1 (.slice Al L cl) L (ints s.lead) := by
            have hne : (Value.slice Al L cl).ownBlock ≠ some B := by
              obtain ⟨cs, h1, _⟩ := HM.out.top
              exact own_ne HO.out h1 (by decide)
            have a := ownsRow_setCell_other (a := ⟨B, r, none⟩) (ownsRow_setCell_other (a := ⟨B, L, none⟩) HO.out hne (.slice (some ⟨g2, 0, none⟩) C q2)) hne (.slice (some ⟨g1, 0, none⟩) C q1)
            rw [eW1]
            exact a
          have HM1 := Lib.hid hm1
          have HLT := Lib.hid hlt1
          have HZ1 := Lib.hid hz1
          have HEND := Lib.hid hend
          have HX1 := Lib.hid hx1
          have HB1 := Lib.hid hB1
          have HO1 := Lib.hid ho1
          clear eW1 em1 hm1 hG hCp hlt1 hz1 hend hx1 hB1 ho1 HSW b1 b2 c1 f1 f2 hy1 hy2 HM HO HB HX0 HZ hxb hxl
          have b1 := HM1.out.cell hLR
          have b2 := (HM1.out.row L hLR).cell hkC
          have hxl := HLT.out L hLR k hkC
          obtain ⟨x, ex⟩ : ∃ x, m1 L k = x := ⟨_, rfl⟩
          obtain ⟨gl, egl⟩ : ∃ gl, G L = gl := ⟨_, rfl⟩
          obtain ⟨ql, eql⟩ : ∃ ql, Cp L = ql := ⟨_, rfl⟩
          rw [ex] at b2 hxl
          rw [egl, eql] at b1
          rw [egl] at b2
          have hiv := refInv_any p x W1 h3 hp hxl
          obtain ⟨q, eq⟩ : ∃ q, M.pw p x (p - 2) = q := ⟨_, rfl⟩
          have hql : q < p := by rw [← eq]; exact M.pw_lt _ _ (by omega)
          rw [eq] at hiv
          have HIV := Lib.hid hiv
          have EX := Lib.hid ex
          have EGL := Lib.hid egl
          have EQ := Lib.hid eq
          clear hiv ex egl eq eql
          go_wp2_with fail
          refine HIV.out.mono ?_
          rintro e w' ⟨rfl, rfl⟩
          go_wp2_with fail
          go_loopw [73] (fun tj wr => ∃ j : Nat, j ≤ C ∧ tj = .int .i64 j ∧ MatO wr w.heap.size B R C G Cp (fun i c => if i = L ∧ c < j then m1 i c * q % p else m1 i c) ∧ wr.ownsRow w.heap.size 3 1 (.slice Al L cl) L (ints s.lead) ∧ Below w.heap.size w wr) (fun tj _ => C - (intOf tj).toNat)
          case atStart => exact ⟨0, by omega, rfl, HM1.out.congr fun i hi c hc => by rw [if_neg (by omega)], HO1.out, HB1.out⟩
          case round =>
            obtain ⟨j, hj, rfl, hM, hO, hB⟩ := hrel
            have HM2 := Lib.hid hM
            have HO2 := Lib.hid hO
            have HB2 := Lib.hid hB
            clear hM hO hB HM1 HO1 HB1 b1 b2
            by_cases hjC : j < C
            · have b1 := HM2.out.cell hLR
              have hrow := HM2.out.row L hLR
              have b2 := hrow.cell hjC
              have b3 := hrow.free j
              rw [EGL.out] at b1 b2 b3
              rw [if_neg (by omega)] at b2
              have hyl := HLT.out L hLR j hjC
              have hmu := fun W => (refMul_any p (m1 L j) q W (by omega) hp hyl hql).mono (R' := fun e w'' => e = .returned (.int .u64 (m1 L j * q % p : Nat)) ∧ w'' = W) (fun e w' h => ⟨h.1, h.2.symm⟩)
              have hset := hrow.set hjC (m1 L j * q % p)
              obtain ⟨y, ey⟩ : ∃ y, m1 L j = y := ⟨_, rfl⟩
              rw [ey] at b2 hmu hset hyl
              obtain ⟨u, eu⟩ : ∃ u, y * q % p = u := ⟨_, rfl⟩
              rw [eu] at hmu hset
              obtain ⟨qc, eqc⟩ : ∃ qc, Cp L = qc := ⟨_, rfl⟩
              rw [eqc] at b1
              have HMU := Lib.hid hmu
              have HSET := Lib.hid hset
              have EY := Lib.hid ey
              have EU := Lib.hid eu
              clear hrow hmu hset ey eu eqc
              go_wp2_with fail
              refine wp_region_still_tail 16 (by kernel_rfl) (by kernel_rfl) ?_
              simp only [List.take_succ_cons, List.take_zero, List.drop_succ_cons, List.drop_zero]
              repeat still_step
              still_call (HMU.out _)
              repeat still_step
              refine wpStill_nil ?_
              change wpList _ _ _ _ _ wr.drew
              go_wp2_with fail
              have hg1 := grown_set (World.grownBy.refl wr (some gl)) (.int .u64 (u : Nat)) (j := j)
              have hM2 := ((HM2.out.setRow hLR (by rw [EGL.out]; exact hg1) HSET.out).congr (F' := fun i c => if i = L ∧ c < j + 1 then m1 i c * q % p else m1 i c) (fun i hi c hc => by
                by_cases e : i = L
                · subst e
                  by_cases e2 : c = j
                  · subst e2; simp [EY.out, EU.out]
                  · by_cases e3 : c < j
                    · have : c < j + 1 := by omega
                      simp [e2, e3, this]
                    · have : ¬ c < j + 1 := by omega
                      simp [e2, e3, this]
                · simp [e]))
              rw [EGL.out] at hM2
              have hne : (Value.slice Al L cl).ownBlock ≠ some gl := by
                obtain ⟨cs, h1, _⟩ := HM2.out.row L hLR
                rw [EGL.out] at h1
                exact own_ne HO2.out h1 (by decide)
              have hO2 := ownsRow_setCell_other (a := ⟨gl, j, none⟩) HO2.out hne (.int .u64 (u : Nat))
              have hbg := (HM2.out.baseG L hLR).1
              rw [EGL.out] at hbg
              have hB2 := (HB2.out.setCell (p := ⟨gl, j, none⟩) hbg (.int .u64 (u : Nat))).drew
              go_roundw
              case rel => exact ⟨j + 1, by omega, by go_num, hM2.heap rfl, hO2, hB2⟩
              case measure => simp [intOf]; omega
            · obtain rfl : C = j := by omega
              have hM3 : MatO wr w.heap.size B R C G Cp (fun i c => if i < 0 ∨ i = L then M.elimS p m1 L k i c else m1 i c) := HM2.out.congr fun i hi c hc => by
                by_cases e : i = L
                · subst e
                  rw [if_pos ⟨rfl, hc⟩, if_pos (.inr rfl), M.elimS_row, EX.out, EQ.out]
                · rw [if_neg (fun h => e h.1), if_neg (by omega)]
              have HM3 := Lib.hid hM3
              clear hM3
              go_wp2_with fail
              go_loopw [95] (fun tt w4 => ∃ t : Nat, t ≤ R ∧ tt = .int .i64 t ∧ MatO w4 w.heap.size B R C G Cp (fun i c => if i < t ∨ i = L then M.elimS p m1 L k i c else m1 i c) ∧ w4.ownsRow w.heap.size 3 1 (.slice Al L cl) L (ints s.lead) ∧ Below w.heap.size w w4) (fun tt _ => R - (intOf tt).toNat)
              case atStart => exact ⟨0, by omega, rfl, HM3.out, HO2.out, HB2.out⟩
              case round =>
                obtain ⟨t, ht, rfl, hM, hO, hB⟩ := hrel
                have HM4 := Lib.hid hM
                have HO4 := Lib.hid hO
                have HB4 := Lib.hid hB
                clear hM hO hB HM3 HM2 HO2 HB2
                by_cases htR : t < R
                · have htl : t ≤ 1000 := by omega
                  by_cases e : t = L
                  · have hbe : (((t : Nat) : Int) != ((L : Nat) : Int)) = false := by simp [e]
                    have HE := Lib.hid e
                    clear e
                    go_wp2_with fail
                    go_roundw
                    case rel => exact ⟨t + 1, by omega, by go_num, HM4.out.congr (fun i hi c hc => by
                      by_cases e1 : i < t ∨ i = L
                      · rw [if_pos e1, if_pos (by omega)]
                      · have := HE.out
                        rw [if_neg e1, if_neg (by omega)]), HO4.out, HB4.out⟩
                    case measure => simp [intOf]; omega
                  · have hbe : (((t : Nat) : Int) != ((L : Nat) : Int)) = true := by simp; omega
                    have d1 := HM4.out.cell hLR
                    have d2 := HM4.out.cell htR
                    have d3 := (HM4.out.row t htR).cell hkC
                    rw [if_neg (by omega)] at d3
                    have r1 : Row wr.drew (G t) C (m1 t) := ((HM4.out.row t htR).congr (F' := m1 t) fun c hc => by rw [if_neg (by omega)]).same rfl
                    have r2 : Row wr.drew (G L) C (M.elimS p m1 L k L) := ((HM4.out.row L hLR).congr (F' := M.elimS p m1 L k L) fun c hc => by rw [if_pos (.inr rfl)]).same rfl
                    have hgg : G t ≠ G L := fun h => e (HM4.out.inj t L htR hLR h)
                    have hls := less_any p (m1 t k) (G t) (G L) (Cp t) (Cp L) C (m1 t) (M.elimS p m1 L k L) wr.drew h3 hp (HLT.out t htR k hkC) (fun c hc => HLT.out t htR c hc) (fun c hc => by rw [M.elimS_row]; exact Nat.mod_lt _ (by omega)) (by omega) hgg r1 r2
                    obtain ⟨y, ey⟩ : ∃ y, m1 t k = y := ⟨_, rfl⟩
                    obtain ⟨gt, egt⟩ : ∃ gt, G t = gt := ⟨_, rfl⟩
                    obtain ⟨qt, eqt⟩ : ∃ qt, Cp t = qt := ⟨_, rfl⟩
                    obtain ⟨qL, eqL⟩ : ∃ qL, Cp L = qL := ⟨_, rfl⟩
                    have hyl := HLT.out t htR k hkC
                    rw [ey, egt, eqt, eqL, EGL.out] at hls
                    rw [egt, eqt] at d2
                    rw [EGL.out, eqL] at d1
                    rw [egt, ey] at d3
                    rw [ey] at hyl
                    have HLS := Lib.hid hls
                    have EY := Lib.hid ey
                    have EGT := Lib.hid egt
                    have HNE := Lib.hid e
                    clear hls ey egt eqt eqL e r1 r2 hgg
                    go_wp2_with fail
                    refine wp_region_still_tail 16 (by kernel_rfl) (by kernel_rfl) ?_
                    simp only [List.take_succ_cons, List.take_zero, List.drop_succ_cons, List.drop_zero]
                    repeat still_step
                    refine wpStill_nil ?_
                    change wpList _ _ _ _ _ wr.drew
                    go_wp2_with fail
                    refine HLS.out.mono ?_
                    rintro e w5 ⟨rfl, hg5, hr5⟩
                    go_wp2_with fail
                    have hM5 := ((HM4.out.heap (w' := wr.drew) rfl).setRow (w' := w5) htR (by rw [EGT.out]; exact hg5) (by rw [EGT.out]; exact hr5)).congr (F' := fun i c => if i < t + 1 ∨ i = L then M.elimS p m1 L k i c else m1 i c) (fun i hi c hc => by
                      by_cases e : i = t
                      · subst e
                        rw [if_pos rfl, if_pos (.inl (by omega))]
                        conv => rhs; unfold M.elimS
                        rw [if_neg HNE.out, M.elimS_row, EY.out]
                      · rw [if_neg e]
                        by_cases e1 : i < t ∨ i = L
                        · rw [if_pos e1, if_pos (by omega)]
                        · rw [if_neg e1, if_neg (by omega)])
                    have hne : (Value.slice Al L cl).ownBlock ≠ some gt := by
                      obtain ⟨cs, h1, _⟩ := HM4.out.row t htR
                      rw [EGT.out] at h1
                      exact own_ne HO4.out h1 (by decide)
                    have hO5 : w5.ownsRow w.heap.size 3 1 (.slice Al L cl) L (ints s.lead) := own_grown (w := wr.drew) HO4.out hg5 hne
                    have hbg := (HM4.out.baseG t htR).1
                    rw [EGT.out] at hbg
                    have hB5 : Below w.heap.size w w5 := HB4.out.drew.grown hg5 HB4.out.size (fun b hb => by simp at hb; omega)
                    go_roundw
                    case rel => exact ⟨t + 1, by omega, by go_num, hM5, hO5, hB5⟩
                    case measure => simp [intOf]; omega
                · obtain rfl : R = t := by omega
                  have hM6 : MatO wr w.heap.size B R C G Cp (M.elimS p m1 L k) := HM4.out.congr fun i hi c hc => by rw [if_pos (.inl hi)]
                  have HM6 := Lib.hid hM6
                  have hCb : ∀ i, i < R → some (G i) ≠ (Value.slice Al L cl).ownBlock := fun i hi h => by
                    obtain ⟨cs, h1, _⟩ := HM4.out.row i hi
                    exact own_ne HO4.out h1 (by decide) h.symm
                  have hBb : some B ≠ (Value.slice Al L cl).ownBlock := fun h => by
                    obtain ⟨cs, h1, _⟩ := HM4.out.top
                    exact own_ne HO4.out h1 (by decide) h.symm
                  clear hM6
                  have hLR2 : L ≤ 1000 := by omega
                  go_wp2_with (at_builtin; refine wpList_append_int (y := k) rfl _ _ rfl rfl rfl HO4.out hLR2 HB4.out.size ?_)
                  intro v' w6 hO6 hg6 hb6
                  have HM7 := Lib.hid (HM6.out.grown hg6 hBb hCb)
                  have HO7 := Lib.hid hO6
                  have HB7 := Lib.hid (HB4.out.trans hb6)
                  clear hO6 hg6 hb6 hCb hBb
                  go_wp2_with fail
                  go_roundw
                  case rel => exact ⟨k + 1, by omega, by go_num, by rw [HEND.out]; exact ⟨G, Cp, HM7.out⟩, by
                    rw [HEND.out]
                    show World.ownsRow _ _ _ _ _ (s.lead ++ [k]).length _
                    rw [List.length_append, EL.out]
                    exact HO7.out, HB7.out⟩
                  case measure => simp [intOf]; omega
      · obtain rfl : R = r := by omega
        have er : s.at_ R k = R := HF.out.unique ⟨hr1, hr2, HZ.out, fun h => absurd h hrR⟩
        have he : M.red p R (M.el m) (k + 1) = s := by rw [HSUCC.out, M.rstep_none (by rw [er]; omega)]
        have HE := Lib.hid he
        clear er he
        go_wp2_with fail
        go_roundw
        case rel => exact ⟨k + 1, by omega, by go_num, by rw [HE.out]; exact ⟨G, Cp, HM.out⟩, by rw [HE.out, EL.out]; exact HO.out, HB.out⟩
        case measure => simp [intOf]; omega
end Go.Proofs.Ytfgfapbhgehfiaa
namespace Go.Proofs.Ytfgfapbhgehfiaa
open Go.RowKit
set_option linter.unusedVariables false
set_option maxRecDepth 100000

theorem step_append_nums {w : World} {ops : Array Oper} {o : Oper} {a : Act} {K : Act → World → Prop} {Q : Exit → Act → World → Prop} {E : Prop} (hgd : Region.wanted o (yielded ops a.tmps) = true) (s x : Operand)
    (ho : o.op = .call { callee := .builtin .append, args := #[s, x], argTypes := #[31, 31] }) (base : Nat) (v : Value) (n : Nat) (xs : List Value) (hs : a.eval s = v) (hown : w.ownsRow base 22 1 v n xs)
    (vx : Value) (zs : List Nat) (hx : a.eval x = vx) (hN : Nums w vx zs) (hle : n + zs.length ≤ 17592186043904) (hbase : base ≤ w.heap.size)
    (h : ∀ v' w', w'.ownsRow base 22 1 v' (n + zs.length) (xs ++ vals zs) → Below base w w' → K (a.put o.dst v') w') : if Region.wanted o (yielded ops a.tmps) = true then o.wp Try.prog a w K Q else E := by
  obtain ⟨i0, hi0, hz0, hz1, hz2⟩ := info_parts infoU64
  have hlt := hown.lt
  rw [if_pos hgd]
  obtain ⟨h1, h2, h3⟩ := hN
  have go : ∀ (ad : Addr) (c : Nat), vx = .slice (some ad) zs.length c → (∀ j u, (vals zs)[j]? = some u → w.cell? (ad.add j) = some u) → o.wp Try.prog a w K Q := by
    intro ad c hv hc
    refine wp_append_own w s x 31 ho base 22 i0 (.int .u64 0) 1 8 Try.underlying31 hi0 hz0 hz1 hz2 rfl (by decide) v n xs hs hown ad zs.length c (vals zs) (hx.trans hv) (by simp [vals]) hc ?_ ?_ ?_ hbase ?_
    · intro u hu; unfold vals at hu; obtain ⟨z, _, rfl⟩ := List.mem_map.1 hu; rfl
    · unfold maxLen; omega
    · omega
    · intro v' w' hown' hgrow _
      exact h v' w' hown' ((Below.refl _ _).grown hgrow hbase (fun k hk => (hlt k hk).1))
  rcases h3 with ⟨ad, cap, rfl, rfl, hnn⟩ | ⟨b, off, cap, rfl, hc, hb, hcell⟩
  · cases ad with
    | none =>
      obtain rfl := hnn rfl
      have hrun := run_append_owned_none (P := Try.prog) (w := w) base 31 o.type 22 i0 1 Try.underlying31 hi0 v n xs hown
      unfold Oper.wp
      simp [execOp, ho, resolve, invoke, builtin, hs, hx, hrun, Result.andThen]
      exact h v w (by simpa [vals] using hown) (Below.refl _ _)
    | some x => exact go x cap rfl (fun j u hu => by simp [vals] at hu)
  · refine go _ cap rfl (fun j u hu => ?_)
    have hj : j < zs.length := by
      apply Nat.lt_of_not_le; intro hc
      rw [List.getElem?_eq_none (by simp [vals]; omega)] at hu; cases hu
    rw [Addr.add_lit, hcell j hj]
    simp [vals, List.getD_eq_getElem?_getD, hj] at hu ⊢
    exact hu


theorem step_append_row {w : World} {ops : Array Oper} {o : Oper} {a : Act} {Kt : Act → World → Prop} {Q : Exit → Act → World → Prop} {E : Prop} (hgd : Region.wanted o (yielded ops a.tmps) = true) (s x : Operand)
    (ho : o.op = .call { callee := .builtin .append, args := #[s, x], argTypes := #[68, 68] }) {base k C g c : Nat} {tv : Value} {G Cp : Nat → Nat} {F : Nat → Nat → Nat} (hs : a.eval s = tv)
    (hx : a.eval x = .slice (some ⟨w.heap.size, 0, none⟩) 1 1) (hA : MatA w base tv k C G Cp F) (hrow : Row w g C (F k)) (hg : base ≤ g) (hc : C ≤ c) (hne : ∀ i, i < k → G i ≠ g) (hk : k ≤ 1000) (hbase : base ≤ w.heap.size)
    (h : ∀ v' w', MatA w' base v' (k + 1) C (fun i => if i = k then g else G i) (fun i => if i = k then c else Cp i) F → Below base w w' → Kt (a.put o.dst v') w') :
    if Region.wanted o (yielded ops a.tmps) = true then o.wp Try.prog a (w.alloc (.cells #[.slice (some ⟨g, 0, none⟩) C c] 31)) Kt Q else E := by
  rw [if_pos hgd]
  obtain ⟨i0, hi0, hz0, hz1, hz2⟩ := info_parts infoRow
  have hA2 := hA.below (Below.refl w.heap.size w |>.alloc (Nat.le_refl _) (.cells #[.slice (some ⟨g, 0, none⟩) C c] 31)) (Nat.le_refl _)
  have hrow2 := hrow.alloc (.cells #[.slice (some ⟨g, 0, none⟩) C c] 31)
  refine wp_append_own _ s x 68 ho base 31 i0 (.slice none 0 0) 1 24 Try.underlying68 hi0 hz0 hz1 hz2 rfl (by decide) tv k _ hs hA2.own ⟨w.heap.size, 0, none⟩ 1 1 [.slice (some ⟨g, 0, none⟩) C c] hx rfl ?_ ?_ ?_ ?_ ?_ ?_
  · exact World.news_of_block (cs := #[.slice (some ⟨g, 0, none⟩) C c]) (fr := (0, 0)) (heap_alloc_new w _)
  · intro u hu; simp at hu; subst hu; rfl
  · unfold maxLen; omega
  · omega
  · simp; omega
  · intro v' w' hown hgr _
    have hlt := hA2.own.lt
    refine h v' w' (hA2.push hrow2 hg hc hne hgr hown) ?_
    exact ((Below.refl base w).alloc hbase _).grown hgr (by simp; omega) (fun r hr => (hlt r hr).1)
end Go.Proofs.Ytfgfapbhgehfiaa
