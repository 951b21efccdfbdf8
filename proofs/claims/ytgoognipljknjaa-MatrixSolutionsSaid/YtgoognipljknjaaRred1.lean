/-
  The reference's copied, less.
-/
import Derived.Test.YtgoognipljknjaaRmul
import Derived.StillTailTactics
namespace Go.Proofs.Ytgoognipljknjaa
open Go.RowKit
set_option linter.unusedVariables false
set_option maxRecDepth 100000

namespace M
/-- R rows of C numbers below p -/
structure Tab (p : Nat) (m : List (List Nat)) (R C : Nat) : Prop where
  rows : m.length = R
  R1 : 1 ≤ R
  R64 : R ≤ 64
  C1 : 1 ≤ C
  C128 : C ≤ 128
  cols : ∀ i, i < R → (m.getD i []).length = C
  lt : ∀ i, i < R → within p (m.getD i []) = true
theorem Ok.tab {p : Nat} {m : List (List Nat)} {R K : Nat} (h : Ok p m R K) : Tab p m R K := ⟨h.rows, h.R1, h.R64, h.K1, by have := h.K64; omega, h.cols, h.lt⟩
theorem Tab.el_lt {p : Nat} {m : List (List Nat)} {R C : Nat} (h : Tab p m R C) {i j : Nat} (hi : i < R) (hj : j < C) : el m i j < p := within_mem (h.lt i hi) (by rw [h.cols i hi]; exact hj)
end M

set_option maxHeartbeats 1000000 in
theorem copied_any (p R C : Nat) (v : Value) (m : List (List Nat)) (w : World) (hp : p ≤ 65537) (ht : M.Tab p m R C) (hv : Mat w v m) :
    Calls Try.prog 103 #[v] w fun e w' => ∃ B cap G Cp, e = .returned (.slice (some ⟨B, 0, none⟩) R cap) ∧ R ≤ cap ∧ MatO w' w.heap.size B R C G Cp (M.el m) ∧ Below w.heap.size w w' := by
  obtain ⟨A, cap, rfl, _, _, hrows⟩ := mat_view hv
  have HRW := Lib.hid hrows
  rw [ht.rows] at HRW ⊢
  have HT := Lib.hid ht
  have hR64 := ht.R64
  have hR1 := ht.R1
  have hC := ht.C128
  have hC1 := ht.C1
  clear hrows hv ht
  go_enter Try.func103, Try.ntmps103
  go_wp2_with fail
  go_loopw [8, 3] (fun ti tv wr => ∃ k : Nat, k ≤ R ∧ ti = .int .i64 k ∧ (∃ G Cp, MatA wr w.heap.size tv k C G Cp (M.el m)) ∧ Below w.heap.size w wr) (fun ti _ _ => R - (intOf ti).toNat)
  case atStart => exact ⟨0, by omega, rfl, ⟨_, _, MatA.start _ _ _ _⟩, Below.refl _ _⟩
  case round =>
    obtain ⟨k, hk, rfl, ⟨G, Cp, hA⟩, hB⟩ := hrel
    have HA := Lib.hid hA
    have HB := Lib.hid hB
    clear hA hB
    by_cases hlt : k < R
    · obtain ⟨b, off, rfl, hbl, hcells⟩ := HRW.out (by omega)
      obtain ⟨Au, cu, ck, hN⟩ := hcells k hlt
      rw [HT.out.cols k hlt] at ck hN
      have ck2 := (HB.out.cell (p := ⟨b, off + k, none⟩) hbl).trans ck
      obtain ⟨zs, ezs⟩ : ∃ zs, m.getD k [] = zs := ⟨_, rfl⟩
      have hzl : zs.length = C := by rw [← ezs]; exact HT.out.cols k hlt
      rw [ezs] at hN
      have EZS := Lib.hid ezs
      have HZL := Lib.hid hzl
      have hN2 := Lib.hid ((hN.below HB.out).below (balloc wr (.cells #[] 22)))
      have hmade := World.ownsRow_made (base := wr.heap.size) (e := 22) (size := 1) wr #[] 0 (Nat.le_refl _) (by decide) rfl
      have HM := Lib.hid hmade
      obtain ⟨Ao, co, hform⟩ := HA.out.form
      subst hform
      clear hcells ck hN hmade ezs hzl
      go_wp2_with (at_builtin; refine wpList_append_nums (by rfl) _ _ (by rfl) wr.heap.size _ _ _ (by rfl) HM.out _ zs (by rfl) hN2.out (by rw [HZL.out]; omega) (by simp) ?_)
      intro v' w2 hown2 hb2
      have hown3 : w2.ownsRow wr.heap.size 22 1 v' C (vals (M.tabM C (M.el m k))) := by
        have e : M.tabM C (M.el m k) = zs := by rw [← EZS.out]; exact M.tabM_of (HT.out.cols k hlt)
        rw [e]
        have := hown2
        rw [HZL.out] at this
        exact this
      obtain ⟨g, c, rfl, hg, hc, hr⟩ := row_own hown3 (by omega)
      have hb3 : Below wr.heap.size wr w2 := (balloc wr (.cells #[] 22)).trans hb2
      have HA2 := Lib.hid (HA.out.below hb3 (Nat.le_refl _))
      have HB3 := Lib.hid (bnext HB.out hb3)
      have hbs := HB.out.size
      have HR := Lib.hid hr
      have HNE := Lib.hid (show ∀ i, i < k → G i ≠ g from fun i hi => by have := (HA.out.row i hi).lt; omega)
      clear hown2 hb2 hown3 hb3 hr
      go_wp2_with (at_builtin; refine wpList_append_row rfl _ _ rfl rfl rfl HA2.out HR.out (by omega) hc HNE.out (by omega) HB3.out.size ?_)
      intro v' w4 hA' hb4
      have HA4 := Lib.hid hA'
      have HB4 := Lib.hid (HB3.out.trans hb4)
      clear hA' hb4
      go_wp2_with fail
      go_roundw
      case rel => exact ⟨k + 1, by omega, by go_num, ⟨_, _, HA4.out⟩, HB4.out⟩
      case measure => simp [intOf]; omega
    · obtain rfl : R = k := by omega
      obtain ⟨B, cp, rfl, hcp, hM⟩ := HA.out.done (by omega)
      go_wp2_with fail
      go_ret
      exact ⟨B, cp, G, Cp, rfl, hcp, hM, HB.out⟩

set_option maxHeartbeats 2000000 in
set_option maxRecDepth 100000 in
theorem less_any (p y g g2 cap cap2 C : Nat) (F F2 : Nat → Nat) (w : World) (h3 : 3 ≤ p) (hp : p ≤ 65537) (hy : y < p) (hF : ∀ j, j < C → F j < p) (hF2 : ∀ j, j < C → F2 j < p) (hC : C ≤ 1000) (hg : g ≠ g2) (h : Row w g C F) (h2 : Row w g2 C F2) :
    Calls Try.prog 105 #[.int .u64 p, .slice (some ⟨g, 0, none⟩) C cap, .slice (some ⟨g2, 0, none⟩) C cap2, .int .u64 y] w fun e w' => e = .returned (.tuple #[]) ∧ w.grownBy w' (some g) ∧ Row w' g C (fun j => (F j + p - y * F2 j % p) % p) := by
  have HR := Lib.hid h
  have HR2 := Lib.hid h2
  have HF := Lib.hid hF
  have HF2 := Lib.hid hF2
  clear h h2 hF hF2
  go_enter Try.func105, Try.ntmps105
  go_wp2_with fail
  go_loopw [11] (fun ti wr => ∃ t : Nat, t ≤ C ∧ ti = .int .i64 t ∧ w.grownBy wr (some g) ∧ Row wr g C (fun j => if j < t then (F j + p - y * F2 j % p) % p else F j)) (fun ti _ => C - (intOf ti).toNat)
  case atStart => exact ⟨0, by omega, rfl, World.grownBy.refl _ _, HR.out.congr fun j _ => by rw [if_neg (by omega)]⟩
  case round =>
    obtain ⟨t, ht, rfl, hg1, hr⟩ := hrel
    have HG := Lib.hid hg1
    have HRW := Lib.hid hr
    clear hg1 hr
    by_cases hlt : t < C
    · have hc := HRW.out.cell hlt
      have hf := HRW.out.free t
      have hc2 := (HR2.out.grown HG.out (by simp; omega)).cell hlt
      rw [if_neg (by omega)] at hc
      have hx := HF.out t hlt
      have hz := HF2.out t hlt
      have hs2 := (HRW.out.set hlt ((F t + p - y * F2 t % p) % p)).congr (F' := fun j => if j < t + 1 then (F j + p - y * F2 j % p) % p else F j) (fun j hj => by
        by_cases e : j = t
        · subst e; rw [if_pos rfl, if_pos (by omega)]
        · rw [if_neg e]
          by_cases e2 : j < t
          · rw [if_pos e2, if_pos (by omega)]
          · rw [if_neg e2, if_neg (by omega)])
      obtain ⟨x, ex⟩ : ∃ x, F t = x := ⟨_, rfl⟩
      obtain ⟨z, ez⟩ : ∃ z, F2 t = z := ⟨_, rfl⟩
      rw [ex] at hc hx hs2
      rw [ez] at hc2 hz hs2
      have hmu := fun W => (refMul_any p y z W (by omega) hp hy hz).mono (R' := fun e w'' => e = .returned (.int .u64 (y * z % p : Nat)) ∧ w'' = W) (fun e w' h => ⟨h.1, h.2.symm⟩)
      obtain ⟨q, eq⟩ : ∃ q, y * z % p = q := ⟨_, rfl⟩
      have hql : q < p := by rw [← eq]; exact Nat.mod_lt _ (by omega)
      rw [eq] at hmu hs2
      have hsu := fun W => (refSub_any p x q W (by omega) hp hx hql).mono (R' := fun e w'' => e = .returned (.int .u64 ((x + p - q) % p : Nat)) ∧ w'' = W) (fun e w' h => ⟨h.1, h.2.symm⟩)
      obtain ⟨u, eu⟩ : ∃ u, (x + p - q) % p = u := ⟨_, rfl⟩
      rw [eu] at hsu hs2
      have HMU := Lib.hid hmu
      have HSU := Lib.hid hsu
      have HS := Lib.hid hs2
      clear hs2 ex ez eq eu hmu hsu
      go_wp2_with fail
      refine wp_region_still_tail 16 (by kernel_rfl) (by kernel_rfl) ?_
      simp only [List.take_succ_cons, List.take_zero, List.drop_succ_cons, List.drop_zero]
      repeat still_step
      still_call (HMU.out _)
      repeat still_step
      still_call (HSU.out _)
      repeat still_step
      refine wpStill_nil ?_
      change wpList _ _ _ _ _ wr.drew
      go_wp2_with fail
      go_roundw
      case rel => exact ⟨t + 1, by omega, by go_num, by
        have a := grown_set HG.out (.int .u64 (u : Nat)) (j := t)
        exact ⟨a.os, a.tape, a.output, a.size, a.block⟩, HS.out⟩
      case measure => simp [intOf]; omega
    · obtain rfl : t = C := by omega
      go_wp2_with fail
      go_end0
      exact ⟨rfl, HG.out, HRW.out.congr fun j hj => by rw [if_pos hj]⟩
end Go.Proofs.Ytgoognipljknjaa
