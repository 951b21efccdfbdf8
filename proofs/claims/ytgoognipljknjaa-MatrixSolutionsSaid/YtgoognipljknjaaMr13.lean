/-
  Package matrix: Inverse.
-/
import Derived.Test.YtgoognipljknjaaMr8I
import Derived.Test.YtgoognipljknjaaMr12
namespace Go.Proofs.Ytgoognipljknjaa
open Go.RowKit
set_option linter.unusedVariables false
set_option maxRecDepth 100000

namespace M
def one (R : Nat) : Nat → List Nat := fun i => tabM R fun j => if j = i then 1 else 0
/-- the reduction of m beside the unit matrix -/
def rdI (p : Nat) (m : List (List Nat)) (R : Nat) : Rd := red p R (besF m (one R)) R
/-- its right half -/
def inv (p : Nat) (m : List (List Nat)) (R : Nat) : List (List Nat) := tabMM R R fun i j => (rdI p m R).m i (R + j)
theorem rdI_agree {p R : Nat} {m : List (List Nat)} (h : Ok p m R R) : Agree R R (rdI p m R) (rd p m R R) := by
  apply red_congr _ R (Nat.le_refl _)
  intro i hi j hj
  unfold besF el
  rw [getD_app, if_pos (by rw [h.cols i hi]; exact hj)]
end M

theorem reduce_unit (p R b cap : Nat) (A : Option Addr) (v : Value) (m : List (List Nat)) (w : World) (hok : M.Ok p m R R) (hv : Mat w v m) (hb : w.cell? ⟨b, 0, none⟩ = some (.slice A R cap)) :
    Calls Try.prog 61 #[.int .u64 p, v, .func (.func 96) #[] #[.pointer (some ⟨b, 0, none⟩)]] w (ReduceEnd w p R R (R + R) (M.besF m (M.one R))) := by
  have h3 := (M.pos_of hok.isp).1
  refine reduce_I p R R R b v m (M.one R) w hok hok.R64 (fun i hi => ⟨M.tabM_len _ _, M.within_tabM fun j _ => by split <;> omega⟩) hv (fun W i hi hW => ?_)
  exact unitOf_any R i b cap A W (by have := hok.R64; omega) hi ((hW.cell (p := ⟨b, 0, none⟩) (World.block_lt_of_cell? w _ hb)).trans hb)

set_option maxHeartbeats 400000 in
theorem inverse_bad (p : Nat) (v : Value) (m : List (List Nat)) (w : World) (hp : p < 18446744073709551616) (hv : Mat w v m) (h : M.csq p m ≠ 0) :
    Calls Try.prog 56 #[.int .u64 p, v] w fun e w' => e = .returned (.tuple #[.slice none 0 0, .int .i64 (M.csq p m)]) ∧ Below w.heap.size w w' := by
  have HC := Lib.hid (square_any p v m (w.alloc (.cells #[v] 23)) hp (hv.below (balloc w _)))
  have HB0 := Lib.hid (balloc w (.cells #[v] 23))
  obtain ⟨A, cap, rfl, _⟩ := mat_view hv
  have hb : (M.csq p m != 0) = true := by rw [bne_iff_ne]; exact h
  obtain ⟨c, ec⟩ : ∃ c, c = M.csq p m := ⟨_, rfl⟩
  rw [← ec] at HC hb ⊢
  clear ec h hp hv
  go_enter Try.func56, Try.ntmps56
  go_wp2_with fail
  refine HC.out.mono ?_
  rintro e w1 ⟨rfl, hb1⟩
  have HB := Lib.hid (bnext HB0.out hb1)
  clear hb1
  go_wp2_with fail
  go_ret2
  exact ⟨rfl, HB.out⟩

def InverseEnd (w : World) (p R : Nat) (m : List (List Nat)) (e : Ending) (w' : World) : Prop :=
  Below w.heap.size w w' ∧ (((M.rdI p m R).lead.length < R ∧ e = .returned (.tuple #[.slice none 0 0, .int .i64 7])) ∨
    (¬ (M.rdI p m R).lead.length < R ∧ ∃ v, e = .returned (.tuple #[v, .int .i64 0]) ∧ Mat w' v (M.inv p m R)))

set_option maxHeartbeats 2000000 in
theorem inverse_ok (p R : Nat) (v : Value) (m : List (List Nat)) (w : World) (hok : M.Ok p m R R) (hv : Mat w v m) :
    Calls Try.prog 56 #[.int .u64 p, v] w (InverseEnd w p R m) := by
  obtain ⟨h3, hp⟩ := M.pos_of hok.isp
  have hR64 := hok.R64
  have hR1 := hok.R1
  have hbx := heap_alloc_new w (.cells #[v] 23)
  have hc := square_any p v m (w.alloc (.cells #[v] 23)) (by omega) (hv.below (balloc w _))
  rw [M.csq_ok hok] at hc
  have HC := Lib.hid hc
  have HB0 := Lib.hid (balloc w (.cells #[v] 23))
  have HM := Lib.hid hv
  obtain ⟨A, cap, rfl, _⟩ := mat_view hv
  rw [hok.rows] at HC HM HB0 hbx ⊢
  have HR := Lib.hid fun W b (hW : Mat W (.slice A R cap) m) hb => reduce_unit p R b cap A _ m W hok hW hb
  have hltF := M.red_inv hok.isp (M.besF_lt (E := R) hok (ap := M.one R) (fun i hi => ⟨M.tabM_len _ _, M.within_tabM fun j _ => by split <;> omega⟩)) R (by omega)
  have HLT := Lib.hid hltF.lt
  obtain ⟨xb, exb⟩ : ∃ xb, xb = w.heap.size := ⟨_, rfl⟩
  rw [← exb] at hbx
  obtain ⟨W0, eW0⟩ : ∃ W0, W0 = w.alloc (.cells #[.slice A R cap] 23) := ⟨_, rfl⟩
  rw [← eW0] at hbx HC HB0
  have hM0 : Mat W0 (.slice A R cap) m := HM.out.below HB0.out
  have HM0 := Lib.hid hM0
  have k0 := cell_of_one hbx
  obtain ⟨cs, hcs, hcz, hmk⟩ := make_rows R (by omega)
  have EXB := Lib.hid exb
  have EW0 := Lib.hid eW0
  have HBX := Lib.hid hbx
  have HCS := Lib.hid hcs
  clear hc hv hok hltF exb eW0 hM0 hcs hcz hbx
  go_enter Try.func56, Try.ntmps56
  go_wp2_with fail
  rw [← EW0.out]
  simp only [← EXB.out]
  refine HC.out.mono ?_
  rintro e w1 ⟨rfl, hb1⟩
  have hbx1 := (hb1.block xb (lt_of_block HBX.out)).trans HBX.out
  have k1 := cell_of_one hbx1
  have HB1 := Lib.hid (bnext HB0.out hb1)
  have HR2 := Lib.hid (HR.out w1 xb (HM0.out.below hb1) k1)
  have HBX1 := Lib.hid hbx1
  clear hb1 hbx1 k0
  go_wp2_with fail
  refine HR2.out.mono ?_
  rintro e w2 ⟨B, cp, G, Cp, vp, rfl, hb2, hcp, hm2, hp2⟩
  have HB2 := Lib.hid (bnext HB1.out hb2)
  have hbx2 := (hb2.block xb (lt_of_block HBX1.out)).trans HBX1.out
  have k2 := cell_of_one hbx2
  have hxl := lt_of_block hbx2
  have HBX2 := Lib.hid hbx2
  have HM2 := Lib.hid hm2
  obtain ⟨Ap, cpp, rfl⟩ := reduce_vp hp2
  obtain ⟨L, eL⟩ : ∃ L, (M.red p R (M.besF m (M.one R)) R).lead.length = L := ⟨_, rfl⟩
  obtain ⟨d, ed⟩ : ∃ d, (M.red p R (M.besF m (M.one R)) R).d = d := ⟨_, rfl⟩
  rw [eL, ed]
  have EL := Lib.hid eL
  clear hb2 hm2 hp2 eL ed k1 hbx2
  by_cases hLR : L < R
  · have HL := Lib.hid hLR
    go_wp2_with fail
    go_ret2
    exact ⟨HB2.out.alloc HB2.out.size _, .inl ⟨by unfold M.rdI; rw [EL.out]; exact HL.out, rfl⟩⟩
  · have HL := Lib.hid hLR
    go_wp2_with fail
    obtain ⟨Bi, eBi⟩ : ∃ Bi, Bi = w2.heap.size + 1 := ⟨_, rfl⟩
    obtain ⟨W3, eW3⟩ : ∃ W3, W3 = (w2.alloc (.cells #[.slice (some ⟨B, 0, none⟩) R cp, .slice Ap L cpp, .int .u64 (d : Nat)] 98)).alloc (.cells cs 24) := ⟨_, rfl⟩
    have hBi : W3.heap[Bi]? = some (.cells cs 24 (0, 0)) := by
      rw [eW3, eBi]
      have := heap_alloc_new (w2.alloc (.cells #[.slice (some ⟨B, 0, none⟩) R cp, .slice Ap L cpp, .int .u64 (d : Nat)] 98)) (.cells cs 24)
      simpa using this
    have hB3 : Below w2.heap.size w2 W3 := by rw [eW3]; exact ((Below.refl _ _).alloc (Nat.le_refl _) _).alloc (by simp) _
    have HB3 := Lib.hid (bnext HB2.out hB3)
    have HM3 := Lib.hid (HM2.out.below hB3 (Nat.le_refl _))
    have HBX3 := Lib.hid ((hB3.block xb hxl).trans HBX2.out)
    have HBI := Lib.hid (show ∃ ds, W3.heap[Bi]? = some (.cells ds 24 (0, 0)) ∧ ds.size = R ∧ ∀ i, i < 0 → ds[i]? = some (.slice (some ⟨G i, R, none⟩) R (Cp i - R)) from ⟨cs, hBi, HCS.out, fun i hi => absurd hi (by omega)⟩)
    have nBi : Bi ≠ xb := by omega
    have hBB : B < w2.heap.size := HM2.out.lt
    have nBB : B ≠ Bi := by omega
    have hwBi : w.heap.size ≤ Bi := by have := HB2.out.size; omega
    rw [← eBi, ← eW3]
    clear eW3 hBi hB3 k2 hmk hxl eBi
    go_loopw [33] (fun ti wr => ∃ k : Nat, k ≤ R ∧ ti = .int .i64 k ∧ (∃ ds, wr.heap[Bi]? = some (.cells ds 24 (0, 0)) ∧ ds.size = R ∧ ∀ i, i < k → ds[i]? = some (.slice (some ⟨G i, R, none⟩) R (Cp i - R))) ∧ MatO wr w1.heap.size B R (R + R) G Cp (M.red p R (M.besF m (M.one R)) R).m ∧ wr.heap[xb]? = some (.cells #[.slice A R cap] 23 (0, 0)) ∧ Below w.heap.size w wr) (fun ti _ => R - (intOf ti).toNat)
    case atStart => exact ⟨0, by omega, rfl, HBI.out, HM3.out, HBX3.out, HB3.out⟩
    case round =>
      obtain ⟨k, hk, rfl, hbi, hm, hx, hB⟩ := hrel
      have HI4 := Lib.hid hbi
      have HM4 := Lib.hid hm
      have HX4 := Lib.hid hx
      have HB4 := Lib.hid hB
      clear hbi hm hx hB HBI HM3 HBX3 HB3
      by_cases hlt : k < R
      · have c1 := HM4.out.cell hlt
        have c2 := cell_of_one HX4.out
        obtain ⟨x0, cB, fB, hpush⟩ : ∃ x0, wr.cell? ⟨Bi, k, none⟩ = some x0 ∧ wr.frozen? ⟨Bi, k, none⟩ = false ∧ ∃ ds, (wr.setCell ⟨Bi, k, none⟩ (.slice (some ⟨G k, R, none⟩) R (Cp k - R))).heap[Bi]? = some (.cells ds 24 (0, 0)) ∧ ds.size = R ∧ ∀ i, i < k + 1 → ds[i]? = some (.slice (some ⟨G i, R, none⟩) R (Cp i - R)) := by
          obtain ⟨ds, e1, e2, e3⟩ := HI4.out
          refine ⟨ds[k]'(by omega), by rw [cell_of_row wr Bi k ds _ (0, 0) e1]; exact Array.getElem?_eq_getElem _, frozen_of_row wr Bi k ds _ e1, _, heap_setCell_same wr Bi k ds _ _ e1, by simpa using e2, fun i hi => ?_⟩
          by_cases e : i = k
          · subst e; rw [Array.getElem?_setIfInBounds_self_of_lt (by omega)]
          · rw [Array.getElem?_setIfInBounds_ne (Ne.symm e)]; exact e3 i (by omega)
        have hcpk := (HM4.out.baseG k hlt).2
        obtain ⟨gk, egk⟩ : ∃ gk, G k = gk := ⟨_, rfl⟩
        obtain ⟨ck, eck⟩ : ∃ ck, Cp k = ck := ⟨_, rfl⟩
        rw [egk, eck] at c1 hpush
        rw [eck] at hcpk
        have hGB : ∀ i, i < R → G i ≠ Bi := fun i hi e => by
          obtain ⟨ds, e1, _⟩ := HI4.out
          obtain ⟨es, e2, _⟩ := HM4.out.row i hi
          rw [e, e1] at e2
          simp at e2
        have HP := Lib.hid hpush
        have HGB := Lib.hid hGB
        have n1 : ¬ ck = R := by omega
        have e8 : R + R - R = R := by omega
        clear hpush hGB egk eck
        go_wp2_with fail
        go_roundw
        case rel => exact ⟨k + 1, by omega, by go_num, by first | exact HP.out | (rw [e8]; exact HP.out), HM4.out.far (p := ⟨Bi, k, none⟩) nBB HGB.out _, (Below.heap_setCell _ _ _ xb (Ne.symm nBi)).trans HX4.out, HB4.out.setCell (p := ⟨Bi, k, none⟩) hwBi _⟩
        case measure => simp [intOf]; omega
      · obtain rfl : R = k := by omega
        go_wp2_with fail
        go_ret2
        refine ⟨HB4.out, .inr ⟨by unfold M.rdI; rw [EL.out]; exact HL.out, .slice (some ⟨Bi, 0, none⟩) R R, rfl, ?_⟩⟩
        obtain ⟨ds, e1, e2, e3⟩ := HI4.out
        unfold M.inv
        refine ⟨by rw [M.tabMM_len]; omega, _, R, by rw [M.tabMM_len], by rw [M.tabMM_len]; exact Nat.le_refl _, fun _ => ⟨Bi, 0, rfl, lt_of_block e1, fun i hi => ?_⟩⟩
        rw [M.tabMM_len] at hi
        rw [M.tabMM_at _ _ hi, Nat.zero_add, cell_of_row _ Bi i ds _ (0, 0) e1]
        refine ⟨_, e3 i hi, ?_⟩
        exact (HM4.out.row i hi).part (by omega) (by have := (HM4.out.baseG i hi).2; omega) (by omega) (fun j hj => by have := HLT.out i hi j hj; omega)
end Go.Proofs.Ytgoognipljknjaa
