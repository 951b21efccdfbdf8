/-
  Package matrix: Solve.
-/
import Derived.Test.YtgoognipljknjaaMr8S
import Derived.Test.YtgoognipljknjaaMr12
namespace Go.Proofs.Ytgoognipljknjaa
open Go.RowKit
set_option linter.unusedVariables false
set_option maxRecDepth 100000

namespace M
/-- the reduction of m beside the column v -/
def rdS (p : Nat) (m : List (List Nat)) (v : List Nat) (R K : Nat) : Rd := red p R (besF m fun i => [v.getD i 0]) K
/-- where a pivot's column is, its row's right side; 0 elsewhere -/
def solK (s : Rd) (K : Nat) : Nat → Nat → Nat
  | 0 => fun _ => 0
  | k + 1 => fun j => if j = s.lead.getD k 0 then s.m k K else solK s K k j
/-- there is no solution -/
def Stuck (s : Rd) (R K : Nat) : Prop := ∃ i, s.lead.length ≤ i ∧ i < R ∧ s.m i K ≠ 0
theorem solK_lt {p : Nat} {s : Rd} {K : Nat} (hp : 0 < p) : ∀ k, (∀ i, i < k → s.m i K < p) → ∀ j, solK s K k j < p
  | 0, _, _ => hp
  | k + 1, h, j => by
    unfold solK
    split
    · exact h k (by omega)
    · exact solK_lt hp k (fun i hi => h i (by omega)) j
end M

theorem reduce_right (p R K b : Nat) (v : Value) (m : List (List Nat)) (vv : Value) (zs : List Nat) (w : World) (hok : M.Ok p m R K) (hv : Mat w v m) (hz : Nums w vv zs) (hl : zs.length = R) (hw : M.within p zs = true) (hb : w.cell? ⟨b, 0, none⟩ = some vv) :
    Calls Try.prog 61 #[.int .u64 p, v, .func (.func 62) #[] #[.pointer (some ⟨b, 0, none⟩)]] w (ReduceEnd w p R K (K + 1) (M.besF m fun i => [zs.getD i 0])) := by
  refine reduce_S p R K 1 b v m (fun i => [zs.getD i 0]) w hok (by omega) (fun i hi => ⟨rfl, by have := M.within_mem hw (k := i) (by omega); simp [M.within] at this ⊢; exact this⟩) hv (fun W i hi hW => ?_)
  exact oneOf_any i b vv zs W (by have := hok.R64; omega) (by omega) (hz.below hW) ((hW.cell (p := ⟨b, 0, none⟩) (World.block_lt_of_cell? w _ hb)).trans hb)

set_option maxHeartbeats 400000 in
theorem solve_bad (p : Nat) (v : Value) (m : List (List Nat)) (vv : Value) (zs : List Nat) (w : World) (hp : p < 18446744073709551616) (hv : Mat w v m) (hz : Nums w vv zs) (h : M.chkm p m ≠ 0) :
    Calls Try.prog 19 #[.int .u64 p, v, vv] w fun e w' => e = .returned (.tuple #[.slice none 0 0, .int .i64 (M.chkm p m)]) ∧ Below w.heap.size w w' := by
  have HC := Lib.hid (mcheck_any p v m (w.alloc (.cells #[vv] 24)) hp (hv.below (balloc w _)))
  have HB0 := Lib.hid (balloc w (.cells #[vv] 24))
  obtain ⟨A, cap, rfl, _⟩ := mat_view hv
  obtain ⟨Az, cz, rfl⟩ := nums_slice' hz
  have hb : (M.chkm p m != 0) = true := by rw [bne_iff_ne]; exact h
  obtain ⟨c, ec⟩ : ∃ c, c = M.chkm p m := ⟨_, rfl⟩
  rw [← ec] at HC hb ⊢
  clear ec h hp hv hz
  go_enter Try.func19, Try.ntmps19
  go_wp2_with fail
  refine HC.out.mono ?_
  rintro e w1 ⟨rfl, hb1⟩
  have HB := Lib.hid (bnext HB0.out hb1)
  clear hb1
  go_wp2_with fail
  go_ret2
  exact ⟨rfl, HB.out⟩

set_option maxHeartbeats 400000 in
theorem solve_arg (p R K : Nat) (v : Value) (m : List (List Nat)) (vv : Value) (zs : List Nat) (w : World) (hok : M.Ok p m R K) (hv : Mat w v m) (hz : Nums w vv zs) (h : zs.length ≠ R ∨ M.within p zs = false) :
    Calls Try.prog 19 #[.int .u64 p, v, vv] w fun e w' => e = .returned (.tuple #[.slice none 0 0, .int .i64 2]) ∧ Below w.heap.size w w' := by
  obtain ⟨h3, hp⟩ := M.pos_of hok.isp
  have hud : ∀ b : Bool, undef ≠ Value.bool b := fun b h => by cases h
  have hc := mcheck_any p v m (w.alloc (.cells #[vv] 24)) (by omega) (hv.below (balloc w _))
  rw [hok.chk] at hc
  have HC := Lib.hid hc
  have HB0 := Lib.hid (balloc w (.cells #[vv] 24))
  have hbx := heap_alloc_new w (.cells #[vv] 24)
  have HBX := Lib.hid hbx
  have HZ := Lib.hid hz
  have hR := hok.rows
  obtain ⟨A, cap, rfl, _⟩ := mat_view hv
  obtain ⟨Az, cz, rfl⟩ := nums_slice' hz
  rw [hR] at HC ⊢
  obtain ⟨L, eL⟩ : ∃ L, zs.length = L := ⟨_, rfl⟩
  rw [eL] at HC HB0 HBX HZ h ⊢
  have hLi : L ≤ 17592186043904 := by rw [← eL]; exact hz.2.1
  have hR64 := hok.R64
  obtain ⟨W0, eW0⟩ : ∃ W0, W0 = w.alloc (.cells #[.slice Az L cz] 24) := ⟨_, rfl⟩
  obtain ⟨xb, exb⟩ : ∃ xb, xb = w.heap.size := ⟨_, rfl⟩
  rw [← exb] at HBX
  rw [← eW0] at HC HB0 HBX
  have EXB := Lib.hid exb
  have EW0 := Lib.hid eW0
  have HZ0 := Lib.hid (HZ.out.below HB0.out)
  clear hc hv hz hok hR eL hbx exb eW0
  by_cases hL : L = R
  · have hw := h.resolve_left (by simp [hL])
    have hb1 : ((L : Int) != (R : Int)) = false := by simp [hL]
    have HW := Lib.hid hw
    clear hw h hL
    go_enter Try.func19, Try.ntmps19
    go_wp2_with fail
    rw [← EW0.out]
    simp only [← EXB.out]
    refine HC.out.mono ?_
    rintro e w1 ⟨rfl, hb⟩
    have k1 := cell_of_one ((hb.block xb (lt_of_block HBX.out)).trans HBX.out)
    have HB1 := Lib.hid (bnext HB0.out hb)
    have hA := allBelow_any p _ zs w1 (HZ0.out.below hb)
    rw [HW.out] at hA
    have HA := Lib.hid hA
    clear hb hA
    go_wp2_with fail
    refine HA.out.mono ?_
    rintro e w2 ⟨rfl, hb⟩
    have HB2 := Lib.hid (bnext HB1.out hb)
    clear hb
    go_wp2_with fail
    go_ret2
    exact ⟨rfl, HB2.out⟩
  · have hb1 : ((L : Int) != (R : Int)) = true := by simp; omega
    clear h hL
    go_enter Try.func19, Try.ntmps19
    go_wp2_with fail
    rw [← EW0.out]
    simp only [← EXB.out]
    refine HC.out.mono ?_
    rintro e w1 ⟨rfl, hb⟩
    have k1 := cell_of_one ((hb.block xb (lt_of_block HBX.out)).trans HBX.out)
    have HB1 := Lib.hid (bnext HB0.out hb)
    clear hb
    go_wp2_with fail
    go_ret2
    exact ⟨rfl, HB1.out⟩

def SolveEnd (w : World) (p R K : Nat) (m : List (List Nat)) (zs : List Nat) (e : Ending) (w' : World) : Prop :=
  Below w.heap.size w w' ∧ ((M.Stuck (M.rdS p m zs R K) R K ∧ e = .returned (.tuple #[.slice none 0 0, .int .i64 5])) ∨
    (¬ M.Stuck (M.rdS p m zs R K) R K ∧ ∃ g cap, e = .returned (.tuple #[.slice (some ⟨g, 0, none⟩) K cap, .int .i64 0]) ∧ w.heap.size ≤ g ∧ K ≤ cap ∧ Row w' g K (M.solK (M.rdS p m zs R K) K (M.rdS p m zs R K).lead.length)))
end Go.Proofs.Ytgoognipljknjaa
