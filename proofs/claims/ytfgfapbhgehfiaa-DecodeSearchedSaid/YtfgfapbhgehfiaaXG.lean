/-
  Mr11, Mr12, Mr14, Mr15 (joined).
-/
import Derived.Test.YtfgfapbhgehfiaaXE
import Derived.Test.YtfgfapbhgehfiaaXF
import Derived.Outline
namespace Go.Proofs.Ytfgfapbhgehfiaa
open Go.RowKit
set_option linter.unusedVariables false
set_option maxRecDepth 100000

/-- a slice of ints that reads as the numbers l -/
def Ints (w : World) (v : Value) (l : List Nat) : Prop :=
  ∃ A cap, v = .slice A l.length cap ∧ l.length ≤ cap ∧ (0 < l.length → ∃ b, A = some ⟨b, 0, none⟩ ∧ b < w.heap.size ∧ ∀ i, i < l.length → w.cell? ⟨b, i, none⟩ = some (.int .i64 (l.getD i 0 : Nat)))
theorem Ints.below {w w' : World} {v : Value} {l : List Nat} (h : Ints w v l) (hb : Below w.heap.size w w') : Ints w' v l := by
  obtain ⟨A, cap, e, hc, h⟩ := h
  refine ⟨A, cap, e, hc, fun h0 => ?_⟩
  obtain ⟨b, e2, hlt, hcell⟩ := h h0
  exact ⟨b, e2, Nat.lt_of_lt_of_le hlt hb.size, fun i hi => (hb.cell (p := ⟨b, i, none⟩) hlt).trans (hcell i hi)⟩
theorem ints_of_owns {w : World} {base n : Nat} {v : Value} {l : List Nat} (h : w.ownsRow base 3 1 v n (ints l)) : Ints w v l := by
  have hn : l.length = n := by have := h.1; simpa [ints] using this
  rcases h.2 with ⟨rfl, h0⟩ | ⟨g, cap, cur, rfl, hg, hh, hc, _⟩
  · exact ⟨none, 0, by rw [hn, h0], by omega, fun h => absurd h (by omega)⟩
  · refine ⟨_, cap, by rw [hn], by omega, fun h0 => ⟨g, rfl, lt_of_block hh, fun i hi => ?_⟩⟩
    have := h.cells (g := g) rfl i (.int .i64 (l.getD i 0 : Nat)) (by simp [ints, List.getD_eq_getElem?_getD, hi])
    rw [Addr.add_lit, Nat.zero_add] at this
    exact this

namespace M
theorem besF_nil (m : List (List Nat)) : besF m (fun _ => []) = el m := by
  funext i j; unfold besF el; rw [List.append_nil]
/-- the reduction of m -/
def rd (p : Nat) (m : List (List Nat)) (R K : Nat) : Rd := red p R (el m) K
end M

def ReducedOk (w : World) (p R K : Nat) (m : List (List Nat)) (e : Ending) (w' : World) : Prop :=
  Below w.heap.size w w' ∧ ∃ B cap G Cp vp, e = .returned (.tuple #[.slice (some ⟨B, 0, none⟩) R cap, vp, .int .i64 0]) ∧ R ≤ cap ∧ MatO w' w.heap.size B R K G Cp (M.rd p m R K).m ∧ Ints w' vp (M.rd p m R K).lead

end Go.Proofs.Ytfgfapbhgehfiaa
namespace Go.Proofs.Ytfgfapbhgehfiaa
open Go.RowKit
set_option linter.unusedVariables false
set_option maxRecDepth 100000

theorem ints_slice {w : World} {v : Value} {l : List Nat} (h : Ints w v l) : ∃ A cap, v = .slice A l.length cap := by obtain ⟨A, cap, e, _⟩ := h; exact ⟨A, cap, e⟩

namespace M
def csq (p : Nat) (m : List (List Nat)) : Int := if chkm p m = 0 then (if m.length = (m.getD 0 []).length then 0 else 2) else chkm p m
theorem csq_ok {p R : Nat} {m : List (List Nat)} (h : Ok p m R R) : csq p m = 0 := by
  unfold csq; rw [if_pos h.chk, if_pos (by rw [h.rows, h.cols 0 (by have := h.R1; omega)])]
theorem ok_of_csq {p : Nat} {m : List (List Nat)} (h : csq p m = 0) : Ok p m m.length m.length := by
  unfold csq at h
  split at h
  · rename_i h1
    split at h
    · rename_i h2; have := chkm_ok h1; rwa [← h2] at this
    · cases h
  · rename_i h1; exact absurd h h1
end M

namespace M
/-- the determinant that elimination yields -/
def det (p : Nat) (m : List (List Nat)) (R : Nat) : Nat := if (rd p m R R).lead.length < R then 0 else (rd p m R R).d
end M

theorem reduce_vp {w : World} {base : Nat} {vp : Value} {l : List Nat} (h : w.ownsRow base 3 1 vp l.length (ints l)) : ∃ A c, vp = .slice A l.length c := by
  rcases h.2 with ⟨rfl, h0⟩ | ⟨g, c, cur, rfl, _⟩
  · exact ⟨none, 0, by rw [h0]⟩
  · exact ⟨_, _, rfl⟩

end Go.Proofs.Ytfgfapbhgehfiaa
namespace Go.Proofs.Ytfgfapbhgehfiaa
open Go.RowKit
set_option linter.unusedVariables false
set_option maxRecDepth 100000

namespace M
/-- the reduction of m beside the column v -/
def rdS (p : Nat) (m : List (List Nat)) (v : List Nat) (R K : Nat) : Rd := red p R (besF m fun i => [v.getD i 0]) K
/-- where a pivot's column is, its row's right side; 0 elsewhere -/
def solK (s : Rd) (K : Nat) : Nat → Nat → Nat
  | 0 => fun _ => 0
  | k + 1 => fun j => if j = s.lead.getD k 0 then s.m k K else solK s K k j
/-- there is no solution -/
def Stuck (s : Rd) (R K : Nat) : Prop := ∃ i, s.lead.length ≤ i ∧ i < R ∧ s.m i K ≠ 0
theorem solK_lt {p : Nat} {s : Rd} {K : Nat} (hp : 0 < p) : ∀ k, (∀ i, i < k → s.m i K < p) → ∀ j, solK s K k j < p
  | 0, _, _ => hp
  | k + 1, h, j => by
    unfold solK
    split
    · exact h k (by omega)
    · exact solK_lt hp k (fun i hi => h i (by omega)) j
end M

theorem reduce_right (p R K b : Nat) (v : Value) (m : List (List Nat)) (vv : Value) (zs : List Nat) (w : World) (hok : M.Ok p m R K) (hv : Mat w v m) (hz : Nums w vv zs) (hl : zs.length = R) (hw : M.within p zs = true) (hb : w.cell? ⟨b, 0, none⟩ = some vv) :
    Calls Try.prog 77 #[.int .u64 p, v, .func (.func 78) #[] #[.pointer (some ⟨b, 0, none⟩)]] w (ReduceEnd w p R K (K + 1) (M.besF m fun i => [zs.getD i 0])) := by
  refine reduce_S p R K 1 b v m (fun i => [zs.getD i 0]) w hok (by omega) (fun i hi => ⟨rfl, by have := M.within_mem hw (k := i) (by omega); simp [M.within] at this ⊢; exact this⟩) hv (fun W i hi hW => ?_)
  exact oneOf_any i b vv zs W (by have := hok.R64; omega) (by omega) (hz.below hW) ((hW.cell (p := ⟨b, 0, none⟩) (World.block_lt_of_cell? w _ hb)).trans hb)

set_option maxHeartbeats 400000 in
theorem solve_bad (p : Nat) (v : Value) (m : List (List Nat)) (vv : Value) (zs : List Nat) (w : World) (hp : p < 18446744073709551616) (hv : Mat w v m) (hz : Nums w vv zs) (h : M.chkm p m ≠ 0) :
    Calls Try.prog 63 #[.int .u64 p, v, vv] w fun e w' => e = .returned (.tuple #[.slice none 0 0, .int .i64 (M.chkm p m)]) ∧ Below w.heap.size w w' := by
  have HC := Lib.hid (mcheck_any p v m (w.alloc (.cells #[vv] 31)) hp (hv.below (balloc w _)))
  have HB0 := Lib.hid (balloc w (.cells #[vv] 31))
  obtain ⟨A, cap, rfl, _⟩ := mat_view hv
  obtain ⟨Az, cz, rfl⟩ := nums_slice' hz
  have hb : (M.chkm p m != 0) = true := by rw [bne_iff_ne]; exact h
  obtain ⟨c, ec⟩ : ∃ c, c = M.chkm p m := ⟨_, rfl⟩
  rw [← ec] at HC hb ⊢
  clear ec h hp hv hz
  go_enter Try.func63, Try.ntmps63
  go_wp2_with fail
  refine HC.out.mono ?_
  rintro e w1 ⟨rfl, hb1⟩
  have HB := Lib.hid (bnext HB0.out hb1)
  clear hb1
  go_wp2_with fail
  go_ret2
  exact ⟨rfl, HB.out⟩

set_option maxHeartbeats 400000 in
theorem solve_arg (p R K : Nat) (v : Value) (m : List (List Nat)) (vv : Value) (zs : List Nat) (w : World) (hok : M.Ok p m R K) (hv : Mat w v m) (hz : Nums w vv zs) (h : zs.length ≠ R ∨ M.within p zs = false) :
    Calls Try.prog 63 #[.int .u64 p, v, vv] w fun e w' => e = .returned (.tuple #[.slice none 0 0, .int .i64 2]) ∧ Below w.heap.size w w' := by
  obtain ⟨h3, hp⟩ := M.pos_of hok.isp
  have hud : ∀ b : Bool, undef ≠ Value.bool b := fun b h => by cases h
  have hc := mcheck_any p v m (w.alloc (.cells #[vv] 31)) (by omega) (hv.below (balloc w _))
  rw [hok.chk] at hc
  have HC := Lib.hid hc
  have HB0 := Lib.hid (balloc w (.cells #[vv] 31))
  have hbx := heap_alloc_new w (.cells #[vv] 31)
  have HBX := Lib.hid hbx
  have HZ := Lib.hid hz
  have hR := hok.rows
  obtain ⟨A, cap, rfl, _⟩ := mat_view hv
  obtain ⟨Az, cz, rfl⟩ := nums_slice' hz
  rw [hR] at HC ⊢
  obtain ⟨L, eL⟩ : ∃ L, zs.length = L := ⟨_, rfl⟩
  rw [eL] at HC HB0 HBX HZ h ⊢
  have hLi : L ≤ 17592186043904 := by rw [← eL]; exact hz.2.1
  have hR64 := hok.R64
  obtain ⟨W0, eW0⟩ : ∃ W0, W0 = w.alloc (.cells #[.slice Az L cz] 31) := ⟨_, rfl⟩
  obtain ⟨xb, exb⟩ : ∃ xb, xb = w.heap.size := ⟨_, rfl⟩
  rw [← exb] at HBX
  rw [← eW0] at HC HB0 HBX
  have EXB := Lib.hid exb
  have EW0 := Lib.hid eW0
  have HZ0 := Lib.hid (HZ.out.below HB0.out)
  clear hc hv hz hok hR eL hbx exb eW0
  by_cases hL : L = R
  · have hw := h.resolve_left (by simp [hL])
    have hb1 : ((L : Int) != (R : Int)) = false := by simp [hL]
    have HW := Lib.hid hw
    clear hw h hL
    go_enter Try.func63, Try.ntmps63
    go_wp2_with fail
    rw [← EW0.out]
    simp only [← EXB.out]
    refine HC.out.mono ?_
    rintro e w1 ⟨rfl, hb⟩
    have k1 := cell_of_one ((hb.block xb (lt_of_block HBX.out)).trans HBX.out)
    have HB1 := Lib.hid (bnext HB0.out hb)
    have hA := allBelow_any p _ zs w1 (HZ0.out.below hb)
    rw [HW.out] at hA
    have HA := Lib.hid hA
    clear hb hA
    go_wp2_with fail
    refine HA.out.mono ?_
    rintro e w2 ⟨rfl, hb⟩
    have HB2 := Lib.hid (bnext HB1.out hb)
    clear hb
    go_wp2_with fail
    go_ret2
    exact ⟨rfl, HB2.out⟩
  · have hb1 : ((L : Int) != (R : Int)) = true := by simp; omega
    clear h hL
    go_enter Try.func63, Try.ntmps63
    go_wp2_with fail
    rw [← EW0.out]
    simp only [← EXB.out]
    refine HC.out.mono ?_
    rintro e w1 ⟨rfl, hb⟩
    have k1 := cell_of_one ((hb.block xb (lt_of_block HBX.out)).trans HBX.out)
    have HB1 := Lib.hid (bnext HB0.out hb)
    clear hb
    go_wp2_with fail
    go_ret2
    exact ⟨rfl, HB1.out⟩

def SolveEnd (w : World) (p R K : Nat) (m : List (List Nat)) (zs : List Nat) (e : Ending) (w' : World) : Prop :=
  Below w.heap.size w w' ∧ ((M.Stuck (M.rdS p m zs R K) R K ∧ e = .returned (.tuple #[.slice none 0 0, .int .i64 5])) ∨
    (¬ M.Stuck (M.rdS p m zs R K) R K ∧ ∃ g cap, e = .returned (.tuple #[.slice (some ⟨g, 0, none⟩) K cap, .int .i64 0]) ∧ w.heap.size ≤ g ∧ cap = K ∧ Row w' g K (M.solK (M.rdS p m zs R K) K (M.rdS p m zs R K).lead.length)))
end Go.Proofs.Ytfgfapbhgehfiaa
namespace Go.Proofs.Ytfgfapbhgehfiaa
open Go.RowKit
set_option linter.unusedVariables false
set_option maxRecDepth 100000

theorem RedO.far {w : World} {base D B R C cap : Nat} {G Cp : Nat → Nat} {vp : Value} {s : M.Rd} (h : RedO w base D B R C cap G Cp vp s) {g j : Nat} (hD : D ≠ g) (hB : B ≠ g) (hG : ∀ i, i < R → G i ≠ g) (hp : vp.ownBlock ≠ some g) (u : Value) : RedO (w.setCell ⟨g, j, none⟩ u) base D B R C cap G Cp vp s :=
  ⟨(Below.heap_setCell _ _ _ _ hD).trans h.blk, h.mat.far (p := ⟨g, j, none⟩) hB hG _, ownsRow_setCell_other h.piv hp _, h.baseD, h.cap⟩
theorem RedO.lead_cell {w : World} {base D B R C cap L cp : Nat} {G Cp : Nat → Nat} {A : Option Addr} {s : M.Rd} (h : RedO w base D B R C cap G Cp (.slice A L cp) s) {k : Nat} (hk : k < s.lead.length) : ∃ b, A = some ⟨b, 0, none⟩ ∧ w.cell? ⟨b, k, none⟩ = some (.int .i64 (s.lead.getD k 0 : Nat)) := by
  obtain ⟨A', cap', e, hc, h2⟩ := ints_of_owns h.piv
  simp only [Value.slice.injEq] at e
  obtain ⟨rfl, _, _⟩ := e
  obtain ⟨b, e2, _, hcell⟩ := h2 (by omega)
  exact ⟨b, e2, hcell k hk⟩

set_option maxHeartbeats 4000000 in
theorem solve_ok (p R K : Nat) (v : Value) (m : List (List Nat)) (vv : Value) (zs : List Nat) (w : World) (hok : M.Ok p m R K) (hv : Mat w v m) (hz : Nums w vv zs) (hzl : zs.length = R) (hzw : M.within p zs = true) :
    Calls Try.prog 63 #[.int .u64 p, v, vv] w (SolveEnd w p R K m zs) := by
  obtain ⟨h3, hp⟩ := M.pos_of hok.isp
  have hud : ∀ b : Bool, undef ≠ Value.bool b := fun b h => by cases h
  have hc := mcheck_any p v m (w.alloc (.cells #[vv] 31)) (by omega) (hv.below (balloc w _))
  rw [hok.chk] at hc
  have HC := Lib.hid hc
  have HB0 := Lib.hid (balloc w (.cells #[vv] 31))
  have hbx := heap_alloc_new w (.cells #[vv] 31)
  have HBX := Lib.hid hbx
  have HZ := Lib.hid hz
  have HV := Lib.hid hv
  have hR := hok.rows
  have HRED := Lib.hid fun W b (hW : Mat W v m) (hZ : Nums W vv zs) hb => reduce_right p R K b v m vv zs W hok hW hZ hzl hzw hb
  have hinv := M.red_inv hok.isp (M.besF_lt (E := 1) hok (ap := fun i => [zs.getD i 0]) (fun i hi => ⟨rfl, by have := M.within_mem hzw (k := i) (by omega); simp [M.within] at this ⊢; exact this⟩)) K (by omega)
  have hlenR := hinv.len
  have HINV := Lib.hid hinv
  obtain ⟨A, cap, rfl, _, _, hrows⟩ := mat_view hv
  obtain ⟨Az, cz, rfl⟩ := nums_slice' hz
  rw [hR] at HC HV HRED hrows ⊢
  rw [hzl] at HC HB0 HBX HZ HRED ⊢
  have hR64 := hok.R64
  have hR1 := hok.R1
  have hK1 := hok.K1
  have hK64 := hok.K64
  obtain ⟨bm, om, rfl, hbm, hcells⟩ := hrows (by omega)
  obtain ⟨A0, k0, cm, _⟩ := hcells 0 (by omega)
  rw [Nat.add_zero, hok.cols 0 (by omega)] at cm
  obtain ⟨W0, eW0⟩ : ∃ W0, W0 = w.alloc (.cells #[.slice Az R cz] 31) := ⟨_, rfl⟩
  obtain ⟨xb, exb⟩ : ∃ xb, xb = w.heap.size := ⟨_, rfl⟩
  rw [← exb] at HBX
  rw [← eW0] at HC HB0 HBX
  have EXB := Lib.hid exb
  have EW0 := Lib.hid eW0
  have HZ0 := Lib.hid (HZ.out.below HB0.out)
  have HV0 := Lib.hid (HV.out.below HB0.out)
  have HA := Lib.hid fun W (hW : Nums W (.slice Az R cz) zs) => allBelow_any p _ zs W hW
  rw [hzw] at HA
  have hb1 : ((R : Int) != (R : Int)) = false := by simp
  obtain ⟨cs, hmk, hmrow⟩ := make_u64 K (by omega)
  have HMR := Lib.hid hmrow
  obtain ⟨s, es⟩ : ∃ s, M.rdS p m zs R K = s := ⟨_, rfl⟩
  have es' : M.red p R (M.besF m fun i => [zs.getD i 0]) K = s := es
  rw [es'] at HINV hlenR
  unfold SolveEnd
  rw [es]
  have hltx : ∀ i, i < R → s.m i K < p := fun i hi => HINV.out.lt i hi K (by omega)
  have HLTX := Lib.hid hltx
  have ES := Lib.hid es'
  clear hc hv hz hok hR hbx exb eW0 hrows hcells hzl hzw hmrow hinv es es' hltx
  go_enter Try.func63, Try.ntmps63
  go_wp2_with fail
  rw [← EW0.out]
  simp only [← EXB.out]
  refine HC.out.mono ?_
  rintro e w1 ⟨rfl, hb⟩
  have hx1 := (hb.block xb (lt_of_block HBX.out)).trans HBX.out
  have k1 := cell_of_one hx1
  have HX1 := Lib.hid hx1
  have HB1 := Lib.hid (bnext HB0.out hb)
  have HZ1 := Lib.hid (HZ0.out.below hb)
  have HV1 := Lib.hid (HV0.out.below hb)
  clear hb hx1
  go_wp2_with fail
  refine (HA.out w1 HZ1.out).mono ?_
  rintro e w2 ⟨rfl, hb⟩
  have hx2 := (hb.block xb (lt_of_block HX1.out)).trans HX1.out
  have k2 := cell_of_one hx2
  have HX2 := Lib.hid hx2
  have HB2 := Lib.hid (bnext HB1.out hb)
  have HZ2 := Lib.hid (HZ1.out.below hb)
  have HV2 := Lib.hid (HV1.out.below hb)
  clear hb hx2 k1
  have HR2 := Lib.hid (HRED.out w2 xb HV2.out HZ2.out k2)
  go_wp2_with fail
  refine HR2.out.mono ?_
  rintro e w3 ⟨B, cq, G, Cp, vp, rfl, hb3, hcp, hm3, hp3⟩
  rw [ES.out] at hm3 hp3 ⊢
  have HB3 := Lib.hid (bnext HB2.out hb3)
  have hw3 := HB3.out.size
  obtain ⟨Ap, cpp, rfl⟩ := reduce_vp hp3
  obtain ⟨D, eD⟩ : ∃ D, D = w3.heap.size := ⟨_, rfl⟩
  obtain ⟨W4, eW4⟩ : ∃ W4, W4 = w3.alloc (.cells #[.slice (some ⟨B, 0, none⟩) R cq, .slice Ap s.lead.length cpp, .int .u64 (s.d : Nat)] 110) := ⟨_, rfl⟩
  have hred : RedO W4 w2.heap.size D B R (K + 1) cq G Cp (.slice Ap s.lead.length cpp) s := by
    rw [eW4, eD]
    exact ⟨heap_alloc_new w3 _, hm3.alloc _, hp3.alloc _, hb3.size, hcp⟩
  have hB4 : Below w.heap.size w W4 := by rw [eW4]; exact HB3.out.alloc HB3.out.size _
  have hcm4 := (hB4.cell (p := ⟨bm, om, none⟩) hbm).trans cm
  have cm3 := (HB3.out.cell (p := ⟨bm, om, none⟩) hbm).trans cm
  have nbm : bm ≠ w3.heap.size := by omega
  have nbm2 : w3.heap.size ≠ bm := by omega
  have nbm3 : bm < w3.heap.size := by omega
  have HRED4 := Lib.hid hred
  have HB4 := Lib.hid hB4
  have hdl := hred.lt
  have EW4 := Lib.hid eW4
  have ED := Lib.hid eD
  have c0 := hred.c0
  have c1 := hred.c1
  obtain ⟨L, eL⟩ : ∃ L, s.lead.length = L := ⟨_, rfl⟩
  rw [eL] at c1 hlenR EW4 HRED4 ⊢
  have EL := Lib.hid eL
  obtain ⟨d, ed⟩ : ∃ d, s.d = d := ⟨_, rfl⟩
  rw [ed] at EW4 ⊢
  clear hb3 hm3 hp3 hred hB4 eD eW4 eL ed k2 cm HR2 HRED
  have hq : L = cq ∨ ¬ cq = L := by omega
  rcases hq with hq | hq
  case' inl => subst hq
  all_goals
    go_wp2_with fail
    rw [← EW4.out]
    simp only [← ED.out]
    clear cm3 nbm nbm2 nbm3
    go_loop [48] (fun ti => ∃ k : Nat, k ≤ R - L ∧ ti = .int .i64 k ∧ ∀ i, i < k → s.m (L + i) K = 0) (fun ti => (R - L) - (intOf ti).toNat)
    case atStart => exact ⟨0, by omega, rfl, fun i hi => absurd hi (by omega)⟩
    case round =>
      obtain ⟨k, hk, rfl, hz⟩ := hrel
      have HZK := Lib.hid hz
      clear hz
      by_cases hlt : k < R - L
      · try (exfalso; omega)
        all_goals
          have hk2 : L + k < R := by omega
          have b1 := HRED4.out.mat.cell hk2
          have b2 := (HRED4.out.mat.row _ hk2).cell (j := K) (by omega)
          have hx := HLTX.out _ hk2
          obtain ⟨x, ex⟩ : ∃ x, s.m (L + k) K = x := ⟨_, rfl⟩
          rw [ex] at b2 hx
          have EX := Lib.hid ex
          clear ex
          by_cases hx0 : x = 0
          · have hxb : ((x : Int) != 0) = false := by simp [hx0]
            have HX0 := Lib.hid hx0
            clear hx0
            go_wp2_with fail
            go_round
            case rel => exact ⟨k + 1, by omega, by go_num, fun i hi => by
              by_cases e : i = k
              · rw [e, EX.out]; exact HX0.out
              · exact HZK.out i (by omega)⟩
            case measure => simp [intOf]; omega
          · have hxb : ((x : Int) != 0) = true := by simp; omega
            have HX0 := Lib.hid hx0
            clear hx0
            go_wp2_with fail
            go_ret2
            exact ⟨HB4.out, .inl ⟨⟨L + k, by rw [EL.out]; omega, hk2, by rw [EX.out]; exact HX0.out⟩, rfl⟩⟩
      · have hns : ¬ M.Stuck s R K := by
          rintro ⟨i, h1, h2, h3⟩
          rw [EL.out] at h1
          apply h3
          have := HZK.out (i - L) (by omega)
          rwa [show L + (i - L) = i by omega] at this
        have HNS := Lib.hid hns
        clear hns HZK
        go_wp2_with fail
        obtain ⟨gx, egx⟩ : ∃ gx, gx = W4.heap.size := ⟨_, rfl⟩
        obtain ⟨W5, eW5⟩ : ∃ W5, W5 = W4.alloc (.cells cs 22) := ⟨_, rfl⟩
        rw [← egx, ← eW5]
        have hr5 : Row W5 gx K (fun _ => 0) := by rw [eW5, egx]; exact HMR.out W4
        have hred5 : ∃ q, RedO W5 w2.heap.size D B R (K + 1) q G Cp (.slice Ap L cpp) s := by rw [eW5]; exact ⟨_, HRED4.out.alloc _⟩
        have hB5 : Below w.heap.size w W5 := by rw [eW5]; exact HB4.out.alloc HB4.out.size _
        have nD : D ≠ gx := by have := HRED4.out.lt; omega
        have nB : B ≠ gx := by have := HRED4.out.mat.lt; omega
        have nG : ∀ i, i < R → G i ≠ gx := fun i hi => by have := (HRED4.out.mat.row i hi).lt; omega
        have nP : (Value.slice Ap L cpp).ownBlock ≠ some gx := by
          intro e
          have := (HRED4.out.piv.lt gx e).2
          omega
        have hwx : w.heap.size ≤ gx := by have := HB4.out.size; omega
        have HR5 := Lib.hid hr5
        have HRED5 := Lib.hid hred5
        have HB5 := Lib.hid hB5
        have NG := Lib.hid nG
        have NP := Lib.hid nP
        clear hr5 hred5 hB5 nG nP egx eW5 hmk hcm4 c0 c1
        go_loopw [66] (fun ti wr => ∃ k : Nat, k ≤ L ∧ ti = .int .i64 k ∧ Row wr gx K (M.solK s K k) ∧ (∃ q, RedO wr w2.heap.size D B R (K + 1) q G Cp (.slice Ap L cpp) s) ∧ Below w.heap.size w wr) (fun ti _ => L - (intOf ti).toNat)
        case atStart => exact ⟨0, by omega, rfl, HR5.out, HRED5.out, HB5.out⟩
        case round =>
          obtain ⟨k, hk, rfl, hr, ⟨q, hred⟩, hB⟩ := hrel
          have HR6 := Lib.hid hr
          have HRED6 := Lib.hid hred
          have HB6 := Lib.hid hB
          clear hr hred hB HR5 HRED5 HB5
          by_cases hlt : k < L
          · obtain ⟨bp, rfl, cl⟩ := HRED6.out.lead_cell (k := k) (by rw [EL.out]; exact hlt)
            have hkR : k < R := by omega
            have q0 := HRED6.out.c0
            have q1 := HRED6.out.mat.cell hkR
            have q2 := (HRED6.out.mat.row k hkR).cell (j := K) (by omega)
            have hcol := HINV.out.ltk k (by rw [EL.out]; exact hlt)
            obtain ⟨c, ec⟩ : ∃ c, s.lead.getD k 0 = c := ⟨_, rfl⟩
            rw [ec] at cl hcol
            obtain ⟨x, ex⟩ : ∃ x, s.m k K = x := ⟨_, rfl⟩
            rw [ex] at q2
            have q3 := HR6.out.cell hcol
            have q4 := HR6.out.free c
            have hset := (HR6.out.set hcol x).congr (F' := M.solK s K (k + 1)) (fun j hj => by
              rw [M.solK, ec, ex])
            have HSET := Lib.hid hset
            clear ec ex hset
            go_wp2_with fail
            go_roundw
            case rel => exact ⟨k + 1, by omega, by go_num, HSET.out, ⟨_, HRED6.out.far nD nB NG.out NP.out _⟩, HB6.out.setCell (p := ⟨gx, c, none⟩) hwx _⟩
            case measure => simp [intOf]; omega
          · obtain rfl : L = k := by omega
            go_wp2_with fail
            go_ret2
            refine ⟨HB6.out, .inr ⟨HNS.out, gx, K, rfl, hwx, rfl, ?_⟩⟩
            rw [EL.out]
            exact HR6.out
end Go.Proofs.Ytfgfapbhgehfiaa
