/-
  The reference's search through all choices of d + 1 points.
-/
import Derived.Test.YtfgfapbhgehfiaaSeaM
import Derived.Test.YtfgfapbhgehfiaaG1
namespace Go.Proofs.Ytfgfapbhgehfiaa
open Go.RowKit
set_option linter.unusedVariables false
set_option maxRecDepth 100000

/-- what the search answers -/
def SeaEnd (w : World) (p d q : Nat) (xs ys idx : List Nat) (fr : Nat) (e : Ending) (w' : World) : Prop :=
  ∃ (b : Bool) (v : Value), e = .returned (.tuple #[v, .bool b]) ∧ (b = true → ∃ f, Nums w' v f ∧ M.Good p d q xs ys f) ∧ (b = false → M.NoFit p d q xs ys idx fr) ∧ Below w.heap.size w w'
theorem SeaEnd.mk {w : World} {p d q : Nat} {xs ys idx : List Nat} {fr : Nat} {e : Ending} {w' : World} (b : Bool) (v : Value) (h1 : e = .returned (.tuple #[v, .bool b])) (h2 : b = true → ∃ f, Nums w' v f ∧ M.Good p d q xs ys f) (h3 : b = false → M.NoFit p d q xs ys idx fr) (h4 : Below w.heap.size w w') : SeaEnd w p d q xs ys idx fr e w' := ⟨b, v, h1, h2, h3, h4⟩
/-- the points at the places idx are chosen; none: nil -/
def Chosen (w : World) (vc : Value) (xs ys idx : List Nat) : Prop := Pts w vc (M.pick xs idx) (M.pick ys idx) ∧ (idx = [] → vc = .slice none 0 0)

set_option maxHeartbeats 4000000 in
theorem search_base (p d q : Nat) (v vc : Value) (xs ys idx : List Nat) (fr : Nat) (w : World) (hok : M.DOk p d xs ys) (hq : q < 9223372036854775808) (hfr : fr ≤ xs.length) (hnd : idx.Nodup) (hlt : ∀ i ∈ idx, i < fr) (hl : idx.length = d + 1) (hv : Pts w v xs ys) (hc : Pts w vc (M.pick xs idx) (M.pick ys idx)) :
    Calls Try.prog 42 #[.int .u64 p, .int .i64 d, .int .i64 q, v, .int .i64 fr, vc] w (SeaEnd w p d q xs ys idx fr) := by
  have hud : ∀ b : Bool, undef ≠ Value.bool b := fun b h => by cases h
  obtain ⟨h3, hp⟩ := M.pos_of hok.isp
  have hyl := hv.1
  have hlx : ∀ i ∈ idx, i < xs.length := fun i hi => by have := hlt i hi; omega
  have hpl : (M.pick xs idx).length = d + 1 := by rw [M.pick_len]; exact hl
  have HT := Lib.hid (rthrough_any p vc _ _ w hok.isp (by rw [hpl]; have := hok.d63; omega) (M.pick_within hok.wx hlx) (M.pick_within hok.wy (fun i hi => by rw [hyl]; exact hlx i hi)) (M.pick_nodup hok.nod hnd hlx) hc)
  have HY := Lib.hid fun (f : List Nat) (hT : M.Thru p (M.pick xs idx) (M.pick ys idx) f) (hf : (M.offI p f xs ys).length ≤ q) => M.base_yes (xs := xs) (ys := ys) hl hT hf
  have HN := Lib.hid fun (f : List Nat) (hT : M.Thru p (M.pick xs idx) (M.pick ys idx) f) (hf : q < (M.offI p f xs ys).length) => M.base_no (fr := fr) hok.isp hok.nod hok.wx hnd hlx hl hT hf
  have HV := Lib.hid hv
  have HOK := Lib.hid hok
  obtain ⟨Ac, cc, ec, _⟩ := hc.2.2.2.2
  rw [hpl] at ec
  subst ec
  obtain ⟨A, cap, rfl, _⟩ := hv.2.2.2.2
  have hd := hok.d63
  have hw1 : IntKind.i64.wrap ((d : Int) + 1) = ((d + 1 : Nat) : Int) := by rw [IntKind.wrap_i64]; omega
  unfold SeaEnd
  clear hv hc hok hlt hlx hnd hl hpl hyl
  go_enter Try.func42, Try.ntmps42
  go_wp2_with fail
  refine HT.out.mono ?_
  rintro e w1 ⟨v1, f, rfl, hf, hT, hb1⟩
  have B1 := Lib.hid hb1
  have V1 := Lib.hid (HV.out.below hb1)
  have F1 := Lib.hid hf
  have T1 := Lib.hid hT
  obtain ⟨Af, cf, rfl⟩ := nums_slice' hf
  have HOF := Lib.hid (roff_any p _ _ f xs ys w1 h3 hp hT.1 HOK.out.len HOK.out.wx F1.out V1.out)
  clear hb1 hf hT
  go_wp2_with fail
  refine HOF.out.mono ?_
  rintro e w2 ⟨u2, rfl, ho2, hb2⟩
  have B2 := Lib.hid (bnext B1.out hb2)
  have F2 := Lib.hid (F1.out.below hb2)
  obtain ⟨Au, cu, rfl⟩ := ints_slice (ints_of_owns ho2)
  clear hb2 ho2
  by_cases hle : (M.offI p f xs ys).length ≤ q
  · have HG := Lib.hid (HY.out f T1.out hle)
    have hle' : decide (((M.offI p f xs ys).length : Int) ≤ (q : Int)) = true := by rw [decide_eq_true_eq]; omega
    have hle2 : decide ((M.offI p f xs ys).length ≤ q) = true := by rw [decide_eq_true_eq]; omega
    go_wp2_with fail
    go_ret2
    exact ⟨true, _, rfl, fun _ => ⟨f, F2.out, HG.out⟩, (fun h => by cases h), B2.out⟩
  · have HG := Lib.hid (HN.out f T1.out (by omega))
    have hle' : decide (((M.offI p f xs ys).length : Int) ≤ (q : Int)) = false := by rw [decide_eq_false_iff_not]; omega
    have hle2 : decide ((M.offI p f xs ys).length ≤ q) = false := by rw [decide_eq_false_iff_not]; omega
    go_wp2_with fail
    go_ret2
    exact ⟨false, _, rfl, (fun h => by cases h), fun _ => HG.out, B2.out⟩
end Go.Proofs.Ytfgfapbhgehfiaa
