/-
  Package decode: correct.
-/
import Derived.Test.YtfgfapbhgehfiaaD5
import Derived.Test.YtfgfapbhgehfiaaDpt
import Derived.Outline
namespace Go.Proofs.Ytfgfapbhgehfiaa
open Go.RowKit
set_option linter.unusedVariables false
set_option maxRecDepth 100000

theorem own_down {w : World} {base base' n : Nat} {e : TypeId} {size : Nat} {v : Value} {l : List Value} (h : w.ownsRow base e size v n l) (hb : base' ≤ base) : w.ownsRow base' e size v n l := by
  refine ⟨h.1, ?_⟩
  rcases h.2 with a | ⟨g', cap, cur, e, hb', r⟩
  · exact .inl a
  · exact .inr ⟨g', cap, cur, e, by omega, r⟩
/-- what decode answers: the polynomial and the places that it misses, or that there is none -/
def DecEnd (w : World) (p d q : Nat) (xs ys : List Nat) (e : Ending) (w' : World) : Prop :=
  Below w.heap.size w w' ∧ ((∃ f v u, M.Good p d q xs ys f ∧ e = .returned (.tuple #[v, u, .int .i64 0]) ∧ Nums w' v f ∧ w'.ownsRow w.heap.size 3 1 u (M.offI p f xs ys).length (ints (M.offI p f xs ys))) ∨
    ((∀ f, ¬ M.Good p d q xs ys f) ∧ e = .returned (.tuple #[.slice none 0 0, .slice none 0 0, .int .i64 12])))

set_option maxHeartbeats 4000000 in
theorem correct_any (p d q : Nat) (v : Value) (xs ys : List Nat) (w : World) (hok : M.DOk p d xs ys) (hn : d + 1 + 2 * q ≤ xs.length) (hv : Pts w v xs ys) :
    Calls Try.prog 36 #[.int .u64 p, .int .i64 d, .int .i64 q, v] w (DecEnd w p d q xs ys) := by
  have hud : ∀ b : Bool, undef ≠ Value.bool b := fun b h => by cases h
  have hyl := hv.1
  obtain ⟨A, cap, e, hcap, _⟩ := hv.2.2.2.2
  subst e
  have hxl := hok.len
  have htl : (xs.take (d + 1)).length = d + 1 := by rw [List.length_take]; omega
  have hwt : M.within p (xs.take (d + 1)) = true := by
    have := hok.wx
    unfold M.within at this ⊢
    rw [List.all_eq_true] at this ⊢
    exact fun x hx => this x (List.mem_of_mem_take hx)
  have hwyt : M.within p (ys.take (d + 1)) = true := by
    have := hok.wy
    unfold M.within at this ⊢
    rw [List.all_eq_true] at this ⊢
    exact fun x hx => this x (List.mem_of_mem_take hx)
  have HT := Lib.hid (through_any p (.slice A (d + 1) cap) (xs.take (d + 1)) (ys.take (d + 1)) w (hv.take (by omega)) (M.chkP_of hok.isp (by omega) ⟨hwt, hwyt⟩).symm)
  have HM := Lib.hid fun (W : World) (vf : Value) (f : List Nat) (a : M.within p f = true) (b : f.length ≤ 201) (c : Nums W vf f) (hW : Pts W (.slice A xs.length cap) xs ys) => missed_any p vf _ f xs ys W hok.isp a b hxl hok.wx c hW
  have HRT := Lib.hid fun (W : World) (hW : Pts W (.slice A xs.length cap) xs ys) => ratio_any p d q _ xs ys W hok hn hW
  have HTN := Lib.hid (show (xs.take (d + 1)).Nodup from (List.take_sublist _ _).nodup hok.nod)
  have HTL := Lib.hid htl
  have HV := Lib.hid hv
  have hd1 : d + 1 ≤ xs.length := by omega
  clear hok hv hyl htl hwt hwyt
  unfold DecEnd
  go_enter Try.func36, Try.ntmps36
  go_wp2_with fail
  refine HT.out.mono ?_
  rintro e w1 ⟨hb, ⟨_, v1, f, rfl, hf, hth⟩ | ⟨hnn, _⟩⟩
  case inr => exact absurd HTN.out hnn
  obtain ⟨t1, t2, t3, t4⟩ := hth
  rw [HTL.out] at t3
  have B1 := Lib.hid hb
  have V1 := Lib.hid (HV.out.below hb)
  have HF := Lib.hid hf
  have HT1 := Lib.hid (show M.within p f = true ∧ M.trim f = f ∧ f.length ≤ d + 1 from ⟨t1, t2, t3⟩)
  have HM1 := Lib.hid (HM.out w1 v1 f t1 (by omega) hf V1.out)
  obtain ⟨A1, c1, rfl⟩ := nums_slice' hf
  clear hb hf t1 t2 t3 t4
  go_wp2_with fail
  refine HM1.out.mono ?_
  rintro e w2 ⟨u, rfl, hown, hb⟩
  have B2 := Lib.hid (bnext B1.out hb)
  have V2 := Lib.hid (V1.out.below hb)
  have HF2 := Lib.hid (HF.out.below hb)
  have HOW := Lib.hid (own_down hown B1.out.size)
  obtain ⟨Au, cu, rfl⟩ := ints_slice (ints_of_owns hown)
  have hol : (M.offI p f xs ys).length ≤ 64 := Nat.le_trans (M.offK_len p f xs ys xs.length) hxl
  clear hb hown
  by_cases hq : (M.offI p f xs ys).length ≤ q
  · have HG := Lib.hid (show M.Good p d q xs ys f from ⟨HT1.out.1, HT1.out.2.1, HT1.out.2.2, hq⟩)
    go_wp2
    --PEEK
    go_ret3
    exact ⟨B2.out, .inl ⟨f, _, _, HG.out, rfl, HF2.out, HOW.out⟩⟩
  · have HR2 := Lib.hid (HRT.out w2 V2.out)
    go_wp2_with fail
    refine HR2.out.mono ?_
    rintro e w3 ⟨hb, ⟨g, vg, hg, rfl, hgn⟩ | ⟨hno, rfl⟩⟩
    · have B3 := Lib.hid (bnext B2.out hb)
      have V3 := Lib.hid (V2.out.below hb)
      have HG := Lib.hid hg
      have HGN := Lib.hid hgn
      have HM3 := Lib.hid (HM.out w3 vg g hg.lt (by have := hg.len; omega) hgn V3.out)
      obtain ⟨Ag, cg, rfl⟩ := nums_slice' hgn
      clear hb hg hgn hq
      go_wp2_with fail
      refine HM3.out.mono ?_
      rintro e w4 ⟨u4, rfl, hown, hb⟩
      have B4 := Lib.hid (bnext B3.out hb)
      have HGN4 := Lib.hid (HGN.out.below hb)
      have HOW4 := Lib.hid (own_down hown B3.out.size)
      clear hb hown
      go_wp2
      go_ret3
      exact ⟨B4.out, .inl ⟨g, _, _, HG.out, rfl, HGN4.out, HOW4.out⟩⟩
    · have B3 := Lib.hid (bnext B2.out hb)
      have HNO := Lib.hid hno
      clear hb hno hq
      go_wp2
      go_ret3
      exact ⟨B3.out, .inr ⟨HNO.out, rfl⟩⟩
end Go.Proofs.Ytfgfapbhgehfiaa
