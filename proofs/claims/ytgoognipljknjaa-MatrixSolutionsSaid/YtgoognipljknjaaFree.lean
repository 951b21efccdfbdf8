/-
  The columns without a pivot; the reference's Free.
-/
import Derived.Test.YtgoognipljknjaaStep3
import Derived.Test.YtgoognipljknjaaMr12
import Derived.Outline
namespace Go.Proofs.Ytgoognipljknjaa
open Go.RowKit
set_option linter.unusedVariables false
set_option maxRecDepth 100000

namespace M
/-- the columns before c that are none of the leads -/
def frees (l : List Nat) (c : Nat) : List Nat := (List.range c).filter fun j => !l.contains j
theorem frees_succ (l : List Nat) (c : Nat) : frees l (c + 1) = frees l c ++ if l.contains c then [] else [c] := by
  unfold frees
  rw [List.range_succ, List.filter_append]
  congr 1
  cases h : l.contains c
  · rw [List.filter_cons_of_pos (by rw [h]; rfl)]; rfl
  · rw [List.filter_cons_of_neg (by rw [h]; simp)]; rfl
theorem frees_len (l : List Nat) (c : Nat) : (frees l c).length ≤ c := by
  unfold frees
  exact Nat.le_trans (List.length_filter_le _ _) (by simp)
theorem frees_mem {l : List Nat} {c j : Nat} (h : j ∈ frees l c) : j < c := by unfold frees at h; simp at h; exact h.1
theorem frees_split (l : List Nat) (c : Nat) : ∀ d, ∃ t, frees l (c + d) = frees l c ++ t
  | 0 => ⟨[], by simp⟩
  | d + 1 => by
    obtain ⟨t, ht⟩ := frees_split l c d
    exact ⟨t ++ if l.contains (c + d) then [] else [c + d], by rw [← Nat.add_assoc, frees_succ, ht, List.append_assoc]⟩
theorem frees_at {l : List Nat} {c K : Nat} (h : l.contains c = false) (hc : c < K) : (frees l K).getD (frees l c).length 0 = c := by
  obtain ⟨t, ht⟩ := frees_split l (c + 1) (K - (c + 1))
  rw [show c + 1 + (K - (c + 1)) = K by omega, frees_succ, h] at ht
  rw [ht, List.getD_eq_getElem?_getD]
  simp
theorem frees_lt {l : List Nat} {c i : Nat} (h : i < (frees l c).length) : (frees l c).getD i 0 < c := by
  rw [List.getD_eq_getElem?_getD, List.getElem?_eq_getElem h]
  exact frees_mem (List.getElem_mem _)
theorem contains_at {l : List Nat} {i : Nat} (h : i < l.length) : l.contains (l.getD i 0) = true := by
  rw [List.getD_eq_getElem?_getD, List.getElem?_eq_getElem h]
  simp
theorem contains_no {l : List Nat} {c : Nat} (h : ∀ i, i < l.length → l.getD i 0 ≠ c) : l.contains c = false := by
  cases e : l.contains c with
  | false => rfl
  | true =>
    simp at e
    obtain ⟨i, hi, rfl⟩ := List.getElem_of_mem e
    exact absurd (by rw [List.getD_eq_getElem?_getD, List.getElem?_eq_getElem hi]; rfl) (h i hi)
/-- -x in the columns of the first k pivots, 1 in the column f -/
def nulK (p : Nat) (s : Rd) (f : Nat) : Nat → Nat → Nat
  | 0 => fun j => if j = f then 1 else 0
  | k + 1 => fun j => if j = s.lead.getD k 0 then (p - s.m k f) % p else nulK p s f k j
theorem nulK_lt {p : Nat} {s : Rd} {f : Nat} (hp : 1 < p) : ∀ k j, nulK p s f k j < p
  | 0, j => by unfold nulK; split <;> omega
  | k + 1, j => by
    unfold nulK
    split
    · exact Nat.mod_lt _ (by omega)
    · exact nulK_lt hp k j
/-- a matrix whose rows are the solutions of m x = 0, one for each column without a pivot -/
def nulM (p : Nat) (s : Rd) (K : Nat) : List (List Nat) := tabMM (frees s.lead K).length K fun i => nulK p s ((frees s.lead K).getD i 0) s.lead.length
end M

set_option maxHeartbeats 4000000 in
set_option maxRecDepth 100000 in
theorem rfree_any (p R K : Nat) (v : Value) (m : List (List Nat)) (w : World) (hok : M.Ok p m R K) (hv : Mat w v m) :
    Calls Try.prog 21 #[.int .u64 p, v] w fun e w' => ∃ vl, e = .returned vl ∧ Ints w' vl (M.frees (M.rd p m R K).lead K) ∧ Below w.heap.size w w' := by
  obtain ⟨h3, hp⟩ := M.pos_of hok.isp
  have H5 := rreduce_any p R K K v m w hok.isp hok.tab (Nat.le_refl _) hv
  have hinv := M.red_inv hok.isp (m := M.el m) (fun i hi' j hj => hok.tab.el_lt hi' hj) K (Nat.le_refl _)
  have hlenR := hinv.len
  have hlenK := hinv.lenk
  have hR64 := hok.R64
  have hR1 := hok.R1
  have hK64 := hok.K64
  have hK1 := hok.K1
  unfold RredEnd at H5
  unfold M.rd
  obtain ⟨s, es⟩ : ∃ s, M.red p R (M.el m) K = s := ⟨_, rfl⟩
  rw [es] at H5 hinv hlenR hlenK ⊢
  have HSO := Lib.hid hinv.sorted
  obtain ⟨A, cap, rfl, _, _, hrows⟩ := mat_view hv
  rw [hok.rows] at hrows H5 ⊢
  obtain ⟨bm, om, rfl, hbm, hcells⟩ := hrows (by omega)
  obtain ⟨A0, k0, cm, _⟩ := hcells 0 (by omega)
  rw [Nat.add_zero, hok.cols 0 (by omega)] at cm
  have CM := Lib.hid cm
  have H5 := Lib.hid H5
  clear hrows hcells hok hinv es hv
  go_enter Try.func21, Try.ntmps21
  go_wp2_with fail
  refine H5.out.mono ?_
  rintro e w1 ⟨B, cp, G, Cp, vl, rfl, hcp, hM, hO, hb1⟩
  have cm1 := (hb1.cell (p := ⟨bm, om, none⟩) hbm).trans CM.out
  have I1 := Lib.hid (ints_of_owns hO)
  obtain ⟨L, eL⟩ : ∃ L, s.lead.length = L := ⟨_, rfl⟩
  have EL := Lib.hid eL
  obtain ⟨Al, cl, evl⟩ := reduce_vp hO
  rw [eL] at evl hlenR hlenK
  subst evl
  have B1 := Lib.hid hb1
  clear hM hO hb1 eL
  go_wp2_with fail
  go_loopw [24, 7, 8] (fun tc tl ta wr => ∃ c a : Nat, c ≤ K ∧ a ≤ L ∧ tc = .int .i64 c ∧ ta = .int .i64 a ∧ (∀ i, i < a → s.lead.getD i 0 < c) ∧ (∀ i, a ≤ i → i < L → c ≤ s.lead.getD i 0) ∧ wr.ownsRow w1.heap.size 3 1 tl (M.frees s.lead c).length (ints (M.frees s.lead c)) ∧ Below w1.heap.size w1 wr) (fun tc _ _ _ => K - (intOf tc).toNat)
  case atStart => exact ⟨0, 0, by omega, by omega, rfl, rfl, fun i hi => absurd hi (by omega), fun i _ _ => Nat.zero_le _, World.ownsRow_nil _ _ _ _, Below.refl _ _⟩
  case round =>
    obtain ⟨c, a, hc, ha, rfl, rfl, hlo, hhi, hO, hB⟩ := hrel
    have HLO := Lib.hid hlo
    have HHI := Lib.hid hhi
    have HO := Lib.hid hO
    have HB := Lib.hid hB
    obtain ⟨Ao, co, rfl⟩ := reduce_vp hO
    have hfl := M.frees_len s.lead c
    obtain ⟨n, en⟩ : ∃ n, (M.frees s.lead c).length = n := ⟨_, rfl⟩
    have EN := Lib.hid en
    rw [en] at HO hfl ⊢
    clear hlo hhi hO hB en
    by_cases hcK : c < K
    · by_cases haL : a < L
      · obtain ⟨A', cap', e, hcp', h2⟩ := I1.out.below HB.out
        simp only [Value.slice.injEq] at e
        obtain ⟨rfl, -, -⟩ := e
        obtain ⟨bp, rfl, _, hcell⟩ := h2 (by rw [EL.out]; omega)
        have cx := hcell a (by rw [EL.out]; exact haL)
        have hge := HHI.out a (Nat.le_refl _) haL
        obtain ⟨x, ex⟩ : ∃ x, s.lead.getD a 0 = x := ⟨_, rfl⟩
        rw [ex] at cx hge
        have EX := Lib.hid ex
        clear hcell h2 ex
        by_cases hxc : x = c
        · have hxb : ((x : Int) == (c : Int)) = true := by simp [hxc]
          have HXC := Lib.hid hxc
          clear hxc
          go_wp2_with fail
          go_roundw
          case rel =>
            refine ⟨c + 1, a + 1, by omega, by omega, by go_num, by go_num, fun i hi => ?_, fun i h1 h2 => ?_, ?_, HB.out⟩
            · by_cases e : i = a
              · have := HXC.out; have := EX.out; rw [e]; omega
              · have := HLO.out i (by omega); omega
            · have := HSO.out a i (by omega) (by rw [EL.out]; exact h2)
              have := HXC.out; have := EX.out; omega
            · rw [M.frees_succ, show s.lead.contains c = true by rw [← HXC.out, ← EX.out]; exact M.contains_at (by rw [EL.out]; exact haL), if_pos rfl, List.append_nil, EN.out]
              exact HO.out
          case measure => simp [intOf]; omega
        · have hxb : ((x : Int) == (c : Int)) = false := by simp; omega
          have HXC := Lib.hid (show c < x by omega)
          have hno : s.lead.contains c = false := M.contains_no fun i hi => by
            by_cases e : i < a
            · have := HLO.out i e; omega
            · by_cases e2 : i = a
              · have := HXC.out; have := EX.out; rw [e2]; omega
              · have := HSO.out a i (by omega) hi
                have := HXC.out; have := EX.out; omega
          have HNO := Lib.hid hno
          have hn1000 : n ≤ 1000 := by omega
          clear hxc hno
          go_wp2_with (at_builtin; refine wpList_append_int (y := c) rfl _ _ rfl rfl rfl HO.out hn1000 HB.out.size ?_)
          intro v' w6 hO6 hg6 hb6
          have HO6 := Lib.hid hO6
          have HB6 := Lib.hid (HB.out.trans hb6)
          clear hO6 hg6 hb6
          go_wp2_with fail
          go_roundw
          case rel =>
            refine ⟨c + 1, a, by omega, by omega, by go_num, rfl, fun i hi => ?_, fun i h1 h2 => ?_, ?_, HB6.out⟩
            · have := HLO.out i hi; omega
            · by_cases e2 : i = a
              · have := HXC.out; have := EX.out; rw [e2]; omega
              · have := HSO.out a i (by omega) (by rw [EL.out]; exact h2)
                have := HXC.out; have := EX.out; omega
            · rw [M.frees_succ, HNO.out, if_neg (by simp), List.length_append, EN.out]
              exact HO6.out
          case measure => simp [intOf]; omega
      · obtain rfl : L = a := by omega
        have hno : s.lead.contains c = false := M.contains_no fun i hi => by
          have := HLO.out i (by rw [EL.out] at hi; exact hi); omega
        have HNO := Lib.hid hno
        have hn1000 : n ≤ 1000 := by omega
        have hud : ∀ b : Bool, undef ≠ Value.bool b := fun b h => by cases h
        clear hno
        go_wp2_with (at_builtin; refine wpList_append_int (y := c) rfl _ _ rfl rfl rfl HO.out hn1000 HB.out.size ?_)
        intro v' w6 hO6 hg6 hb6
        have HO6 := Lib.hid hO6
        have HB6 := Lib.hid (HB.out.trans hb6)
        clear hO6 hg6 hb6
        go_wp2_with fail
        go_roundw
        case rel =>
          refine ⟨c + 1, L, by omega, by omega, by go_num, rfl, fun i hi => ?_, fun i h1 h2 => absurd h2 (by omega), ?_, HB6.out⟩
          · have := HLO.out i hi; omega
          · rw [M.frees_succ, HNO.out, if_neg (by simp), List.length_append, EN.out]
            exact HO6.out
        case measure => simp [intOf]; omega
    · obtain rfl : K = c := by omega
      go_wp2_with fail
      go_ret
      exact ⟨_, rfl, ints_of_owns (base := w1.heap.size) (n := n) HO.out, bnext B1.out HB.out⟩
end Go.Proofs.Ytgoognipljknjaa
