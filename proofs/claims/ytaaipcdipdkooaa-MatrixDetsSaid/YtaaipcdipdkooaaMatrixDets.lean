/-
  MatrixDets: m times its inverse, the reference's One and Inverse, the walk, the statement: in one text, since a claim has at most 60 files.
-/
import Derived.Test.YtaaipcdipdkooaaRanksM
import Derived.Test.YtaaipcdipdkooaaMr15
import Derived.Test.YtaaipcdipdkooaaRbes
import Derived.Test.YtaaipcdipdkooaaRdet
import Derived.Test.YtaaipcdipdkooaaRows
import Derived.Test.YtaaipcdipdkooaaFrame
import Derived.WalkKit
import Derived.ProofKit
import Derived.OpenShut
import Derived.ShutString
import Derived.ChangeOld
import Derived.Below
import Derived.SizedLaws
import Derived.Test.YtaaipcdipdkooaaFrame3
namespace Go.Proofs.Ytaaipcdipdkooaa.M
set_option linter.unusedVariables false

/-- m times its inverse -/
theorem mul_inv {p R : Nat} {m : List (List Nat)} (hok : Ok p m R R) (hf : ¬ (rdI p m R).lead.length < R) : mul p m (inv p m R) R R R = tabMM R R fun i j => if j = i then 1 else 0 := by
  have h3 := (pos_of hok.isp).1
  unfold mul
  refine tabMM_congr fun i hi j hj => ?_
  unfold mulF
  have h := inv_right hok hf hi hj
  have hs : ((dotK (m.getD i []) (col (inv p m R) j R) R : Nat) : Int) = sumI (fun c => (el m i c : Int) * ((rdI p m R).m c (R + j) : Int)) R := by
    rw [dotK_sum']
    refine sumI_congr R fun c hc => ?_
    unfold col
    rw [tabM_at _ hc]
    unfold inv
    rw [tabMM_el _ hc hj]
    rfl
  rw [← hs] at h
  have h' : Eqm p ((dotK (m.getD i []) (col (inv p m R) j R) R : Nat) : Int) ((if j = i then 1 else 0 : Nat) : Int) := by
    by_cases e : i = j
    · rw [if_pos e] at h; rw [if_pos e.symm]; exact h
    · rw [if_neg e] at h; rw [if_neg (Ne.symm e)]; exact h
  rw [eqm_mod_eq' h', Nat.mod_eq_of_lt (by split <;> omega)]
/-- the inverse is a matrix of numbers below p -/
theorem inv_isOk {p R : Nat} {m : List (List Nat)} (hok : Ok p m R R) : Ok p (inv p m R) R R := by
  have h3 := (pos_of hok.isp).1
  have hlt := besF_lt (E := R) hok (ap := one R) (fun i hi => ⟨by unfold one; rw [tabM_len], by
    unfold one
    refine within_tabM fun j _ => ?_
    split <;> omega⟩)
  have hinv := red_inv hok.isp hlt R (by omega)
  unfold inv
  exact ⟨hok.isp, tabMM_len _ _ _, hok.R1, hok.R64, hok.R1, hok.R64, fun i hi => by rw [tabMM_at _ _ hi, tabM_len], fun i hi => by
    rw [tabMM_at _ _ hi]
    exact within_tabM fun j hj => hinv.lt i hi (R + j) (by omega)⟩
end Go.Proofs.Ytaaipcdipdkooaa.M
namespace Go.Proofs.Ytaaipcdipdkooaa
open Go.RowKit
set_option linter.unusedVariables false

set_option maxHeartbeats 4000000 in
set_option maxRecDepth 100000 in
theorem rone_any (n : Nat) (w : World) (h1 : 1 ≤ n) (h64 : n ≤ 64) :
    Calls Try.prog 33 #[.int .i64 n] w fun e w' => ∃ v', e = .returned v' ∧ Mat w' v' (M.tabMM n n fun i j => if j = i then 1 else 0) ∧ Below w.heap.size w w' := by
  obtain ⟨cs, hmk, hmrow⟩ := make_u64 n (by omega)
  have HMK := Lib.hid hmk
  have HMR := Lib.hid hmrow
  clear hmk hmrow
  go_enter Try.func33, Try.ntmps33
  go_wp2_with fail
  go_loopw [7, 3] (fun ti tl wr => ∃ i : Nat, i ≤ n ∧ ti = .int .i64 i ∧ (∃ G' Cp', MatA wr w.heap.size tl i n G' Cp' (fun i j => if j = i then 1 else 0)) ∧ Below w.heap.size w wr) (fun ti _ _ => n - (intOf ti).toNat)
  case atStart => exact ⟨0, by omega, rfl, ⟨_, _, MatA.start _ _ _ _⟩, Below.refl _ _⟩
  case round =>
    obtain ⟨i, hi, rfl, ⟨G', Cp', hA⟩, hB⟩ := hrel
    have HA := Lib.hid hA
    have HB := Lib.hid hB
    obtain ⟨Ao, co, hform⟩ := hA.form
    subst hform
    clear hA hB
    by_cases hin : i < n
    · have hmk := HMK.out
      have hq := HMR.out wr
      have z1 := hq.cell hin
      have z2 := hq.free i
      have hset5 := (hq.set hin 1)
      have e5 : (wr.alloc (.cells cs 22)).setCell ⟨wr.heap.size, i, none⟩ (.int .u64 (1 : Nat)) = wr.alloc (.cells (cs.setIfInBounds i (.int .u64 1)) 22) := World.setCell_alloc_new cs _ i _
      rw [e5] at hset5
      have hb5 := balloc wr (.cells (cs.setIfInBounds i (.int .u64 1)) 22)
      have HA2 := Lib.hid (HA.out.below hb5 (Nat.le_refl _))
      have HROW := Lib.hid (show Row (wr.alloc (.cells (cs.setIfInBounds i (.int .u64 1)) 22)) wr.heap.size n (fun j => if j = i then 1 else 0) from hset5.congr fun j hj => rfl)
      have HNE := Lib.hid (show ∀ j, j < i → G' j ≠ wr.heap.size from fun j hj => by have := (HA.out.row j hj).lt; omega)
      have hws := HB.out.size
      have hs3 := Nat.le_trans hws hb5.size
      have HSZ := Lib.hid (show (wr.alloc (.cells (cs.setIfInBounds i (.int .u64 1)) 22)).heap.size = wr.heap.size + 1 by simp)
      have hk2 : i ≤ 1000 := by omega
      have HB6 := Lib.hid (HB.out.trans (hb5.mono hws))
      clear hq hset5 e5 hb5
      go_wp2_with (at_builtin; refine wpList_append_row (k := i) (F := fun i j => if j = i then 1 else 0) rfl _ _ rfl rfl (by rw [HSZ.out]; rfl) HA2.out HROW.out hws (Nat.le_refl _) HNE.out hk2 hs3 ?_)
      intro v4 w5 hA5 hb5
      have HA5 := Lib.hid hA5
      have HB7 := Lib.hid (HB6.out.trans hb5)
      clear hA5 hb5
      go_wp2_with fail
      go_roundw
      case rel => exact ⟨i + 1, by omega, by go_num, ⟨_, _, HA5.out⟩, HB7.out⟩
      case measure => simp [intOf]; omega
    · obtain rfl : n = i := by omega
      go_wp2_with fail
      go_ret
      exact ⟨_, rfl, HA.out.mat (by omega) (by omega) (fun i hi j hj => by split <;> omega), HB.out⟩
end Go.Proofs.Ytaaipcdipdkooaa

namespace Go.Proofs.Ytaaipcdipdkooaa
open Go.RowKit
set_option linter.unusedVariables false

/-- the rows of G from column R on -/
def halves (R : Nat) (G Cp : Nat → Nat) (k : Nat) : List Value := (List.range k).map fun i => .slice (some ⟨G i, R, none⟩) R (Cp i - R)
theorem halves_get {R : Nat} {G Cp : Nat → Nat} {k i : Nat} (h : i < k) : (halves R G Cp k)[i]? = some (.slice (some ⟨G i, R, none⟩) R (Cp i - R)) := by simp [halves, h]
theorem halves_succ (R : Nat) (G Cp : Nat → Nat) (k : Nat) : halves R G Cp (k + 1) = halves R G Cp k ++ [.slice (some ⟨G k, R, none⟩) R (Cp k - R)] := by
  unfold halves
  rw [List.range_succ, List.map_append]
  rfl
theorem halves_form {w : World} {base R k : Nat} {G Cp : Nat → Nat} {tv : Value} (h : w.ownsRow base 31 1 tv k (halves R G Cp k)) : ∃ A cap, tv = .slice A k cap := by
  rcases h.2 with ⟨rfl, rfl⟩ | ⟨g, cap, cur, rfl, _⟩
  · exact ⟨none, 0, rfl⟩
  · exact ⟨_, _, rfl⟩
theorem halves_mat {w : World} {base base2 B R : Nat} {G Cp : Nat → Nat} {tv : Value} {F : M.Mx} (h : w.ownsRow base 31 1 tv R (halves R G Cp R)) (hM : MatO w base2 B R (R + R) G Cp F) (hR : R ≤ 64) (hF : ∀ i, i < R → ∀ j, j < R + R → F i j < 18446744073709551616) : Mat w tv (M.tabMM R R fun i j => F i (R + j)) := by
  refine ⟨by rw [M.tabMM_len]; omega, ?_⟩
  rcases h.2 with ⟨rfl, rfl⟩ | ⟨g, cap, cur, rfl, hg, hh, hc, _⟩
  · exact ⟨none, 0, rfl, by simp [M.tabMM], fun h => absurd h (by simp [M.tabMM])⟩
  · refine ⟨_, cap, by rw [M.tabMM_len], by rw [M.tabMM_len]; exact hc, fun _ => ⟨g, 0, rfl, lt_of_block hh, fun i hi => ?_⟩⟩
    rw [M.tabMM_len] at hi
    have hcell := h.cells (g := g) rfl i _ (halves_get hi)
    rw [Addr.add_lit] at hcell
    rw [M.tabMM_at _ _ hi]
    have hcp := (hM.baseG i hi).2
    exact ⟨_, hcell, (hM.row i hi).part (by omega) (by omega) (by omega) (hF i hi)⟩
theorem wpList_append_half {w : World} {ops : Array Oper} {rest : List Oper} {o : Oper} {a : Act} {Q : Exit → Act → World → Prop} (hgd : o.guard = none) (s x : Operand)
    (ho : o.op = .call { callee := .builtin .append, args := #[s, x], argTypes := #[23, 23] }) {base k R : Nat} {tv u : Value} {G Cp : Nat → Nat} (hs : a.eval s = tv) (hu : u = .slice (some ⟨G k, R, none⟩) R (Cp k - R))
    (hx : a.eval x = .slice (some ⟨w.heap.size, 0, none⟩) 1 1) (hown : w.ownsRow base 31 1 tv k (halves R G Cp k)) (hk : k ≤ 1000) (hbase : base ≤ w.heap.size)
    (h : ∀ v' w', w'.ownsRow base 31 1 v' (k + 1) (halves R G Cp (k + 1)) → Below base w w' → wpList Try.prog ops Q rest (a.put o.dst v') w') :
    wpList Try.prog ops Q (o :: rest) a (w.alloc (.cells #[u] 31)) := by
  subst hu
  obtain ⟨i0, hi0, hz0, hz1, hz2⟩ := info_parts infoRow
  have ho2 := hown.alloc (.cells #[.slice (some ⟨G k, R, none⟩) R (Cp k - R)] 31)
  refine wpList_append_own _ hgd s x 23 ho base 31 i0 (.slice none 0 0) 1 24 Try.underlying23 hi0 hz0 hz1 hz2 rfl (by decide) tv k _ hs ho2 ⟨w.heap.size, 0, none⟩ 1 1 [.slice (some ⟨G k, R, none⟩) R (Cp k - R)] hx rfl ?_ ?_ ?_ ?_ ?_ ?_
  · exact World.news_of_block (cs := #[.slice (some ⟨G k, R, none⟩) R (Cp k - R)]) (fr := (0, 0)) (heap_alloc_new w _)
  · intro u hu; simp at hu; subst hu; rfl
  · unfold maxLen; omega
  · omega
  · simp; omega
  · intro v' w' hown' hgr _
    have hlt := ho2.lt
    refine h v' w' (by rw [halves_succ]; exact hown') ?_
    exact ((Below.refl base w).alloc hbase _).grown hgr (by simp; omega) (fun r hr => (hlt r hr).1)

set_option maxHeartbeats 4000000 in
set_option maxRecDepth 100000 in
theorem rinverse_any (p R : Nat) (v : Value) (m : List (List Nat)) (w : World) (hok : M.Ok p m R R) (hv : Mat w v m) :
    Calls Try.prog 31 #[.int .u64 p, v] w fun e w' => ∃ v', e = .returned v' ∧ Mat w' v' (M.inv p m R) ∧ Below w.heap.size w w' := by
  obtain ⟨h3, hp⟩ := M.pos_of hok.isp
  have hR64 := hok.R64
  have hR1 := hok.R1
  have HV := Lib.hid hv
  have HONE := Lib.hid fun W => rone_any R W hR1 hR64
  have hap : ∀ i, i < R → (M.one R i).length = R ∧ M.within p (M.one R i) = true := fun i hi => ⟨by unfold M.one; rw [M.tabM_len], by
    unfold M.one
    refine M.within_tabM fun j _ => ?_
    split <;> omega⟩
  have hblt := M.besF_lt (E := R) hok (ap := M.one R) hap
  have HBES := Lib.hid fun (W : World) (vb : Value) (hW : Mat W v m) (hB : Mat W vb (M.tabMM R R fun i j => if j = i then 1 else 0)) => rbeside_any p R R R v vb m (M.tabMM R R fun i j => if j = i then 1 else 0) (M.one R) W hp hR64 hR64 hR1 hR64 hok.rows (M.tabMM_len _ _ _) hok.cols (fun i hi => by rw [M.tabMM_at _ _ hi]; rfl) (fun i hi => (hap i hi).1) hblt hW hB
  have htab : M.Tab p (M.tabMM R (R + R) (M.besF m (M.one R))) R (R + R) := ⟨M.tabMM_len _ _ _, hR1, hR64, by omega, by omega, fun i hi => by rw [M.tabMM_at _ _ hi, M.tabM_len], fun i hi => by rw [M.tabMM_at _ _ hi]; exact M.within_tabM (hblt i hi)⟩
  have HRED := Lib.hid fun (W : World) (u : Value) hW => rreduce_any p R (R + R) R u (M.tabMM R (R + R) (M.besF m (M.one R))) W hok.isp htab (by omega) hW
  have hag := M.red_congr (p := p) (R := R) (K := R + R) (m := M.el (M.tabMM R (R + R) (M.besF m (M.one R)))) (m' := M.besF m (M.one R)) (fun i hi j hj => M.tabMM_el _ hi hj) R (by omega)
  have hinv := M.red_inv hok.isp hblt R (by omega)
  have es' : M.red p R (M.besF m (M.one R)) R = M.rdI p m R := rfl
  rw [es'] at hag hinv
  unfold M.inv
  obtain ⟨s, es⟩ : ∃ s, M.rdI p m R = s := ⟨_, rfl⟩
  rw [es] at hag hinv ⊢
  have HAG := Lib.hid hag
  have HLT := Lib.hid hinv.lt
  obtain ⟨A, cap, rfl, _⟩ := mat_view hv
  rw [hok.rows] at HV HBES ⊢
  clear hv hap hblt htab hag hinv es es' hok
  go_enter Try.func31, Try.ntmps31
  go_wp2_with fail
  refine (HONE.out _).mono ?_
  rintro e w1 ⟨v1, rfl, hm1, hb1⟩
  have M1 := Lib.hid hm1
  have B1 := Lib.hid hb1
  clear hm1 hb1
  go_wp2_with fail
  refine (HBES.out w1 _ (HV.out.below B1.out) M1.out).mono ?_
  rintro e w2 ⟨v2, rfl, hm2, hb2⟩
  have M2 := Lib.hid hm2
  have B2 := Lib.hid (bnext B1.out hb2)
  clear hm2 hb2
  go_wp2_with fail
  refine (HRED.out w2 v2 M2.out).mono ?_
  rintro e w3 ⟨B, cp, G, Cp, vl, rfl, hcp, hM, hO, hb3⟩
  obtain ⟨hg1, hg2, hg3, hg4⟩ := HAG.out
  have HMO := Lib.hid (hM.congr (F' := s.m) hg4)
  have B3 := Lib.hid (bnext B2.out hb3)
  clear hM hO hb3 hg1 hg2 hg3 hg4
  go_wp2_with fail
  go_loopw [24, 7] (fun ti tl wr => ∃ i : Nat, i ≤ R ∧ ti = .int .i64 i ∧ wr.ownsRow w3.heap.size 31 1 tl i (halves R G Cp i) ∧ Below w3.heap.size w3 wr) (fun ti _ _ => R - (intOf ti).toNat)
  case atStart => exact ⟨0, by omega, rfl, World.ownsRow_nil _ _ _ _, Below.refl _ _⟩
  case round =>
    obtain ⟨i, hi, rfl, hO, hB⟩ := hrel
    have HO := Lib.hid hO
    have HB := Lib.hid hB
    obtain ⟨Ao, co, rfl⟩ := halves_form hO
    clear hO hB
    by_cases hiR : i < R
    · have q1 := (HMO.out.below HB.out (Nat.le_refl _)).cell hiR
      have hcp2 := (HMO.out.baseG i hiR).2
      have hk1000 : i ≤ 1000 := by omega
      have l1 : R ≤ R + R := by omega
      have l2 : (R : Int) ≤ (Cp i : Int) := by omega
      have l3 : R ≤ Cp i := by omega
      go_wp2_with (at_builtin; refine wpList_append_half (k := i) (R := R) (G := G) (Cp := Cp) rfl _ _ rfl rfl rfl (by rfl) HO.out hk1000 HB.out.size ?_)
      intro v4 w5 hO5 hb5
      have HO5 := Lib.hid hO5
      have HB5 := Lib.hid (HB.out.trans hb5)
      clear hO5 hb5
      go_wp2_with fail
      go_roundw
      case rel => exact ⟨i + 1, by omega, by go_num, HO5.out, HB5.out⟩
      case measure => simp [intOf]; omega
    · obtain rfl : R = i := by omega
      go_wp2_with fail
      go_ret
      exact ⟨_, rfl, halves_mat HO.out (HMO.out.below HB.out (Nat.le_refl _)) hR64 (fun i hi j hj => Nat.lt_of_lt_of_le (HLT.out i hi j hj) (by omega)), bnext B3.out HB.out⟩
end Go.Proofs.Ytaaipcdipdkooaa

namespace Go.Proofs.Ytaaipcdipdkooaa.matrixDetsW
open Go.RowKit
set_option linter.unusedVariables false

set_option maxHeartbeats 1000000 in
theorem no (w : World) (p : Nat) (hp : p < 18446744073709551616) (v : Value) (m : List (List Nat)) (hv : Mat w v m) (h : M.chkm p m ≠ 0) :
    Calls Try.prog 7 #[.int .u64 p, v] w fun e w' => e = .returned (.bool true) ∧ Below w.heap.size w w' := by
  have hq : M.csq p m = M.chkm p m := by unfold M.csq; rw [if_neg h]
  have h1 := det_bad p v m w hp hv (by rw [hq]; exact h)
  have h0 := fun W (hW : Mat W v m) => inverse_bad p v m W hp hW (by rw [hq]; exact h)
  rw [hq] at h1 h0
  have H1 := Lib.hid h1
  have H0 := Lib.hid h0
  have H2 := Lib.hid fun W (hW : Mat W v m) => rcheck_one p v m W hp hW
  have HV := Lib.hid hv
  have hud : ∀ b : Bool, undef ≠ Value.bool b := fun b h => by cases h
  obtain ⟨A, cap, rfl, _⟩ := mat_view hv
  have hb : (M.chkm p m == 0) = false := by simp [h]
  have hb2 : (M.chkm p m != 0) = true := by rw [bne_iff_ne]; exact h
  have hb3 : (M.chkm p m == M.chkm p m) = true := by simp
  have hz0 : ((0 : Int) == 0) = true := rfl
  obtain ⟨c, ec⟩ : ∃ c, M.chkm p m = c := ⟨_, rfl⟩
  rw [ec] at H1 H2 H0 hb hb2 hb3 h
  have H3 := Lib.hid fun W => is_bad c (.slice none 0 0) W h ⟨_, _, _, rfl⟩
  clear hv ec h hq h1 h0
  go_enter Try.func7, Try.ntmps7
  go_wp2_with fail
  refine H1.out.mono ?_
  rintro e w1 ⟨rfl, hb1⟩
  have B1 := Lib.hid hb1
  clear hb1
  go_wp2_with fail
  refine (H0.out _ (HV.out.below B1.out)).mono ?_
  rintro e w2 ⟨rfl, hb2'⟩
  have B2 := Lib.hid (bnext B1.out hb2')
  clear hb2'
  go_wp2_with fail
  refine (H2.out _ (HV.out.below B2.out)).mono ?_
  rintro e w3 ⟨rfl, hb3'⟩
  have B3 := Lib.hid (bnext B2.out hb3')
  clear hb3'
  go_wp2_with fail
  refine (H3.out _).mono ?_
  rintro e w' ⟨rfl, rfl⟩
  go_wp2_with fail
  refine (alive_any _).mono ?_
  rintro e w4 ⟨rfl, hb4⟩
  have B4 := Lib.hid (bnext B3.out hb4)
  clear hb4
  go_wp2_with fail
  go_ret
  exact ⟨rfl, B4.out⟩

set_option maxHeartbeats 1000000 in
theorem wide (w : World) (p R K : Nat) (hp : p < 18446744073709551616) (v : Value) (m : List (List Nat)) (hv : Mat w v m) (hok : M.Ok p m R K) (hne : R ≠ K) :
    Calls Try.prog 7 #[.int .u64 p, v] w fun e w' => e = .returned (.bool true) ∧ Below w.heap.size w w' := by
  have hR1 := hok.R1
  have hq : M.csq p m = 2 := by unfold M.csq; rw [if_pos hok.chk, if_neg (by rw [hok.rows, hok.cols 0 (by omega)]; exact hne)]
  have h1 := det_bad p v m w hp hv (by rw [hq]; decide)
  have h0 := fun W (hW : Mat W v m) => inverse_bad p v m W hp hW (by rw [hq]; decide)
  rw [hq] at h1 h0
  have H1 := Lib.hid h1
  have H0 := Lib.hid h0
  have h2 := fun W (hW : Mat W v m) => rcheck_one p v m W hp hW
  rw [hok.chk] at h2
  have H2 := Lib.hid h2
  have HV := Lib.hid hv
  have hud : ∀ b : Bool, undef ≠ Value.bool b := fun b h => by cases h
  have q1 : ((R : Int) != (K : Int)) = true := by simp; omega
  have hz0 : ((0 : Int) == 0) = true := rfl
  have hz2 : ((2 : Int) == 2) = true := rfl
  have hz3 : ((2 : Int) != 0) = true := rfl
  have H3 := Lib.hid fun W => is_bad 2 (.slice none 0 0) W (by decide) ⟨_, _, _, rfl⟩
  obtain ⟨A, cap, rfl, _, _, hrows⟩ := mat_view hv
  rw [hok.rows] at H1 H0 H2 HV hrows ⊢
  obtain ⟨bm, om, rfl, hbm, hcells⟩ := hrows (by omega)
  obtain ⟨A0, k0, cm, _⟩ := hcells 0 (by omega)
  rw [Nat.add_zero, hok.cols 0 (by omega)] at cm
  have CM := Lib.hid cm
  clear hv h2 hrows hcells hok hq h1 h0 cm hne
  go_enter Try.func7, Try.ntmps7
  go_wp2_with fail
  refine H1.out.mono ?_
  rintro e w1 ⟨rfl, hb1⟩
  have B1 := Lib.hid hb1
  clear hb1
  go_wp2_with fail
  refine (H0.out _ (HV.out.below B1.out)).mono ?_
  rintro e w2 ⟨rfl, hb2'⟩
  have B2 := Lib.hid (bnext B1.out hb2')
  clear hb2'
  go_wp2_with fail
  refine (H2.out _ (HV.out.below B2.out)).mono ?_
  rintro e w3 ⟨rfl, hb3'⟩
  have B3 := Lib.hid (bnext B2.out hb3')
  have cm1 := (B3.out.cell (p := ⟨bm, om, none⟩) hbm).trans CM.out
  clear hb3'
  go_wp2_with fail
  refine (H3.out _).mono ?_
  rintro e w' ⟨rfl, rfl⟩
  go_wp2_with fail
  refine (alive_any _).mono ?_
  rintro e w4 ⟨rfl, hb4⟩
  have B4 := Lib.hid (bnext B3.out hb4)
  clear hb4
  go_wp2_with fail
  go_ret
  exact ⟨rfl, B4.out⟩

set_option maxHeartbeats 2000000 in
theorem ok (w : World) (p R : Nat) (hp : p < 18446744073709551616) (v : Value) (m : List (List Nat)) (hv : Mat w v m) (hok : M.Ok p m R R) :
    Calls Try.prog 7 #[.int .u64 p, v] w fun e w' => e = .returned (.bool true) ∧ Below w.heap.size w w' := by
  have hR1 := hok.R1
  have hR64 := hok.R64
  have h1 := det_ok p R v m w hok hv
  have h0 := fun W (hW : Mat W v m) => inverse_ok p R v m W hok hW
  have h2 := fun W (hW : Mat W v m) => rcheck_one p v m W hp hW
  rw [hok.chk] at h2
  have H2 := Lib.hid h2
  have h5 := fun W (hW : Mat W v m) => rdet_any p R v m W hok hW
  have H6 := Lib.hid fun W (hW : Mat W v m) => rinverse_any p R v m W hok hW
  have H7 := Lib.hid fun W u hW hW2 => rmul_any p R R R v u m (M.inv p m R) W hW hW2 hok (M.inv_isOk hok)
  have HMI := Lib.hid fun hf => M.mul_inv hok hf
  have HONE := Lib.hid fun W => rone_any R W hR1 hR64
  have hinv := M.red_inv hok.isp (m := M.el m) (fun i hi j hj => hok.el_lt hi hj) R (Nat.le_refl _)
  have hdp := hinv.dpos
  have hz : M.det p m R = if (M.red p R (M.el m) R).lead.length < R then 0 else (M.red p R (M.el m) R).d := rfl
  have hag : (M.rdI p m R).lead = (M.red p R (M.el m) R).lead := (M.rdI_agree hok).1
  unfold InverseEnd at h0
  rw [hag] at h0 HMI
  obtain ⟨d, ed⟩ : ∃ d, M.det p m R = d := ⟨_, rfl⟩
  rw [ed] at h1 h5 hz
  have H1 := Lib.hid h1
  have H0 := Lib.hid h0
  have H5 := Lib.hid h5
  have HZ := Lib.hid hz
  have HDP := Lib.hid hdp
  have HV := Lib.hid hv
  have hud : ∀ b : Bool, undef ≠ Value.bool b := fun b h => by cases h
  have q1 : ((R : Int) != (R : Int)) = false := by simp
  have hz0 : ((0 : Int) == 0) = true := rfl
  have hz3 : ((0 : Int) != 0) = false := rfl
  have q3 : ((d : Int) == (d : Int)) = true := by simp
  have H3 := Lib.hid fun W => is_bad 7 (.slice none 0 0) W (by decide) ⟨_, _, _, rfl⟩
  obtain ⟨A, cap, rfl, _, _, hrows⟩ := mat_view hv
  rw [hok.rows] at H1 H0 H2 H5 H6 H7 HV hrows ⊢
  obtain ⟨bm, om, rfl, hbm, hcells⟩ := hrows (by omega)
  obtain ⟨A0, k0, cm, _⟩ := hcells 0 (by omega)
  rw [Nat.add_zero, hok.cols 0 (by omega)] at cm
  have CM := Lib.hid cm
  clear hv h2 hrows hcells hok h1 h0 cm h5 hinv hdp hz hag ed
  go_enter Try.func7, Try.ntmps7
  go_wp2_with fail
  refine H1.out.mono ?_
  rintro e w1 ⟨rfl, hb1⟩
  have B1 := Lib.hid hb1
  clear hb1
  go_wp2_with fail
  refine (H0.out _ (HV.out.below B1.out)).mono ?_
  rintro e w2 ⟨hb2', ⟨hlt, rfl⟩ | ⟨hge, v2, rfl, hm2⟩⟩
  · have B2 := Lib.hid (bnext B1.out hb2')
    have hd0 := HZ.out
    rw [if_pos hlt] at hd0
    have q2 : ((d : Int) == 0) = true := by simp [hd0]
    clear hb2' hlt hd0
    go_wp2_with fail
    refine (H2.out _ (HV.out.below B2.out)).mono ?_
    rintro e w3 ⟨rfl, hb3'⟩
    have B3 := Lib.hid (bnext B2.out hb3')
    have cm1 := (B3.out.cell (p := ⟨bm, om, none⟩) hbm).trans CM.out
    clear hb3'
    go_wp2_with fail
    refine (H5.out _ (HV.out.below B3.out)).mono ?_
    rintro e w4 ⟨rfl, hb4⟩
    have B4 := Lib.hid (bnext B3.out hb4)
    clear hb4
    go_wp2_with fail
    refine (H3.out _).mono ?_
    rintro e w' ⟨rfl, rfl⟩
    go_wp2_with fail
    refine (alive_any _).mono ?_
    rintro e w5 ⟨rfl, hb5⟩
    have B5 := Lib.hid (bnext B4.out hb5)
    clear hb5
    go_wp2_with fail
    go_ret
    exact ⟨rfl, B5.out⟩
  · have B2 := Lib.hid (bnext B1.out hb2')
    have hd0 := HZ.out
    rw [if_neg hge] at hd0
    have q2 : ((d : Int) == 0) = false := by have := HDP.out; simp; omega
    have hmi := HMI.out hge
    have hmul := H7.out
    rw [hmi] at hmul
    have HMU := Lib.hid hmul
    have M2 := Lib.hid hm2
    clear hb2' hge hd0 hmi hmul hm2
    go_wp2_with fail
    refine (H2.out _ (HV.out.below B2.out)).mono ?_
    rintro e w3 ⟨rfl, hb3'⟩
    have B3 := Lib.hid (bnext B2.out hb3')
    have M3 := Lib.hid (M2.out.below hb3')
    have cm1 := (B3.out.cell (p := ⟨bm, om, none⟩) hbm).trans CM.out
    clear hb3'
    go_wp2_with fail
    refine (H5.out _ (HV.out.below B3.out)).mono ?_
    rintro e w4 ⟨rfl, hb4⟩
    have B4 := Lib.hid (bnext B3.out hb4)
    have M4 := Lib.hid (M3.out.below hb4)
    clear hb4
    go_wp2_with fail
    refine (H6.out _ (HV.out.below B4.out)).mono ?_
    rintro e w5 ⟨v5, rfl, hm5, hb5⟩
    have B5 := Lib.hid (bnext B4.out hb5)
    have M5 := Lib.hid (M4.out.below hb5)
    have M5' := Lib.hid hm5
    clear hb5 hm5
    go_wp2_with fail
    refine (is_good v2 v5 _ _ M5.out M5'.out).mono ?_
    rintro e w6 ⟨rfl, hb6⟩
    have B6 := Lib.hid (bnext B5.out hb6)
    have M6 := Lib.hid (M5.out.below hb6)
    clear hb6
    go_wp2_with fail
    refine (HMU.out _ _ (HV.out.below B6.out) M6.out).mono ?_
    rintro e w7 ⟨v7, rfl, hm7, hb7⟩
    have B7 := Lib.hid (bnext B6.out hb7)
    have M7 := Lib.hid hm7
    clear hb7 hm7
    go_wp2_with fail
    refine (HONE.out _).mono ?_
    rintro e w8 ⟨v8, rfl, hm8, hb8⟩
    have B8 := Lib.hid (bnext B7.out hb8)
    have M8 := Lib.hid hm8
    have M8' := Lib.hid (M7.out.below hb8)
    clear hb8 hm8
    go_wp2_with fail
    refine (rsame_any v7 v8 _ _ M8'.out M8.out).mono ?_
    rintro e w9 ⟨rfl, hb9⟩
    have B9 := Lib.hid (bnext B8.out hb9)
    clear hb9
    go_wp2_with fail
    go_ret
    exact ⟨rfl, B9.out⟩

theorem walk (w : World) (p : Nat) (hp : p < 18446744073709551616) (v : Value) (m : List (List Nat)) (hv : Mat w v m) :
    Calls Try.prog 7 #[.int .u64 p, v] w fun e w' => e = .returned (.bool true) ∧ Below w.heap.size w w' := by
  by_cases h : M.chkm p m = 0
  · have hok := M.chkm_ok h
    by_cases e : m.length = (m.getD 0 []).length
    · rw [← e] at hok
      exact ok w p _ hp v m hv hok
    · exact wide w p _ _ hp v m hv hok e
  · exact no w p hp v m hv h
end Go.Proofs.Ytaaipcdipdkooaa.matrixDetsW

namespace Go.Proofs.Ytaaipcdipdkooaa.matrixDets
open Go.ChangeShapes Go.WideShapes Go.ChangeAt Go.RowKit
set_option linter.unusedVariables false

theorem own : ownKnob Try.prog.godebug = none := by kernel_rfl
theorem laidOut : laidOutB Try.prog = true := by kernel_rfl

set_option maxRecDepth 100000 in
theorem lifted (os : Os) (started : os.Started) (H : Type) (enc : TypeId × Value → H) :
    ReturnsInHanded {} Try.checked os 7 .any (Rows.matrixDetsSpec.pre6 enc Try.prog Try.f7 Rows.matrixDetsRow.domain false) (Rows.matrixDetsSpec.post enc Try.prog Try.f7 false true false false) := by
  refine returnsInHanded_of_change_sized (C := Try.checked) own started (by kernel_rfl) Try.func7
    (ChangeSpec.witness6 (enc := enc) (C := Try.checked) false ⟨#[], #[.int .u64 0, .slice none 0 0], []⟩ 8 (by kernel_rfl) (by kernel_rfl) (by kernel_rfl) (by kernel_rfl)) ?_
  intro W base args ds gs before hval0 hW hcnd hsz0 _
  have hsz : (DataW.weightsEach Try.prog (Try.f7.params.toList ++ Rows.matrixDetsSpec.plain.varTypes Try.prog) (ds ++ gs)).all (· ≤ reachBytes) = true := hsz0
  have hval : ∀ (j : Nat) t v, Try.f7.params[j]? = some t → args[j]? = some v → Value.okWide Try.prog W .any base t v := hval0
  have hW' := hW
  obtain ⟨p, q, hA0, hV, rfl, hfz, hnd⟩ := hW
  have hA : DataW.TrodAll enc Try.prog W 0 (fun _ => true) true Try.f7.params.toList args.toList ds p := hA0
  rw [Try.params7] at hA hval hsz
  obtain ⟨v0, vs0, d0, ds0, p0, q0, hargs, rfl, rfl, h0, r0⟩ := trodAll_cons hA
  obtain ⟨v1, vs1, d1, ds1, p1, q1, rfl, rfl, rfl, h1, r1⟩ := trodAll_cons r0
  obtain ⟨rfl, rfl, rfl⟩ := trodAll_nil r1
  obtain rfl : args = #[v0, v1] := by cases args; simp_all
  obtain ⟨rfl, rfl⟩ := trodVars_none hV
  obtain ⟨i0, rfl, rfl, rfl, w0⟩ := open_int Try.underlying22 (hval 0 22 v0 rfl rfl) h0
  have b0 := bounds_u64 w0
  obtain ⟨n0, rfl⟩ := Int.eq_ofNat_of_zero_le b0.1
  obtain ⟨a1, len1, cap1, rfl⟩ := okWide_slice Try.underlying23 (hval 1 23 v1 rfl rfl)
  have k1 := h1
  have lt1 : ∀ x ∈ p1, x.block < W.heap.size := by obtain ⟨m, hm⟩ := k1; exact DataW.trod_lt m _ _ _ hm
  obtain ⟨z1, w1⟩ := open_mat rfl h1 (fun n hn => by have := List.all_eq_true.1 hsz _ (DataW.weights_mem_each (j := 1) (t := 23) rfl rfl n hn); simpa using this)
  clear hA0 hval0 hsz0 hsz
  refine (matrixDetsW.walk W n0 (by omega) _ z1 w1).mono fun e W' ⟨he, bel⟩ => ?_
  subst he
  exact ⟨_, rfl, _, _, _, [], _, [], hW', trodAll_mk1 (shut_bool Try.underlying4 _), (trodAll_cons_mk (shut_int Try.underlying22 w0) (trodAll_cons_mk (Below.trod laidOut (by kernel_rfl) (of_decide_eq_true (by kernel_rfl)) k1 bel lt1) trodAll_mk0)), rfl, bel.frame _, fun h => by cases h⟩

theorem over : Rows.matrixDetsRow.holds Try.pinned (OpenSpec.ofChange Rows.matrixDetsSpec) :=
  OpenClaim.holds_of_wide 7 Try.f7 rfl rfl rfl rfl rfl rfl rfl ⟨rfl, rfl, rfl, rfl, rfl⟩ rfl rfl rfl rfl rfl (by kernel_rfl) Try.func7 (by kernel_rfl)
    (of_decide_eq_true (by kernel_rfl)) (by unfold Func.isWrapper; first | (rw [if_pos (by decide +kernel)]; kernel_rfl) | (rw [if_neg (by decide +kernel)]; exact ⟨rfl, rfl⟩))
    (fun os started H enc _ => lifted os started H enc)

/-- THE STATEMENT -/
theorem proved : Rows.MatrixDetsSaid := over
end Go.Proofs.Ytaaipcdipdkooaa.matrixDets
