/-
  Package matrix: Rank, checkSquare, Det.
-/
import Derived.Test.YtgoognipljknjaaMr11
namespace Go.Proofs.Ytgoognipljknjaa
open Go.RowKit
set_option linter.unusedVariables false
set_option maxRecDepth 100000

theorem ints_slice {w : World} {v : Value} {l : List Nat} (h : Ints w v l) : ∃ A cap, v = .slice A l.length cap := by obtain ⟨A, cap, e, _⟩ := h; exact ⟨A, cap, e⟩

namespace M
def csq (p : Nat) (m : List (List Nat)) : Int := if chkm p m = 0 then (if m.length = (m.getD 0 []).length then 0 else 2) else chkm p m
theorem csq_ok {p R : Nat} {m : List (List Nat)} (h : Ok p m R R) : csq p m = 0 := by
  unfold csq; rw [if_pos h.chk, if_pos (by rw [h.rows, h.cols 0 (by have := h.R1; omega)])]
theorem ok_of_csq {p : Nat} {m : List (List Nat)} (h : csq p m = 0) : Ok p m m.length m.length := by
  unfold csq at h
  split at h
  · rename_i h1
    split at h
    · rename_i h2; have := chkm_ok h1; rwa [← h2] at this
    · cases h
  · rename_i h1; exact absurd h h1
end M

set_option maxHeartbeats 1000000 in
theorem square_any (p : Nat) (v : Value) (m : List (List Nat)) (w : World) (hp : p < 18446744073709551616) (hv : Mat w v m) :
    Calls Try.prog 94 #[.int .u64 p, v] w fun e w' => e = .returned (.int .i64 (M.csq p m)) ∧ Below w.heap.size w w' := by
  have hc := mcheck_any p v m w hp hv
  obtain ⟨A, cap, rfl, hcap, hml, hrows⟩ := mat_view hv
  by_cases h : M.chkm p m = 0
  · have hok := M.chkm_ok h
    rw [h] at hc
    have HC := Lib.hid hc
    have h1 := hok.R1
    have h2 := hok.R64
    have h3 := hok.K1
    have h4 := hok.K64
    obtain ⟨b, off, rfl, hbl, hcells⟩ := hrows (by omega)
    obtain ⟨A0, k0, c0, _⟩ := hcells 0 (by omega)
    rw [Nat.add_zero] at c0
    obtain ⟨K, eK⟩ : ∃ K, (m.getD 0 []).length = K := ⟨_, rfl⟩
    rw [eK] at c0 h3 h4
    have HOK := Lib.hid hok
    have EK := Lib.hid eK
    have HH := Lib.hid h
    clear hc hcells hrows hv eK h hok
    by_cases hRK : m.length = K
    · have hb1 : ((m.length : Int) != (K : Int)) = false := by simp [hRK]
      have HRK := Lib.hid hRK
      clear hRK
      go_enter Try.func94, Try.ntmps94
      go_wp2_with fail
      refine HC.out.mono ?_
      rintro e w1 ⟨rfl, hb⟩
      have HB := Lib.hid hb
      have c1 := (hb.cell (p := ⟨b, off, none⟩) hbl).trans c0
      clear hb
      go_wp2_with fail
      go_ret
      exact ⟨ret1 (by unfold M.csq; rw [if_pos HH.out, if_pos (by rw [EK.out]; exact HRK.out)]), HB.out⟩
    · have hb1 : ((m.length : Int) != (K : Int)) = true := by simp; omega
      have HRK := Lib.hid hRK
      clear hRK
      go_enter Try.func94, Try.ntmps94
      go_wp2_with fail
      refine HC.out.mono ?_
      rintro e w1 ⟨rfl, hb⟩
      have HB := Lib.hid hb
      have c1 := (hb.cell (p := ⟨b, off, none⟩) hbl).trans c0
      clear hb
      go_wp2_with fail
      go_ret
      exact ⟨ret1 (by unfold M.csq; rw [if_pos HH.out, if_neg (by rw [EK.out]; exact HRK.out)]), HB.out⟩
  · have hb1 : (M.chkm p m != 0) = true := by rw [bne_iff_ne]; exact h
    have HE := Lib.hid (show M.csq p m = M.chkm p m by unfold M.csq; rw [if_neg h])
    obtain ⟨c, ec⟩ : ∃ c, c = M.chkm p m := ⟨_, rfl⟩
    rw [← ec] at hc hb1 HE
    have HC := Lib.hid hc
    clear ec h hp hv hc hrows
    go_enter Try.func94, Try.ntmps94
    go_wp2_with fail
    refine HC.out.mono ?_
    rintro e w1 ⟨rfl, hb⟩
    have HB := Lib.hid hb
    clear hb
    go_wp2_with fail
    go_ret
    exact ⟨ret1 HE.out.symm, HB.out⟩

namespace M
/-- the determinant that elimination yields -/
def det (p : Nat) (m : List (List Nat)) (R : Nat) : Nat := if (rd p m R R).lead.length < R then 0 else (rd p m R R).d
end M

set_option maxHeartbeats 400000 in
theorem det_bad (p : Nat) (v : Value) (m : List (List Nat)) (w : World) (hp : p < 18446744073709551616) (hv : Mat w v m) (h : M.csq p m ≠ 0) :
    Calls Try.prog 55 #[.int .u64 p, v] w fun e w' => e = .returned (.tuple #[.int .u64 0, .int .i64 (M.csq p m)]) ∧ Below w.heap.size w w' := by
  have HC := Lib.hid (square_any p v m w hp hv)
  obtain ⟨A, cap, rfl, _⟩ := mat_view hv
  have hb : (M.csq p m != 0) = true := by rw [bne_iff_ne]; exact h
  obtain ⟨c, ec⟩ : ∃ c, c = M.csq p m := ⟨_, rfl⟩
  rw [← ec] at HC hb ⊢
  clear ec h hp hv
  go_enter Try.func55, Try.ntmps55
  go_wp2_with fail
  refine HC.out.mono ?_
  rintro e w1 ⟨rfl, hb1⟩
  have HB := Lib.hid hb1
  clear hb1
  go_wp2_with fail
  go_ret2
  exact ⟨rfl, HB.out⟩

theorem reduce_vp {w : World} {base : Nat} {vp : Value} {l : List Nat} (h : w.ownsRow base 3 1 vp l.length (ints l)) : ∃ A c, vp = .slice A l.length c := by
  rcases h.2 with ⟨rfl, h0⟩ | ⟨g, c, cur, rfl, _⟩
  · exact ⟨none, 0, by rw [h0]⟩
  · exact ⟨_, _, rfl⟩

set_option maxHeartbeats 1000000 in
theorem det_ok (p R : Nat) (v : Value) (m : List (List Nat)) (w : World) (hok : M.Ok p m R R) (hv : Mat w v m) :
    Calls Try.prog 55 #[.int .u64 p, v] w fun e w' => e = .returned (.tuple #[.int .u64 (M.det p m R : Nat), .int .i64 0]) ∧ Below w.heap.size w w' := by
  obtain ⟨h3, hp⟩ := M.pos_of hok.isp
  have hc := square_any p v m w (by omega) hv
  rw [M.csq_ok hok] at hc
  have HC := Lib.hid hc
  have HR := Lib.hid fun W (hW : Mat W v m) => reduce_plain p R R v m W hok hW
  have HM := Lib.hid hv
  have hR64 := hok.R64
  obtain ⟨A, cap, rfl, _⟩ := mat_view hv
  rw [hok.rows] at HC HR HM ⊢
  clear hc hv hok
  go_enter Try.func55, Try.ntmps55
  go_wp2_with fail
  refine HC.out.mono ?_
  rintro e w1 ⟨rfl, hb1⟩
  have HB1 := Lib.hid hb1
  have HR2 := Lib.hid (HR.out w1 (HM.out.below hb1))
  clear hb1
  go_wp2_with fail
  refine HR2.out.mono ?_
  rintro e w2 ⟨B, cp, G, Cp, vp, rfl, hb2, hcp, hm2, hp2⟩
  have HB2 := Lib.hid (bnext HB1.out hb2)
  obtain ⟨Ap, cpp, rfl⟩ := reduce_vp hp2
  obtain ⟨L, eL⟩ : ∃ L, (M.red p R (M.el m) R).lead.length = L := ⟨_, rfl⟩
  obtain ⟨d, ed⟩ : ∃ d, (M.red p R (M.el m) R).d = d := ⟨_, rfl⟩
  rw [eL, ed]
  have EL := Lib.hid eL
  have ED := Lib.hid ed
  clear hb2 hm2 hp2 eL ed
  by_cases hLR : L < R
  · have HL := Lib.hid hLR
    go_wp2_with fail
    go_ret2
    refine ⟨ret2 (by unfold M.det M.rd; rw [EL.out, if_pos HL.out]; rfl) rfl, ?_⟩
    exact HB2.out.alloc HB2.out.size _
  · have HL := Lib.hid hLR
    go_wp2_with fail
    go_ret2
    refine ⟨ret2 (by unfold M.det M.rd; rw [EL.out, if_neg HL.out, ED.out]) rfl, ?_⟩
    exact HB2.out.alloc HB2.out.size _
end Go.Proofs.Ytgoognipljknjaa
