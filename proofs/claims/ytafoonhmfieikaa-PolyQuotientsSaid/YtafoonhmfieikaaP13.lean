/-
  Package poly: Gcd.
-/
import Derived.Test.YtafoonhmfieikaaP12
namespace Go.Proofs.Ytafoonhmfieikaa
open Go.RowKit
set_option linter.unusedVariables false

def lenV : Value → Nat
  | .slice _ n _ => n
  | _ => 0
namespace M
/-- D is the greatest common divisor of f and g, with leading coefficient 1 or zero -/
def GcdOf (p : Nat) (f g D : List Nat) : Prop := ∃ d, Euc p f g d ∧ within p d = true ∧ trim d = d ∧ d.length ≤ 201 ∧ D = if d = [] then [] else monic p d
end M

set_option maxRecDepth 100000 in
set_option maxHeartbeats 2000000 in
theorem gcd1_any (p : Nat) (v v2 : Value) (f g : List Nat) (a : Addr) (w : World) (hi : M.isP p = true) (hwf : M.within p f = true) (tf : M.trim f = f) (hwg : M.within p g = true) (tg : M.trim g = g) (hfl : f.length ≤ 201) (hgl : g.length ≤ 201) (hv : Nums w v f) (hv2 : Nums w v2 g) (hc : w.cell? a = some (.int .u64 p)) :
    Calls Try.prog 74 #[v, v2, .pointer (some a)] w fun e w' => ∃ u c, e = .returned (.tuple #[u, .int .i64 c]) ∧ (c = 0 ∧ ∃ D, Nums w' u D ∧ M.GcdOf p f g D) ∧ Below w.heap.size w w' := by
  obtain ⟨h3, hp⟩ := M.pos_of hi
  have hab := World.block_lt_of_cell? w _ hc
  obtain ⟨ab, ao, asp⟩ := a
  have hsp : asp = none := World.cell?_spot hc
  subst hsp
  have HI := Lib.hid hi
  have HV := Lib.hid hv
  have HV2 := Lib.hid hv2
  have HF := Lib.hid (And.intro hwf (And.intro tf hfl))
  have HG := Lib.hid (And.intro hwg (And.intro tg hgl))
  have HCA := Lib.hid hc
  obtain ⟨A, cap, rfl⟩ := nums_slice' hv
  obtain ⟨A2, cap2, rfl⟩ := nums_slice' hv2
  clear hi hv hv2 hwf tf hwg tg hc hfl hgl
  go_enter Try.func74, Try.ntmps74
  go_wp2_with fail
  go_loopw [0, 1] (fun t0 t1 wr => ∃ F G : List Nat, Nums wr t0 F ∧ Nums wr t1 G ∧ (M.within p F = true ∧ M.trim F = F ∧ F.length ≤ 201) ∧ (M.within p G = true ∧ M.trim G = G ∧ G.length ≤ 201) ∧ (∀ d, M.Euc p F G d → M.Euc p f g d) ∧ Below w.heap.size w wr) (fun _ t1 _ => lenV t1)
  case atStart => exact ⟨f, g, HV.out, HV2.out, HF.out, HG.out, fun d h => h, Below.refl _ _⟩
  case round =>
    obtain ⟨F, G, hF, hG, hf, hg, he, hB⟩ := hrel
    have hca := (hB.cell (p := ⟨ab, ao, none⟩) hab).trans HCA.out
    have NF := Lib.hid hF
    have NG := Lib.hid hG
    have QF := Lib.hid hf
    have QG := Lib.hid hg
    have HE := Lib.hid he
    have HB := Lib.hid hB
    obtain ⟨A3, cap3, rfl, _, _, hC3⟩ := nums_view hF
    obtain ⟨A4, cap4, rfl⟩ := nums_slice' hG
    have HC3 := Lib.hid hC3
    clear hF hG hf hg he hB hC3
    by_cases h0 : G = []
    · subst h0
      have hEuc := HE.out F (M.Euc.done F)
      have HEU := Lib.hid hEuc
      clear hEuc
      by_cases hF0 : F = []
      · subst hF0
        go_wp2_with fail
        go_ret2
        exact ⟨_, _, rfl, ⟨rfl, [], ⟨by simp, by simp, .inl ⟨none, 0, rfl, rfl, fun _ => rfl⟩⟩, [], HEU.out, QF.out.1, QF.out.2.1, QF.out.2.2, by rw [if_pos rfl]⟩, HB.out⟩
      · have hFp : 0 < F.length := by cases F with | nil => exact absurd rfl hF0 | cons x t => simp
        have hlead := M.lead_of QF.out.1 QF.out.2.1 hFp
        have hll := M.within_mem QF.out.1 (show F.length - 1 < F.length by omega)
        have hln := hlead.2.2
        have hfl := QF.out.2.2
        obtain ⟨b3, off3, rfl, hb3, hcell3⟩ := HC3.out hFp
        have hel := hcell3 (F.length - 1) (by omega)
        have hmon : M.pplus p [] (M.pw p (F.getD (F.length - 1) 0) (p - 2)) F = M.monic p F := by rw [M.pplus_nil]; rfl
        obtain ⟨la, ela⟩ : ∃ la, la = F.getD (F.length - 1) 0 := ⟨_, rfl⟩
        rw [← ela] at hll hln hel hmon
        have hinv := fun W => pinv_any p la W (M.valid1_iff.2 ⟨HI.out, hll⟩) hln
        have hldl := M.pw_lt (p := p) la (p - 2) (by omega)
        obtain ⟨ld, eld⟩ : ∃ ld, ld = M.pw p la (p - 2) := ⟨_, rfl⟩
        rw [← eld] at hinv hldl hmon
        have hplus := fun W (h : Nums W (.slice (some ⟨b3, off3, none⟩) F.length cap3) F) => plus_any p ld (.slice none 0 0) _ [] F W (by omega) hp hldl rfl QF.out.1 (by simp) (by omega) ⟨by simp, by simp, .inl ⟨none, 0, rfl, rfl, fun _ => rfl⟩⟩ h
        rw [hmon] at hplus
        have HINV := Lib.hid hinv
        have HPL := Lib.hid hplus
        have H0 := Lib.hid hF0
        have i0 : ((F.length : Int) == 0) = false := by rw [beq_eq_false_iff_ne]; omega
        have i1 : (0 : Int) ≤ (F.length : Int) - 1 := by omega
        have i2 : (F.length : Int) - 1 < (F.length : Nat) := by omega
        have i3 : ((F.length : Int) - 1).toNat = F.length - 1 := by omega
        have i4 : IntKind.i64.wrap ((F.length : Int) - 1) = (F.length : Int) - 1 := IntWalk.i64_in _ (by omega)
        have i5 : (1 : Int) ≤ (F.length : Int) := by omega
        have i6 : 1 ≤ F.length := hFp
        clear hlead hll hln ela hinv eld hplus hmon hF0 hcell3
        go_wp2_with fail
        go_region_held3 (fun W' => W'.cell? ⟨ab, ao, none⟩ = some (.int .u64 p) ∧ W'.cell? ⟨b3, off3 + (F.length - 1), none⟩ = some (.int .u64 la))
          (first | go_keep | exact ⟨(hb6.cell (World.block_lt_of_cell? wr _ hca)).trans hca, (hb6.cell (World.block_lt_of_cell? wr _ hel)).trans hel⟩ | exact ⟨((hb7.cell (Nat.lt_of_lt_of_le (World.block_lt_of_cell? wr _ hca) hb6.size))).trans ((hb6.cell (World.block_lt_of_cell? wr _ hca)).trans hca), ((hb7.cell (Nat.lt_of_lt_of_le (World.block_lt_of_cell? wr _ hel) hb6.size))).trans ((hb6.cell (World.block_lt_of_cell? wr _ hel)).trans hel)⟩)
          (first | (go_at_call 75; refine (HINV.out _).mono ?_; rintro e w6 ⟨rfl, hb6⟩) | (go_at_call 68; refine (HPL.out _ (NF.out.below (show Below wr.heap.size wr w6 from ⟨hb6.os, hb6.tape, hb6.output, hb6.size, hb6.block⟩))).mono ?_; rintro e w7 ⟨v7, rfl, hn7, hb7⟩))
        all_goals
          have hb6' : Below wr.heap.size wr w6 := ⟨hb6.os, hb6.tape, hb6.output, hb6.size, hb6.block⟩
          have HB7 := Lib.hid (bnext (bnext HB.out hb6') hb7)
          have HN7 := Lib.hid hn7
          clear hb6 hb7 hb6' hn7
          go_wp2_with fail
          go_ret2
          exact ⟨_, _, rfl, ⟨rfl, _, HN7.out, F, HEU.out, QF.out.1, QF.out.2.1, QF.out.2.2, by rw [if_neg H0.out]⟩, HB7.out⟩
    · have hGp : 0 < G.length := by cases G with | nil => exact absurd rfl h0 | cons x t => simp
      have hlead := M.lead_of QG.out.1 QG.out.2.1 hGp
      have hd := divide_any p _ _ F G wr HI.out QF.out.1 QF.out.2.1 hlead QF.out.2.2 NF.out NG.out
      have HD := Lib.hid hd
      have HL := Lib.hid hlead
      have i1 : (0 : Int) < (G.length : Nat) := by omega
      clear hd hlead h0
      go_wp2_with fail
      refine HD.out.mono ?_
      rintro e w5 ⟨vq, vr, q, r, rfl, hq, hr, hdv, hb5⟩
      obtain ⟨Aq, capq, rfl⟩ := nums_slice' hq
      obtain ⟨Ar, capr, rfl⟩ := nums_slice' hr
      have NR := Lib.hid hr
      have NG5 := Lib.hid (NG.out.below hb5)
      have HDV := Lib.hid hdv
      have HB5 := Lib.hid (bnext HB.out hb5)
      clear hq hr hdv hb5
      go_wp2_with fail
      go_roundw
      case rel => exact ⟨G, r, NG5.out, NR.out, QG.out, ⟨HDV.out.2.2.1, HDV.out.2.2.2.1, by have h1 := HDV.out.2.2.2.2.1; have h2 := QG.out.2.2; omega⟩, fun d h => HE.out d (M.Euc.step HL.out HDV.out h), HB5.out⟩
      case measure => simp [lenV]; exact HDV.out.2.2.2.2.1
end Go.Proofs.Ytafoonhmfieikaa
