/-
  The reference of layer 2: Gcd.
-/
import Derived.Test.YtafoonhmfieikaaRef2k
import Derived.Test.YtafoonhmfieikaaP14
namespace Go.Proofs.Ytafoonhmfieikaa
open Go.RowKit
set_option linter.unusedVariables false

namespace M
theorem GcdOf.unique {p : Nat} (hi : isP p = true) {f g D E : List Nat} (h : GcdOf p f g D) (h' : GcdOf p f g E) : D = E := by
  obtain ⟨d, a, _, _, _, rfl⟩ := h
  obtain ⟨e, b, _, _, _, rfl⟩ := h'
  rw [Euc.unique hi a b]
theorem mulAt_comm_mod (p : Nat) (f g : List Nat) (i : Nat) : mulAt f (at_ g) i = mulAt g (at_ f) i := by
  rw [← mulL_get, ← mulL_get]
  induction f generalizing g i with
  | nil =>
    rw [mulL_get, mulL_get, show at_ [] = fun _ => 0 from funext fun i => by simp [at_], mulAt_null]
    simp [mulAt]
  | cons a t ih =>
    rw [mulL_get, mulL_get, mulAt_cons]
    have e : ∀ (l : List Nat) (k : Nat), mulAt l (at_ (a :: t)) k = a * at_ l k + sh (mulAt l (at_ t)) k := by
      intro l
      induction l with
      | nil => intro k; cases k <;> simp [mulAt, at_, sh]
      | cons b s ih2 =>
        intro k
        cases k with
        | zero => simp [mulAt, at_, sh, Nat.mul_comm]
        | succ k =>
          have h1 : mulAt (b :: s) (at_ (a :: t)) (k + 1) = b * at_ t k + mulAt s (at_ (a :: t)) k := by simp [mulAt, at_]
          rw [h1, ih2 k]
          have h2 : at_ (b :: s) (k + 1) = at_ s k := by simp [at_]
          rw [h2]
          show _ = a * at_ s k + mulAt (b :: s) (at_ t) k
          cases k with
          | zero => simp [mulAt, sh]; omega
          | succ k => simp only [mulAt, sh]; omega
    rw [e g i]
    congr 1
    cases i with
    | zero => rfl
    | succ i =>
      show mulAt t (at_ g) i = mulAt g (at_ t) i
      have := ih g i
      rwa [mulL_get, mulL_get] at this
theorem div_back' {p : Nat} (hp : 0 < p) {F g q r : List Nat} (hF : within p F = true) (tF : trim F = F) (h : IsDiv p F (trim g) q r) : padd p (pmul p g q) r = F := by
  refine ext_red hp (poly_within hp _ _) hF (poly_trim _ _ _) tF fun i => ?_
  rw [padd_get, Nat.add_mod, pmul_get, mulAt_comm_mod p, ← Nat.add_mod, h.2.2.2.2.2 i, mulAt_congr (at_trim g)]
end M

set_option maxRecDepth 100000 in
set_option maxHeartbeats 2000000 in
theorem rgcd_any (p : Nat) (v v2 : Value) (f g : List Nat) (w : World) (hi : M.isP p = true) (hwf : M.within p f = true) (hwg : M.within p g = true) (hfl : f.length ≤ 201) (hgl : g.length ≤ 201) (hv : Nums w v f) (hv2 : Nums w v2 g) :
    Calls Try.prog 35 #[.int .u64 p, v, v2] w fun e w' => ∃ u D, e = .returned u ∧ Nums w' u D ∧ M.GcdOf p (M.trim f) (M.trim g) D ∧ Below w.heap.size w w' := by
  obtain ⟨h3, hp⟩ := M.pos_of hi
  have HI := Lib.hid hi
  have HV := Lib.hid hv
  have HV2 := Lib.hid hv2
  have HF := Lib.hid (And.intro (M.within_trim hwf) (And.intro (M.trim_trim f) (Nat.le_trans (M.trim_len_le f) hfl)))
  have HG := Lib.hid (And.intro (M.within_trim hwg) (And.intro (M.trim_trim g) (Nat.le_trans (M.trim_len_le g) hgl)))
  have HT1 := Lib.hid fun W (h1 : Nums W v f) => rtrim_any v f W h1
  have HT2 := Lib.hid fun W (h1 : Nums W v2 g) => rtrim_any v2 g W h1
  obtain ⟨A, cap, rfl⟩ := nums_slice' hv
  obtain ⟨A2, cap2, rfl⟩ := nums_slice' hv2
  clear hi hv hv2 hwf hwg hfl hgl
  go_enter Try.func35, Try.ntmps35
  go_wp2_with fail
  refine (HT1.out _ HV.out).mono ?_
  rintro e w1 ⟨v3, rfl, hn1, hb1⟩
  obtain ⟨A3, cap3, rfl⟩ := nums_slice' hn1
  have HN1 := Lib.hid hn1
  have HB1 := Lib.hid hb1
  clear hn1 hb1
  go_wp2_with fail
  refine (HT2.out _ (HV2.out.below HB1.out)).mono ?_
  rintro e w2 ⟨v4, rfl, hn2, hb2⟩
  obtain ⟨A4, cap4, rfl⟩ := nums_slice' hn2
  have HN2 := Lib.hid hn2
  have HF2 := Lib.hid (HN1.out.below hb2)
  have HB2 := Lib.hid (bnext HB1.out hb2)
  clear hn2 hb2
  go_wp2_with fail
  go_loopw [1, 2] (fun t0 t1 wr => ∃ F G : List Nat, Nums wr t0 F ∧ Nums wr t1 G ∧ (M.within p F = true ∧ M.trim F = F ∧ F.length ≤ 201) ∧ (M.within p G = true ∧ M.trim G = G ∧ G.length ≤ 201) ∧ (∀ d, M.Euc p F G d → M.Euc p (M.trim f) (M.trim g) d) ∧ Below w.heap.size w wr) (fun _ t1 _ => lenV t1)
  case atStart => exact ⟨_, _, HF2.out, HN2.out, HF.out, HG.out, fun d h => h, HB2.out⟩
  case round =>
    obtain ⟨F, G, hF, hG, hf, hg, he, hB⟩ := hrel
    have NF := Lib.hid hF
    have NG := Lib.hid hG
    have QF := Lib.hid hf
    have QG := Lib.hid hg
    have HE := Lib.hid he
    have HB := Lib.hid hB
    obtain ⟨A5, cap5, rfl, _, _, hC3⟩ := nums_view hF
    obtain ⟨A6, cap6, rfl⟩ := nums_slice' hG
    have HC3 := Lib.hid hC3
    clear hF hG hf hg he hB hC3
    by_cases h0 : G = []
    · subst h0
      have HEU := Lib.hid (HE.out F (M.Euc.done F))
      by_cases hF0 : F = []
      · subst hF0
        go_wp2_with fail
        go_ret
        exact ⟨_, [], rfl, NF.out, ⟨[], HEU.out, QF.out.1, QF.out.2.1, QF.out.2.2, by rw [if_pos rfl]⟩, HB.out⟩
      · have hFp : 0 < F.length := by cases F with | nil => exact absurd rfl hF0 | cons x t => simp
        have hll := M.within_mem QF.out.1 (show F.length - 1 < F.length by omega)
        have hfl := QF.out.2.2
        obtain ⟨b3, off3, rfl, hb3, hcell3⟩ := HC3.out hFp
        have hel := hcell3 (F.length - 1) (by omega)
        have hmon : M.pscale p F (M.pw p (F.getD (F.length - 1) 0) (p - 2)) = M.monic p F := rfl
        obtain ⟨la, ela⟩ : ∃ la, la = F.getD (F.length - 1) 0 := ⟨_, rfl⟩
        rw [← ela] at hll hel hmon
        have hinv := fun W => refInv_any p la W h3 hp hll
        have hldl := M.pw_lt (p := p) la (p - 2) (by omega)
        obtain ⟨ld, eld⟩ : ∃ ld, ld = M.pw p la (p - 2) := ⟨_, rfl⟩
        rw [← eld] at hinv hldl hmon
        have hsc := fun W (h : Nums W (.slice (some ⟨b3, off3, none⟩) F.length cap5) F) => rscale_any p ld _ F W (by omega) hp hldl QF.out.1 (by omega) h
        rw [hmon] at hsc
        have HINV := Lib.hid hinv
        have HSC := Lib.hid hsc
        have H0 := Lib.hid hF0
        have i0 : ((F.length : Int) == 0) = false := by rw [beq_eq_false_iff_ne]; omega
        have i1 : (0 : Int) ≤ (F.length : Int) - 1 := by omega
        have i2 : (F.length : Int) - 1 < (F.length : Nat) := by omega
        have i3 : ((F.length : Int) - 1).toNat = F.length - 1 := by omega
        have i4 : IntKind.i64.wrap ((F.length : Int) - 1) = (F.length : Int) - 1 := IntWalk.i64_in _ (by omega)
        have i5 : (1 : Int) ≤ (F.length : Int) := by omega
        have i6 : 1 ≤ F.length := hFp
        clear hll ela hinv eld hsc hmon hF0 hcell3
        go_wp2_with fail
        refine (HINV.out _).mono ?_
        rintro e w' ⟨rfl, rfl⟩
        go_wp2_with fail
        refine (HSC.out _ NF.out).mono ?_
        rintro e w7 ⟨v7, rfl, hn7, hb7⟩
        have HB7 := Lib.hid (bnext HB.out hb7)
        have HN7 := Lib.hid hn7
        clear hb7 hn7
        go_wp2_with fail
        go_ret
        exact ⟨_, _, rfl, HN7.out, ⟨F, HEU.out, QF.out.1, QF.out.2.1, QF.out.2.2, by rw [if_neg H0.out]⟩, HB7.out⟩
    · have hGp : 0 < G.length := by cases G with | nil => exact absurd rfl h0 | cons x t => simp
      have hlead := M.lead_of QG.out.1 QG.out.2.1 hGp
      have hd := rdivide_any p _ _ F G wr HI.out QF.out.1 QG.out.1 QF.out.2.2 QG.out.2.2 (by rw [QG.out.2.1]; exact h0) NF.out NG.out
      rw [QF.out.2.1, QG.out.2.1] at hd
      have HD := Lib.hid hd
      have HL := Lib.hid hlead
      have i1 : (0 : Int) < (G.length : Nat) := by omega
      clear hd hlead h0
      go_wp2_with fail
      refine HD.out.mono ?_
      rintro e w5 ⟨vq, vr, q, r, rfl, hq, hr, hdv, hb5⟩
      obtain ⟨Aq, capq, rfl⟩ := nums_slice' hq
      obtain ⟨Ar, capr, rfl⟩ := nums_slice' hr
      have NR := Lib.hid hr
      have NG5 := Lib.hid (NG.out.below hb5)
      have HDV := Lib.hid hdv
      have HB5 := Lib.hid (bnext HB.out hb5)
      clear hq hr hdv hb5
      go_wp2_with fail
      go_roundw
      case rel => exact ⟨G, r, NG5.out, NR.out, QG.out, ⟨HDV.out.2.2.1, HDV.out.2.2.2.1, by have h1 := HDV.out.2.2.2.2.1; have h2 := QG.out.2.2; omega⟩, fun d h => HE.out d (M.Euc.step HL.out HDV.out h), HB5.out⟩
      case measure => simp [lenV]; exact HDV.out.2.2.2.2.1
end Go.Proofs.Ytafoonhmfieikaa
