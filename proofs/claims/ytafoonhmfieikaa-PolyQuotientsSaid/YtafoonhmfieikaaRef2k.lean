/-
  The reference of layer 2: Divide.
-/
import Derived.Test.YtafoonhmfieikaaRef2i
import Derived.Test.YtafoonhmfieikaaRef2j
namespace Go.Proofs.Ytafoonhmfieikaa
open Go.RowKit
set_option linter.unusedVariables false

theorem belowD {X w : World} (h : Below X.drew.heap.size X.drew w) : Below X.heap.size X w := ⟨h.os, h.tape, h.output, h.size, h.block⟩
theorem belowE {X w : World} (h : Below X.drew.heap.size X.drew w) : Below X.heap.size X w := ⟨h.os, h.tape, h.output, h.size, h.block⟩
namespace M
theorem quot_ne {p : Nat} (hi : isP p = true) {K F : List Nat} (hK : Lead p K) (hF : within p F = true) (tF : trim F = F) (h0 : 0 < F.length) : F.getD (F.length - 1) 0 * pw p (K.getD (K.length - 1) 0) (p - 2) % p ≠ 0 := by
  intro h
  have hp := pos_of hi
  have h1 := within_mem hF (k := F.length - 1) (by omega)
  have h2 := trim_self_last tF h0
  have h3 := within_mem hK.1 (k := K.length - 1) (by have := hK.2.1; omega)
  have hinv := inv_mod hi (a := K.getD (K.length - 1) 0) (by rw [Nat.mod_eq_of_lt h3]; exact hK.2.2)
  rw [Nat.mod_eq_of_lt h3] at hinv
  rcases prime_mul hi h with h4 | h4
  · rw [Nat.mod_eq_of_lt h1] at h4; exact h2 h4
  · rw [Nat.mul_mod, h4] at hinv; simp at hinv
theorem scale_pos {p : Nat} (hi : isP p = true) {K : List Nat} (hK : Lead p K) {c : Nat} (hc : c < p) (h0 : c ≠ 0) : 0 < (pscale p K c).length := by
  rcases Nat.eq_zero_or_pos (pscale p K c).length with h | h
  · have h1 := pscale_get p K c (K.length - 1)
    rw [getD_ge (by omega), Nat.zero_mod] at h1
    have h3 := within_mem hK.1 (k := K.length - 1) (by have := hK.2.1; omega)
    rcases prime_mul hi h1.symm with h4 | h4
    · rw [Nat.mod_eq_of_lt h3] at h4; exact absurd h4 hK.2.2
    · rw [Nat.mod_eq_of_lt hc] at h4; exact absurd h4 h0
  · exact h
end M

set_option maxRecDepth 100000 in
set_option maxHeartbeats 4000000 in
theorem rdivide_any (p : Nat) (v v2 : Value) (f g : List Nat) (w : World) (hi : M.isP p = true) (hwf : M.within p f = true) (hwg : M.within p g = true) (hfl : f.length ≤ 201) (hgl : g.length ≤ 201) (hz : M.trim g ≠ []) (hv : Nums w v f) (hv2 : Nums w v2 g) :
    Calls Try.prog 36 #[.int .u64 p, v, v2] w fun e w' => ∃ vq vr q r, e = .returned (.tuple #[vq, vr]) ∧ Nums w' vq q ∧ Nums w' vr r ∧ M.IsDiv p (M.trim f) (M.trim g) q r ∧ Below w.heap.size w w' := by
  obtain ⟨h3, hp⟩ := M.pos_of hi
  have hKp : 0 < (M.trim g).length := by cases hh : M.trim g with | nil => exact absurd hh hz | cons a t => simp
  have hlead := M.lead_of (M.within_trim hwg) (M.trim_trim g) hKp
  have hst := M.RefK.start (g := M.trim g) (show 0 < p by omega) (M.within_trim hwf) (M.trim_trim f)
  have hF0 : (M.trim f).length ≤ 201 := Nat.le_trans (M.trim_len_le f) hfl
  have hK0 : (M.trim g).length ≤ 201 := Nat.le_trans (M.trim_len_le g) hgl
  have ht1 := fun W (h1 : Nums W v f) => rtrim_any v f W h1
  have ht2 := fun W (h1 : Nums W v2 g) => rtrim_any v2 g W h1
  obtain ⟨F0, eF⟩ : ∃ F, F = M.trim f := ⟨_, rfl⟩
  obtain ⟨K, eK⟩ : ∃ K, K = M.trim g := ⟨_, rfl⟩
  rw [← eF] at ht1 hst hF0 ⊢
  rw [← eK] at ht2 hst hK0 hKp hlead ⊢
  have hlal := M.within_mem hlead.1 (show K.length - 1 < K.length by omega)
  obtain ⟨la, ela⟩ : ∃ la, la = K.getD (K.length - 1) 0 := ⟨_, rfl⟩
  rw [← ela] at hlal
  have hinv := fun W => refInv_any p la W h3 hp hlal
  have hldl := M.pw_lt (p := p) la (p - 2) (by omega)
  obtain ⟨ld, eld⟩ : ∃ ld, ld = M.pw p la (p - 2) := ⟨_, rfl⟩
  rw [← eld] at hinv hldl
  obtain ⟨i0, hi0, hz0, hz1, hz2⟩ := info_parts infoU64
  have HV := Lib.hid hv
  have HV2 := Lib.hid hv2
  have HT1 := Lib.hid ht1
  have HT2 := Lib.hid ht2
  have HST := Lib.hid hst
  have HLD := Lib.hid hlead
  have HI := Lib.hid hi
  have HINV := Lib.hid hinv
  have HEL := Lib.hid ela
  have HED := Lib.hid eld
  obtain ⟨A, cap, rfl⟩ := nums_slice' hv
  obtain ⟨A2, cap2, rfl⟩ := nums_slice' hv2
  clear hi hwf hwg hz hv hv2 ht1 ht2 hst hlead hinv ela eld eF eK
  go_enter Try.func36, Try.ntmps36
  go_wp2_with fail
  refine (HT1.out _ HV.out).mono ?_
  rintro e w1 ⟨v3, rfl, hn1, hb1⟩
  obtain ⟨A3, cap3, rfl⟩ := nums_slice' hn1
  have HN1 := Lib.hid hn1
  have HB1 := Lib.hid hb1
  clear hn1 hb1
  go_wp2_with fail
  refine (HT2.out _ (HV2.out.below HB1.out)).mono ?_
  rintro e w2 ⟨v4, rfl, hn2, hb2⟩
  obtain ⟨A4, cap4, rfl, _, _, hC4⟩ := nums_view hn2
  obtain ⟨b4, off4, rfl, hb4, hcell4⟩ := hC4 hKp
  have HN2 := Lib.hid hn2
  have HF2 := Lib.hid (HN1.out.below hb2)
  have HB2 := Lib.hid (bnext HB1.out hb2)
  have hla := hcell4 (K.length - 1) (by omega)
  rw [← HEL.out] at hla
  have hlaA : ∀ o : Obj, (w2.alloc o).cell? ⟨b4, off4 + (K.length - 1), none⟩ = some (.int .u64 (la : Nat)) := fun o => cellAl o hla
  have i1 : (0 : Int) ≤ (K.length : Int) - 1 := by omega
  have i2 : (K.length : Int) - 1 < (K.length : Nat) := by omega
  have i3 : ((K.length : Int) - 1).toNat = K.length - 1 := by omega
  have i4 : IntKind.i64.wrap ((K.length : Int) - 1) = (K.length : Int) - 1 := IntWalk.i64_in _ (by omega)
  have i5 : (1 : Int) ≤ (K.length : Int) := by omega
  have i6 : 1 ≤ K.length := hKp
  clear hn2 hb2 hC4 hcell4 hla
  go_wp2_with (refine wpList_make_rowL _ rfl _ _ 23 rfl 22 i0 (.int .u64 0) Try.underlying23 hi0 hz0 hz1 rfl .i64 .i64 _ _ F0.length rfl rfl rfl rfl (by rw [hz2]; omega) (by omega) ?_; intro rep hrep; have HREP := Lib.hid hrep; clear hrep)
  have hr : Rw (w2.alloc (.cells rep.toArray 22)) w2.heap.size F0.length (fun _ => 0) := by
    intro i hi
    have h1 := World.alloc_heap_new w2 (.cells rep.toArray 22)
    refine ⟨?_, frozen_of_row _ _ i _ _ h1⟩
    rw [cell_of_row _ _ i _ _ (0, 0) h1, HREP.out]
    simp [hi]
  have HR := Lib.hid hr
  clear hr hlaA
  refine (HINV.out _).mono ?_
  rintro e w' ⟨rfl, rfl⟩
  go_wp2_with fail
  go_loopw [1] (fun t1 wr => ∃ (F : List Nat) (Q : Nat → Nat), Nums wr t1 F ∧ NotIn w2.heap.size t1 ∧ M.RefK p F0 K F Q ∧ Rw wr w2.heap.size F0.length Q ∧ Below w2.heap.size w2 wr ∧ w2.heap.size < wr.heap.size) (fun t1 _ => lenV t1)
  case atStart => exact ⟨F0, fun _ => 0, HF2.out.below (balloc w2 _), notIn_of HF2.out, HST.out, HR.out, balloc w2 _, by simp⟩
  case round =>
    obtain ⟨F, Q, hF, hfb, hk, hr, hB, hs⟩ := hrel
    have HFB := Lib.hid hfb
    clear hfb
    have NF := Lib.hid hF
    have HK := Lib.hid hk
    have HRR := Lib.hid hr
    have HB := Lib.hid hB
    have HS := Lib.hid hs
    obtain ⟨A5, cap5, rfl, _, _, hC5⟩ := nums_view hF
    have HC5 := Lib.hid hC5
    clear hF hk hr hB hs hC5
    by_cases hle : K.length ≤ F.length
    · obtain ⟨b5, off5, rfl, hb5, hcell5⟩ := HC5.out (by omega)
      have hFl := HK.out.l
      have hbf : w2.heap.size ≠ b5 := HFB.out b5 off5 F.length cap5 rfl (by omega)
      have hx := hcell5 (F.length - 1) (by omega)
      have hxl := M.within_mem HK.out.w (show F.length - 1 < F.length by omega)
      obtain ⟨s, es⟩ : ∃ s, s = F.length - K.length := ⟨_, rfl⟩
      have esI : (F.length : Int) - K.length = (s : Nat) := by omega
      obtain ⟨x, ex⟩ : ∃ x, x = F.getD (F.length - 1) 0 := ⟨_, rfl⟩
      rw [← ex] at hx hxl
      have hmu := fun W => refMul_any p x ld W (by omega) hp hxl hldl
      obtain ⟨c, ec⟩ : ∃ c, c = x * ld % p := ⟨_, rfl⟩
      have hcl : c < p := by rw [ec]; exact Nat.mod_lt _ (by omega)
      rw [← ec] at hmu
      have hc0 : c ≠ 0 := by
        rw [ec, ex, HED.out, HEL.out]
        exact M.quot_ne HI.out HLD.out HK.out.w HK.out.t (by omega)
      have hstep := HK.out.step HI.out HLD.out hle (c := c) (by rw [ec, ex, HED.out, HEL.out])
      rw [← es] at hstep
      obtain ⟨c6, f6⟩ := HRR.out s (by omega)
      have hw1 := HRR.out.set (show s < F0.length by omega) c
      have hb1 := HB.out.setCell (p := ⟨w2.heap.size, s, none⟩) (Nat.le_refl _) (.int .u64 (c : Nat))
      have hb1r : Below w2.heap.size wr (wr.setCell ⟨w2.heap.size, s, none⟩ (.int .u64 (c : Nat))) := (Below.refl _ _).setCell (p := ⟨w2.heap.size, s, none⟩) (Nat.le_refl _) _
      have j1 : (0 : Int) ≤ (F.length : Int) - 1 := by omega
      have j2 : (F.length : Int) - 1 < (F.length : Nat) := by omega
      have j3 : ((F.length : Int) - 1).toNat = F.length - 1 := by omega
      have j4 : IntKind.i64.wrap ((F.length : Int) - 1) = (F.length : Int) - 1 := IntWalk.i64_in _ (by omega)
      have j5 : (1 : Int) ≤ (F.length : Int) := by omega
      have j6 : decide ((K.length : Int) ≤ (F.length : Int)) = true := by simp; omega
      have j7 : (s : Int) < (F0.length : Nat) := by omega
      have HMU := Lib.hid hmu
      have HSTEP := Lib.hid hstep
      have HW1 := Lib.hid hw1
      have HBB := Lib.hid hb1
      clear hmu hstep hw1 hb1 es ex ec hcell5
      go_wp2_with fail
      refine (HMU.out _).mono ?_
      rintro e w' ⟨rfl, rfl⟩
      go_wp2_with fail
      obtain ⟨W1, hW1⟩ : ∃ W1, wr.setCell ⟨w2.heap.size, s, none⟩ (.int .u64 (c : Nat)) = W1 := ⟨_, rfl⟩
      have zW : W1.heap.size = wr.heap.size := by rw [← hW1]; simp
      have hs2 : w2.heap.size < W1.heap.size := by rw [zW]; exact HS.out
      have hRW1 : Rw W1 w2.heap.size F0.length (fun j => if j = s then c else Q j) := by rw [← hW1]; exact HW1.out
      have hB1 : Below w2.heap.size w2 W1 := by rw [← hW1]; exact HBB.out
      have hNK1 : Nums W1 (.slice (some ⟨b4, off4, none⟩) K.length cap4) K := HN2.out.below hB1
      have hNF1 : Nums W1 (.slice (some ⟨b5, off5, none⟩) F.length cap5) F := by
        obtain ⟨n1, n2, n3⟩ := NF.out
        rw [← hW1]
        refine ⟨n1, n2, ?_⟩
        rcases n3 with n3 | ⟨b, off, cap, e, hc, hl, hcell⟩
        · exact .inl n3
        · simp only [Value.slice.injEq, Option.some.injEq, Addr.mk.injEq, and_true] at e
          obtain ⟨⟨rfl, rfl⟩, _, rfl⟩ := e
          refine .inr ⟨b5, off5, cap5, rfl, hc, by simpa using hl, fun i hi => ?_⟩
          rw [World.cell?_setCell_other _ _ _ _ (by intro e; have h1 := congrArg Addr.block e; simp at h1; exact hbf h1)]
          exact hcell i hi
      rw [hW1]
      have hsl : s ≤ 201 := by omega
      have hsp := M.scale_pos HI.out HLD.out hcl hc0
      have hsc := fun W V (h : Nums W V K) => rscale_any p c V K W (by omega) hp hcl HLD.out.1 (by omega) h
      have hLl := M.poly_len p K.length (fun i => K.getD i 0 * c)
      obtain ⟨L, eL⟩ : ∃ L, L = M.pscale p K c := ⟨_, rfl⟩
      have hLp : 0 < L.length := by rw [eL]; exact hsp
      have hLl2 : L.length ≤ 201 := by rw [eL]; unfold M.pscale; omega
      have hsu := fun W V V2 (h : Nums W V F) (h2 : Nums W V2 (List.replicate s 0 ++ L)) => rsub_new p V V2 F (List.replicate s 0 ++ L) W (by omega) hp HK.out.w (by rw [eL]; exact M.shift_within (by omega) _ _ _) (by omega) (by simp; omega) h h2
      have hLw : ∀ x ∈ List.replicate s 0 ++ L, x < 18446744073709551616 := fun x hx => by
        have h1 := M.shift_within (show 0 < p by omega) K s c
        rw [← eL] at h1
        have h2 := List.all_eq_true.1 h1 x hx
        simp at h2; omega
      rw [← eL] at hsc
      have hmk : ∀ W : World, (Instr.makeSlice 23 (.int .i64 (s : Nat)) (.int .i64 (s : Nat))).run Try.prog W = .ok (.slice (some ⟨W.heap.size, 0, none⟩) s s) (W.alloc (.cells (madeCells #[Value.int .u64 0] s) 22)) := fun W => by
        have hrun := run_make (P := Try.prog) W 23 22 i0 (.int .u64 0) Try.underlying23 hi0 hz0 .i64 .i64 s s (by omega) (Int.le_refl _) (by rw [hz2]; omega) (by omega)
        rw [hz1] at hrun
        simpa [Value.cells] using hrun
      have HSC := Lib.hid hsc
      have HSU := Lib.hid hsu
      have HEL2 := Lib.hid eL
      have hLw2 := hLw
      have HNK1 := Lib.hid hNK1
      have HNF1 := Lib.hid hNF1
      have HRW1 := Lib.hid hRW1
      have HB1 := Lib.hid hB1
      clear hsc hsu hLl hW1 hRW1 hB1 hNK1 hNF1 zW hx c6 f6 eL hLw hb1r hsp
      go_region_law (first
        | (go_simp; go_at_call 28; refine (HSC.out _ _ ?_).mono ?_; (first | exact HNK1.out.below (balloc W1 _).drew | exact HNK1.out); rintro e w3 ⟨vs, rfl, hns, hbs⟩; obtain ⟨As, cs, rfl, _, _, hCs⟩ := nums_view hns; obtain ⟨bs, os, rfl, hbls, hcs⟩ := hCs hLp)
        | (go_simp; go_at_call 30; refine (HSU.out _ _ _ ?_ ?_).mono ?_; exact HNF1.out.below hb4'; exact hnv; rintro e w6 ⟨v6, rfl, hn6, hb6, hf6⟩)
        | (refine step_append_lies _ (by rfl) _ _ _ (by rfl) W1.heap.size 22 i0 _ 1 8 Try.underlying23 hi0 hz0 hz1 hz2 rfl (by omega) (.slice (some ⟨W1.heap.size, 0, none⟩) s s) s (List.replicate s (.int .u64 0)) (by rfl) (own_below (owns_zeros W1 W1.heap.size s (Nat.le_refl _) (by omega)) (belowD hbs))
            ⟨bs, os, none⟩ L.length cs (vals L) (by rfl) (by simp [vals]) (cells_vals hcs) (vals_one L) hLp (by unfold maxLen; omega) (by omega) (by have h1 := hbs.size; simp at h1; omega) w3.heap.size rfl ?_; intro gg cp w4 hown' hgrow hat hgl; have hnv := nums_of_owns (vals_zeros s L ▸ hown') hLw2 (by simp; omega); have hb4' : Below W1.heap.size W1 w4 := (bnext (balloc W1 _) (belowD hbs)).grown hgrow (by have h1 := hbs.size; simp at h1; omega) (fun k e => by simp [Value.ownBlock] at e; omega))
        | (refine step_append_lies _ (by rfl) _ _ _ (by rfl) W1.heap.size 22 i0 _ 1 8 Try.underlying23 hi0 hz0 hz1 hz2 rfl (by omega) (.slice (some ⟨w3.heap.size, 0, none⟩) s s) s (List.replicate s (.int .u64 0)) (by rfl) (owns_zeros w3 W1.heap.size s hbs.size (by omega))
            ⟨bs, os, none⟩ L.length cs (vals L) (by rfl) (by simp [vals]) (fun j u hu => cellAl _ (cells_vals hcs j u hu)) (vals_one L) hLp (by unfold maxLen; omega) (by omega) (by have h1 : W1.heap.size ≤ w3.heap.size := hbs.size; simp; omega) (w3.heap.size + 1) (by simp) ?_; intro gg cp w4 hown' hgrow hat hgl; have hnv := nums_of_owns (vals_zeros s L ▸ hown') hLw2 (by simp; omega); have hb4' : Below W1.heap.size W1 w4 := ((belowE hbs).alloc hbs.size _).grown hgrow (by have h1 : W1.heap.size ≤ w3.heap.size := hbs.size; simp; omega) (fun k e => by simp [Value.ownBlock] at e; have h1 : W1.heap.size ≤ w3.heap.size := hbs.size; omega)))
      all_goals
        have hB6 : Below W1.heap.size W1 w6 := bnext hb4' hb6
        have HB6 := Lib.hid (HB1.out.trans (hB6.mono (by omega)))
        have HN6 := Lib.hid hn6
        have HR6 := Lib.hid (HRW1.out.below hB6 hs2)
        have HF6 : Hid (NotIn w2.heap.size v6) := Lib.hid (fun b off n cap e _ => by have h1 := hf6 b off n cap e; have h2 := hb4'.size; omega)
        have HZ6 := Lib.hid (show w2.heap.size < w6.heap.size by have := hB6.size; omega)
        have hnl := HSTEP.out.2
        obtain ⟨A6, cap6, rfl⟩ := nums_slice' hn6
        clear hn6 hb6 hf6 hB6 hb4' hnv hns hcs hbs hown' hgrow hat hgl
        go_wp2_with fail
        refine ⟨?_, ?measure⟩
        (repeat apply Exists.intro)
        refine ⟨?rel, rfl⟩
        case rel => exact ⟨_, _, HN6.out, HF6.out, HEL2.out ▸ HSTEP.out.1, HR6.out, HB6.out, HZ6.out⟩
        case measure => simp [lenV]; rw [HEL2.out]; exact hnl
    · have j6 : decide ((K.length : Int) ≤ (F.length : Int)) = false := by simp; omega
      have hd := HK.out.done HI.out (by omega)
      have HD := Lib.hid hd
      have hnq := HRR.out.nums HS.out (by omega) (fun i _ => by have := HK.out.q i; omega)
      have HT := Lib.hid (rtrim_any _ _ wr hnq)
      clear hd hnq
      go_wp2_with fail
      refine HT.out.mono ?_
      rintro e w5 ⟨v5, rfl, hn5, hb5⟩
      have HN5 := Lib.hid hn5
      have NF5 := Lib.hid (NF.out.below hb5)
      have HB5 := Lib.hid (HB2.out.trans (Below.mono (HB.out.trans (hb5.mono HB.out.size)) HB2.out.size))
      clear hn5 hb5
      go_wp2_with fail
      go_ret2
      exact ⟨_, _, _, _, rfl, HN5.out, NF5.out, HD.out, HB5.out⟩
end Go.Proofs.Ytafoonhmfieikaa
