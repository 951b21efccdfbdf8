/-
  LenV, Ref2i, Ref2j, Ref2k (joined).
-/
import Derived.Test.YtfkepkdfpjaniaaLI
import Derived.Test.YtfkepkdfpjaniaaMB
import Derived.Test.YtfkepkdfpjaniaaRB
import Derived.Test.YtfkepkdfpjaniaaRA
import Derived.Laws.MakeOwn
import Derived.Deep.RegionLaw
import Derived.Deep.AppendLies
namespace Go.Proofs.Ytfkepkdfpjaniaa
open Go.RowKit
def lenV : Value → Nat
  | .slice _ n _ => n
  | _ => 0
end Go.Proofs.Ytfkepkdfpjaniaa
namespace Go.Proofs.Ytfkepkdfpjaniaa
open Go.RowKit
set_option linter.unusedVariables false

theorem vals_zeros (s : Nat) (L : List Nat) : List.replicate s (Value.int .u64 0) ++ vals L = vals (List.replicate s 0 ++ L) := by simp [vals]
theorem owns_zeros (W : World) (base s : Nat) (hb : base ≤ W.heap.size) (hs : s ≤ 1000) : (W.alloc (.cells (madeCells #[Value.int .u64 0] s) 22)).ownsRow base 22 1 (.slice (some ⟨W.heap.size, 0, none⟩) s s) s (List.replicate s (.int .u64 0)) := by
  refine ⟨by simp, .inr ⟨W.heap.size, s, madeCells #[.int .u64 0] s, rfl, hb, World.alloc_heap_new W _, Nat.le_refl _, by unfold maxLen; omega, by rw [size_madeCells, Nat.mul_one], ?_⟩⟩
  rw [Nat.mul_one, toList_madeCells_one, List.take_replicate, Nat.min_self]
theorem cells_vals {W : World} {b o : Nat} {L : List Nat} (h : ∀ i, i < L.length → W.cell? ⟨b, o + i, none⟩ = some (.int .u64 (L.getD i 0 : Nat))) : ∀ j u, (vals L)[j]? = some u → W.cell? ((⟨b, o, none⟩ : Addr).add j) = some u := by
  intro j u hu
  have hj : j < L.length := by
    apply Nat.lt_of_not_le; intro hc
    rw [List.getElem?_eq_none (by simpa [vals] using hc)] at hu; cases hu
  have e : u = .int .u64 (L.getD j 0 : Nat) := by
    simp [vals, List.getD_eq_getElem?_getD, hj] at hu ⊢
    exact hu.symm
  subst e
  rw [Addr.add_lit]
  exact h j hj
theorem vals_one (L : List Nat) : ∀ u ∈ vals L, u.oneCell' = true := by
  intro u hu
  simp [vals] at hu
  obtain ⟨z, _, rfl⟩ := hu
  rfl

/-- a slice that is not in block B, unless it is empty -/
def NotIn (B : Nat) (v : Value) : Prop := ∀ b off n cap, v = .slice (some ⟨b, off, none⟩) n cap → 0 < n → B ≠ b
theorem notIn_of {w : World} {v : Value} {zs : List Nat} (h : Nums w v zs) : NotIn w.heap.size v := by
  intro b off n cap e hn
  obtain ⟨_, _, h3⟩ := h
  rcases h3 with ⟨a, c, e2, _, _⟩ | ⟨b2, off2, c, e2, _, hb, _⟩
  · rw [e] at e2; simp only [Value.slice.injEq] at e2; omega
  · rw [e] at e2
    simp only [Value.slice.injEq, Option.some.injEq, Addr.mk.injEq, and_true] at e2
    have := e2.1.1
    omega
end Go.Proofs.Ytfkepkdfpjaniaa
namespace Go.Proofs.Ytfkepkdfpjaniaa
open Go.RowKit
set_option linter.unusedVariables false

/-- a slice that lies in no block below n -/
def Fresh (n : Nat) (v : Value) : Prop := ∀ b off m cap, v = .slice (some ⟨b, off, none⟩) m cap → n ≤ b
theorem Fresh.mono {n k : Nat} {v : Value} (h : Fresh n v) (hk : k ≤ n) : Fresh k v := fun b off m cap e => Nat.le_trans hk (h b off m cap e)
theorem fresh_of {W : World} {base : Nat} {e : TypeId} {size : Nat} {v : Value} {n : Nat} {xs : List Value} (h : W.ownsRow base e size v n xs) : Fresh base v := by
  intro b off m cap e1
  rcases h.2 with ⟨e2, _⟩ | ⟨g, c, cur, e2, hb, _⟩
  · rw [e1] at e2; cases e2
  · rw [e1] at e2; cases e2; exact hb
def GivesF (w : World) (zs : List Nat) (e : Ending) (w' : World) : Prop := ∃ v', e = .returned v' ∧ Nums w' v' zs ∧ Below w.heap.size w w' ∧ Fresh w.heap.size v'

set_option maxHeartbeats 1000000 in
theorem rtrim_new (v : Value) (zs : List Nat) (w : World) (hv : Nums w v zs) :
    Calls Try.prog 43 #[v] w (GivesF w (M.trim zs)) := by
  have HN := Lib.hid hv
  obtain ⟨A, cap, rfl, hcap, hlen, hC⟩ := nums_view hv
  have HV := Lib.hid hC
  have hud : ∀ b : Bool, undef ≠ Value.bool b := fun b h => by cases h
  clear hv hC
  go_enter Try.func43, Try.ntmps43
  go_wp2_with fail
  go_loop [3] (fun t => ∃ n : Nat, n ≤ zs.length ∧ t = .int .i64 n ∧ ∀ i, n ≤ i → zs.getD i 0 = 0) (fun t => (intOf t).toNat)
  case atStart => exact ⟨zs.length, Nat.le_refl _, rfl, fun i hi => M.getD_ge hi⟩
  case round =>
    obtain ⟨n, hn, rfl, hz⟩ := hrel
    have HZ := Lib.hid hz
    clear hz
    by_cases h0 : n = 0
    · subst h0
      have ht : M.trim zs = [] := M.trim_nil_iff.2 (fun i => HZ.out i (Nat.zero_le _))
      have HT := Lib.hid ht
      have hp0 := nums_prefix0 HN.out
      have HP := Lib.hid hp0
      clear ht hp0
      go_wp2_with (at_builtin; refine wpList_append_nums rfl (.tmp 18) (.tmp 21) rfl w.heap.size _ 0 [] rfl (World.ownsRow_made w #[] 0 (Nat.le_refl _) (by decide) rfl) _ [] rfl (HP.out.below (balloc w _)) (by simp) (by simp) ?_; intro v' w' hown hb; have HO := Lib.hid hown; have HBB := Lib.hid hb; clear hown hb)
      go_ret
      refine ⟨_, rfl, ?_, (balloc w _).trans HBB.out, fresh_of HO.out⟩
      rw [HT.out]
      exact nums_of_owns (zs := []) HO.out (by simp) (by simp)
    · obtain ⟨m, rfl⟩ : ∃ m, n = m + 1 := ⟨n - 1, by omega⟩
      obtain ⟨b, off, rfl, hb, hcell⟩ := HV.out (by omega)
      have hc := hcell m (by omega)
      obtain ⟨x, hx⟩ : ∃ x, x = zs.getD m 0 := ⟨_, rfl⟩
      rw [← hx] at hc
      have HX := Lib.hid hx
      clear hx hcell h0
      by_cases hx0 : x = 0
      · have hbq : ((x : Int) == 0) = true := by rw [beq_iff_eq]; omega
        have H0 := Lib.hid hx0
        clear hx0
        go_wp2_with fail
        go_round
        case rel =>
          refine ⟨m, by omega, by go_num, fun i hi => ?_⟩
          by_cases he : i = m
          · subst he; rw [← HX.out]; exact H0.out
          · exact HZ.out i (by omega)
        case measure => simp [intOf]
      · have hbq : ((x : Int) == 0) = false := by rw [beq_eq_false_iff_ne]; omega
        have ht : M.tlen zs = m + 1 := M.tlen_unique (fun i hi => HZ.out i hi) (.inr (by rw [Nat.add_sub_cancel, ← HX.out]; exact hx0))
        have HT := Lib.hid ht
        have hpp := nums_prefix HN.out (m := m + 1) hn
        have HP := Lib.hid hpp
        have hll : (zs.take (m + 1)).length = m + 1 := by rw [List.length_take]; omega
        have HLL := Lib.hid hll
        have hu : ∀ y ∈ zs.take (m + 1), y < 18446744073709551616 := fun y hy => HN.out.1 y (List.mem_of_mem_take hy)
        have HU := Lib.hid hu
        clear ht hpp hx0 hll hu
        go_wp2_with (at_builtin; refine wpList_append_nums rfl (.tmp 18) (.tmp 21) rfl w.heap.size _ 0 [] rfl (World.ownsRow_made w #[] 0 (Nat.le_refl _) (by decide) rfl) _ (zs.take (m + 1)) rfl (HP.out.below (balloc w _)) (by rw [HLL.out]; omega) (by simp) ?_; intro v' w' hown hb; have HO := Lib.hid hown; have HBB := Lib.hid hb; clear hown hb)
        go_ret
        refine ⟨_, rfl, ?_, (balloc w _).trans HBB.out, fresh_of HO.out⟩
        unfold M.trim
        rw [HT.out]
        exact nums_of_owns HO.out HU.out (by rw [HLL.out]; omega)

set_option maxHeartbeats 1000000 in
theorem radd_new (p : Nat) (vf vg : Value) (f g : List Nat) (w : World) (h2 : 0 < p) (hp : p ≤ 65537) (hwf : M.within p f = true) (hwg : M.within p g = true) (hfl : f.length ≤ 1000) (hgl : g.length ≤ 1000) (hf : Nums w vf f) (hg : Nums w vg g) :
    Calls Try.prog 39 #[.int .u64 p, vf, vg] w (GivesF w (M.padd p f g)) := by
  obtain ⟨A, cap, rfl, _, hlf, _⟩ := nums_view hf
  obtain ⟨A2, cap2, rfl, _, hlg, _⟩ := nums_view hg
  have HF := Lib.hid hf
  have HG := Lib.hid hg
  have HWF := Lib.hid hwf
  have HWG := Lib.hid hwg
  obtain ⟨i0, hi0, hz0, hz1, hz2⟩ := info_parts infoU64
  obtain ⟨n, en⟩ : ∃ n, n = max f.length g.length := ⟨_, rfl⟩
  have hn1 : f.length ≤ n := by omega
  have hn2 : g.length ≤ n := by omega
  have EN := Lib.hid en
  have hnl : n ≤ 1000 := by omega
  clear hf hg hwf hwg en
  rcases Nat.lt_or_ge f.length g.length with hm | hm
  all_goals
    go_enter Try.func39, Try.ntmps39
    go_wp2_with (refine wpList_make_rowL _ rfl _ _ 31 rfl 22 i0 (.int .u64 0) Try.underlying31 hi0 hz0 hz1 rfl .i64 .i64 _ _ n rfl rfl (by have := EN.out; omega) (by have := EN.out; omega) (by rw [hz2]; omega) (by omega) ?_; intro rep hrep; have HREP := Lib.hid hrep; clear hrep)
    have hr : Rw (w.alloc (.cells rep.toArray 22)) w.heap.size n (someOf (fun i => (f.getD i 0 + g.getD i 0) % p) 0) := by
      intro i hi
      have h1 := World.alloc_heap_new w (.cells rep.toArray 22)
      refine ⟨?_, frozen_of_row _ _ i _ _ h1⟩
      rw [cell_of_row _ _ i _ _ (0, 0) h1, HREP.out]
      simp [someOf, hi]
    have HR := Lib.hid hr
    clear hr
    go_loopw [17] (fun t wr => ∃ k : Nat, k ≤ n ∧ t = .int .i64 k ∧ Rw wr w.heap.size n (someOf (fun i => (f.getD i 0 + g.getD i 0) % p) k) ∧ Below w.heap.size w wr ∧ w.heap.size < wr.heap.size) (fun t _ => n - (intOf t).toNat)
    case atStart => exact ⟨0, by omega, rfl, HR.out, balloc w _, by simp⟩
    case round =>
      obtain ⟨k, hk, rfl, hr, hB, hsz⟩ := hrel
      have HB := Lib.hid hB
      have HR2 := Lib.hid hr
      have HS2 := Lib.hid hsz
      clear hB hr hsz
      by_cases hlt : k < n
      · have hx := M.within_getD h2 HWF.out k
        have hy := M.within_getD h2 HWG.out k
        have ht1 := Lib.hid (rat_any _ f k wr (by omega) (HF.out.at (Nat.le_refl _) HB.out HF.out))
        have ht2 := Lib.hid (rat_any _ g k wr (by omega) (HG.out.at (Nat.le_refl _) HB.out HG.out))
        have hst := someOf_step (fun i => (f.getD i 0 + g.getD i 0) % p) k
        obtain ⟨x, ex⟩ : ∃ x, x = f.getD k 0 := ⟨_, rfl⟩
        obtain ⟨y, ey⟩ : ∃ y, y = g.getD k 0 := ⟨_, rfl⟩
        rw [← ex] at hx ht1 hst
        rw [← ey] at hy ht2 hst
        have ha := refAdd_any p x y wr (by omega) hp hx hy
        obtain ⟨z, ez⟩ : ∃ z, z = (x + y) % p := ⟨_, rfl⟩
        rw [← ez] at ha hst
        have HA := Lib.hid ha
        obtain ⟨c3, f3⟩ := HR2.out k hlt
        have hr4 := (HR2.out.set hlt z).congr (fun i _ => hst i)
        have hB4 := HB.out.setCell (p := ⟨w.heap.size, k, none⟩) (Nat.le_refl _) (.int .u64 ((z : Nat) : Int))
        have HR4 := Lib.hid hr4
        have HB4 := Lib.hid hB4
        have hi1 : (k : Int) < (n : Nat) := by omega
        clear ex ey hst ha ez hr4 hB4
        go_wp2_with fail
        refine ht1.out.mono ?_
        rintro e w' ⟨rfl, rfl⟩
        go_wp2_with fail
        refine ht2.out.mono ?_
        rintro e w' ⟨rfl, rfl⟩
        go_wp2_with fail
        refine HA.out.mono ?_
        rintro e w' ⟨rfl, rfl⟩
        go_wp2_with fail
        go_roundw
        case rel => exact ⟨k + 1, by omega, by go_num, HR4.out, HB4.out, by simpa using HS2.out⟩
        case measure => simp [intOf]; omega
      · obtain rfl : k = n := by omega
        have hN5 := (HR2.out.congr (G := fun i => (f.getD i 0 + g.getD i 0) % p) (fun i hi => by unfold someOf; rw [if_pos hi])).nums HS2.out (by omega) (fun i _ => by have := Nat.mod_lt (f.getD i 0 + g.getD i 0) h2; omega)
        have HT := Lib.hid (rtrim_new _ _ wr hN5)
        clear hN5
        go_wp2_with fail
        refine HT.out.mono ?_
        rintro e w2 ⟨v2, rfl, hn3, hb3, hf3⟩
        have B3 := Lib.hid (bnext HB.out hb3)
        have N3 := Lib.hid hn3
        have F3 := Lib.hid (hf3.mono HB.out.size)
        clear hn3 hb3 hf3
        go_wp2_with fail
        go_ret
        refine ⟨_, rfl, ?_, B3.out, F3.out⟩
        unfold M.padd M.poly
        rw [← EN.out]
        exact N3.out

set_option maxHeartbeats 1000000 in
theorem rsub_new (p : Nat) (vf vg : Value) (f g : List Nat) (w : World) (h2 : 1 < p) (hp : p ≤ 65537) (hwf : M.within p f = true) (hwg : M.within p g = true) (hfl : f.length ≤ 1000) (hgl : g.length ≤ 1000) (hf : Nums w vf f) (hg : Nums w vg g) :
    Calls Try.prog 41 #[.int .u64 p, vf, vg] w (GivesF w (M.psub p f g)) := by
  have HF := Lib.hid hf
  have hs := rscale_any p (p - 1) vg g w (by omega) hp (by omega) hwg hgl hg
  rw [show (((p - 1 : Nat)) : Int) = (p : Int) - 1 by omega] at hs
  have HS := Lib.hid hs
  have hw1 : M.within p (M.pscale p g (p - 1)) = true := M.poly_within (by omega) _ _
  have hl1 : (M.pscale p g (p - 1)).length ≤ g.length := M.poly_len p g.length (fun i => g.getD i 0 * (p - 1))
  have ha := fun W v (h1 : Nums W vf f) (h2' : Nums W v (M.pscale p g (p - 1))) => radd_new p vf v f (M.pscale p g (p - 1)) W (by omega) hp hwf hw1 hfl (by omega) h1 h2'
  rw [M.psub_ref (by omega) hwg] at ha
  have HA := Lib.hid ha
  obtain ⟨A, cap, rfl⟩ := nums_slice' hf
  obtain ⟨A2, cap2, rfl⟩ := nums_slice' hg
  clear hf hg hwf hwg hs ha hw1 hl1
  go_enter Try.func41, Try.ntmps41
  go_wp2_with fail
  refine HS.out.mono ?_
  rintro e w1 ⟨v1, rfl, hn1, hb1⟩
  have H1 := Lib.hid (HA.out w1 v1 (HF.out.below hb1) hn1)
  have B1 := Lib.hid hb1
  clear hb1 hn1
  go_wp2_with fail
  refine H1.out.mono ?_
  rintro e w2 ⟨v2, rfl, hn2, hb2, hf2⟩
  have B2 := Lib.hid (bnext B1.out hb2)
  have N2 := Lib.hid hn2
  have F2 := Lib.hid (hf2.mono B1.out.size)
  clear hn2 hb2 hf2
  go_wp2_with fail
  go_ret
  exact ⟨_, rfl, N2.out, B2.out, F2.out⟩
end Go.Proofs.Ytfkepkdfpjaniaa
namespace Go.Proofs.Ytfkepkdfpjaniaa
open Go.RowKit
set_option linter.unusedVariables false

theorem belowD {X w : World} (h : Below X.drew.heap.size X.drew w) : Below X.heap.size X w := ⟨h.os, h.tape, h.output, h.size, h.block⟩
theorem belowE {X w : World} (h : Below X.drew.heap.size X.drew w) : Below X.heap.size X w := ⟨h.os, h.tape, h.output, h.size, h.block⟩
namespace M
theorem quot_ne {p : Nat} (hi : isP p = true) {K F : List Nat} (hK : Lead p K) (hF : within p F = true) (tF : trim F = F) (h0 : 0 < F.length) : F.getD (F.length - 1) 0 * pw p (K.getD (K.length - 1) 0) (p - 2) % p ≠ 0 := by
  intro h
  have hp := pos_of hi
  have h1 := within_mem hF (k := F.length - 1) (by omega)
  have h2 := trim_self_last tF h0
  have h3 := within_mem hK.1 (k := K.length - 1) (by have := hK.2.1; omega)
  have hinv := inv_mod hi (a := K.getD (K.length - 1) 0) (by rw [Nat.mod_eq_of_lt h3]; exact hK.2.2)
  rw [Nat.mod_eq_of_lt h3] at hinv
  rcases prime_mul hi h with h4 | h4
  · rw [Nat.mod_eq_of_lt h1] at h4; exact h2 h4
  · rw [Nat.mul_mod, h4] at hinv; simp at hinv
theorem scale_pos {p : Nat} (hi : isP p = true) {K : List Nat} (hK : Lead p K) {c : Nat} (hc : c < p) (h0 : c ≠ 0) : 0 < (pscale p K c).length := by
  rcases Nat.eq_zero_or_pos (pscale p K c).length with h | h
  · have h1 := pscale_get p K c (K.length - 1)
    rw [getD_ge (by omega), Nat.zero_mod] at h1
    have h3 := within_mem hK.1 (k := K.length - 1) (by have := hK.2.1; omega)
    rcases prime_mul hi h1.symm with h4 | h4
    · rw [Nat.mod_eq_of_lt h3] at h4; exact absurd h4 hK.2.2
    · rw [Nat.mod_eq_of_lt hc] at h4; exact absurd h4 h0
  · exact h
end M

set_option maxRecDepth 100000 in
set_option maxHeartbeats 4000000 in
theorem rdivide_any (p : Nat) (v v2 : Value) (f g : List Nat) (w : World) (hi : M.isP p = true) (hwf : M.within p f = true) (hwg : M.within p g = true) (hfl : f.length ≤ 201) (hgl : g.length ≤ 201) (hz : M.trim g ≠ []) (hv : Nums w v f) (hv2 : Nums w v2 g) :
    Calls Try.prog 71 #[.int .u64 p, v, v2] w fun e w' => ∃ vq vr q r, e = .returned (.tuple #[vq, vr]) ∧ Nums w' vq q ∧ Nums w' vr r ∧ M.IsDiv p (M.trim f) (M.trim g) q r ∧ Below w.heap.size w w' := by
  obtain ⟨h3, hp⟩ := M.pos_of hi
  have hKp : 0 < (M.trim g).length := by cases hh : M.trim g with | nil => exact absurd hh hz | cons a t => simp
  have hlead := M.lead_of (M.within_trim hwg) (M.trim_trim g) hKp
  have hst := M.RefK.start (g := M.trim g) (show 0 < p by omega) (M.within_trim hwf) (M.trim_trim f)
  have hF0 : (M.trim f).length ≤ 201 := Nat.le_trans (M.trim_len_le f) hfl
  have hK0 : (M.trim g).length ≤ 201 := Nat.le_trans (M.trim_len_le g) hgl
  have ht1 := fun W (h1 : Nums W v f) => rtrim_any v f W h1
  have ht2 := fun W (h1 : Nums W v2 g) => rtrim_any v2 g W h1
  obtain ⟨F0, eF⟩ : ∃ F, F = M.trim f := ⟨_, rfl⟩
  obtain ⟨K, eK⟩ : ∃ K, K = M.trim g := ⟨_, rfl⟩
  rw [← eF] at ht1 hst hF0 ⊢
  rw [← eK] at ht2 hst hK0 hKp hlead ⊢
  have hlal := M.within_mem hlead.1 (show K.length - 1 < K.length by omega)
  obtain ⟨la, ela⟩ : ∃ la, la = K.getD (K.length - 1) 0 := ⟨_, rfl⟩
  rw [← ela] at hlal
  have hinv := fun W => refInv_any p la W h3 hp hlal
  have hldl := M.pw_lt (p := p) la (p - 2) (by omega)
  obtain ⟨ld, eld⟩ : ∃ ld, ld = M.pw p la (p - 2) := ⟨_, rfl⟩
  rw [← eld] at hinv hldl
  obtain ⟨i0, hi0, hz0, hz1, hz2⟩ := info_parts infoU64
  have HV := Lib.hid hv
  have HV2 := Lib.hid hv2
  have HT1 := Lib.hid ht1
  have HT2 := Lib.hid ht2
  have HST := Lib.hid hst
  have HLD := Lib.hid hlead
  have HI := Lib.hid hi
  have HINV := Lib.hid hinv
  have HEL := Lib.hid ela
  have HED := Lib.hid eld
  obtain ⟨A, cap, rfl⟩ := nums_slice' hv
  obtain ⟨A2, cap2, rfl⟩ := nums_slice' hv2
  clear hi hwf hwg hz hv hv2 ht1 ht2 hst hlead hinv ela eld eF eK
  go_enter Try.func71, Try.ntmps71
  go_wp2_with fail
  refine (HT1.out _ HV.out).mono ?_
  rintro e w1 ⟨v3, rfl, hn1, hb1⟩
  obtain ⟨A3, cap3, rfl⟩ := nums_slice' hn1
  have HN1 := Lib.hid hn1
  have HB1 := Lib.hid hb1
  clear hn1 hb1
  go_wp2_with fail
  refine (HT2.out _ (HV2.out.below HB1.out)).mono ?_
  rintro e w2 ⟨v4, rfl, hn2, hb2⟩
  obtain ⟨A4, cap4, rfl, _, _, hC4⟩ := nums_view hn2
  obtain ⟨b4, off4, rfl, hb4, hcell4⟩ := hC4 hKp
  have HN2 := Lib.hid hn2
  have HF2 := Lib.hid (HN1.out.below hb2)
  have HB2 := Lib.hid (bnext HB1.out hb2)
  have hla := hcell4 (K.length - 1) (by omega)
  rw [← HEL.out] at hla
  have hlaA : ∀ o : Obj, (w2.alloc o).cell? ⟨b4, off4 + (K.length - 1), none⟩ = some (.int .u64 (la : Nat)) := fun o => cellAl o hla
  have i1 : (0 : Int) ≤ (K.length : Int) - 1 := by omega
  have i2 : (K.length : Int) - 1 < (K.length : Nat) := by omega
  have i3 : ((K.length : Int) - 1).toNat = K.length - 1 := by omega
  have i4 : IntKind.i64.wrap ((K.length : Int) - 1) = (K.length : Int) - 1 := IntWalk.i64_in _ (by omega)
  have i5 : (1 : Int) ≤ (K.length : Int) := by omega
  have i6 : 1 ≤ K.length := hKp
  clear hn2 hb2 hC4 hcell4 hla
  go_wp2_with (refine wpList_make_rowL _ rfl _ _ 31 rfl 22 i0 (.int .u64 0) Try.underlying31 hi0 hz0 hz1 rfl .i64 .i64 _ _ F0.length rfl rfl rfl rfl (by rw [hz2]; omega) (by omega) ?_; intro rep hrep; have HREP := Lib.hid hrep; clear hrep)
  have hr : Rw (w2.alloc (.cells rep.toArray 22)) w2.heap.size F0.length (fun _ => 0) := by
    intro i hi
    have h1 := World.alloc_heap_new w2 (.cells rep.toArray 22)
    refine ⟨?_, frozen_of_row _ _ i _ _ h1⟩
    rw [cell_of_row _ _ i _ _ (0, 0) h1, HREP.out]
    simp [hi]
  have HR := Lib.hid hr
  clear hr hlaA
  refine (HINV.out _).mono ?_
  rintro e w' ⟨rfl, rfl⟩
  go_wp2_with fail
  go_loopw [1] (fun t1 wr => ∃ (F : List Nat) (Q : Nat → Nat), Nums wr t1 F ∧ NotIn w2.heap.size t1 ∧ M.RefK p F0 K F Q ∧ Rw wr w2.heap.size F0.length Q ∧ Below w2.heap.size w2 wr ∧ w2.heap.size < wr.heap.size) (fun t1 _ => lenV t1)
  case atStart => exact ⟨F0, fun _ => 0, HF2.out.below (balloc w2 _), notIn_of HF2.out, HST.out, HR.out, balloc w2 _, by simp⟩
  case round =>
    obtain ⟨F, Q, hF, hfb, hk, hr, hB, hs⟩ := hrel
    have HFB := Lib.hid hfb
    clear hfb
    have NF := Lib.hid hF
    have HK := Lib.hid hk
    have HRR := Lib.hid hr
    have HB := Lib.hid hB
    have HS := Lib.hid hs
    obtain ⟨A5, cap5, rfl, _, _, hC5⟩ := nums_view hF
    have HC5 := Lib.hid hC5
    clear hF hk hr hB hs hC5
    by_cases hle : K.length ≤ F.length
    · obtain ⟨b5, off5, rfl, hb5, hcell5⟩ := HC5.out (by omega)
      have hFl := HK.out.l
      have hbf : w2.heap.size ≠ b5 := HFB.out b5 off5 F.length cap5 rfl (by omega)
      have hx := hcell5 (F.length - 1) (by omega)
      have hxl := M.within_mem HK.out.w (show F.length - 1 < F.length by omega)
      obtain ⟨s, es⟩ : ∃ s, s = F.length - K.length := ⟨_, rfl⟩
      have esI : (F.length : Int) - K.length = (s : Nat) := by omega
      obtain ⟨x, ex⟩ : ∃ x, x = F.getD (F.length - 1) 0 := ⟨_, rfl⟩
      rw [← ex] at hx hxl
      have hmu := fun W => refMul_any p x ld W (by omega) hp hxl hldl
      obtain ⟨c, ec⟩ : ∃ c, c = x * ld % p := ⟨_, rfl⟩
      have hcl : c < p := by rw [ec]; exact Nat.mod_lt _ (by omega)
      rw [← ec] at hmu
      have hc0 : c ≠ 0 := by
        rw [ec, ex, HED.out, HEL.out]
        exact M.quot_ne HI.out HLD.out HK.out.w HK.out.t (by omega)
      have hstep := HK.out.step HI.out HLD.out hle (c := c) (by rw [ec, ex, HED.out, HEL.out])
      rw [← es] at hstep
      obtain ⟨c6, f6⟩ := HRR.out s (by omega)
      have hw1 := HRR.out.set (show s < F0.length by omega) c
      have hb1 := HB.out.setCell (p := ⟨w2.heap.size, s, none⟩) (Nat.le_refl _) (.int .u64 (c : Nat))
      have hb1r : Below w2.heap.size wr (wr.setCell ⟨w2.heap.size, s, none⟩ (.int .u64 (c : Nat))) := (Below.refl _ _).setCell (p := ⟨w2.heap.size, s, none⟩) (Nat.le_refl _) _
      have j1 : (0 : Int) ≤ (F.length : Int) - 1 := by omega
      have j2 : (F.length : Int) - 1 < (F.length : Nat) := by omega
      have j3 : ((F.length : Int) - 1).toNat = F.length - 1 := by omega
      have j4 : IntKind.i64.wrap ((F.length : Int) - 1) = (F.length : Int) - 1 := IntWalk.i64_in _ (by omega)
      have j5 : (1 : Int) ≤ (F.length : Int) := by omega
      have j6 : decide ((K.length : Int) ≤ (F.length : Int)) = true := by simp; omega
      have j7 : (s : Int) < (F0.length : Nat) := by omega
      have HMU := Lib.hid hmu
      have HSTEP := Lib.hid hstep
      have HW1 := Lib.hid hw1
      have HBB := Lib.hid hb1
      clear hmu hstep hw1 hb1 es ex ec hcell5
      go_wp2_with fail
      refine (HMU.out _).mono ?_
      rintro e w' ⟨rfl, rfl⟩
      go_wp2_with fail
      obtain ⟨W1, hW1⟩ : ∃ W1, wr.setCell ⟨w2.heap.size, s, none⟩ (.int .u64 (c : Nat)) = W1 := ⟨_, rfl⟩
      have zW : W1.heap.size = wr.heap.size := by rw [← hW1]; simp
      have hs2 : w2.heap.size < W1.heap.size := by rw [zW]; exact HS.out
      have hRW1 : Rw W1 w2.heap.size F0.length (fun j => if j = s then c else Q j) := by rw [← hW1]; exact HW1.out
      have hB1 : Below w2.heap.size w2 W1 := by rw [← hW1]; exact HBB.out
      have hNK1 : Nums W1 (.slice (some ⟨b4, off4, none⟩) K.length cap4) K := HN2.out.below hB1
      have hNF1 : Nums W1 (.slice (some ⟨b5, off5, none⟩) F.length cap5) F := by
        obtain ⟨n1, n2, n3⟩ := NF.out
        rw [← hW1]
        refine ⟨n1, n2, ?_⟩
        rcases n3 with n3 | ⟨b, off, cap, e, hc, hl, hcell⟩
        · exact .inl n3
        · simp only [Value.slice.injEq, Option.some.injEq, Addr.mk.injEq, and_true] at e
          obtain ⟨⟨rfl, rfl⟩, _, rfl⟩ := e
          refine .inr ⟨b5, off5, cap5, rfl, hc, by simpa using hl, fun i hi => ?_⟩
          rw [World.cell?_setCell_other _ _ _ _ (by intro e; have h1 := congrArg Addr.block e; simp at h1; exact hbf h1)]
          exact hcell i hi
      rw [hW1]
      have hsl : s ≤ 201 := by omega
      have hsp := M.scale_pos HI.out HLD.out hcl hc0
      have hsc := fun W V (h : Nums W V K) => rscale_any p c V K W (by omega) hp hcl HLD.out.1 (by omega) h
      have hLl := M.poly_len p K.length (fun i => K.getD i 0 * c)
      obtain ⟨L, eL⟩ : ∃ L, L = M.pscale p K c := ⟨_, rfl⟩
      have hLp : 0 < L.length := by rw [eL]; exact hsp
      have hLl2 : L.length ≤ 201 := by rw [eL]; unfold M.pscale; omega
      have hsu := fun W V V2 (h : Nums W V F) (h2 : Nums W V2 (List.replicate s 0 ++ L)) => rsub_new p V V2 F (List.replicate s 0 ++ L) W (by omega) hp HK.out.w (by rw [eL]; exact M.shift_within (by omega) _ _ _) (by omega) (by simp; omega) h h2
      have hLw : ∀ x ∈ List.replicate s 0 ++ L, x < 18446744073709551616 := fun x hx => by
        have h1 := M.shift_within (show 0 < p by omega) K s c
        rw [← eL] at h1
        have h2 := List.all_eq_true.1 h1 x hx
        simp at h2; omega
      rw [← eL] at hsc
      have hmk : ∀ W : World, (Instr.makeSlice 31 (.int .i64 (s : Nat)) (.int .i64 (s : Nat))).run Try.prog W = .ok (.slice (some ⟨W.heap.size, 0, none⟩) s s) (W.alloc (.cells (madeCells #[Value.int .u64 0] s) 22)) := fun W => by
        have hrun := run_make (P := Try.prog) W 31 22 i0 (.int .u64 0) Try.underlying31 hi0 hz0 .i64 .i64 s s (by omega) (Int.le_refl _) (by rw [hz2]; omega) (by omega)
        rw [hz1] at hrun
        simpa [Value.cells] using hrun
      have HSC := Lib.hid hsc
      have HSU := Lib.hid hsu
      have HEL2 := Lib.hid eL
      have hLw2 := hLw
      have HNK1 := Lib.hid hNK1
      have HNF1 := Lib.hid hNF1
      have HRW1 := Lib.hid hRW1
      have HB1 := Lib.hid hB1
      clear hsc hsu hLl hW1 hRW1 hB1 hNK1 hNF1 zW hx c6 f6 eL hLw hb1r hsp
      go_region_law (first
        | (go_simp; go_at_call 46; refine (HSC.out _ _ ?_).mono ?_; (first | exact HNK1.out.below (balloc W1 _).drew | exact HNK1.out); rintro e w3 ⟨vs, rfl, hns, hbs⟩; obtain ⟨As, cs, rfl, _, _, hCs⟩ := nums_view hns; obtain ⟨bs, os, rfl, hbls, hcs⟩ := hCs hLp)
        | (go_simp; go_at_call 41; refine (HSU.out _ _ _ ?_ ?_).mono ?_; exact HNF1.out.below hb4'; exact hnv; rintro e w6 ⟨v6, rfl, hn6, hb6, hf6⟩)
        | (refine step_append_lies _ (by rfl) _ _ _ (by rfl) W1.heap.size 22 i0 _ 1 8 Try.underlying31 hi0 hz0 hz1 hz2 rfl (by omega) (.slice (some ⟨W1.heap.size, 0, none⟩) s s) s (List.replicate s (.int .u64 0)) (by rfl) (own_below (owns_zeros W1 W1.heap.size s (Nat.le_refl _) (by omega)) (belowD hbs))
            ⟨bs, os, none⟩ L.length cs (vals L) (by rfl) (by simp [vals]) (cells_vals hcs) (vals_one L) hLp (by unfold maxLen; omega) (by omega) (by have h1 := hbs.size; simp at h1; omega) w3.heap.size rfl ?_; intro gg cp w4 hown' hgrow hat hgl; have hnv := nums_of_owns (vals_zeros s L ▸ hown') hLw2 (by simp; omega); have hb4' : Below W1.heap.size W1 w4 := (bnext (balloc W1 _) (belowD hbs)).grown hgrow (by have h1 := hbs.size; simp at h1; omega) (fun k e => by simp [Value.ownBlock] at e; omega))
        | (refine step_append_lies _ (by rfl) _ _ _ (by rfl) W1.heap.size 22 i0 _ 1 8 Try.underlying31 hi0 hz0 hz1 hz2 rfl (by omega) (.slice (some ⟨w3.heap.size, 0, none⟩) s s) s (List.replicate s (.int .u64 0)) (by rfl) (owns_zeros w3 W1.heap.size s hbs.size (by omega))
            ⟨bs, os, none⟩ L.length cs (vals L) (by rfl) (by simp [vals]) (fun j u hu => cellAl _ (cells_vals hcs j u hu)) (vals_one L) hLp (by unfold maxLen; omega) (by omega) (by have h1 : W1.heap.size ≤ w3.heap.size := hbs.size; simp; omega) (w3.heap.size + 1) (by simp) ?_; intro gg cp w4 hown' hgrow hat hgl; have hnv := nums_of_owns (vals_zeros s L ▸ hown') hLw2 (by simp; omega); have hb4' : Below W1.heap.size W1 w4 := ((belowE hbs).alloc hbs.size _).grown hgrow (by have h1 : W1.heap.size ≤ w3.heap.size := hbs.size; simp; omega) (fun k e => by simp [Value.ownBlock] at e; have h1 : W1.heap.size ≤ w3.heap.size := hbs.size; omega)))
      all_goals
        have hB6 : Below W1.heap.size W1 w6 := bnext hb4' hb6
        have HB6 := Lib.hid (HB1.out.trans (hB6.mono (by omega)))
        have HN6 := Lib.hid hn6
        have HR6 := Lib.hid (HRW1.out.below hB6 hs2)
        have HF6 : Hid (NotIn w2.heap.size v6) := Lib.hid (fun b off n cap e _ => by have h1 := hf6 b off n cap e; have h2 := hb4'.size; omega)
        have HZ6 := Lib.hid (show w2.heap.size < w6.heap.size by have := hB6.size; omega)
        have hnl := HSTEP.out.2
        obtain ⟨A6, cap6, rfl⟩ := nums_slice' hn6
        clear hn6 hb6 hf6 hB6 hb4' hnv hns hcs hbs hown' hgrow hat hgl
        go_wp2_with fail
        refine ⟨?_, ?measure⟩
        (repeat apply Exists.intro)
        refine ⟨?rel, rfl⟩
        case rel => exact ⟨_, _, HN6.out, HF6.out, HEL2.out ▸ HSTEP.out.1, HR6.out, HB6.out, HZ6.out⟩
        case measure => simp [lenV]; rw [HEL2.out]; exact hnl
    · have j6 : decide ((K.length : Int) ≤ (F.length : Int)) = false := by simp; omega
      have hd := HK.out.done HI.out (by omega)
      have HD := Lib.hid hd
      have hnq := HRR.out.nums HS.out (by omega) (fun i _ => by have := HK.out.q i; omega)
      have HT := Lib.hid (rtrim_any _ _ wr hnq)
      clear hd hnq
      go_wp2_with fail
      refine HT.out.mono ?_
      rintro e w5 ⟨v5, rfl, hn5, hb5⟩
      have HN5 := Lib.hid hn5
      have NF5 := Lib.hid (NF.out.below hb5)
      have HB5 := Lib.hid (HB2.out.trans (Below.mono (HB.out.trans (hb5.mono HB.out.size)) HB2.out.size))
      clear hn5 hb5
      go_wp2_with fail
      go_ret2
      exact ⟨_, _, _, _, rfl, HN5.out, NF5.out, HD.out, HB5.out⟩
end Go.Proofs.Ytfkepkdfpjaniaa
