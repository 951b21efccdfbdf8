/-
  The reference's Trim, Add, Sub answer slices of their own.
-/
import Derived.Test.YtafoonhmfieikaaRef2b
namespace Go.Proofs.Ytafoonhmfieikaa
open Go.RowKit
set_option linter.unusedVariables false

/-- a slice that lies in no block below n -/
def Fresh (n : Nat) (v : Value) : Prop := ∀ b off m cap, v = .slice (some ⟨b, off, none⟩) m cap → n ≤ b
theorem Fresh.mono {n k : Nat} {v : Value} (h : Fresh n v) (hk : k ≤ n) : Fresh k v := fun b off m cap e => Nat.le_trans hk (h b off m cap e)
theorem fresh_of {W : World} {base : Nat} {e : TypeId} {size : Nat} {v : Value} {n : Nat} {xs : List Value} (h : W.ownsRow base e size v n xs) : Fresh base v := by
  intro b off m cap e1
  rcases h.2 with ⟨e2, _⟩ | ⟨g, c, cur, e2, hb, _⟩
  · rw [e1] at e2; cases e2
  · rw [e1] at e2; cases e2; exact hb
def GivesF (w : World) (zs : List Nat) (e : Ending) (w' : World) : Prop := ∃ v', e = .returned v' ∧ Nums w' v' zs ∧ Below w.heap.size w w' ∧ Fresh w.heap.size v'

set_option maxHeartbeats 1000000 in
theorem rtrim_new (v : Value) (zs : List Nat) (w : World) (hv : Nums w v zs) :
    Calls Try.prog 22 #[v] w (GivesF w (M.trim zs)) := by
  have HN := Lib.hid hv
  obtain ⟨A, cap, rfl, hcap, hlen, hC⟩ := nums_view hv
  have HV := Lib.hid hC
  have hud : ∀ b : Bool, undef ≠ Value.bool b := fun b h => by cases h
  clear hv hC
  go_enter Try.func22, Try.ntmps22
  go_wp2_with fail
  go_loop [3] (fun t => ∃ n : Nat, n ≤ zs.length ∧ t = .int .i64 n ∧ ∀ i, n ≤ i → zs.getD i 0 = 0) (fun t => (intOf t).toNat)
  case atStart => exact ⟨zs.length, Nat.le_refl _, rfl, fun i hi => M.getD_ge hi⟩
  case round =>
    obtain ⟨n, hn, rfl, hz⟩ := hrel
    have HZ := Lib.hid hz
    clear hz
    by_cases h0 : n = 0
    · subst h0
      have ht : M.trim zs = [] := M.trim_nil_iff.2 (fun i => HZ.out i (Nat.zero_le _))
      have HT := Lib.hid ht
      have hp0 := nums_prefix0 HN.out
      have HP := Lib.hid hp0
      clear ht hp0
      go_wp2_with (at_builtin; refine wpList_append_nums rfl (.tmp 18) (.tmp 21) rfl w.heap.size _ 0 [] rfl (World.ownsRow_made w #[] 0 (Nat.le_refl _) (by decide) rfl) _ [] rfl (HP.out.below (balloc w _)) (by simp) (by simp) ?_; intro v' w' hown hb; have HO := Lib.hid hown; have HBB := Lib.hid hb; clear hown hb)
      go_ret
      refine ⟨_, rfl, ?_, (balloc w _).trans HBB.out, fresh_of HO.out⟩
      rw [HT.out]
      exact nums_of_owns (zs := []) HO.out (by simp) (by simp)
    · obtain ⟨m, rfl⟩ : ∃ m, n = m + 1 := ⟨n - 1, by omega⟩
      obtain ⟨b, off, rfl, hb, hcell⟩ := HV.out (by omega)
      have hc := hcell m (by omega)
      obtain ⟨x, hx⟩ : ∃ x, x = zs.getD m 0 := ⟨_, rfl⟩
      rw [← hx] at hc
      have HX := Lib.hid hx
      clear hx hcell h0
      by_cases hx0 : x = 0
      · have hbq : ((x : Int) == 0) = true := by rw [beq_iff_eq]; omega
        have H0 := Lib.hid hx0
        clear hx0
        go_wp2_with fail
        go_round
        case rel =>
          refine ⟨m, by omega, by go_num, fun i hi => ?_⟩
          by_cases he : i = m
          · subst he; rw [← HX.out]; exact H0.out
          · exact HZ.out i (by omega)
        case measure => simp [intOf]
      · have hbq : ((x : Int) == 0) = false := by rw [beq_eq_false_iff_ne]; omega
        have ht : M.tlen zs = m + 1 := M.tlen_unique (fun i hi => HZ.out i hi) (.inr (by rw [Nat.add_sub_cancel, ← HX.out]; exact hx0))
        have HT := Lib.hid ht
        have hpp := nums_prefix HN.out (m := m + 1) hn
        have HP := Lib.hid hpp
        have hll : (zs.take (m + 1)).length = m + 1 := by rw [List.length_take]; omega
        have HLL := Lib.hid hll
        have hu : ∀ y ∈ zs.take (m + 1), y < 18446744073709551616 := fun y hy => HN.out.1 y (List.mem_of_mem_take hy)
        have HU := Lib.hid hu
        clear ht hpp hx0 hll hu
        go_wp2_with (at_builtin; refine wpList_append_nums rfl (.tmp 18) (.tmp 21) rfl w.heap.size _ 0 [] rfl (World.ownsRow_made w #[] 0 (Nat.le_refl _) (by decide) rfl) _ (zs.take (m + 1)) rfl (HP.out.below (balloc w _)) (by rw [HLL.out]; omega) (by simp) ?_; intro v' w' hown hb; have HO := Lib.hid hown; have HBB := Lib.hid hb; clear hown hb)
        go_ret
        refine ⟨_, rfl, ?_, (balloc w _).trans HBB.out, fresh_of HO.out⟩
        unfold M.trim
        rw [HT.out]
        exact nums_of_owns HO.out HU.out (by rw [HLL.out]; omega)

set_option maxHeartbeats 1000000 in
theorem radd_new (p : Nat) (vf vg : Value) (f g : List Nat) (w : World) (h2 : 0 < p) (hp : p ≤ 65537) (hwf : M.within p f = true) (hwg : M.within p g = true) (hfl : f.length ≤ 1000) (hgl : g.length ≤ 1000) (hf : Nums w vf f) (hg : Nums w vg g) :
    Calls Try.prog 29 #[.int .u64 p, vf, vg] w (GivesF w (M.padd p f g)) := by
  obtain ⟨A, cap, rfl, _, hlf, _⟩ := nums_view hf
  obtain ⟨A2, cap2, rfl, _, hlg, _⟩ := nums_view hg
  have HF := Lib.hid hf
  have HG := Lib.hid hg
  have HWF := Lib.hid hwf
  have HWG := Lib.hid hwg
  obtain ⟨i0, hi0, hz0, hz1, hz2⟩ := info_parts infoU64
  obtain ⟨n, en⟩ : ∃ n, n = max f.length g.length := ⟨_, rfl⟩
  have hn1 : f.length ≤ n := by omega
  have hn2 : g.length ≤ n := by omega
  have EN := Lib.hid en
  have hnl : n ≤ 1000 := by omega
  clear hf hg hwf hwg en
  rcases Nat.lt_or_ge f.length g.length with hm | hm
  all_goals
    go_enter Try.func29, Try.ntmps29
    go_wp2_with (refine wpList_make_rowL _ rfl _ _ 23 rfl 22 i0 (.int .u64 0) Try.underlying23 hi0 hz0 hz1 rfl .i64 .i64 _ _ n rfl rfl (by have := EN.out; omega) (by have := EN.out; omega) (by rw [hz2]; omega) (by omega) ?_; intro rep hrep; have HREP := Lib.hid hrep; clear hrep)
    have hr : Rw (w.alloc (.cells rep.toArray 22)) w.heap.size n (someOf (fun i => (f.getD i 0 + g.getD i 0) % p) 0) := by
      intro i hi
      have h1 := World.alloc_heap_new w (.cells rep.toArray 22)
      refine ⟨?_, frozen_of_row _ _ i _ _ h1⟩
      rw [cell_of_row _ _ i _ _ (0, 0) h1, HREP.out]
      simp [someOf, hi]
    have HR := Lib.hid hr
    clear hr
    go_loopw [17] (fun t wr => ∃ k : Nat, k ≤ n ∧ t = .int .i64 k ∧ Rw wr w.heap.size n (someOf (fun i => (f.getD i 0 + g.getD i 0) % p) k) ∧ Below w.heap.size w wr ∧ w.heap.size < wr.heap.size) (fun t _ => n - (intOf t).toNat)
    case atStart => exact ⟨0, by omega, rfl, HR.out, balloc w _, by simp⟩
    case round =>
      obtain ⟨k, hk, rfl, hr, hB, hsz⟩ := hrel
      have HB := Lib.hid hB
      have HR2 := Lib.hid hr
      have HS2 := Lib.hid hsz
      clear hB hr hsz
      by_cases hlt : k < n
      · have hx := M.within_getD h2 HWF.out k
        have hy := M.within_getD h2 HWG.out k
        have ht1 := Lib.hid (rat_any _ f k wr (by omega) (HF.out.at (Nat.le_refl _) HB.out HF.out))
        have ht2 := Lib.hid (rat_any _ g k wr (by omega) (HG.out.at (Nat.le_refl _) HB.out HG.out))
        have hst := someOf_step (fun i => (f.getD i 0 + g.getD i 0) % p) k
        obtain ⟨x, ex⟩ : ∃ x, x = f.getD k 0 := ⟨_, rfl⟩
        obtain ⟨y, ey⟩ : ∃ y, y = g.getD k 0 := ⟨_, rfl⟩
        rw [← ex] at hx ht1 hst
        rw [← ey] at hy ht2 hst
        have ha := refAdd_any p x y wr (by omega) hp hx hy
        obtain ⟨z, ez⟩ : ∃ z, z = (x + y) % p := ⟨_, rfl⟩
        rw [← ez] at ha hst
        have HA := Lib.hid ha
        obtain ⟨c3, f3⟩ := HR2.out k hlt
        have hr4 := (HR2.out.set hlt z).congr (fun i _ => hst i)
        have hB4 := HB.out.setCell (p := ⟨w.heap.size, k, none⟩) (Nat.le_refl _) (.int .u64 ((z : Nat) : Int))
        have HR4 := Lib.hid hr4
        have HB4 := Lib.hid hB4
        have hi1 : (k : Int) < (n : Nat) := by omega
        clear ex ey hst ha ez hr4 hB4
        go_wp2_with fail
        refine ht1.out.mono ?_
        rintro e w' ⟨rfl, rfl⟩
        go_wp2_with fail
        refine ht2.out.mono ?_
        rintro e w' ⟨rfl, rfl⟩
        go_wp2_with fail
        refine HA.out.mono ?_
        rintro e w' ⟨rfl, rfl⟩
        go_wp2_with fail
        go_roundw
        case rel => exact ⟨k + 1, by omega, by go_num, HR4.out, HB4.out, by simpa using HS2.out⟩
        case measure => simp [intOf]; omega
      · obtain rfl : k = n := by omega
        have hN5 := (HR2.out.congr (G := fun i => (f.getD i 0 + g.getD i 0) % p) (fun i hi => by unfold someOf; rw [if_pos hi])).nums HS2.out (by omega) (fun i _ => by have := Nat.mod_lt (f.getD i 0 + g.getD i 0) h2; omega)
        have HT := Lib.hid (rtrim_new _ _ wr hN5)
        clear hN5
        go_wp2_with fail
        refine HT.out.mono ?_
        rintro e w2 ⟨v2, rfl, hn3, hb3, hf3⟩
        have B3 := Lib.hid (bnext HB.out hb3)
        have N3 := Lib.hid hn3
        have F3 := Lib.hid (hf3.mono HB.out.size)
        clear hn3 hb3 hf3
        go_wp2_with fail
        go_ret
        refine ⟨_, rfl, ?_, B3.out, F3.out⟩
        unfold M.padd M.poly
        rw [← EN.out]
        exact N3.out

set_option maxHeartbeats 1000000 in
theorem rsub_new (p : Nat) (vf vg : Value) (f g : List Nat) (w : World) (h2 : 1 < p) (hp : p ≤ 65537) (hwf : M.within p f = true) (hwg : M.within p g = true) (hfl : f.length ≤ 1000) (hgl : g.length ≤ 1000) (hf : Nums w vf f) (hg : Nums w vg g) :
    Calls Try.prog 30 #[.int .u64 p, vf, vg] w (GivesF w (M.psub p f g)) := by
  have HF := Lib.hid hf
  have hs := rscale_any p (p - 1) vg g w (by omega) hp (by omega) hwg hgl hg
  rw [show (((p - 1 : Nat)) : Int) = (p : Int) - 1 by omega] at hs
  have HS := Lib.hid hs
  have hw1 : M.within p (M.pscale p g (p - 1)) = true := M.poly_within (by omega) _ _
  have hl1 : (M.pscale p g (p - 1)).length ≤ g.length := M.poly_len p g.length (fun i => g.getD i 0 * (p - 1))
  have ha := fun W v (h1 : Nums W vf f) (h2' : Nums W v (M.pscale p g (p - 1))) => radd_new p vf v f (M.pscale p g (p - 1)) W (by omega) hp hwf hw1 hfl (by omega) h1 h2'
  rw [M.psub_ref (by omega) hwg] at ha
  have HA := Lib.hid ha
  obtain ⟨A, cap, rfl⟩ := nums_slice' hf
  obtain ⟨A2, cap2, rfl⟩ := nums_slice' hg
  clear hf hg hwf hwg hs ha hw1 hl1
  go_enter Try.func30, Try.ntmps30
  go_wp2_with fail
  refine HS.out.mono ?_
  rintro e w1 ⟨v1, rfl, hn1, hb1⟩
  have H1 := Lib.hid (HA.out w1 v1 (HF.out.below hb1) hn1)
  have B1 := Lib.hid hb1
  clear hb1 hn1
  go_wp2_with fail
  refine H1.out.mono ?_
  rintro e w2 ⟨v2, rfl, hn2, hb2, hf2⟩
  have B2 := Lib.hid (bnext B1.out hb2)
  have N2 := Lib.hid hn2
  have F2 := Lib.hid (hf2.mono B1.out.size)
  clear hn2 hb2 hf2
  go_wp2_with fail
  go_ret
  exact ⟨_, rfl, N2.out, B2.out, F2.out⟩
end Go.Proofs.Ytafoonhmfieikaa
