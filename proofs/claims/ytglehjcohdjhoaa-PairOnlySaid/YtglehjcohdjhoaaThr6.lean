/-
  The answers of the reference's Trim, Add and Through as own rows.
-/
import Derived.Test.YtglehjcohdjhoaaRB
namespace Go.Proofs.Ytglehjcohdjhoaa
open Go.RowKit
set_option linter.unusedVariables false

def GivesO (w : World) (zs : List Nat) (e : Ending) (w' : World) : Prop := ∃ v', e = .returned v' ∧ w'.ownsRow w.heap.size 22 1 v' zs.length (vals zs) ∧ Below w.heap.size w w'
theorem own_mono {W : World} {base k : Nat} {e : TypeId} {size : Nat} {v : Value} {n : Nat} {xs : List Value} (h : W.ownsRow base e size v n xs) (hk : k ≤ base) : W.ownsRow k e size v n xs := by
  obtain ⟨h1, h2⟩ := h
  refine ⟨h1, ?_⟩
  rcases h2 with h2 | ⟨g, cap, cur, hv, hg, r⟩
  · exact .inl h2
  · exact .inr ⟨g, cap, cur, hv, Nat.le_trans hk hg, r⟩
theorem within_lt {p : Nat} {l : List Nat} (h : M.within p l = true) : ∀ z ∈ l, z < p := by
  intro z hz
  unfold M.within at h
  simpa using List.all_eq_true.1 h z hz

set_option maxHeartbeats 1000000 in
theorem rtrim_own (v : Value) (zs : List Nat) (w : World) (hv : Nums w v zs) :
    Calls Try.prog 45 #[v] w (GivesO w (M.trim zs)) := by
  have HN := Lib.hid hv
  obtain ⟨A, cap, rfl, hcap, hlen, hC⟩ := nums_view hv
  have HV := Lib.hid hC
  have hud : ∀ b : Bool, undef ≠ Value.bool b := fun b h => by cases h
  clear hv hC
  go_enter Try.func45, Try.ntmps45
  go_wp2_with fail
  go_loop [3] (fun t => ∃ n : Nat, n ≤ zs.length ∧ t = .int .i64 n ∧ ∀ i, n ≤ i → zs.getD i 0 = 0) (fun t => (intOf t).toNat)
  case atStart => exact ⟨zs.length, Nat.le_refl _, rfl, fun i hi => M.getD_ge hi⟩
  case round =>
    obtain ⟨n, hn, rfl, hz⟩ := hrel
    have HZ := Lib.hid hz
    clear hz
    by_cases h0 : n = 0
    · subst h0
      have ht : M.trim zs = [] := M.trim_nil_iff.2 (fun i => HZ.out i (Nat.zero_le _))
      have HT := Lib.hid ht
      have hp0 := nums_prefix0 HN.out
      have HP := Lib.hid hp0
      clear ht hp0
      go_wp2_with (at_builtin; refine wpList_append_nums rfl (.tmp 18) (.tmp 21) rfl w.heap.size _ 0 [] rfl (World.ownsRow_made w #[] 0 (Nat.le_refl _) (by decide) rfl) _ [] rfl (HP.out.below (balloc w _)) (by simp) (by simp) ?_; intro v' w' hown hb; have HO := Lib.hid hown; have HBB := Lib.hid hb; clear hown hb)
      go_ret
      refine ⟨_, rfl, ?_, (balloc w _).trans HBB.out⟩
      rw [HT.out]
      exact HO.out
    · obtain ⟨m, rfl⟩ : ∃ m, n = m + 1 := ⟨n - 1, by omega⟩
      obtain ⟨b, off, rfl, hb, hcell⟩ := HV.out (by omega)
      have hc := hcell m (by omega)
      obtain ⟨x, hx⟩ : ∃ x, x = zs.getD m 0 := ⟨_, rfl⟩
      rw [← hx] at hc
      have HX := Lib.hid hx
      clear hx hcell h0
      by_cases hx0 : x = 0
      · have hbq : ((x : Int) == 0) = true := by rw [beq_iff_eq]; omega
        have H0 := Lib.hid hx0
        clear hx0
        go_wp2_with fail
        go_round
        case rel =>
          refine ⟨m, by omega, by go_num, fun i hi => ?_⟩
          by_cases he : i = m
          · subst he; rw [← HX.out]; exact H0.out
          · exact HZ.out i (by omega)
        case measure => simp [intOf]
      · have hbq : ((x : Int) == 0) = false := by rw [beq_eq_false_iff_ne]; omega
        have ht : M.tlen zs = m + 1 := M.tlen_unique (fun i hi => HZ.out i hi) (.inr (by rw [Nat.add_sub_cancel, ← HX.out]; exact hx0))
        have HT := Lib.hid ht
        have hpp := nums_prefix HN.out (m := m + 1) hn
        have HP := Lib.hid hpp
        have hll : (zs.take (m + 1)).length = m + 1 := by rw [List.length_take]; omega
        have HLL := Lib.hid hll
        have hu : ∀ y ∈ zs.take (m + 1), y < 18446744073709551616 := fun y hy => HN.out.1 y (List.mem_of_mem_take hy)
        have HU := Lib.hid hu
        clear ht hpp hx0 hll hu
        go_wp2_with (at_builtin; refine wpList_append_nums rfl (.tmp 18) (.tmp 21) rfl w.heap.size _ 0 [] rfl (World.ownsRow_made w #[] 0 (Nat.le_refl _) (by decide) rfl) _ (zs.take (m + 1)) rfl (HP.out.below (balloc w _)) (by rw [HLL.out]; omega) (by simp) ?_; intro v' w' hown hb; have HO := Lib.hid hown; have HBB := Lib.hid hb; clear hown hb)
        go_ret
        refine ⟨_, rfl, ?_, (balloc w _).trans HBB.out⟩
        unfold M.trim
        rw [HT.out]
        have ho := HO.out
        rw [Nat.zero_add] at ho
        exact ho

set_option maxHeartbeats 1000000 in
theorem radd_own (p : Nat) (vf vg : Value) (f g : List Nat) (w : World) (h2 : 0 < p) (hp : p ≤ 65537) (hwf : M.within p f = true) (hwg : M.within p g = true) (hfl : f.length ≤ 1000) (hgl : g.length ≤ 1000) (hf : Nums w vf f) (hg : Nums w vg g) :
    Calls Try.prog 93 #[.int .u64 p, vf, vg] w (GivesO w (M.padd p f g)) := by
  obtain ⟨A, cap, rfl, _, hlf, _⟩ := nums_view hf
  obtain ⟨A2, cap2, rfl, _, hlg, _⟩ := nums_view hg
  have HF := Lib.hid hf
  have HG := Lib.hid hg
  have HWF := Lib.hid hwf
  have HWG := Lib.hid hwg
  obtain ⟨i0, hi0, hz0, hz1, hz2⟩ := info_parts infoU64
  obtain ⟨n, en⟩ : ∃ n, n = max f.length g.length := ⟨_, rfl⟩
  have hn1 : f.length ≤ n := by omega
  have hn2 : g.length ≤ n := by omega
  have EN := Lib.hid en
  have hnl : n ≤ 1000 := by omega
  clear hf hg hwf hwg en
  rcases Nat.lt_or_ge f.length g.length with hm | hm
  all_goals
    go_enter Try.func93, Try.ntmps93
    go_wp2_with (refine wpList_make_rowL _ rfl _ _ 30 rfl 22 i0 (.int .u64 0) Try.underlying30 hi0 hz0 hz1 rfl .i64 .i64 _ _ n rfl rfl (by have := EN.out; omega) (by have := EN.out; omega) (by rw [hz2]; omega) (by omega) ?_; intro rep hrep; have HREP := Lib.hid hrep; clear hrep)
    have hr : Rw (w.alloc (.cells rep.toArray 22)) w.heap.size n (someOf (fun i => (f.getD i 0 + g.getD i 0) % p) 0) := by
      intro i hi
      have h1 := World.alloc_heap_new w (.cells rep.toArray 22)
      refine ⟨?_, frozen_of_row _ _ i _ _ h1⟩
      rw [cell_of_row _ _ i _ _ (0, 0) h1, HREP.out]
      simp [someOf, hi]
    have HR := Lib.hid hr
    clear hr
    go_loopw [17] (fun t wr => ∃ k : Nat, k ≤ n ∧ t = .int .i64 k ∧ Rw wr w.heap.size n (someOf (fun i => (f.getD i 0 + g.getD i 0) % p) k) ∧ Below w.heap.size w wr ∧ w.heap.size < wr.heap.size) (fun t _ => n - (intOf t).toNat)
    case atStart => exact ⟨0, by omega, rfl, HR.out, balloc w _, by simp⟩
    case round =>
      obtain ⟨k, hk, rfl, hr, hB, hsz⟩ := hrel
      have HB := Lib.hid hB
      have HR2 := Lib.hid hr
      have HS2 := Lib.hid hsz
      clear hB hr hsz
      by_cases hlt : k < n
      · have hx := M.within_getD h2 HWF.out k
        have hy := M.within_getD h2 HWG.out k
        have ht1 := Lib.hid (rat_any _ f k wr (by omega) (HF.out.at (Nat.le_refl _) HB.out HF.out))
        have ht2 := Lib.hid (rat_any _ g k wr (by omega) (HG.out.at (Nat.le_refl _) HB.out HG.out))
        have hst := someOf_step (fun i => (f.getD i 0 + g.getD i 0) % p) k
        obtain ⟨x, ex⟩ : ∃ x, x = f.getD k 0 := ⟨_, rfl⟩
        obtain ⟨y, ey⟩ : ∃ y, y = g.getD k 0 := ⟨_, rfl⟩
        rw [← ex] at hx ht1 hst
        rw [← ey] at hy ht2 hst
        have ha := refAdd_any p x y wr (by omega) hp hx hy
        obtain ⟨z, ez⟩ : ∃ z, z = (x + y) % p := ⟨_, rfl⟩
        rw [← ez] at ha hst
        have HA := Lib.hid ha
        obtain ⟨c3, f3⟩ := HR2.out k hlt
        have hr4 := (HR2.out.set hlt z).congr (fun i _ => hst i)
        have hB4 := HB.out.setCell (p := ⟨w.heap.size, k, none⟩) (Nat.le_refl _) (.int .u64 ((z : Nat) : Int))
        have HR4 := Lib.hid hr4
        have HB4 := Lib.hid hB4
        have hi1 : (k : Int) < (n : Nat) := by omega
        clear ex ey hst ha ez hr4 hB4
        go_wp2_with fail
        refine ht1.out.mono ?_
        rintro e w' ⟨rfl, rfl⟩
        go_wp2_with fail
        refine ht2.out.mono ?_
        rintro e w' ⟨rfl, rfl⟩
        go_wp2_with fail
        refine HA.out.mono ?_
        rintro e w' ⟨rfl, rfl⟩
        go_wp2_with fail
        go_roundw
        case rel => exact ⟨k + 1, by omega, by go_num, HR4.out, HB4.out, by simpa using HS2.out⟩
        case measure => simp [intOf]; omega
      · obtain rfl : k = n := by omega
        have hN5 := (HR2.out.congr (G := fun i => (f.getD i 0 + g.getD i 0) % p) (fun i hi => by unfold someOf; rw [if_pos hi])).nums HS2.out (by omega) (fun i _ => by have := Nat.mod_lt (f.getD i 0 + g.getD i 0) h2; omega)
        have HT := Lib.hid (rtrim_own _ _ wr hN5)
        clear hN5
        go_wp2_with fail
        refine HT.out.mono ?_
        rintro e w2 ⟨v2, rfl, hn3, hb3⟩
        have B3 := Lib.hid (bnext HB.out hb3)
        have N3 := Lib.hid (own_mono hn3 HB.out.size)
        clear hn3 hb3
        go_wp2_with fail
        go_ret
        refine ⟨_, rfl, ?_, B3.out⟩
        unfold M.padd M.poly
        rw [← EN.out]
        exact N3.out

set_option maxHeartbeats 4000000 in
theorem rthrough_own (p : Nat) (v : Value) (xs ys : List Nat) (w : World) (hi : M.isP p = true) (hxl : xs.length ≤ 201) (hwx : M.within p xs = true) (hwy : M.within p ys = true) (hn : xs.Nodup) (hv : Pts w v xs ys) :
    Calls Try.prog 74 #[.int .u64 p, v] w fun e w' => ∃ v' f, e = .returned v' ∧ w'.ownsRow w.heap.size 22 1 v' f.length (vals f) ∧ M.Thru p xs ys f ∧ Below w.heap.size w w' := by
  obtain ⟨h3, hp⟩ := M.pos_of hi
  have HP := Lib.hid hv
  have hyl := hv.1
  obtain ⟨_, _, _, _, A, cap, rfl, _, hcells⟩ := hv
  have HI := Lib.hid hi
  have HWX := Lib.hid hwx
  have HWY := Lib.hid hwy
  have HYL := Lib.hid hyl
  have HN := Lib.hid hn
  have HV := Lib.hid hcells
  have PL := Lib.hid fun W (h : Pts W (.slice A xs.length cap) xs ys) => rplaces_any _ xs ys W h
  clear hi hwx hwy hyl hcells hn
  go_enter Try.func74, Try.ntmps74
  go_wp2_with fail
  go_loopw [5, 10] (fun t5 t wr => ∃ (k : Nat) (f : List Nat), k ≤ xs.length ∧ t = .int .i64 k ∧ wr.ownsRow w.heap.size 22 1 t5 f.length (vals f) ∧ M.LagK p xs ys k f ∧ Below w.heap.size w wr) (fun _ t _ => xs.length - (intOf t).toNat)
  case atStart => exact ⟨0, [], by omega, rfl, World.ownsRow_nil _ _ _ _, M.LagK.start _ _ _, Below.refl _ _⟩
  case round =>
    obtain ⟨k, f, hk, rfl, hf, hL, hB⟩ := hrel
    have HFO := Lib.hid hf
    have hfll := hL.2.2.1
    have HF := Lib.hid (nums_of_owns hf (fun z hz => by have := within_lt hL.1 z hz; omega) (by omega))
    have HLK := Lib.hid hL
    have HB := Lib.hid hB
    clear hf hL hB hfll
    by_cases hlt : k < xs.length
    · obtain ⟨b, off, rfl, hb, hcell⟩ := HV.out (by omega)
      have hc1 := (HB.out.cell (p := ⟨b, off + k * 2, none⟩) hb).trans (hcell k hlt).1
      have hc2 := (HB.out.cell (p := ⟨b, off + k * 2 + 1, none⟩) hb).trans (hcell k hlt).2
      have hy := M.within_mem HWY.out (show k < ys.length by have := HYL.out; omega)
      have hst := fun u (hu : M.UnitK p xs k xs.length u) => M.LagK.step HI.out HWX.out HWY.out HYL.out HN.out hlt HLK.out hu
      obtain ⟨x, ex⟩ : ∃ x, x = xs.getD k 0 := ⟨_, rfl⟩
      obtain ⟨y, ey⟩ : ∃ y, y = ys.getD k 0 := ⟨_, rfl⟩
      rw [← ex] at hc1
      rw [← ey] at hc2 hy hst
      have hb1 : wr.heap.size ≠ b := by have := HB.out.size; omega
      have hul : ∀ u, M.UnitK p xs k xs.length u → u.length ≤ 202 := fun u hu => by have := hu.2.1; unfold M.cnt at this; split at this <;> omega
      have hfl := HLK.out.2.2.1
      have u1 := fun W V (h1 : Nums W V xs) => unit_any p k V xs W h3 hp HWX.out hxl hlt h1
      have s1 := fun W V u (hu : M.UnitK p xs k xs.length u) (h1 : Nums W V u) => rscale_any p y V u W (by omega) hp hy hu.1 (by have := hul u hu; omega) h1
      have a1 := fun W V V2 u (hu : M.UnitK p xs k xs.length u) (h1 : Nums W V f) (h2 : Nums W V2 (M.pscale p u y)) => radd_own p V V2 f (M.pscale p u y) W (by omega) hp HLK.out.1 (M.poly_within (by omega) _ _) (by omega) (by have := hul u hu; have := M.poly_len p u.length (fun i => u.getD i 0 * y); unfold M.pscale; omega) h1 h2
      have U1 := Lib.hid u1
      have S1 := Lib.hid s1
      have A1 := Lib.hid a1
      have HST := Lib.hid hst
      have HPD : Hid (Pts (wr.alloc (.cells #[.int .u64 x, .int .u64 y] 109)).drew (.slice (some ⟨b, off, none⟩) xs.length cap) xs ys) := Lib.hid ((HP.out.below HB.out).below (balloc wr _).drew)
      have HFD : Hid (Nums (wr.alloc (.cells #[.int .u64 x, .int .u64 y] 109)).drew u5 f) := Lib.hid (HF.out.below (balloc wr _).drew)
      have cyD : Hid ((wr.alloc (.cells #[.int .u64 x, .int .u64 y] 109)).drew.cell? ⟨wr.heap.size, 1, none⟩ = some (.int .u64 y)) := Lib.hid (by simp)
      clear ex ey hcell u1 s1 a1 hst hul
      go_wp2_with fail
      go_region_with (first
        | (go_at_call 96; refine (PL.out _ HPD.out).mono ?_; rintro e w3 ⟨v3, rfl, hn3, hb3⟩; have cy3 := (hb3.cell (p := ⟨wr.heap.size, 1, none⟩) (by simp)).trans cyD.out)
        | (go_at_call 95; refine (U1.out _ _ (by assumption)).mono ?_; rintro e w4 ⟨v4, u, rfl, hn4, hu4, hb4⟩; have cy4 := (hb4.cell (p := ⟨wr.heap.size, 1, none⟩) (World.block_lt_of_cell? _ _ cy3)).trans cy3)
        | (go_at_call 94; refine (S1.out _ _ u hu4 (by assumption)).mono ?_; rintro e w5 ⟨v5, rfl, hn5, hb5⟩)
        | (go_at_call 93; refine (A1.out _ _ _ u hu4 (((HFD.out.below hb3).below hb4).below hb5) (by assumption)).mono ?_; rintro e w6 ⟨v6, rfl, hn6, hb6⟩))
      all_goals
        have hB3 := Below.trans (balloc wr (.cells #[.int .u64 x, .int .u64 y] 109)).drew (Below.mono hb3 (by simp))
        have HB6 := Lib.hid (bnext (bnext (bnext (bnext HB.out hB3) hb4) hb5) hb6)
        have HN6 := Lib.hid (own_mono hn6 (bnext (bnext (bnext HB.out hB3) hb4) hb5).size)
        have HU := Lib.hid hu4
        clear hb3 hb4 hb5 hb6 hn3 hn4 hn5 hn6 cy3 cy4 hB3 hu4
        go_wp2_with fail
        go_roundw
        case rel => exact ⟨k + 1, _, by omega, by go_num, HN6.out, HST.out _ HU.out, HB6.out⟩
        case measure => simp [intOf]; omega
    · obtain rfl : k = xs.length := by omega
      go_wp2_with fail
      go_ret
      exact ⟨_, f, rfl, HFO.out, HLK.out.done, HB.out⟩
end Go.Proofs.Ytglehjcohdjhoaa
