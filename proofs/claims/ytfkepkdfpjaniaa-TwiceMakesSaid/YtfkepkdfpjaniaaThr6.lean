/-
  The answers of the reference's Trim, Add and Through as own rows.
-/
import Derived.Test.YtfkepkdfpjaniaaRB
namespace Go.Proofs.Ytfkepkdfpjaniaa
open Go.RowKit
set_option linter.unusedVariables false

def GivesO (w : World) (zs : List Nat) (e : Ending) (w' : World) : Prop := ∃ v', e = .returned v' ∧ w'.ownsRow w.heap.size 22 1 v' zs.length (vals zs) ∧ Below w.heap.size w w'
theorem own_mono {W : World} {base k : Nat} {e : TypeId} {size : Nat} {v : Value} {n : Nat} {xs : List Value} (h : W.ownsRow base e size v n xs) (hk : k ≤ base) : W.ownsRow k e size v n xs := by
  obtain ⟨h1, h2⟩ := h
  refine ⟨h1, ?_⟩
  rcases h2 with h2 | ⟨g, cap, cur, hv, hg, r⟩
  · exact .inl h2
  · exact .inr ⟨g, cap, cur, hv, Nat.le_trans hk hg, r⟩
theorem within_lt {p : Nat} {l : List Nat} (h : M.within p l = true) : ∀ z ∈ l, z < p := by
  intro z hz
  unfold M.within at h
  simpa using List.all_eq_true.1 h z hz

set_option maxHeartbeats 1000000 in
theorem rtrim_own (v : Value) (zs : List Nat) (w : World) (hv : Nums w v zs) :
    Calls Try.prog 43 #[v] w (GivesO w (M.trim zs)) := by
  have HN := Lib.hid hv
  obtain ⟨A, cap, rfl, hcap, hlen, hC⟩ := nums_view hv
  have HV := Lib.hid hC
  have hud : ∀ b : Bool, undef ≠ Value.bool b := fun b h => by cases h
  clear hv hC
  go_enter Try.func43, Try.ntmps43
  go_wp2_with fail
  go_loop [3] (fun t => ∃ n : Nat, n ≤ zs.length ∧ t = .int .i64 n ∧ ∀ i, n ≤ i → zs.getD i 0 = 0) (fun t => (intOf t).toNat)
  case atStart => exact ⟨zs.length, Nat.le_refl _, rfl, fun i hi => M.getD_ge hi⟩
  case round =>
    obtain ⟨n, hn, rfl, hz⟩ := hrel
    have HZ := Lib.hid hz
    clear hz
    by_cases h0 : n = 0
    · subst h0
      have ht : M.trim zs = [] := M.trim_nil_iff.2 (fun i => HZ.out i (Nat.zero_le _))
      have HT := Lib.hid ht
      have hp0 := nums_prefix0 HN.out
      have HP := Lib.hid hp0
      clear ht hp0
      go_wp2_with (at_builtin; refine wpList_append_nums rfl (.tmp 18) (.tmp 21) rfl w.heap.size _ 0 [] rfl (World.ownsRow_made w #[] 0 (Nat.le_refl _) (by decide) rfl) _ [] rfl (HP.out.below (balloc w _)) (by simp) (by simp) ?_; intro v' w' hown hb; have HO := Lib.hid hown; have HBB := Lib.hid hb; clear hown hb)
      go_ret
      refine ⟨_, rfl, ?_, (balloc w _).trans HBB.out⟩
      rw [HT.out]
      exact HO.out
    · obtain ⟨m, rfl⟩ : ∃ m, n = m + 1 := ⟨n - 1, by omega⟩
      obtain ⟨b, off, rfl, hb, hcell⟩ := HV.out (by omega)
      have hc := hcell m (by omega)
      obtain ⟨x, hx⟩ : ∃ x, x = zs.getD m 0 := ⟨_, rfl⟩
      rw [← hx] at hc
      have HX := Lib.hid hx
      clear hx hcell h0
      by_cases hx0 : x = 0
      · have hbq : ((x : Int) == 0) = true := by rw [beq_iff_eq]; omega
        have H0 := Lib.hid hx0
        clear hx0
        go_wp2_with fail
        go_round
        case rel =>
          refine ⟨m, by omega, by go_num, fun i hi => ?_⟩
          by_cases he : i = m
          · subst he; rw [← HX.out]; exact H0.out
          · exact HZ.out i (by omega)
        case measure => simp [intOf]
      · have hbq : ((x : Int) == 0) = false := by rw [beq_eq_false_iff_ne]; omega
        have ht : M.tlen zs = m + 1 := M.tlen_unique (fun i hi => HZ.out i hi) (.inr (by rw [Nat.add_sub_cancel, ← HX.out]; exact hx0))
        have HT := Lib.hid ht
        have hpp := nums_prefix HN.out (m := m + 1) hn
        have HP := Lib.hid hpp
        have hll : (zs.take (m + 1)).length = m + 1 := by rw [List.length_take]; omega
        have HLL := Lib.hid hll
        have hu : ∀ y ∈ zs.take (m + 1), y < 18446744073709551616 := fun y hy => HN.out.1 y (List.mem_of_mem_take hy)
        have HU := Lib.hid hu
        clear ht hpp hx0 hll hu
        go_wp2_with (at_builtin; refine wpList_append_nums rfl (.tmp 18) (.tmp 21) rfl w.heap.size _ 0 [] rfl (World.ownsRow_made w #[] 0 (Nat.le_refl _) (by decide) rfl) _ (zs.take (m + 1)) rfl (HP.out.below (balloc w _)) (by rw [HLL.out]; omega) (by simp) ?_; intro v' w' hown hb; have HO := Lib.hid hown; have HBB := Lib.hid hb; clear hown hb)
        go_ret
        refine ⟨_, rfl, ?_, (balloc w _).trans HBB.out⟩
        unfold M.trim
        rw [HT.out]
        have ho := HO.out
        rw [Nat.zero_add] at ho
        exact ho

set_option maxHeartbeats 1000000 in
theorem radd_own (p : Nat) (vf vg : Value) (f g : List Nat) (w : World) (h2 : 0 < p) (hp : p ≤ 65537) (hwf : M.within p f = true) (hwg : M.within p g = true) (hfl : f.length ≤ 1000) (hgl : g.length ≤ 1000) (hf : Nums w vf f) (hg : Nums w vg g) :
    Calls Try.prog 39 #[.int .u64 p, vf, vg] w (GivesO w (M.padd p f g)) := by
  obtain ⟨A, cap, rfl, _, hlf, _⟩ := nums_view hf
  obtain ⟨A2, cap2, rfl, _, hlg, _⟩ := nums_view hg
  have HF := Lib.hid hf
  have HG := Lib.hid hg
  have HWF := Lib.hid hwf
  have HWG := Lib.hid hwg
  obtain ⟨i0, hi0, hz0, hz1, hz2⟩ := info_parts infoU64
  obtain ⟨n, en⟩ : ∃ n, n = max f.length g.length := ⟨_, rfl⟩
  have hn1 : f.length ≤ n := by omega
  have hn2 : g.length ≤ n := by omega
  have EN := Lib.hid en
  have hnl : n ≤ 1000 := by omega
  clear hf hg hwf hwg en
  rcases Nat.lt_or_ge f.length g.length with hm | hm
  all_goals
    go_enter Try.func39, Try.ntmps39
    go_wp2_with (refine wpList_make_rowL _ rfl _ _ 31 rfl 22 i0 (.int .u64 0) Try.underlying31 hi0 hz0 hz1 rfl .i64 .i64 _ _ n rfl rfl (by have := EN.out; omega) (by have := EN.out; omega) (by rw [hz2]; omega) (by omega) ?_; intro rep hrep; have HREP := Lib.hid hrep; clear hrep)
    have hr : Rw (w.alloc (.cells rep.toArray 22)) w.heap.size n (someOf (fun i => (f.getD i 0 + g.getD i 0) % p) 0) := by
      intro i hi
      have h1 := World.alloc_heap_new w (.cells rep.toArray 22)
      refine ⟨?_, frozen_of_row _ _ i _ _ h1⟩
      rw [cell_of_row _ _ i _ _ (0, 0) h1, HREP.out]
      simp [someOf, hi]
    have HR := Lib.hid hr
    clear hr
    go_loopw [17] (fun t wr => ∃ k : Nat, k ≤ n ∧ t = .int .i64 k ∧ Rw wr w.heap.size n (someOf (fun i => (f.getD i 0 + g.getD i 0) % p) k) ∧ Below w.heap.size w wr ∧ w.heap.size < wr.heap.size) (fun t _ => n - (intOf t).toNat)
    case atStart => exact ⟨0, by omega, rfl, HR.out, balloc w _, by simp⟩
    case round =>
      obtain ⟨k, hk, rfl, hr, hB, hsz⟩ := hrel
      have HB := Lib.hid hB
      have HR2 := Lib.hid hr
      have HS2 := Lib.hid hsz
      clear hB hr hsz
      by_cases hlt : k < n
      · have hx := M.within_getD h2 HWF.out k
        have hy := M.within_getD h2 HWG.out k
        have ht1 := Lib.hid (rat_any _ f k wr (by omega) (HF.out.at (Nat.le_refl _) HB.out HF.out))
        have ht2 := Lib.hid (rat_any _ g k wr (by omega) (HG.out.at (Nat.le_refl _) HB.out HG.out))
        have hst := someOf_step (fun i => (f.getD i 0 + g.getD i 0) % p) k
        obtain ⟨x, ex⟩ : ∃ x, x = f.getD k 0 := ⟨_, rfl⟩
        obtain ⟨y, ey⟩ : ∃ y, y = g.getD k 0 := ⟨_, rfl⟩
        rw [← ex] at hx ht1 hst
        rw [← ey] at hy ht2 hst
        have ha := refAdd_any p x y wr (by omega) hp hx hy
        obtain ⟨z, ez⟩ : ∃ z, z = (x + y) % p := ⟨_, rfl⟩
        rw [← ez] at ha hst
        have HA := Lib.hid ha
        obtain ⟨c3, f3⟩ := HR2.out k hlt
        have hr4 := (HR2.out.set hlt z).congr (fun i _ => hst i)
        have hB4 := HB.out.setCell (p := ⟨w.heap.size, k, none⟩) (Nat.le_refl _) (.int .u64 ((z : Nat) : Int))
        have HR4 := Lib.hid hr4
        have HB4 := Lib.hid hB4
        have hi1 : (k : Int) < (n : Nat) := by omega
        clear ex ey hst ha ez hr4 hB4
        go_wp2_with fail
        refine ht1.out.mono ?_
        rintro e w' ⟨rfl, rfl⟩
        go_wp2_with fail
        refine ht2.out.mono ?_
        rintro e w' ⟨rfl, rfl⟩
        go_wp2_with fail
        refine HA.out.mono ?_
        rintro e w' ⟨rfl, rfl⟩
        go_wp2_with fail
        go_roundw
        case rel => exact ⟨k + 1, by omega, by go_num, HR4.out, HB4.out, by simpa using HS2.out⟩
        case measure => simp [intOf]; omega
      · obtain rfl : k = n := by omega
        have hN5 := (HR2.out.congr (G := fun i => (f.getD i 0 + g.getD i 0) % p) (fun i hi => by unfold someOf; rw [if_pos hi])).nums HS2.out (by omega) (fun i _ => by have := Nat.mod_lt (f.getD i 0 + g.getD i 0) h2; omega)
        have HT := Lib.hid (rtrim_own _ _ wr hN5)
        clear hN5
        go_wp2_with fail
        refine HT.out.mono ?_
        rintro e w2 ⟨v2, rfl, hn3, hb3⟩
        have B3 := Lib.hid (bnext HB.out hb3)
        have N3 := Lib.hid (own_mono hn3 HB.out.size)
        clear hn3 hb3
        go_wp2_with fail
        go_ret
        refine ⟨_, rfl, ?_, B3.out⟩
        unfold M.padd M.poly
        rw [← EN.out]
        exact N3.out

end Go.Proofs.Ytfkepkdfpjaniaa
