/-
  The walk of PairBothWays: the value is the same both ways, and the rows' values are it.
-/
import Derived.Test.YtglehjcohdjhoaaAl6
import Derived.Test.YtglehjcohdjhoaaPr8
namespace Go.Proofs.Ytglehjcohdjhoaa
open Go.RowKit
set_option linter.unusedVariables false
set_option maxRecDepth 100000

theorem M.made_ok {p s n : Nat} (hp : 0 < p) (hs : s < p) (zs : List Nat) : M.POk p n (M.tabMM n n (M.triF n (M.made p s n zs))) := by
  have hw : M.within p (M.made p s n zs) = true := by
    unfold M.within M.made
    simp only [List.all_cons, Bool.and_eq_true, decide_eq_true_eq, List.all_map, List.all_eq_true, List.mem_range, Function.comp]
    exact ⟨hs, fun i _ => Nat.mod_lt _ hp⟩
  exact M.POk.tab (M.triF_sym n _) fun i k _ _ => M.triF_lt hp hw i k
theorem M.mkE_zero {p s : Nat} {t : Int} (h : M.mkE p s t = 0) : ∃ T : Nat, t = T ∧ T ≤ 3 ∧ M.isP p = true ∧ s < p := by
  unfold M.mkE at h
  split at h
  · rename_i hb
    obtain ⟨T, rfl, hT, hi⟩ := M.bnd_zero hb
    split at h
    · cases h
    · exact ⟨T, rfl, hT, hi, by omega⟩
  · rename_i hb; exact absurd h hb

namespace pairBothWaysW
set_option maxHeartbeats 2000000 in
theorem bad (W : World) (p : Nat) (hp : p < 18446744073709551616) (s : Nat) (t : Int) (v : Value) (zs : List Nat) (hs : s < 18446744073709551616) (h1 : -9223372036854775808 ≤ t) (h2 : t ≤ 9223372036854775807) (hv : Nums W v zs) (x : Nat) (hx : x < 18446744073709551616) (y : Nat) (hy : y < 18446744073709551616) (hc : M.mkE p s t ≠ 0) :
    Calls Try.prog 11 #[.int .u64 p, .agg #[.int .u64 s, .int .i64 t, v], .agg #[.int .u64 x, .int .u64 y]] W fun e W' => e = .returned (.bool true) ∧ Below W.heap.size W W' := by
  have hud : ∀ b : Bool, undef ≠ Value.bool b := fun b h => by cases h
  have MK := Lib.hid fun (w : World) (b : Below W.heap.size W w) => pmake_any p s t v zs w hp hs h1 h2 (hv.below b)
  obtain ⟨c, ec⟩ : ∃ c, M.mkE p s t = c := ⟨_, rfl⟩
  rw [ec] at MK hc
  have hcb : (c != 0) = true := by rw [bne_iff_ne]; exact hc
  have HC := Lib.hid hc
  obtain ⟨A, cap, rfl⟩ := nums_slice' hv
  clear hv ec hc
  go_enter Try.func11, Try.ntmps11
  go_wp2_with fail
  go_region
  go_wp2_with fail
  refine (MK.out _ (bnext (balloc W _) (balloc _ _)).drew).mono ?_
  rintro e w1 (⟨_, rfl, hb⟩ | ⟨h, _⟩)
  case inr => exact absurd h HC.out
  have B1 := Lib.hid (bnext (bnext (balloc W _) (balloc _ _)).drew hb)
  clear hb
  go_wp2_with fail
  refine (alive6_any _).mono ?_
  rintro e w9 ⟨rfl, hb⟩
  have B9 := Lib.hid (bnext B1.out hb)
  clear hb
  go_wp2_with fail
  go_ret
  exact ⟨rfl, B9.out⟩
set_option maxHeartbeats 2000000 in
theorem far (W : World) (p : Nat) (hp : p < 18446744073709551616) (s : Nat) (t : Int) (v : Value) (zs : List Nat) (hs : s < 18446744073709551616) (h1 : -9223372036854775808 ≤ t) (h2 : t ≤ 9223372036854775807) (hv : Nums W v zs) (x : Nat) (hx : x < 18446744073709551616) (y : Nat) (hy : y < 18446744073709551616) (hc : M.mkE p s t = 0) (hf : p ≤ x ∨ p ≤ y) :
    Calls Try.prog 11 #[.int .u64 p, .agg #[.int .u64 s, .int .i64 t, v], .agg #[.int .u64 x, .int .u64 y]] W fun e W' => e = .returned (.bool true) ∧ Below W.heap.size W W' := by
  have hud : ∀ b : Bool, undef ≠ Value.bool b := fun b h => by cases h
  have MK := Lib.hid fun (w : World) (b : Below W.heap.size W w) => pmake_any p s t v zs w hp hs h1 h2 (hv.below b)
  rw [hc] at MK
  have hcb : ((0 : Int) != 0) = false := rfl
  obtain ⟨A, cap, rfl⟩ := nums_slice' hv
  obtain ⟨ds, ed⟩ : ∃ ds, ds = zs.drop (M.triR (t.toNat + 1) (t.toNat + 1) - 1) := ⟨_, rfl⟩
  rw [← ed] at MK
  clear hv hc ed
  by_cases hxp : p ≤ x
  · go_enter Try.func11, Try.ntmps11
    go_wp2_with fail
    go_region
    go_wp2_with fail
    refine (MK.out _ (bnext (balloc W _) (balloc _ _)).drew).mono ?_
    rintro e w1 (⟨h, _⟩ | ⟨_, v1, v2, rfl, hm, hn, hb⟩)
    case inl => exact absurd rfl h
    have B1 := Lib.hid (bnext (bnext (balloc W _) (balloc _ _)).drew hb)
    obtain ⟨A1, c1, rfl, _⟩ := mat_view6 hm
    obtain ⟨A2, c2, rfl⟩ := nums_slice' hn
    clear hb hm hn hf
    go_wp2_with fail
    refine (alive6_any _).mono ?_
    rintro e w9 ⟨rfl, hb⟩
    have B9 := Lib.hid (bnext B1.out hb)
    clear hb
    go_wp2_with fail
    go_ret
    exact ⟨rfl, B9.out⟩
  · have hyp : p ≤ y := by omega
    go_enter Try.func11, Try.ntmps11
    go_wp2_with fail
    go_region
    go_wp2_with fail
    refine (MK.out _ (bnext (balloc W _) (balloc _ _)).drew).mono ?_
    rintro e w1 (⟨h, _⟩ | ⟨_, v1, v2, rfl, hm, hn, hb⟩)
    case inl => exact absurd rfl h
    have B1 := Lib.hid (bnext (bnext (balloc W _) (balloc _ _)).drew hb)
    obtain ⟨A1, c1, rfl, _⟩ := mat_view6 hm
    obtain ⟨A2, c2, rfl⟩ := nums_slice' hn
    clear hb hm hn hf
    go_wp2_with fail
    refine (alive6_any _).mono ?_
    rintro e w9 ⟨rfl, hb⟩
    have B9 := Lib.hid (bnext B1.out hb)
    clear hb
    go_wp2_with fail
    go_ret
    exact ⟨rfl, B9.out⟩
set_option maxHeartbeats 4000000 in
theorem good (W : World) (p T : Nat) (h3 : 3 ≤ p) (hp : p ≤ 65537) (hip : M.isP p = true) (hT : T ≤ 3) (s : Nat) (v : Value) (zs : List Nat) (hs : s < p) (hv : Nums W v zs) (x : Nat) (hx : x < p) (y : Nat) (hy : y < p) :
    Calls Try.prog 11 #[.int .u64 p, .agg #[.int .u64 s, .int .i64 T, v], .agg #[.int .u64 x, .int .u64 y]] W fun e W' => e = .returned (.bool true) ∧ Below W.heap.size W W' := by
  have hud : ∀ b : Bool, undef ≠ Value.bool b := fun b h => by cases h
  have hmk : M.mkE p s T = 0 := by unfold M.mkE; rw [if_pos (M.bnd_ok hip hT), if_neg (by omega)]
  have MK := Lib.hid fun (w : World) (b : Below W.heap.size W w) => pmake_any p s T v zs w (by omega) (by omega) (by omega) (by omega) (hv.below b)
  rw [hmk, Int.toNat_natCast] at MK
  have hcb : ((0 : Int) != 0) = false := rfl
  obtain ⟨A, cap, rfl⟩ := nums_slice' hv
  obtain ⟨ds, ed⟩ : ∃ ds, ds = zs.drop (M.triR (T + 1) (T + 1) - 1) := ⟨_, rfl⟩
  have hm := M.made_ok (n := T + 1) (show 0 < p by omega) hs zs
  obtain ⟨m, em⟩ : ∃ m, m = M.tabMM (T + 1) (T + 1) (M.triF (T + 1) (M.made p s (T + 1) zs)) := ⟨_, rfl⟩
  rw [← ed, ← em] at MK
  rw [← em] at hm
  have hck : M.pchk p T m = 0 := M.pchk_ok hip hT hm
  have hrc : ∀ z, z < p → M.rowC p T m z = 0 := fun z hz => by unfold M.rowC; rw [if_pos hck, if_neg (by omega)]
  have hac : ∀ z u, z < p → u < p → M.atC p T m z u = 0 := fun z u hz hu => by unfold M.atC; rw [if_pos (hrc z hz), if_neg (by omega)]
  have AT := Lib.hid fun (w : World) (u : Value) (z z' : Nat) (hz : z < p) (hz' : z' < p) (h : Mat w u m) => (hac z z' hz hz') ▸ pat_any p T u m z z' w (by omega) (by omega) (by omega) (by omega) (by omega) h
  have RO := Lib.hid fun (w : World) (u : Value) (z : Nat) (hz : z < p) (h : Mat w u m) => (hrc z hz) ▸ prow_any p T u m z w (by omega) (by omega) (by omega) (by omega) h
  simp only [Int.toNat_natCast] at AT RO
  have hsy := M.pat_sym (show 0 < p by omega) hm.sym x y
  have EV1 := Lib.hid fun (w : World) (u : Value) (h : Nums w u (M.rowp p (T + 1) (M.el m) x)) => reval_any p y u (M.rowp p (T + 1) (M.el m) x) w (by omega) hp hy (M.poly_within (by omega) _ _) h
  have EV2 := Lib.hid fun (w : World) (u : Value) (h : Nums w u (M.rowp p (T + 1) (M.el m) y)) => reval_any p x u (M.rowp p (T + 1) (M.el m) y) w (by omega) hp hx (M.poly_within (by omega) _ _) h
  rw [M.pev_rowp] at EV1 EV2
  have AT1 := Lib.hid fun (w : World) (u : Value) (h : Mat w u m) => AT.out w u x y hx hy h
  have AT2 := Lib.hid fun (w : World) (u : Value) (h : Mat w u m) => AT.out w u y x hy hx h
  have RO1 := Lib.hid fun (w : World) (u : Value) (h : Mat w u m) => RO.out w u x hx h
  have RO2 := Lib.hid fun (w : World) (u : Value) (h : Mat w u m) => RO.out w u y hy h
  rw [← hsy] at AT2 EV2
  obtain ⟨a, ea⟩ : ∃ a, a = M.pat p (T + 1) (M.el m) x y := ⟨_, rfl⟩
  rw [← ea] at AT1 AT2 EV1 EV2
  obtain ⟨r1, er1⟩ : ∃ r1, r1 = M.rowp p (T + 1) (M.el m) x := ⟨_, rfl⟩
  obtain ⟨r2, er2⟩ : ∃ r2, r2 = M.rowp p (T + 1) (M.el m) y := ⟨_, rfl⟩
  rw [← er1] at RO1 EV1
  rw [← er2] at RO2 EV2
  have haa : ((a : Int) == (a : Int)) = true := by simp
  clear hv hmk ed em hm hck hrc hac AT RO hsy ea er1 er2
  go_enter Try.func11, Try.ntmps11
  go_wp2_with fail
  go_region
  go_wp2_with fail
  refine (MK.out _ (bnext (balloc W _) (balloc _ _)).drew).mono ?_
  rintro e w1 (⟨h, _⟩ | ⟨_, v1, v2, rfl, hm, hn, hb⟩)
  case inl => exact absurd rfl h
  have B1 := Lib.hid (bnext (bnext (balloc W _) (balloc _ _)).drew hb)
  have q1 := (hb.cell (p := ⟨W.heap.size, 1, none⟩) (by simp <;> omega)).trans (show _ = some (.int .i64 (T : Int)) by simp)
  have hs1 : W.heap.size < w1.heap.size := by have := hb.size; simp at this; omega
  have HM := Lib.hid hm
  have T1 := Lib.hid (AT1.out _ _ hm)
  obtain ⟨A1, c1, rfl, _⟩ := mat_view6 hm
  obtain ⟨A2, c2, rfl⟩ := nums_slice' hn
  clear hb hm hn
  go_wp2_with fail
  refine T1.out.mono ?_
  rintro e w2 ⟨hb, ⟨h, _⟩ | ⟨_, rfl⟩⟩
  case inl => exact absurd rfl h
  have B2 := Lib.hid (bnext B1.out hb)
  have q2 := (hb.cell (p := ⟨W.heap.size, 1, none⟩) hs1).trans q1
  have hs2 : W.heap.size < w2.heap.size := Nat.lt_of_lt_of_le hs1 hb.size
  have HM2 := Lib.hid (HM.out.below hb)
  have T2 := Lib.hid (AT2.out _ _ HM2.out)
  clear hb q1
  go_wp2_with fail
  refine T2.out.mono ?_
  rintro e w3 ⟨hb, ⟨h, _⟩ | ⟨_, rfl⟩⟩
  case inl => exact absurd rfl h
  have B3 := Lib.hid (bnext B2.out hb)
  have q3 := (hb.cell (p := ⟨W.heap.size, 1, none⟩) hs2).trans q2
  have hs3 : W.heap.size < w3.heap.size := Nat.lt_of_lt_of_le hs2 hb.size
  have HM3 := Lib.hid (HM2.out.below hb)
  have T3 := Lib.hid (RO1.out _ _ HM3.out)
  clear hb q2
  go_wp2_with fail
  refine T3.out.mono ?_
  rintro e w4 ⟨hb, ⟨h, _⟩ | ⟨_, u1, rfl, hn1⟩⟩
  case inl => exact absurd rfl h
  have B4 := Lib.hid (bnext B3.out hb)
  have q4 := (hb.cell (p := ⟨W.heap.size, 1, none⟩) hs3).trans q3
  have HM4 := Lib.hid (HM3.out.below hb)
  have T4 := Lib.hid (RO2.out _ _ HM4.out)
  have HN1 := Lib.hid hn1
  obtain ⟨A3, c3, rfl⟩ := nums_slice' hn1
  clear hb q3 hn1
  go_wp2_with fail
  refine T4.out.mono ?_
  rintro e w5 ⟨hb, ⟨h, _⟩ | ⟨_, u2, rfl, hn2⟩⟩
  case inl => exact absurd rfl h
  have B5 := Lib.hid (bnext B4.out hb)
  have E1 := Lib.hid (EV1.out _ _ (HN1.out.below hb))
  have E2 := Lib.hid (EV2.out _ _ hn2)
  obtain ⟨A4, c4, rfl⟩ := nums_slice' hn2
  clear hb q4 hn2
  go_wp2_with fail
  refine E1.out.mono ?_
  rintro e w6 ⟨rfl, rfl⟩
  go_wp2_with fail
  refine E2.out.mono ?_
  rintro e w6 ⟨rfl, rfl⟩
  go_wp2_with fail
  refine (alive6_any _).mono ?_
  rintro e w9 ⟨rfl, hb⟩
  have B9 := Lib.hid (bnext B5.out hb)
  clear hb
  go_wp2_with fail
  go_ret
  exact ⟨rfl, B9.out⟩
theorem walk (W : World) (p : Nat) (hp : p < 18446744073709551616) (s : Nat) (t : Int) (v : Value) (zs : List Nat) (hs : s < 18446744073709551616) (h1 : -9223372036854775808 ≤ t) (h2 : t ≤ 9223372036854775807) (hv : Nums W v zs) (x : Nat) (hx : x < 18446744073709551616) (y : Nat) (hy : y < 18446744073709551616) :
    Calls Try.prog 11 #[.int .u64 p, .agg #[.int .u64 s, .int .i64 t, v], .agg #[.int .u64 x, .int .u64 y]] W fun e W' => e = .returned (.bool true) ∧ Below W.heap.size W W' := by
  by_cases hc : M.mkE p s t = 0
  · by_cases hf : p ≤ x ∨ p ≤ y
    · exact far W p hp s t v zs hs h1 h2 hv x hx y hy hc hf
    · obtain ⟨T, rfl, hT, hi, hsp⟩ := M.mkE_zero hc
      obtain ⟨h3, hp5⟩ := M.pos_of hi
      exact good W p T h3 hp5 hi hT s v zs hsp hv x (by omega) y (by omega)
  · exact bad W p hp s t v zs hs h1 h2 hv x hx y hy hc
end pairBothWaysW
end Go.Proofs.Ytglehjcohdjhoaa
