/-
  Layer 4's reference: Sum and Scale; rows and columns (merged).
-/
import Derived.Test.YtgoognipljknjaaSumP
import Derived.Test.YtgoognipljknjaaSnoc
import Derived.Test.YtgoognipljknjaaAll4
namespace Go.Proofs.Ytgoognipljknjaa
open Go.RowKit
set_option linter.unusedVariables false
set_option maxRecDepth 100000

namespace M
/-- every share times c -/
def sclL (p : Nat) (zs : List Nat) (c n : Nat) : List Nat := tabM n fun i => zs.getD i 0 * c % p
theorem tabM_snoc (n : Nat) (F : Nat → Nat) : tabM (n + 1) F = tabM n F ++ [F n] := by simp [tabM, List.range_succ]
end M

set_option maxHeartbeats 2000000 in
theorem rscale4_any (p c : Nat) (n t : Int) (v : Value) (zs : List Nat) (w : World) (hi : M.isP p = true) (hc : c < p) (hl : zs.length ≤ 1000) (hwf : M.within p zs = true) (hv : Nums w v zs) :
    Calls Try.prog 48 #[suV p n t, v, .int .u64 c] w (Gives w (M.sclL p zs c zs.length)) := by
  obtain ⟨h3, hp⟩ := M.pos_of hi
  have hB0 := balloc w (.cells #[.int .u64 p, .int .i64 n, .int .i64 t] 40)
  have hK0 := kept3 w w.heap.size rfl (.int .u64 p) (.int .i64 n) (.int .i64 t) 40
  obtain ⟨w0, hw0⟩ : ∃ w0, w.alloc (.cells #[.int .u64 p, .int .i64 n, .int .i64 t] 40) = w0 := ⟨_, rfl⟩
  have hs0 : w0.heap.size = w.heap.size + 1 := by rw [← hw0]; simp
  rw [hw0] at hB0 hK0
  have B0 := Lib.hid hB0
  have K0 := Lib.hid hK0
  have HV := Lib.hid hv
  have HS0 := Lib.hid hs0
  have HW := Lib.hid hwf
  obtain ⟨A, cap, rfl⟩ := nums_slice' hv
  obtain ⟨i0, hi0, hz0, hz1, hz2⟩ := info_parts infoU64
  unfold suV
  clear hv hi hB0 hK0 hs0 hwf
  go_enter Try.func48, Try.ntmps48
  go_wp2_with fail
  clear hw0
  go_loopw [7, 12] (fun tv ti wr => ∃ k : Nat, k ≤ zs.length ∧ ti = .int .i64 k ∧ wr.ownsRow (w.heap.size + 1) 22 1 tv k (vals (M.sclL p zs c k)) ∧ Below w0.heap.size w0 wr) (fun _ ti _ => zs.length - (intOf ti).toNat)
  case atStart => exact ⟨0, by omega, rfl, World.ownsRow_nil _ _ _ _, Below.refl _ _⟩
  case round =>
    obtain ⟨k, hk, rfl, hown, hB⟩ := hrel
    have HO := Lib.hid hown
    have HBr := Lib.hid hB
    obtain ⟨d0, d1, d2⟩ := (K0.out.below hB).c3
    have hsz : w.heap.size + 1 ≤ wr.heap.size := by have := hB.size; have := HS0.out; omega
    clear hown hB
    by_cases hlt : k < zs.length
    · obtain ⟨b, off, rfl, hb, hc0⟩ := nums_cell HV.out hlt
      have hcx := (HBr.out.cell (p := ⟨b, off + k, none⟩) (by have := HS0.out; dsimp only; omega)).trans ((B0.out.cell (p := ⟨b, off + k, none⟩) hb).trans hc0)
      have hx := M.within_mem HW.out hlt
      have hsn : vals (M.sclL p zs c (k + 1)) = vals (M.sclL p zs c k) ++ [.int .u64 (zs.getD k 0 * c % p : Nat)] := by unfold M.sclL; rw [M.tabM_snoc, vals_snoc]
      obtain ⟨x, ex⟩ : ∃ x, x = zs.getD k 0 := ⟨_, rfl⟩
      rw [← ex] at hcx hx hsn
      have hm := fun W => refMul_any p x c W (by omega) hp hx hc
      obtain ⟨z, ez⟩ : ∃ z, z = x * c % p := ⟨_, rfl⟩
      have hzl : z < p := by rw [ez]; exact Nat.mod_lt _ (by omega)
      rw [← ez] at hm hsn
      have HMU := Lib.hid hm
      have HSN := Lib.hid hsn
      have hkn : (k : Int) < (zs.length : Nat) := by omega
      clear ex ez hc0 hsn hm
      go_wp2_with fail
      refine (HMU.out _).mono ?_
      rintro e w' ⟨rfl, rfl⟩
      go_wp2_with (at_builtin; refine wpList_append_nums (by rfl) _ _ (by rfl) (w.heap.size + 1) _ k _ (by rfl) (HO.out.alloc _) _ [z] (by rfl) (nums1 wr z (by omega)) (by simp; omega) (by simp; omega) ?_)
      intro v' w4 hown' hb4
      have hg2 : Below (w.heap.size + 1) wr w4 := ((Below.refl (w.heap.size + 1) wr).alloc (by omega) _).trans hb4
      have HB4 := Lib.hid (HBr.out.trans (hg2.mono (by rw [HS0.out]; exact Nat.le_refl _)))
      have hown' : w4.ownsRow (w.heap.size + 1) 22 1 v' (k + 1) _ := hown'
      rw [show vals [z] = [Value.int .u64 (z : Nat)] from rfl, ← HSN.out] at hown'
      have HOW := Lib.hid hown'
      clear hown' hb4 hg2
      go_wp2_with fail
      go_roundw
      case rel => exact ⟨k + 1, by omega, by go_num, HOW.out, HB4.out⟩
      case measure => simp [intOf]; omega
    · obtain rfl : k = zs.length := by omega
      have hN := nums_of_owns HO.out (fun x hx => by
        unfold M.sclL M.tabM at hx
        obtain ⟨i, _, rfl⟩ := List.mem_map.1 hx
        have := Nat.mod_lt (zs.getD i 0 * c) (show 0 < p by omega)
        omega) (by simp [M.sclL, M.tabM]; omega)
      have HN := Lib.hid hN
      clear hN
      go_wp2_with fail
      go_ret
      exact ⟨_, rfl, HN.out, bnext B0.out HBr.out⟩

theorem M.col_add {p : Nat} {m : List (List Nat)} (q k : Nat) (hk : k < m.length) : M.sumK (M.colK m q) (k + 1) = M.sumK (M.colK m q) k + (m.getD k []).getD q 0 := by
  show M.sumK (M.colK m q) k + (M.colK m q).getD k 0 = _
  unfold M.colK
  rw [M.tabM_get, if_pos hk]

set_option maxHeartbeats 4000000 in
theorem rsum4_any (p N : Nat) (t : Int) (v : Value) (m : List (List Nat)) (w : World) (hi : M.isP p = true) (hN : N ≤ 13) (hrow : ∀ i, i < m.length → (m.getD i []).length = N) (hcol : ∀ q, q < N → M.within p (M.colK m q) = true) (hv : Mat w v m) :
    Calls Try.prog 46 #[suV p (N : Int) t, v] w (Gives w (M.tabM N fun q => M.sumK (M.colK m q) m.length % p)) := by
  obtain ⟨h3, hp⟩ := M.pos_of hi
  obtain ⟨A, cap, rfl⟩ := mat_view hv
  have hLl := hv.1
  have hB0 := balloc w (.cells #[.int .u64 p, .int .i64 N, .int .i64 t] 40)
  have hK0 := kept3 w w.heap.size rfl (.int .u64 p) (.int .i64 N) (.int .i64 t) 40
  obtain ⟨w0, hw0⟩ : ∃ w0, w.alloc (.cells #[.int .u64 p, .int .i64 N, .int .i64 t] 40) = w0 := ⟨_, rfl⟩
  have hs0 : w0.heap.size = w.heap.size + 1 := by rw [← hw0]; simp
  rw [hw0] at hB0 hK0
  have B0 := Lib.hid hB0
  have HM := Lib.hid hv
  have HS0 := Lib.hid hs0
  have HROW := Lib.hid hrow
  have HC := Lib.hid hcol
  have HA := Lib.hid fun x y W hx hy => refAdd_any p x y W (by omega) hp hx hy
  obtain ⟨i0, hi0, hz0, hz1, hz2⟩ := info_parts infoU64
  have hd := hK0.c3
  have K0 := Lib.hid hK0
  unfold suV
  obtain ⟨d0, d1, d2⟩ := hd
  clear hv hi hB0 hK0 hs0 hrow hcol
  go_enter Try.func46, Try.ntmps46
  go_wp2_with (refine wpList_make_full _ rfl _ _ 24 rfl w0.heap.size 22 i0 (.int .u64 0) 1 Try.underlying24 hi0 hz0 hz1 .i64 .i64 _ _ N rfl rfl rfl rfl ?c1 ?c2 ?c3 ?_)
  case c1 => first | omega | (rw [hz2]; omega)
  try (case c2 => unfold maxLen; omega)
  try (case c3 => exact Nat.le_refl _)
  intro w2 hown hgrow
  rw [toList_madeCells_one] at hown
  have S2 := Lib.hid ((Below.refl w0.heap.size w0).grown hgrow (Nat.le_refl _) (by simp))
  have HR2 := Lib.hid (Rw.start hown rfl)
  have L2 := (own_lt hown).2
  have K2 := Lib.hid (K0.out.below S2.out)
  obtain ⟨g, eg⟩ : ∃ g, w0.heap.size = g := ⟨_, rfl⟩
  rw [eg] at HR2 L2 HS0 S2 ⊢
  have HG := Lib.hid eg
  clear hown hgrow eg hw0 d0 d1 d2
  go_wp2_with fail
  go_loopw [14] (fun ti wr => ∃ k : Nat, k ≤ m.length ∧ ti = .int .i64 k ∧ g < wr.heap.size ∧ Below g w2 wr ∧ Rw wr g N (fun q => M.sumK (M.colK m q) k % p)) (fun ti _ => m.length - (intOf ti).toNat)
  case atStart => exact ⟨0, by omega, rfl, L2, Below.refl _ _, HR2.out.congr (fun i hi => by simp [M.sumK])⟩
  case round =>
    obtain ⟨k, hk, rfl, hgw, hB, hr⟩ := hrel
    have HBr := Lib.hid hB
    have HRr := Lib.hid hr
    clear hB hr
    by_cases hlt : k < m.length
    · obtain ⟨b, off, u, rfl, hb, hcu, hNu⟩ := mat_cell HM.out (i := k) hlt
      have hbg : b < g := by have := HS0.out; omega
      have hc := (HBr.out.cell (p := ⟨b, off + k, none⟩) hbg).trans ((S2.out.cell (p := ⟨b, off + k, none⟩) hbg).trans ((B0.out.cell (p := ⟨b, off + k, none⟩) hb).trans hcu))
      obtain ⟨Au, capu, rfl⟩ := nums_slice' hNu
      rw [HROW.out k hlt] at hc hNu
      have HNu := Lib.hid hNu
      have hkn : (k : Int) < (m.length : Nat) := by omega
      clear hcu hNu
      go_wp2_with fail
      go_loopw [20] (fun tj wr2 => ∃ j : Nat, j ≤ N ∧ tj = .int .i64 j ∧ g < wr2.heap.size ∧ Below g w2 wr2 ∧ Rw wr2 g N (fun q => if q < j then M.sumK (M.colK m q) (k + 1) % p else M.sumK (M.colK m q) k % p)) (fun tj _ => N - (intOf tj).toNat)
      case atStart => exact ⟨0, by omega, rfl, hgw, HBr.out, HRr.out.congr (fun i hi => by simp)⟩
      case round =>
        obtain ⟨j, hj, rfl, hgw2, hB2, hr2⟩ := hrel
        have HB2 := Lib.hid hB2
        have HR2' := Lib.hid hr2
        clear hB2 hr2
        by_cases hltj : j < N
        · obtain ⟨b2, off2, rfl, hb2, hc2⟩ := nums_cell HNu.out (i := j) (by rw [HROW.out k hlt]; exact hltj)
          have hbg2 : b2 < g := by have := HS0.out; omega
          obtain ⟨e0, e1, e2⟩ := K2.out.c3
          have f0 := (HB2.out.cell (p := ⟨w.heap.size, 0, none⟩) (by have := HS0.out; dsimp only; omega)).trans e0
          have hx := (HB2.out.cell (p := ⟨b2, off2 + j, none⟩) hbg2).trans ((S2.out.cell (p := ⟨b2, off2 + j, none⟩) hbg2).trans ((B0.out.cell (p := ⟨b2, off2 + j, none⟩) hb2).trans hc2))
          have hxl : (m.getD k []).getD j 0 < p := by
            have h := HC.out j hltj
            have h2 := M.within_mem h (k := k) (by rw [M.colK_len]; exact hlt)
            unfold M.colK at h2
            rw [M.tabM_get, if_pos hlt] at h2
            exact h2
          have hst := M.col_add (p := p) j k hlt
          have hyl : M.sumK (M.colK m j) k % p < p := Nat.mod_lt _ (by omega)
          obtain ⟨x, ex⟩ : ∃ x, x = (m.getD k []).getD j 0 := ⟨_, rfl⟩
          obtain ⟨y, ey⟩ : ∃ y, y = M.sumK (M.colK m j) k % p := ⟨_, rfl⟩
          have hsum : M.sumK (M.colK m j) (k + 1) % p = (y + x) % p := by rw [hst, ← ex, ey, Nat.mod_add_mod]
          rw [← ex] at hx hxl
          obtain ⟨q1, q2⟩ := HR2'.out j hltj
          dsimp only at q1
          rw [if_neg (by omega), ← ey] at q1
          rw [← ey] at hyl
          have ha := fun W => HA.out y x W hyl hxl
          obtain ⟨z, ez⟩ : ∃ z, z = (y + x) % p := ⟨_, rfl⟩
          rw [← ez] at ha hsum
          have HAD := Lib.hid ha
          have HZ := Lib.hid hsum
          have HSET := Lib.hid (HR2'.out.set hltj z)
          have HB3 := Lib.hid (HB2.out.setCell (p := ⟨g, j, none⟩) (Nat.le_refl _) (.int .u64 (z : Nat)))
          have hjn : (j : Int) < (N : Nat) := by omega
          clear ex ey ez ha hsum hst hc2 e0 e1 e2
          go_wp2_with fail
          refine wp_region_still_tail 14 (by kernel_rfl) (by kernel_rfl) ?_
          simp only [List.take_succ_cons, List.take_zero, List.drop_succ_cons, List.drop_zero]
          repeat still_step
          still_call ((HAD.out _).mono fun e w' ⟨h1, h2⟩ => ⟨h1, h2.symm⟩)
          repeat still_step
          refine wpStill_nil ?_
          change wpList _ _ _ _ _ wr.drew
          go_wp2_with fail
          go_roundw
          case rel =>
            refine ⟨j + 1, by omega, by go_num, by simpa using hgw2, HB3.out.drew, HSET.out.congr (fun q hq => ?_)⟩
            by_cases h : q = j
            · subst h; rw [if_pos rfl, if_pos (by omega)]; exact HZ.out.symm
            · rw [if_neg h]
              by_cases h2 : q < j
              · rw [if_pos h2, if_pos (by omega)]
              · rw [if_neg h2, if_neg (by omega)]
          case measure => simp [intOf]; omega
        · obtain rfl : j = N := by omega
          go_wp2_with fail
          go_roundw
          case rel => exact ⟨k + 1, by omega, by go_num, hgw2, HB2.out, HR2'.out.congr (fun q hq => by rw [if_pos hq])⟩
          case measure => simp [intOf]; omega
    · obtain rfl : k = m.length := by omega
      have hN' := HRr.out.nums hgw (by omega) (fun q hq => by have := Nat.mod_lt (M.sumK (M.colK m q) m.length) (show 0 < p by omega); omega)
      have HN := Lib.hid hN'
      have BF := Lib.hid (B0.out.trans ((S2.out.trans HBr.out).mono (by have := HS0.out; omega)))
      clear hN'
      go_wp2_with fail
      go_ret
      exact ⟨_, rfl, HN.out, BF.out⟩
end Go.Proofs.Ytgoognipljknjaa
namespace Go.Proofs.Ytgoognipljknjaa
open Go.RowKit
set_option linter.unusedVariables false
set_option maxRecDepth 100000

def ScGood (p : Nat) (n t : Int) (zs : List Nat) (c : Nat) : Prop := M.okS p n t = true ∧ (zs.length : Int) = n ∧ M.within p zs = true ∧ c < p
def ScEnd (w : World) (p : Nat) (n t : Int) (zs : List Nat) (c : Nat) (e : Ending) (w' : World) : Prop :=
  (ScGood p n t zs c ∧ Gives2 w (M.sclL p zs c zs.length) e w') ∨ (¬ ScGood p n t zs c ∧ Fails2 w 2 e w')

theorem scaleS_any (p c : Nat) (n t : Int) (v : Value) (zs : List Nat) (w : World) (hp : p < 18446744073709551616) (hn1 : -9223372036854775808 ≤ n) (hn2 : n ≤ 9223372036854775807) (ht1 : -9223372036854775808 ≤ t) (ht2 : t ≤ 9223372036854775807) (hc : c < 18446744073709551616) (hv : Nums w v zs) :
    Calls Try.prog 47 #[suV p n t, v, .int .u64 c] w (ScEnd w p n t zs c) := by
  by_cases h : M.okS p n t = true ∧ (zs.length : Int) = n
  · obtain ⟨hok, hl⟩ := h
    obtain ⟨N, T, rfl, rfl, hi, h1, h2, h3, h4⟩ := M.okS_nat hok
    have hl' : zs.length = N := by omega
    refine (scale_run p N c T v zs w hok hc hv hl').mono ?_
    rintro e w' (⟨u, rfl, hN, hE, hb⟩ | ⟨k, hk, hE, _, rfl, hb⟩)
    · have hall : ∀ k, k < N → zs.getD k 0 < p ∧ c < p := fun k hk => by
        have := hE k hk
        unfold M.sclE at this
        by_cases h : zs.getD k 0 < p ∧ c < p
        · exact h
        · rw [if_neg h] at this; cases this
      refine .inl ⟨⟨hok, hl, M.within_of fun i hi => (hall i (by omega)).1, (hall 0 (by omega)).2⟩, u, rfl, ?_, hb⟩
      rw [tab_congr (G := fun i => zs.getD i 0 * c % p) (fun i hi => by unfold M.sclF; rw [if_pos (hall i hi)])] at hN
      rw [hl']
      exact hN
    · refine .inr ⟨fun h => hE ?_, ?_, hb⟩
      · unfold M.sclE
        rw [if_pos ⟨M.within_mem h.2.2.1 (by omega), h.2.2.2⟩]
      · unfold M.sclE at hE ⊢
        split
        · rename_i h; rw [if_pos h] at hE; exact absurd rfl hE
        · rfl
  · refine (scale_no p c n t v zs w hp hn1 hn2 ht1 ht2 hc hv ?_).mono ?_
    · cases hok : M.okS p n t with
      | false => exact .inl rfl
      | true => exact .inr fun h2 => h ⟨hok, h2⟩
    · intro e w' hf
      exact .inr ⟨fun hg => h ⟨hg.1, hg.2.1⟩, hf⟩

/-- the lists before the k-th are as long as there are parties and hold field elements -/
def GoodTo (p : Nat) (n t : Int) (m : List (List Nat)) (k : Nat) : Prop := M.okS p n t = true ∧ ∀ i, i < k → ((m.getD i []).length : Int) = n ∧ M.within p (m.getD i []) = true
theorem goodTo_all {p : Nat} {n t : Int} {m : List (List Nat)} : GoodTo p n t m m.length ↔ SumGood p n t m := by
  constructor
  · rintro ⟨hok, h⟩
    refine ⟨hok, fun i hi => (h i hi).1, fun q hq => M.within_of fun i hi => ?_⟩
    rw [M.colK_len] at hi
    unfold M.colK
    rw [M.tabM_get, if_pos hi]
    exact M.within_mem (h i hi).2 (by have := (h i hi).1; omega)
  · rintro ⟨hok, hl, hc⟩
    refine ⟨hok, fun i hi => ⟨hl i hi, M.within_of fun q hq => ?_⟩⟩
    have h := M.within_mem (hc q (by have := hl i hi; omega)) (k := i) (by rw [M.colK_len]; exact hi)
    unfold M.colK at h
    rw [M.tabM_get, if_pos hi] at h
    exact h
theorem goodTo_zero {p : Nat} {n t : Int} {m : List (List Nat)} : GoodTo p n t m 0 ↔ M.okS p n t = true := ⟨fun h => h.1, fun h => ⟨h, fun i hi => absurd hi (by omega)⟩⟩
/-- the law's 'bad' behind k lists -/
def Bad (p : Nat) (n t : Int) (m : List (List Nat)) (k : Nat) (b : Int) : Prop := (b = 0 ∧ GoodTo p n t m k) ∨ (b = 2 ∧ ¬ GoodTo p n t m k)
theorem bad_zero (p : Nat) (n t : Int) (m : List (List Nat)) : Bad p n t m 0 (M.errS p n t) := by
  unfold Bad M.errS
  rw [goodTo_zero]
  by_cases h : M.okS p n t = true
  · rw [if_pos h]; exact .inl ⟨rfl, h⟩
  · rw [if_neg h]; exact .inr ⟨rfl, h⟩
theorem bad_skip {p : Nat} {n t : Int} {m : List (List Nat)} {k : Nat} (h : ¬ GoodTo p n t m k) : Bad p n t m (k + 1) 2 :=
  .inr ⟨rfl, fun h2 => h ⟨h2.1, fun i hi => h2.2 i (by omega)⟩⟩
theorem bad_all {p : Nat} {n t : Int} {m : List (List Nat)} {k : Nat} (h : GoodTo p n t m k) : Bad p n t m (k + 1) (if ((m.getD k []).length : Int) = n then errOf (M.within p (m.getD k [])) else 2) := by
  by_cases h1 : ((m.getD k []).length : Int) = n
  · rw [if_pos h1]
    cases hw : M.within p (m.getD k []) with
    | true =>
      refine .inl ⟨rfl, h.1, fun i hi => ?_⟩
      by_cases e : i = k
      · subst e; exact ⟨h1, hw⟩
      · exact h.2 i (by omega)
    | false => exact .inr ⟨rfl, fun h2 => by have := (h2.2 k (by omega)).2; rw [hw] at this; cases this⟩
  · rw [if_neg h1]
    exact .inr ⟨rfl, fun h2 => h1 (h2.2 k (by omega)).1⟩
end Go.Proofs.Ytgoognipljknjaa
