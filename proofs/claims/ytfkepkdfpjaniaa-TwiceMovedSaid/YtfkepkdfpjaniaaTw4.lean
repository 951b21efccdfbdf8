/-
  Package twice of the program: Moved.
-/
import Derived.Test.YtfkepkdfpjaniaaTw12
import Derived.Test.YtfkepkdfpjaniaaTw3
import Derived.Test.YtfkepkdfpjaniaaTr4
import Derived.Test.YtfkepkdfpjaniaaLvM
import Derived.Test.YtfkepkdfpjaniaaP7b
import Derived.Deep.RegionHeld3
namespace Go.Proofs.Ytfkepkdfpjaniaa
open Go.RowKit
set_option linter.unusedVariables false
set_option maxRecDepth 100000

/-- a row of the moved mask -/
def M.mvQ (p : Nat) (m : List (List Nat)) (z q : List Nat) (k : Nat) : List Nat := M.psub p (m.getD k []) (M.pscale p z (q.getD k 0))
theorem M.mmoved_map (p : Nat) (m : List (List Nat)) (z q : List Nat) : ∀ n, (List.range n).map (M.mvQ p m z q) = M.mmoved p m z q n
  | 0 => rfl
  | n + 1 => by rw [List.range_succ, List.map_append, M.mmoved_map p m z q n]; rfl
/-- the error of Moved -/
def M.mvE (p : Nat) (n t : Int) (m : List (List Nat)) (z q : List Nat) : Int := if M.tchk p n t m = 0 then (if M.shortE p t.toNat z = 0 then M.shortE p t.toNat q else M.shortE p t.toNat z) else M.tchk p n t m
theorem M.tchk_zero {p : Nat} {n t : Int} {m : List (List Nat)} (h : M.tchk p n t m = 0) : M.okS p n t = true ∧ M.TOk p (t.toNat + 1) m := by
  unfold M.tchk at h
  split at h
  · rename_i h1; exact ⟨h1, M.mform_zero h⟩
  · cases h
theorem M.shortE_zero {p T : Nat} {f : List Nat} (h : M.shortE p T f = 0) : f.length ≤ T + 1 ∧ M.within p f = true := by
  unfold M.shortE at h
  split at h
  · cases h
  · split at h
    · rename_i h2; exact ⟨by omega, h2⟩
    · cases h

set_option maxHeartbeats 2000000 in
theorem tmoved_chk (p : Nat) (n0 t : Int) (v vz vq : Value) (m : List (List Nat)) (z q : List Nat) (w : World) (hp : p < 18446744073709551616) (hn1 : -9223372036854775808 ≤ n0) (hn2 : n0 ≤ 9223372036854775807) (ht1 : -9223372036854775808 ≤ t) (ht2 : t ≤ 9223372036854775807) (hv : Mat w v m) (hz : Nums w vz z) (hq : Nums w vq q) (hE : M.tchk p n0 t m ≠ 0) :
    Calls Try.prog 33 #[suV p n0 t, v, vz, vq] w fun e w' => e = .returned (.tuple #[.slice none 0 0, .int .i64 (M.tchk p n0 t m)]) ∧ Below w.heap.size w w' := by
  have HC := Lib.hid fun W (h : Below w.heap.size w W) => tcheck_any p n0 t v m W hp hn1 hn2 ht1 ht2 (hv.below h)
  obtain ⟨A, cap, rfl, _⟩ := mat_view6 hv
  obtain ⟨Az, cz, rfl⟩ := nums_slice' hz
  obtain ⟨Aq, cq, rfl⟩ := nums_slice' hq
  obtain ⟨c, ec⟩ : ∃ c, c = M.tchk p n0 t m := ⟨_, rfl⟩
  rw [← ec] at HC hE ⊢
  have hcb : (c != 0) = true := by rw [bne_iff_ne]; exact hE
  clear hv hz hq ec hE
  unfold suV at HC ⊢
  go_enter Try.func33, Try.ntmps33
  go_wp2_with fail
  refine (HC.out _ (balloc w _)).mono ?_
  rintro e w1 ⟨rfl, hb⟩
  have B1 := Lib.hid (bnext (balloc w _) hb)
  clear hb
  go_wp2_with fail
  go_ret2
  exact ⟨rfl, B1.out⟩

/-- the two lists that are checked -/
def two7 (z q : List Nat) (k : Nat) : List Nat := if k = 0 then z else q
set_option maxHeartbeats 4000000 in
theorem tmoved_any (p T : Nat) (n0 : Int) (v vz vq : Value) (m : List (List Nat)) (z q : List Nat) (w : World) (hn1 : -9223372036854775808 ≤ n0) (hn2 : n0 ≤ 9223372036854775807) (hv : Mat w v m) (hz : Nums w vz z) (hq : Nums w vq q) (hE : M.tchk p n0 T m = 0) :
    Calls Try.prog 33 #[suV p n0 T, v, vz, vq] w fun e w' => (M.mvE p n0 T m z q ≠ 0 ∧ e = .returned (.tuple #[.slice none 0 0, .int .i64 (M.mvE p n0 T m z q)]) ∧ Below w.heap.size w w') ∨
      (M.mvE p n0 T m z q = 0 ∧ ∃ v', e = .returned (.tuple #[v', .int .i64 0]) ∧ Mat w' v' (M.mmoved p m z q (T + 1)) ∧ Below w.heap.size w w') := by
  obtain ⟨hok, hm⟩ := M.tchk_zero hE
  obtain ⟨N, T', rfl, eT, hi, hN1, hN2, hNT, hNp⟩ := M.okS_nat hok
  obtain rfl : T = T' := by omega
  clear eT
  have hT : T ≤ 3 := by omega
  obtain ⟨h3, hp5⟩ := M.pos_of hi
  rw [Int.toNat_natCast] at hm
  have HC := Lib.hid fun W (h : Below w.heap.size w W) => tcheck_any p N T v m W (by omega) hn1 hn2 (by omega) (by omega) (hv.below h)
  rw [hE] at HC
  have HEV := Lib.hid (show M.mvE p N T m z q = if M.shortE p T z = 0 then M.shortE p T q else M.shortE p T z by unfold M.mvE; rw [if_pos hE, Int.toNat_natCast])
  have HSH := Lib.hid fun (k : Nat) (u : Value) (W : World) (h : Nums W u (two7 z q k)) => checkShort_any p T N u (two7 z q k) W hT h
  have HCF := Lib.hid fun (k : Nat) (W : World) (h : Below w.heap.size w W) => coefficient_any k vq q W (hq.below h)
  have HMM := Lib.hid fun (k : Nat) (u : Value) (f : List Nat) (W : World) (hk : k < p) (hf : M.within p f = true) (hfl : f.length ≤ 201) (hz1 : M.within p z = true) (hzl : z.length ≤ 201) (h : Below w.heap.size w W) (hu : Nums W u f) => minusMultiple_any p k u vz f z W hi hk hf hz1 hfl hzl hu (hz.below h)
  obtain ⟨A, cap, rfl, _⟩ := mat_view6 hv
  have HRW := Lib.hid (mat_row hv).2
  have hml := hm.len
  have HOK := Lib.hid hm
  have HZ := Lib.hid hz
  have HQ := Lib.hid hq
  obtain ⟨Az, cz, rfl⟩ := nums_slice' hz
  obtain ⟨Aq, cq, rfl⟩ := nums_slice' hq
  obtain ⟨n, en⟩ : ∃ n, n = T + 1 := ⟨_, rfl⟩
  have hn4 : n ≤ 4 := by omega
  have EN := Lib.hid en
  obtain ⟨cs, hcs, hcz, hmk⟩ := make6_rows n (by omega)
  rw [← en] at hml ⊢
  rw [hml] at HRW HC ⊢
  have hcb0 : ((0 : Int) != 0) = false := rfl
  have HI := Lib.hid hi
  clear hv hz hq hm en hE hok hi hml
  unfold suV at HC HSH ⊢
  go_enter Try.func33, Try.ntmps33
  go_wp2_with fail
  refine (HC.out _ (balloc w _)).mono ?_
  rintro e w1 ⟨rfl, hb⟩
  have hz1 : w.heap.size < w1.heap.size := by have := hb.size; simp at this; omega
  have c0 := (hb.cell (p := ⟨w.heap.size, 0, none⟩) (by simp)).trans (show (w.alloc (.cells #[.int .u64 p, .int .i64 (N : Nat), .int .i64 (T : Nat)] 24)).cell? ⟨w.heap.size, 0, none⟩ = some (.int .u64 (p : Nat)) by simp)
  have c1 := (hb.cell (p := ⟨w.heap.size, 1, none⟩) (by simp)).trans (show (w.alloc (.cells #[.int .u64 p, .int .i64 (N : Nat), .int .i64 (T : Nat)] 24)).cell? ⟨w.heap.size, 1, none⟩ = some (.int .i64 (N : Nat)) by simp)
  have c2 := (hb.cell (p := ⟨w.heap.size, 2, none⟩) (by simp)).trans (show (w.alloc (.cells #[.int .u64 p, .int .i64 (N : Nat), .int .i64 (T : Nat)] 24)).cell? ⟨w.heap.size, 2, none⟩ = some (.int .i64 (T : Nat)) by simp)
  have B1 := Lib.hid (bnext (balloc w _) hb)
  clear hb
  go_wp2_with fail
  obtain ⟨W2, eW2⟩ : ∃ W2, W2 = w1.alloc (.cells #[.slice Az z.length cz, .slice Aq q.length cq] 31) := ⟨_, rfl⟩
  have hb2 : Below w1.heap.size w1 W2 := by rw [eW2]; exact balloc w1 _
  have c0' := (hb2.cell (p := ⟨w.heap.size, 0, none⟩) hz1).trans c0
  have c1' := (hb2.cell (p := ⟨w.heap.size, 1, none⟩) hz1).trans c1
  have c2' := (hb2.cell (p := ⟨w.heap.size, 2, none⟩) hz1).trans c2
  have l0 : W2.cell? ⟨w1.heap.size, 0, none⟩ = some (.slice Az z.length cz) := by rw [eW2]; simp
  have l1 : W2.cell? ⟨w1.heap.size, 1, none⟩ = some (.slice Aq q.length cq) := by rw [eW2]; simp
  have hs2 : w1.heap.size < W2.heap.size := by rw [eW2]; simp
  have hz2 : w.heap.size < W2.heap.size := by omega
  have B2 := Lib.hid (bnext B1.out hb2)
  rw [← eW2]
  clear eW2 hb2 c0 c1 c2
  obtain ⟨ZL, eZL⟩ : ∃ ZL, ZL = z.length := ⟨_, rfl⟩
  obtain ⟨QL, eQL⟩ : ∃ QL, QL = q.length := ⟨_, rfl⟩
  rw [← eZL] at l0 HZ HMM ⊢
  rw [← eQL] at l1 HQ HCF ⊢
  have hsz0 : ∀ W, Below w.heap.size w W → _ := fun W h => HSH.out 0 _ W (HZ.out.below h)
  have hsq0 : ∀ W, Below w.heap.size w W → _ := fun W h => HSH.out 1 _ W (HQ.out.below h)
  rw [show two7 z q 0 = z from rfl] at hsz0
  rw [show two7 z q 1 = q from rfl] at hsq0
  have HSZ := Lib.hid hsz0
  have HSQ := Lib.hid hsq0
  have EZL := Lib.hid eZL
  have EQL := Lib.hid eQL
  clear hsz0 hsq0 HSH eZL eQL
  go_loopw [29] (fun t wr => ∃ k : Nat, k ≤ 2 ∧ t = .int .i64 k ∧ (0 < k → M.shortE p T z = 0) ∧ (1 < k → M.shortE p T q = 0) ∧ Below W2.heap.size W2 wr) (fun t _ => 2 - (intOf t).toNat)
  case atStart => exact ⟨0, by omega, rfl, fun h => absurd h (by omega), fun h => absurd h (by omega), Below.refl _ _⟩
  case round =>
    obtain ⟨k, hk, rfl, hk1, hk2, hB⟩ := hrel
    have HB := Lib.hid hB
    have d0 := (hB.cell (p := ⟨w.heap.size, 0, none⟩) hz2).trans c0'
    have d1 := (hB.cell (p := ⟨w.heap.size, 1, none⟩) hz2).trans c1'
    have d2 := (hB.cell (p := ⟨w.heap.size, 2, none⟩) hz2).trans c2'
    have hBt := bnext B2.out hB
    rcases (by omega : k = 0 ∨ k = 1 ∨ k = 2) with rfl | rfl | rfl
    · have e0 := (hB.cell (p := ⟨w1.heap.size, 0, none⟩) hs2).trans l0
      have HS := Lib.hid (HSZ.out _ hBt)
      clear hB hBt hk1 hk2
      obtain ⟨c, ec⟩ : ∃ c, c = M.shortE p T z := ⟨_, rfl⟩
      rw [← ec] at HS HEV ⊢
      by_cases hc : c = 0
      · subst hc
        have EC := Lib.hid ec
        clear ec
        go_wp2_with fail
        (with_reducible refine HS.out.mono ?_)
        rintro e w3 ⟨rfl, hb3⟩
        have HB3 := Lib.hid (bnext HB.out hb3)
        clear hb3
        go_wp2_with fail
        go_roundw
        case rel => exact ⟨1, by omega, by go_num, fun _ => by trivial, fun h => absurd h (by omega), HB3.out⟩
        case measure => simp [intOf]
      · have hcb : (c != 0) = true := by rw [bne_iff_ne]; exact hc
        have HC0 := Lib.hid hc
        have HE2 := Lib.hid (show M.mvE p N T m z q = c by rw [HEV.out, if_neg hc])
        clear ec hc
        go_wp2_with fail
        (with_reducible refine HS.out.mono ?_)
        rintro e w3 ⟨rfl, hb3⟩
        have HB3 := Lib.hid (bnext B2.out (bnext HB.out hb3))
        clear hb3
        go_wp2_with fail
        go_ret2
        exact .inl ⟨by rw [HE2.out]; exact HC0.out, by rw [HE2.out]; rfl, HB3.out⟩
    · have e0 := (hB.cell (p := ⟨w1.heap.size, 1, none⟩) hs2).trans l1
      have HS := Lib.hid (HSQ.out _ hBt)
      have HZ0 := Lib.hid (hk1 (by omega))
      clear hB hBt hk1 hk2
      obtain ⟨c, ec⟩ : ∃ c, c = M.shortE p T q := ⟨_, rfl⟩
      rw [← ec] at HS HEV ⊢
      by_cases hc : c = 0
      · subst hc
        have EC := Lib.hid ec
        clear ec
        go_wp2_with fail
        (with_reducible refine HS.out.mono ?_)
        rintro e w3 ⟨rfl, hb3⟩
        have HB3 := Lib.hid (bnext HB.out hb3)
        clear hb3
        go_wp2_with fail
        go_roundw
        case rel => exact ⟨2, by omega, by go_num, fun _ => HZ0.out, fun _ => by trivial, HB3.out⟩
        case measure => simp [intOf]
      · have hcb : (c != 0) = true := by rw [bne_iff_ne]; exact hc
        have HC0 := Lib.hid hc
        have HE2 := Lib.hid (show M.mvE p N T m z q = c by rw [HEV.out, if_pos HZ0.out])
        clear ec hc
        go_wp2_with fail
        (with_reducible refine HS.out.mono ?_)
        rintro e w3 ⟨rfl, hb3⟩
        have HB3 := Lib.hid (bnext B2.out (bnext HB.out hb3))
        clear hb3
        go_wp2_with fail
        go_ret2
        exact .inl ⟨by rw [HE2.out]; exact HC0.out, by rw [HE2.out]; rfl, HB3.out⟩
    · have HZ0 := Lib.hid (hk1 (by omega))
      have HQ0 := Lib.hid (hk2 (by omega))
      have HBT := Lib.hid hBt
      clear hB hBt hk1 hk2
      simp only [show ((2 : Nat) : Int) = (2 : Int) from rfl]
      go_wp2_with fail
      obtain ⟨bB, eB⟩ : ∃ B, B = wr.heap.size := ⟨_, rfl⟩
      obtain ⟨W0, eW0⟩ : ∃ W0, W0 = wr.alloc (.cells cs 31) := ⟨_, rfl⟩
      have hB0 : W0.heap[bB]? = some (.cells cs 31 (0, 0)) := by rw [eW0, eB]; exact heap_alloc_new wr _
      have HL0 := Lib.hid (show LayV W0 bB n 0 (M.mvQ p m z q) from ⟨cs, hB0, hcs, fun i hi => absurd hi (by omega), fun i _ hi => hcz i hi⟩)
      have hB01 : Below wr.heap.size wr W0 := by rw [eW0]; exact balloc wr _
      have HB0 := Lib.hid (bnext HBT.out hB01)
      have hBw : w.heap.size < bB := by rw [eB]; have := HB.out.size; omega
      have hzr : w.heap.size < wr.heap.size := by have := HB.out.size; omega
      have g0 := (hB01.cell (p := ⟨w.heap.size, 0, none⟩) hzr).trans d0
      have hzW : w.heap.size < W0.heap.size := by have := hB01.size; omega
      rw [← eW0]
      simp only [← eB]
      clear hmk eB eW0 hB0 hcs hcz hB01 d0 d1 d2
      go_loopw [45] (fun t wx => ∃ k : Nat, k ≤ n ∧ t = .int .i64 k ∧ LayV wx bB n k (M.mvQ p m z q) ∧ Below w.heap.size w wx ∧ wx.cell? ⟨w.heap.size, 0, none⟩ = some (.int .u64 (p : Nat)) ∧ w.heap.size < wx.heap.size) (fun t _ => n - (intOf t).toNat)
      case atStart => exact ⟨0, by omega, rfl, HL0.out, HB0.out, g0, hzW⟩
      case round =>
        obtain ⟨k, hk, rfl, hLy, hB, hp0, hzx⟩ := hrel
        have HLy := Lib.hid hLy
        have HBx := Lib.hid hB
        clear hLy hB HL0 HB0
        by_cases hlt : k < n
        · obtain ⟨b, off, rfl, hbl, hcells⟩ := HRW.out (by omega)
          obtain ⟨Au, cu, ck, hN, _⟩ := hcells k hlt
          have ck2 := (HBx.out.cell (p := ⟨b, off + k, none⟩) hbl).trans ck
          have hN2 := (hN.below HBx.out).below (Below.refl _ _).drew
          have hkn : k < T + 1 := by rw [← EN.out]; exact hlt
          have hqk : q.getD k 0 < p := M.within_getD (by omega) (M.shortE_zero HQ0.out).2 k
          have hmm := HMM.out (q.getD k 0) _ _ wr.drew hqk (HOK.out.lt k hkn) (by have := HOK.out.rows k hkn; omega) (M.shortE_zero HZ0.out).2 (by have := (M.shortE_zero HZ0.out).1; have := EZL.out; omega) HBx.out.drew hN2
          have hcf := HCF.out k wr.drew HBx.out.drew
          have hqe : M.psub p (m.getD k []) (M.pscale p z (q.getD k 0)) = M.mvQ p m z q k := rfl
          rw [hqe] at hmm
          obtain ⟨L, eL⟩ : ∃ L, L = (m.getD k []).length := ⟨_, rfl⟩
          rw [← eL] at ck2 hmm
          obtain ⟨x, ex⟩ : ∃ x, x = q.getD k 0 := ⟨_, rfl⟩
          rw [← ex] at hmm hcf
          obtain ⟨Qk, eQk⟩ : ∃ Qk, Qk = M.mvQ p m z q k := ⟨_, rfl⟩
          rw [← eQk] at hmm
          have EQK := Lib.hid eQk
          have HMK := Lib.hid hmm
          have HCK := Lib.hid hcf
          clear ck hN hN2 hcells eL ex eQk hmm hcf hqe hqk hkn
          go_wp2_with fail
          go_region_held3 (fun W' => W'.cell? ⟨w.heap.size, 0, none⟩ = some (.int .u64 (p : Nat)))
            (first | exact hp0 | exact f1 | go_keep)
            (first
              | (go_at_call 65; (with_reducible refine HCK.out.mono ?_); rintro e w5 ⟨rfl, rfl⟩)
              | (go_at_call 64; (with_reducible refine HMK.out.mono ?_); rintro e w6 ⟨v6, rfl, hn6, hb6⟩; have f1 := (hb6.cell (p := ⟨w.heap.size, 0, none⟩) hzx).trans hp0))
          have hb6' := below_of_drew6 hb6
          have HB6 := Lib.hid (bnext HBx.out hb6')
          have HL6 := Lib.hid (HLy.out.below hb6')
          have HN6 := Lib.hid (EQK.out ▸ hn6 : Nums w6 v6 (M.mvQ p m z q k))
          have hz6 : w.heap.size < w6.heap.size := Nat.lt_of_lt_of_le hzx hb6.size
          obtain ⟨A6, c6, rfl⟩ := nums_slice' hn6
          have cB := HL6.out.cell hlt
          have fB := HL6.out.free k
          have lB := HL6.out.lt
          have HL7 := Lib.hid (HL6.out.push hlt HN6.out)
          have HB7 := Lib.hid (HB6.out.setCell (p := ⟨bB, k, none⟩) (Nat.le_of_lt hBw) (.slice A6 Qk.length c6))
          have hp7 : (w6.setCell ⟨bB, k, none⟩ (.slice A6 Qk.length c6)).cell? ⟨w.heap.size, 0, none⟩ = some (.int .u64 (p : Nat)) := (World.cell?_setCell_other _ _ _ _ (by intro e'; have := congrArg Addr.block e'; simp at this; omega)).trans f1
          have HP7 := Lib.hid hp7
          have hkn : (k : Int) < (n : Nat) := by omega
          clear hn6 hb6 hb6' hp7
          go_wp2_with fail
          go_roundw
          case rel => exact ⟨k + 1, by omega, by go_num, HL7.out, HB7.out, HP7.out, by simpa using hz6⟩
          case measure => simp [intOf]; omega
        · obtain rfl : k = n := by omega
          have hM := HLy.out.mat (by omega)
          rw [M.mmoved_map] at hM
          have HMT := Lib.hid hM
          have HE2 := Lib.hid (show M.mvE p N T m z q = 0 by rw [HEV.out, if_pos HZ0.out]; exact HQ0.out)
          clear hM
          go_wp2_with fail
          go_ret2
          exact .inr ⟨HE2.out, _, rfl, HMT.out, HBx.out⟩
end Go.Proofs.Ytfkepkdfpjaniaa
