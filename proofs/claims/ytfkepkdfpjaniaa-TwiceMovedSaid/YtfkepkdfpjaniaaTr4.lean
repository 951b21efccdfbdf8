/-
  The reference of package twice: Moved.
-/
import Derived.Test.YtfkepkdfpjaniaaTr2
import Derived.Test.YtfkepkdfpjaniaaTrN
import Derived.Test.YtfkepkdfpjaniaaP7b
namespace Go.Proofs.Ytfkepkdfpjaniaa
open Go.RowKit
set_option linter.unusedVariables false
set_option maxRecDepth 100000

theorem mmoved_len (p : Nat) (m : List (List Nat)) (z q : List Nat) : ∀ k, (M.mmoved p m z q k).length = k
  | 0 => rfl
  | k + 1 => by simp [M.mmoved, mmoved_len p m z q k]

set_option maxHeartbeats 4000000 in
theorem rmoved_any (p T : Nat) (n0 : Int) (v vz vq : Value) (m : List (List Nat)) (z q : List Nat) (w : World) (h3 : 3 ≤ p) (hp : p ≤ 65537) (hT : T ≤ 3) (hm : M.TOk p (T + 1) m) (hz : M.within p z = true) (hzl : z.length ≤ T + 1) (hq : M.within p q = true) (hql : q.length ≤ T + 1) (hv : Mat w v m) (hvz : Nums w vz z) (hvq : Nums w vq q) :
    Calls Try.prog 34 #[suV p n0 T, v, vz, vq] w fun e w' => ∃ v', e = .returned v' ∧ Mat w' v' (M.mmoved p m z q (T + 1)) ∧ Below w.heap.size w w' := by
  have hud : ∀ b : Bool, undef ≠ Value.bool b := fun b h => by cases h
  have hml := hm.len
  obtain ⟨A, cap, rfl, _⟩ := mat_view6 hv
  have HM := Lib.hid (mat_row hv).2
  obtain ⟨b, off, rfl, hbl, hcells⟩ := HM.out (by omega)
  have HC := Lib.hid hcells
  have HOK := Lib.hid hm
  have HVZ := Lib.hid hvz
  have HVQ := Lib.hid hvq
  have HWQ := Lib.hid hq
  have HSC := Lib.hid fun W k (hk : k < p) (h : Nums W vz z) => rscale_any p k vz z W (by omega) hp hk hz (by omega) h
  have HSU := Lib.hid fun W V V2 f g (h1 : M.within p f = true) (h2 : M.within p g = true) (h3 : f.length ≤ 1000) (h4 : g.length ≤ 1000) (h5 : Nums W V f) (h6 : Nums W V2 g) => rsub_any p V V2 f g W (by omega) hp h1 h2 h3 h4 h5 h6
  obtain ⟨Az, cz, rfl⟩ := nums_slice' hvz
  have hB0 := balloc w (.cells #[.int .u64 p, .int .i64 n0, .int .i64 (T : Nat)] 24)
  obtain ⟨w0, ew0⟩ : ∃ w0, w0 = w.alloc (.cells #[.int .u64 p, .int .i64 n0, .int .i64 (T : Nat)] 24) := ⟨_, rfl⟩
  have hl0 : w0.heap.size = w.heap.size + 1 := by rw [ew0]; simp
  have c0 : w0.cell? ⟨w.heap.size, 0, none⟩ = some (.int .u64 (p : Nat)) := by rw [ew0]; simp
  rw [← ew0] at hB0
  have EW0 := Lib.hid ew0
  have ho1 : (w0.alloc (.cells #[] 22)).ownsRow w0.heap.size 22 1 (.slice (some ⟨w0.heap.size, 0, none⟩) 0 0) 0 (vals []) := World.ownsRow_made (base := w0.heap.size) (e := 22) (size := 1) w0 #[] 0 (Nat.le_refl _) (by decide) rfl
  have hB1 := balloc w0 (.cells #[] 22)
  obtain ⟨w1, hw1⟩ : ∃ w1, w0.alloc (.cells #[] 22) = w1 := ⟨_, rfl⟩
  rw [hw1] at ho1 hB1
  have HO1 := Lib.hid ho1
  have HB1 := Lib.hid hB1
  have HZ1 := Lib.hid (HVQ.out.below (bnext hB0 hB1))
  have hbs1 := HB1.out.size
  have HW1 := Lib.hid hw1
  have C0 := Lib.hid c0
  have HB0 := Lib.hid hB0
  have HL0 := Lib.hid hl0
  obtain ⟨Aq, cq, evq⟩ := nums_slice' hvq
  rw [hml] at HC ⊢
  clear hv hcells HM hm hvz hvq hz hq ho1 hB1 hw1 hB0 c0 hl0 ew0
  have EWW : Hid (∀ x, (w.alloc (.cells #[.int .u64 p, .int .i64 n0, .int .i64 (T : Nat)] 24)).alloc x = w0.alloc x) := Lib.hid fun x => by rw [EW0.out]
  unfold suV
  go_enter Try.func34, Try.ntmps34
  go_wp2_with (first
    | (at_builtin; rw [EWW.out, HW1.out]; refine wpList_append_nums (by rfl) _ _ rfl w0.heap.size _ _ _ (by first | rfl | (rw [HL0.out]; rfl)) HO1.out _ _ (by rfl) HZ1.out (by omega) hbs1 ?_; intro v2 w2 ho2 hb2; have hbs2 := Nat.le_trans hbs1 hb2.size)
    | (at_builtin; refine wpList_append_zeros6 (k := T + 1) (l := q) (n := 0 + q.length) rfl _ _ rfl (by rfl) (by rfl) ho2 (by omega) (by omega) hbs2 ?_; intro v3 w3 ho3 hb3))
  have HO3 := Lib.hid ho3
  have hB3 := (HB1.out.trans hb2).trans hb3
  have HB3 := Lib.hid (bnext HB0.out hB3)
  have C3 := Lib.hid ((hB3.cell (p := ⟨w.heap.size, 0, none⟩) (by rw [HL0.out]; exact Nat.lt_succ_self _)).trans C0.out)
  obtain ⟨gq, capq, rfl, hgq0, hgq⟩ := HO3.out.form (by omega)
  have hqc : ∀ i, i < T + 1 → w3.cell? ⟨gq, i, none⟩ = some (.int .u64 (q.getD i 0 : Nat)) := by
    intro i hi
    have h := HO3.out.cells (g := gq) rfl i (.int .u64 (q.getD i 0 : Nat)) (by
      unfold vals
      rw [List.getElem?_map]
      by_cases h : i < q.length
      · rw [List.getElem?_append_left h, List.getElem?_eq_getElem h, M.getD_lt h]; rfl
      · rw [List.getElem?_append_right (by omega), List.getElem?_eq_getElem (by simp; omega), M.getD_ge (by omega)]; simp)
    rwa [Addr.add_lit, Nat.zero_add] at h
  have HQC := Lib.hid hqc
  obtain ⟨L, eL⟩ : ∃ L, L = 0 + q.length + (T + 1) := ⟨_, rfl⟩
  have hLn : T + 1 ≤ L := by omega
  have HQL := Lib.hid fun i => M.within_getD (by omega : 0 < p) HWQ.out i
  rw [← eL]
  have hgs : w.heap.size < w3.heap.size := by have := HB3.out.size; have := hB3.size; rw [HL0.out] at this; omega
  clear hqc eL HO3 HO1 HZ1 HW1 hbs1 ho2 hb2 hbs2 ho3 hb3 hB3 EWW EW0 HB1
  go_loopw [9, 20] (fun tv ti wr => ∃ k : Nat, k ≤ T + 1 ∧ ti = .int .i64 k ∧ RowsN wr w3.heap.size tv (M.mmoved p m z q k) ∧ Below w3.heap.size w3 wr) (fun _ ti _ => T + 1 - (intOf ti).toNat)
  case atStart => exact ⟨0, by omega, rfl, RowsN.start _ _, Below.refl _ _⟩
  case round =>
    obtain ⟨k, hk, rfl, hR, hB⟩ := hrel
    obtain ⟨Ao, co, rfl⟩ := hR.form
    have HR := Lib.hid hR
    have HB := Lib.hid hB
    clear hR hB
    by_cases hlt : k < T + 1
    · obtain ⟨Au, cu, ck, hnk, _⟩ := HC.out k hlt
      have hbw := bnext HB3.out HB.out
      have d1 := (hbw.cell (p := ⟨b, off + k, none⟩) hbl).trans ck
      have d0 := (HB.out.cell (p := ⟨w.heap.size, 0, none⟩) hgs).trans C3.out
      have dq := (HB.out.cell (p := ⟨gq, k, none⟩) hgq).trans (HQC.out k hlt)
      have hqk := HQL.out k
      have hfk := hnk.below hbw
      have hzw := HVZ.out.below hbw
      have hsc := fun W (h : Below wr.heap.size wr W) => HSC.out W (q.getD k 0) hqk (hzw.below h)
      have hsl := M.poly_len p z.length (fun i => z.getD i 0 * (q.getD k 0))
      have hsu := fun W V (h : Below wr.heap.size wr W) (h6 : Nums W V (M.pscale p z (q.getD k 0))) => HSU.out W _ V (m.getD k []) (M.pscale p z (q.getD k 0)) (HOK.out.lt k hlt) (M.poly_within (by omega) _ _) (by have := HOK.out.getl k; omega) (by unfold M.pscale; omega) (hfk.below h) h6
      have hmm : M.mmoved p m z q (k + 1) = M.mmoved p m z q k ++ [M.psub p (m.getD k []) (M.pscale p z (q.getD k 0))] := rfl
      obtain ⟨pz, epz⟩ : ∃ pz, pz = M.pscale p z (q.getD k 0) := ⟨_, rfl⟩
      rw [← epz] at hsc hsu hmm
      obtain ⟨y, ey⟩ : ∃ y, y = q.getD k 0 := ⟨_, rfl⟩
      rw [← ey] at hsc dq hqk
      obtain ⟨ps, eps⟩ : ∃ ps, ps = M.psub p (m.getD k []) pz := ⟨_, rfl⟩
      rw [← eps] at hsu hmm
      obtain ⟨fl, efl⟩ : ∃ fl, fl = (m.getD k []).length := ⟨_, rfl⟩
      rw [← efl] at d1 hsu
      obtain ⟨OL, eOL⟩ : ∃ OL, OL = (M.mmoved p m z q k).length := ⟨_, rfl⟩
      rw [← eOL] at HR ⊢
      have hol : OL ≤ 1000 := by rw [eOL, mmoved_len]; omega
      have HSC1 := Lib.hid hsc
      have HSU1 := Lib.hid hsu
      have HMM := Lib.hid hmm
      have EOL := Lib.hid eOL
      have hkL : (k : Int) < (L : Nat) := by omega
      have hkL2 : k < L := by omega
      have hw0 : w.heap.size < wr.heap.size := by have := HB.out.size; omega
      have hwq : gq < wr.heap.size := by have := HB.out.size; omega
      have hwb := HB.out.size
      clear ck hnk hfk hzw hsc hsl hsu hmm epz ey eps efl eOL hbw
      go_wp2_with fail
      try dsimp only [List.append]
      refine wp_region_lex (S := fun W' => W'.cell? ⟨w.heap.size, 0, none⟩ = some (.int .u64 (p : Nat)) ∧ W'.cell? ⟨gq, k, none⟩ = some (.int .u64 (y : Nat))) (by kernel_rfl) (by kernel_rfl) (fun _ _ _ _ _ h => h) ⟨d0, dq⟩ ?_
      repeat (first
        | (refine LexH.yield (v := ?_) (by rfl) ?_ ?_; rotate_left 1; (· intro w hSw; (try dsimp only at hSw); go_simp; try with_reducible rfl); (try simp only [Act.put, List.setIfInBounds_toArray, List.set_cons_zero, List.set_cons_succ]))
        | (refine LexH.alone (by rfl) (by kernel_rfl) (fun K hKK => ?_); go_simp; go_at_call 46; (with_reducible refine (HSC1.out _ (Below.refl _ wr).drew).mono ?_); rintro e w4 ⟨v4, rfl, hn4, hb4⟩; have hB4 := below_of_drew6 hb4; have s4 := (hB4.cell (p := ⟨w.heap.size, 0, none⟩) hw0).trans d0; have t4 := (hB4.cell (p := ⟨gq, k, none⟩) hwq).trans dq; go_wp2_with fail; refine hKK.out _ _ ⟨s4, t4⟩ (fun hHeld => ?_); clear hKK K hHeld; (try simp only [Act.put, List.setIfInBounds_toArray, List.set_cons_zero, List.set_cons_succ]))
        | (refine LexH.alone (by rfl) (by kernel_rfl) (fun K hKK => ?_); go_simp; go_at_call 41; (with_reducible refine (HSU1.out _ _ hB4 hn4).mono ?_); rintro e w5 ⟨v5, rfl, hn5, hb5⟩; obtain ⟨A5, c5, rfl⟩ := nums_slice' hn5; have hB5 := bnext hB4 hb5; have s5 := (hB5.cell (p := ⟨w.heap.size, 0, none⟩) hw0).trans d0; have t5 := (hB5.cell (p := ⟨gq, k, none⟩) hwq).trans dq; go_wp2_with fail; refine hKK.out _ _ ⟨s5, t5⟩ (fun hHeld => ?_); clear hKK K hHeld; (try simp only [Act.put, List.setIfInBounds_toArray, List.set_cons_zero, List.set_cons_succ]))
        | (refine LexH.alone (by rfl) (by kernel_rfl) (fun K hKK => ?_); (refine wp_append_rowN (base := w3.heap.size) (X := w5.heap.size) _ _ rfl (by rfl) (by rfl) (heap_alloc_new w5 _) ((HR.out.below hB5).below (balloc w5 _)) (hn5.below (balloc w5 _)) (by rw [← EOL.out]; exact hol) (by have := hB5.size; simp; omega) ?_); intro v' w6 hR6 hb6 _; have hB6 : Below w3.heap.size wr w6 := (((hB5.trans ((balloc w5 (.cells #[.slice A5 ps.length c5] 31)).mono hB5.size)).mono hwb)).trans hb6; have s6 := (hB6.cell (p := ⟨w.heap.size, 0, none⟩) hgs).trans d0; have t6 := (hB6.cell (p := ⟨gq, k, none⟩) hgq).trans dq; refine hKK.out _ _ ⟨s6, t6⟩ (fun hHeld => ?_); clear hKK K hHeld; (try simp only [Act.put, List.setIfInBounds_toArray, List.set_cons_zero, List.set_cons_succ]))
        | (refine LexH.alone (by rfl) (by kernel_rfl) (fun K hKK => ?_); go_simp; refine hKK.out _ _ (by first | exact ⟨s6, t6⟩ | exact ⟨cellAl _ s5, cellAl _ t5⟩ | go_keep) (fun hHeld => ?_); clear hKK K hHeld; (try simp only [Act.put, List.setIfInBounds_toArray, List.set_cons_zero, List.set_cons_succ])))
      refine LexH.nil ?_
      have HR6 := Lib.hid hR6
      have HB6 := Lib.hid (HB.out.trans hB6)
      clear hR6 hB6 hb6 hn5 hb5 hB5 hn4 hb4 hB4 s4 t4 s5 t5 s6 t6
      go_wp2_with fail
      go_roundw
      case rel => exact ⟨k + 1, by omega, by go_num, HMM.out ▸ HR6.out, HB6.out⟩
      case measure => simp [intOf]; omega
    · obtain rfl : k = T + 1 := by omega
      go_wp2_with fail
      go_ret
      exact ⟨_, rfl, HR.out.mat (by rw [mmoved_len]; omega), bnext HB3.out HB.out⟩
end Go.Proofs.Ytfkepkdfpjaniaa
