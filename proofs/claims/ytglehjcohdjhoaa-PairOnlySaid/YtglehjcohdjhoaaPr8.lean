/-
  The reference of package pair: At; Tape.
-/
import Derived.Test.YtglehjcohdjhoaaPr7
namespace Go.Proofs.Ytglehjcohdjhoaa
open Go.RowKit
set_option linter.unusedVariables false
set_option maxRecDepth 100000

set_option maxHeartbeats 1000000 in
theorem rat6_any (p n x y : Nat) (v : Value) (m : List (List Nat)) (w : World) (h3 : 3 ≤ p) (hp : p ≤ 65537) (hn : 0 < n) (hn4 : n ≤ 4) (hx : x < p) (hy : y < p) (hm : M.POk p n m) (hv : Mat w v m) :
    Calls Try.prog 31 #[.int .u64 p, v, .int .u64 x, .int .u64 y] w fun e w' => e = .returned (.int .u64 (M.pat p n (M.el m) x y : Nat)) ∧ Below w.heap.size w w' := by
  have HR := Lib.hid (rrow_any p n x v m w h3 hp hn hn4 hx hm hv)
  have HW := Lib.hid (show M.within p (M.rowp p n (M.el m) x) = true from M.poly_within (by omega) _ _)
  obtain ⟨A, cap, rfl, _⟩ := mat_view6 hv
  clear hv hm
  go_enter Try.func31, Try.ntmps31
  go_wp2_with fail
  refine HR.out.mono ?_
  rintro e w1 ⟨v1, rfl, hr, hb⟩
  have HE := Lib.hid (reval_any p y v1 _ w1 (by omega) hp hy HW.out hr)
  rw [M.pev_rowp] at HE
  obtain ⟨A1, c1, rfl⟩ := nums_slice' hr
  have B1 := Lib.hid hb
  clear hr hb
  go_wp2_with fail
  refine HE.out.mono ?_
  rintro e w2 ⟨rfl, rfl⟩
  go_wp2_with fail
  go_ret
  exact ⟨rfl, B1.out⟩

theorem within_lt6 {p : Nat} {l : List Nat} (h : M.within p l = true) : ∀ z ∈ l, z < p := by
  intro z hz
  unfold M.within at h
  simpa using List.all_eq_true.1 h z hz
set_option maxHeartbeats 2000000 in
theorem rtape6_any (p n : Nat) (v : Value) (m : List (List Nat)) (w : World) (hn : 0 < n) (hn4 : n ≤ 4) (h3 : 3 ≤ p) (hp : p ≤ 65537) (hm : M.POk p n m) (hv : Mat w v m) :
    Calls Try.prog 27 #[v] w fun e w' => ∃ v', e = .returned (.tuple #[.int .u64 (M.el m 0 0 : Nat), v']) ∧ Nums w' v' (M.tapeK n (M.el m) n).tail ∧ Below w.heap.size w w' := by
  have hud : ∀ b : Bool, undef ≠ Value.bool b := fun b h => by cases h
  obtain ⟨A, cap, rfl, _⟩ := mat_view6 hv
  have hml := hm.len
  rw [hml] at hv ⊢
  have hrw := (mat_row hv).2
  obtain ⟨b, off, rfl, hbl, hcells⟩ := hrw (by omega)
  have HC := Lib.hid hcells
  have HM := Lib.hid hm
  have HML := Lib.hid hml
  clear hv hm hrw hml hcells
  go_enter Try.func27, Try.ntmps27
  go_wp2_with fail
  go_loopw [8, 4] (fun ti tv wr => ∃ k : Nat, k ≤ n ∧ ti = .int .i64 k ∧ wr.ownsRow w.heap.size 22 1 tv (M.triR n k) (vals (M.tapeK n (M.el m) k)) ∧ Below w.heap.size w wr) (fun ti _ _ => n - (intOf ti).toNat)
  case atStart => exact ⟨0, by omega, rfl, World.ownsRow_nil _ _ _ _, Below.refl _ _⟩
  case round =>
    obtain ⟨k, hk, rfl, ho, hB⟩ := hrel
    have HO := Lib.hid ho
    have HB := Lib.hid hB
    clear ho hB
    by_cases hlt : k < n
    · obtain ⟨Au, cu, cc, hnu, hrr⟩ := HC.out k (by rw [HML.out]; exact hlt)
      rw [HM.out.rows k hlt] at cc hnu hrr
      obtain ⟨g2, o2, rfl, hg2, hcel⟩ := hrr (by omega)
      have c1 := (HB.out.cell (p := ⟨b, off + k, none⟩) hbl).trans cc
      have hcu : n ≤ cu := by
        obtain ⟨_, c', e, hc, _⟩ := nums_view hnu
        simp only [Value.slice.injEq] at e
        have := HM.out.rows k hlt
        omega
      have n1 : ¬ cu = k := by omega
      have n2 : (k : Int) ≤ (n : Nat) := by omega
      have n3 : k ≤ n := hk
      have n4 : (n : Int) ≤ (cu : Nat) := by omega
      have HN := Lib.hid (show Nums wr (.slice (some ⟨g2, o2 + k, none⟩) (n - k) (cu - k)) (M.tabM (n - k) fun j => M.el m k (k + j)) from
        ⟨fun x hx => by
          obtain ⟨j, hj, rfl⟩ := List.mem_map.1 hx
          have := List.mem_range.1 hj
          have := HM.out.el_lt (i := k) (k := k + j) hlt (by omega)
          omega, by simp [M.tabM]; omega, .inr ⟨g2, o2 + k, cu - k, by simp [M.tabM], by simp [M.tabM]; omega, by have := HB.out.size; omega, fun j hj => by
            simp [M.tabM] at hj
            rw [M.tabM_at _ (by omega), Nat.add_assoc]
            exact (HB.out.cell (p := ⟨g2, o2 + (k + j), none⟩) hg2).trans (hcel (k + j) (by omega))⟩⟩)
      clear cc hnu hrr hcel
      have htr := HO.out
      go_wp2_with (at_builtin; refine wpList_append_nums (by rfl) _ _ rfl _ _ _ _ (by rfl) HO.out _ _ (by rfl) HN.out (by simp [M.tabM]; have := M.triR_mono (n := n) hk; have := M.triR_small hn4; have : n * (n + 1) ≤ 4 * 5 := Nat.mul_le_mul hn4 (by omega); omega) HB.out.size ?_; intro v2 w2 ho2 hb2)
      have HO2 := Lib.hid (show w2.ownsRow w.heap.size 22 1 v2 (M.triR n (k + 1)) (vals (M.tapeK n (M.el m) (k + 1))) by
        have e1 : M.triR n (k + 1) = M.triR n k + (M.tabM (n - k) fun j => M.el m k (k + j)).length := by simp [M.tabM, M.triR]
        rw [e1, M.tapeK, vals_app]
        exact ho2)
      have HB2 := Lib.hid (HB.out.trans hb2)
      clear ho2 hb2 htr
      go_roundw
      case rel => exact ⟨k + 1, by omega, by go_num, HO2.out, HB2.out⟩
      case measure => simp [intOf]; omega
    · obtain rfl : k = n := by omega
      have hN : M.triR k k ≤ 10 := by
        have := M.triR_small hn4
        have : k * (k + 1) ≤ 4 * 5 := Nat.mul_le_mul hn4 (by omega)
        omega
      have hN1 : 1 ≤ M.triR k k := by
        have := M.triR_mono (n := k) (show 1 ≤ k by omega)
        have e : M.triR k 1 = k := by simp [M.triR]
        omega
      have hT := M.tapeK_len k (M.el m) k
      have hT0 := M.tapeK_get k (M.el m) k 0 0 (by omega) (by omega)
      rw [show M.triR k 0 + 0 = 0 from rfl, Nat.zero_add] at hT0
      have hTl := M.tapeK_lt (p := p) (n := k) (F := M.el m) (fun i j hi hj => HM.out.el_lt hi hj) k (Nat.le_refl _)
      obtain ⟨T, eT⟩ : ∃ T, T = M.tapeK k (M.el m) k := ⟨_, rfl⟩
      rw [← eT] at HO hT hT0 hTl
      have HET := Lib.hid eT
      obtain ⟨N, eN⟩ : ∃ N, N = M.triR k k := ⟨_, rfl⟩
      rw [← eN] at HO hN hN1 hT
      obtain ⟨g, cp, rfl, hg, hgs⟩ := HO.out.form (by omega)
      obtain ⟨_, hcp, _, hrow⟩ := row_of_owns (zs := T) HO.out
      have c0 := hrow.cell (j := 0) (by omega)
      rw [hT0] at c0
      have HT0 := Lib.hid hT0
      have HTT := Lib.hid (show Nums wr (.slice (some ⟨g, 1, none⟩) (N - 1) (cp - 1)) T.tail from
        ⟨fun x hx => by have := within_lt6 hTl x (List.mem_of_mem_tail hx); omega, by simp; omega, .inr ⟨g, 1, cp - 1, by rw [List.length_tail, hT], by rw [List.length_tail]; omega, hgs, fun j hj => by
          rw [List.length_tail] at hj
          have := hrow.cell (j := 1 + j) (by omega)
          rw [this]
          congr 2
          simp [List.getD_eq_getElem?_getD, Nat.add_comm]⟩⟩)
      have HNIL := Lib.hid (show N = 1 → T.tail = [] from fun h => List.eq_nil_of_length_eq_zero (by rw [List.length_tail]; omega))
      have HB3 := Lib.hid HB.out
      clear hT hT0 hTl hrow eT eN HO HB
      by_cases hc1 : cp = 1
      · subst hc1
        have HN0 := Lib.hid (HNIL.out (by omega))
        obtain rfl : N = 1 := by omega
        clear HNIL
        go_wp2_with fail
        go_quiet (fail)
        go_wp2_with fail
        go_ret2
        refine ⟨_, rfl, ?_, below_drewN HB3.out _⟩
        rw [← HET.out, HN0.out]
        exact ⟨by simp, by simp, .inl ⟨_, _, rfl, rfl, fun h => by cases h⟩⟩
      · have hc2 : ¬ (cp : Int) = 1 := by omega
        go_wp2_with fail
        go_quiet (fail)
        go_wp2_with fail
        go_ret2
        exact ⟨_, rfl, by rw [← HET.out]; exact HTT.out.below (below_drewN (Below.refl _ _) _), below_drewN HB3.out _⟩
end Go.Proofs.Ytglehjcohdjhoaa
