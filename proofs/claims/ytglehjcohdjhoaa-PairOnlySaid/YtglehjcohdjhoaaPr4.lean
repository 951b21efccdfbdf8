/-
  The reference of package pair: Row, At.
-/
import Derived.Test.YtglehjcohdjhoaaPr3
import Derived.StillTailTactics
namespace Go.Proofs.Ytglehjcohdjhoaa
open Go.RowKit
set_option linter.unusedVariables false
set_option maxRecDepth 100000

theorem infoRow6 : (Try.prog.info? 30).map (fun i => (i.zero, i.size, i.bytes)) = some (some (.slice none 0 0), 1, 24) := by kernel_rfl
/-- make([]uint64, n) -/
theorem make6_u64 (n : Nat) (hn : n ≤ 100000) : ∃ cs : Array Value, (∀ W : World, (Instr.makeSlice 30 (.int .i64 ((n : Nat) : Int)) (.int .i64 ((n : Nat) : Int))).run Try.prog W = .ok (.slice (some ⟨W.heap.size, 0, none⟩) n n) (W.alloc (.cells cs 22))) ∧
    ∀ W : World, Row (W.alloc (.cells cs 22)) W.heap.size n (fun _ => 0) := by
  obtain ⟨i0, hi0, hz0, hz1, hz2⟩ := info_parts infoU64
  refine ⟨madeCells #[Value.int .u64 0] n, fun W => run_make_row (P := Try.prog) 30 22 i0 (.int .u64 0) Try.underlying30 hi0 hz0 hz1 rfl .i64 .i64 n (by rw [hz2]; omega) (by omega) W, fun W => ⟨_, heap_alloc_new W _, fun j hj => ?_⟩⟩
  have h := toList_madeCells_one (Value.int .u64 0) n
  rw [← Array.getElem?_toList, h]
  simp [hj]
/-- make([][]uint64, n) -/
theorem make6_rows (n : Nat) (hn : n ≤ 100000) : ∃ cs : Array Value, cs.size = n ∧ (∀ i, i < n → cs[i]? = some (.slice none 0 0)) ∧ ∀ W : World, (Instr.makeSlice 23 (.int .i64 ((n : Nat) : Int)) (.int .i64 ((n : Nat) : Int))).run Try.prog W = .ok (.slice (some ⟨W.heap.size, 0, none⟩) n n) (W.alloc (.cells cs 30)) := by
  obtain ⟨i0, hi0, hz0, hz1, hz2⟩ := info_parts infoRow6
  have h := toList_madeCells_one (Value.slice none 0 0) n
  refine ⟨madeCells #[Value.slice none 0 0] n, ?_, fun i hi => ?_, fun W => run_make_row (P := Try.prog) 23 30 i0 (.slice none 0 0) Try.underlying23 hi0 hz0 hz1 rfl .i64 .i64 n (by rw [hz2]; omega) (by omega) W⟩
  · have := congrArg List.length h; simpa using this
  · rw [← Array.getElem?_toList, h]; simp [hi]

namespace M
theorem tabM_succ (n : Nat) (c : Nat → Nat) : tabM (n + 1) c = tabM n c ++ [c n] := by simp [tabM, List.range_succ]
theorem pv_nil (p : Nat) (c : Nat → Nat) (x : Nat) : pv p 0 c x = 0 := by simp [pv, tabM, evN]
theorem pv_succ (p n : Nat) (c : Nat → Nat) (x : Nat) : pv p (n + 1) c x = (pv p n c x + c n * pw p x n % p) % p := by
  unfold pv pw
  rw [tabM_succ, evN_snoc, tabM_len]
  rw [Nat.mul_mod_mod, ← Nat.add_mod, Nat.mul_comm]
/-- column by column: k columns are done, of the next i terms -/
def rowK (p n : Nat) (F : Nat → Nat → Nat) (x k i j : Nat) : Nat := if j < k then colv p n F x j else if j = k then pv p i (fun i => F i k) x else 0
theorem rowK_next (p n : Nat) (F : Nat → Nat → Nat) (x k j : Nat) : rowK p n F x k n j = rowK p n F x (k + 1) 0 j := by
  unfold rowK
  rcases Nat.lt_trichotomy j k with h | rfl | h
  · rw [if_pos h, if_pos (by omega)]
  · rw [if_neg (by omega), if_pos rfl, if_pos (by omega)]; rfl
  · rw [if_neg (by omega), if_neg (by omega), if_neg (by omega)]
    split
    · rw [pv_nil]
    · rfl
theorem rowK_zero (p n : Nat) (F : Nat → Nat → Nat) (x j : Nat) : rowK p n F x 0 0 j = 0 := by
  unfold rowK
  rw [if_neg (by omega), pv_nil]
  split <;> rfl
end M

set_option maxHeartbeats 4000000 in
theorem rrow_any (p n x : Nat) (v : Value) (m : List (List Nat)) (w : World) (h3 : 3 ≤ p) (hp : p ≤ 65537) (hn : 0 < n) (hn4 : n ≤ 4) (hx : x < p) (hm : M.POk p n m) (hv : Mat w v m) :
    Calls Try.prog 33 #[.int .u64 p, v, .int .u64 x] w fun e w' => ∃ v', e = .returned v' ∧ Nums w' v' (M.rowp p n (M.el m) x) ∧ Below w.heap.size w w' := by
  have hud : ∀ b : Bool, undef ≠ Value.bool b := fun b h => by cases h
  obtain ⟨A, cap, rfl, _⟩ := mat_view6 hv
  have hml := hm.len
  rw [hml] at hv ⊢
  have hrw := (mat_row hv).2
  obtain ⟨b, off, rfl, hbl, hcells⟩ := hrw (by omega)
  have HC := Lib.hid hcells
  have HM := Lib.hid hm
  have HML := Lib.hid hml
  obtain ⟨cs, hmk, hmrow⟩ := make6_u64 n (by omega)
  obtain ⟨g, eg⟩ : ∃ g, g = w.heap.size := ⟨_, rfl⟩
  obtain ⟨W0, eW0⟩ : ∃ W0, W0 = w.alloc (.cells cs 22) := ⟨_, rfl⟩
  have HR0 := Lib.hid (show Row W0 g n (M.rowK p n (M.el m) x 0 0) by rw [eW0, eg]; exact (hmrow w).congr fun j _ => by rw [M.rowK_zero])
  have HB0 := Lib.hid (show Below w.heap.size w W0 by rw [eW0]; exact balloc w _)
  have EW0 := Lib.hid eW0
  have EG := Lib.hid eg
  have hgs : w.heap.size ≤ g := by omega
  clear hv hm hrw hml hcells hmrow eW0 eg
  go_enter Try.func33, Try.ntmps33
  go_wp2_with fail
  rw [← EW0.out]
  simp only [← EG.out]
  clear hmk
  go_loopw [15] (fun t wr => ∃ k : Nat, k ≤ n ∧ t = .int .i64 k ∧ Row wr g n (M.rowK p n (M.el m) x k 0) ∧ Below w.heap.size w wr) (fun t _ => n - (intOf t).toNat)
  case atStart => exact ⟨0, by omega, rfl, HR0.out, HB0.out⟩
  case round =>
    obtain ⟨k, hk, rfl, hr, hB⟩ := hrel
    have HR := Lib.hid hr
    have HB := Lib.hid hB
    clear hr hB
    by_cases hlt : k < n
    · obtain ⟨wo, hwo⟩ : ∃ x, x = wr := ⟨_, rfl⟩
      rw [← hwo] at HR HB ⊢
      clear hwo
      go_wp2_with fail
      go_loopw [20] (fun t wx => ∃ i : Nat, i ≤ n ∧ t = .int .i64 i ∧ Row wx g n (M.rowK p n (M.el m) x k i) ∧ Below w.heap.size w wx) (fun t _ => n - (intOf t).toNat)
      case atStart => exact ⟨0, by omega, rfl, HR.out, HB.out⟩
      case round =>
        obtain ⟨i, hi, rfl, hr2, hB2⟩ := hrel
        have HR2 := Lib.hid hr2
        have HB2 := Lib.hid hB2
        clear hr2 hB2
        by_cases hli : i < n
        · obtain ⟨Au, cu, cc, _, hrr⟩ := HC.out i (by rw [HML.out]; exact hli)
          rw [HM.out.rows i hli] at cc hrr
          obtain ⟨g2, o2, rfl, hg2, hcel⟩ := hrr (by omega)
          have c1 := (HB2.out.cell (p := ⟨b, off + i, none⟩) hbl).trans cc
          have c2 := (HB2.out.cell (p := ⟨g2, o2 + k, none⟩) hg2).trans (hcel k hlt)
          have c3 := HR2.out.cell hlt
          have hy := HM.out.el_lt hli hlt
          have hz : M.rowK p n (M.el m) x k i k = M.pv p i (fun i => M.el m i k) x := by unfold M.rowK; rw [if_neg (by omega), if_pos rfl]
          have hzl := M.pv_lt (p := p) (by omega) i (fun i => M.el m i k) x
          have hnx := M.pv_succ p i (fun i => M.el m i k) x
          have hset := fun (W : World) (hW : Row W g n (M.rowK p n (M.el m) x k i)) => (hW.set hlt (M.pv p (i + 1) (fun i => M.el m i k) x)).congr (F' := M.rowK p n (M.el m) x k (i + 1)) (fun j hj => by
            unfold M.rowK
            by_cases e : j = k
            · subst e; rw [if_pos rfl, if_neg (by omega), if_pos rfl]
            · rw [if_neg e]
              by_cases e2 : j < k
              · rw [if_pos e2, if_pos e2]
              · rw [if_neg e2, if_neg e, if_neg e2, if_neg e])
          rw [hz] at c3
          have hq := M.pw_lt (p := p) x i (by omega)
          have hp1 := fun W => refPow_any p x (by omega) hp hx i i W (Nat.le_refl _) (by omega)
          obtain ⟨q, eq⟩ : ∃ q, q = M.pw p x i := ⟨_, rfl⟩
          rw [← eq] at hq hp1 hnx
          obtain ⟨y, ey⟩ : ∃ y, y = M.el m i k := ⟨_, rfl⟩
          rw [← ey] at c2 hy hnx
          obtain ⟨z, ez⟩ : ∃ z, z = M.pv p i (fun i => M.el m i k) x := ⟨_, rfl⟩
          rw [← ez] at c3 hzl hnx
          have hm := fun W => refMul_any p y q W (by omega) hp hy hq
          have hml : y * q % p < p := Nat.mod_lt _ (by omega)
          obtain ⟨u, eu⟩ : ∃ u, u = y * q % p := ⟨_, rfl⟩
          rw [← eu] at hm hml hnx
          have ha := fun W => refAdd_any p z u W (by omega) hp hzl hml
          obtain ⟨r, er⟩ : ∃ r, r = (z + u) % p := ⟨_, rfl⟩
          rw [← er] at ha hnx
          rw [hnx] at hset
          have HP1 := Lib.hid hp1
          have HMU := Lib.hid hm
          have HA := Lib.hid ha
          have HSET := Lib.hid hset
          have i3 : IntKind.u64.wrap (i : Int) = i := by rw [IntKind.wrap_u64]; omega
          clear hp1 hm ha hset hnx er eu ez ey eq hz hcel hrr cc
          go_wp2_with fail
          refine wp_region_still_tail 23 (by kernel_rfl) (by kernel_rfl) ?_
          simp only [List.take_succ_cons, List.take_zero, List.drop_succ_cons, List.drop_zero]
          iterate 19 still_step
          still_call ((HP1.out _).mono fun e w' ⟨h1, h2⟩ => ⟨h1, h2.symm⟩)
          still_call ((HMU.out _).mono fun e w' ⟨h1, h2⟩ => ⟨h1, h2.symm⟩)
          still_call ((HA.out _).mono fun e w' ⟨h1, h2⟩ => ⟨h1, h2.symm⟩)
          iterate 1 still_step
          refine wpStill_nil ?_
          change wpList _ _ _ _ _ wr.drew
          obtain ⟨w2, hw2⟩ : ∃ w2, wr.drew = w2 := ⟨_, rfl⟩
          have hr5 : Row w2 g n (M.rowK p n (M.el m) x k i) := by rw [← hw2]; exact HR2.out
          have hB5 : Below w.heap.size w w2 := by rw [← hw2]; exact HB2.out.drew
          have c5 := hr5.cell hlt
          have f5 := hr5.free k
          have HR5 := Lib.hid (HSET.out w2 hr5)
          have HB5 := Lib.hid (hB5.setCell (p := ⟨g, k, none⟩) hgs (.int .u64 (r : Nat)))
          rw [hw2]
          clear hw2 hr5 hB5
          go_wp2_with fail
          go_roundw
          case rel => exact ⟨i + 1, by omega, by go_num, HR5.out, HB5.out⟩
          case measure => simp [intOf]; omega
        · obtain rfl : i = n := by omega
          have HR3 := Lib.hid (HR2.out.congr (F' := M.rowK p i (M.el m) x (k + 1) 0) fun j _ => M.rowK_next p i (M.el m) x k j)
          go_wp2_with fail
          go_roundw
          case rel => exact ⟨k + 1, by omega, by go_num, HR3.out, HB2.out⟩
          case measure => simp [intOf]; omega
    · obtain rfl : k = n := by omega
      have hN := HR.out.nums (n := k) (cap := k) (Nat.le_refl _) (Nat.le_refl _) (by omega) (fun j hj => by
        unfold M.rowK
        rw [if_pos hj]
        have := M.pv_lt (p := p) (by omega) k (fun i => M.el m i j) x
        unfold M.colv
        omega)
      have HT := Lib.hid (rtrim_any _ _ wr hN)
      have HE := Lib.hid (show M.trim (M.tabM k (M.rowK p k (M.el m) x k 0)) = M.rowp p k (M.el m) x by
        unfold M.rowp M.poly M.rowOf M.tabM
        congr 1
        refine List.map_congr_left fun j hj => ?_
        have hj := List.mem_range.1 hj
        unfold M.rowK
        rw [if_pos hj]
        exact (Nat.mod_eq_of_lt (M.pv_lt (by omega) _ _ _)).symm)
      clear hN
      go_wp2_with fail
      refine HT.out.mono ?_
      rintro e w2 ⟨v2, rfl, hn3, hb3⟩
      have B3 := Lib.hid (bnext HB.out hb3)
      have N3 := Lib.hid hn3
      clear hn3 hb3
      go_wp2_with fail
      go_ret
      exact ⟨_, rfl, by rw [← HE.out]; exact N3.out, B3.out⟩
end Go.Proofs.Ytglehjcohdjhoaa
