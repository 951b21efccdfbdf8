/-
  Mr8N, Mr8S (joined).
-/
import Derived.Test.YtfgfapbhgehfiaaXD
import Derived.Deep.RegionHeld3
import Derived.Outline
namespace Go.Proofs.Ytfgfapbhgehfiaa
open Go.RowKit
set_option linter.unusedVariables false
set_option maxRecDepth 100000

end Go.Proofs.Ytfgfapbhgehfiaa
namespace Go.Proofs.Ytfgfapbhgehfiaa
open Go.RowKit
set_option linter.unusedVariables false
set_option maxRecDepth 100000

set_option maxHeartbeats 2000000 in
set_option maxRecDepth 100000 in
theorem reduce_S (p R K E : Nat) (xb : Nat) (v : Value) (m : List (List Nat)) (ap : Nat → List Nat) (w : World) (hok : M.Ok p m R K) (hE : E ≤ 64) (hap : ∀ i, i < R → (ap i).length = E ∧ M.within p (ap i) = true) (hv : Mat w v m)
    (hcall : ∀ W i, i < R → Below w.heap.size w W → Calls Try.prog 78 #[.int .i64 (i : Nat), .pointer (some ⟨xb, 0, none⟩)] W (Gives W (ap i))) :
    Calls Try.prog 77 #[.int .u64 p, v, .func (.func 78) #[] #[.pointer (some ⟨xb, 0, none⟩)]] w (ReduceEnd w p R K (K + E) (M.besF m ap)) := by
  obtain ⟨h3, hp⟩ := M.pos_of hok.isp
  obtain ⟨hml, A, cap, rfl, hcap, hrows⟩ := hv
  have hR1 := hok.R1
  have hR64 := hok.R64
  have hK1 := hok.K1
  have hK64 := hok.K64
  rw [hok.rows] at hrows hcap hml ⊢
  obtain ⟨b, off, rfl, hbl, hcells⟩ := hrows (by omega)
  obtain ⟨cs, hcs, hcz, hmk⟩ := make_rows R (by omega)
  have HV := Lib.hid hcells
  have HOK := Lib.hid hok
  have HCS := Lib.hid hcs
  have HCZ := Lib.hid hcz
  have HCALL := Lib.hid hcall
  have HAP := Lib.hid hap
  clear hcells hok hcs hcz hrows hcall hap
  go_enter Try.func77, Try.ntmps77
  go_wp2_with fail
  obtain ⟨X, eX⟩ : ∃ X, X = w.heap.size := ⟨_, rfl⟩
  obtain ⟨B, eB⟩ : ∃ B, B = w.heap.size + 1 := ⟨_, rfl⟩
  obtain ⟨D, eD⟩ : ∃ D, D = w.heap.size + 1 + 1 := ⟨_, rfl⟩
  rw [← eD, ← eB, ← eX]
  obtain ⟨W0, eW0⟩ : ∃ W0, W0 = ((w.alloc (.cells #[.slice none 0 0, .slice none 0 0, .int .u64 0] 110)).alloc (.cells cs 31)).alloc (.cells #[.slice (some ⟨B, 0, none⟩) R R, .slice none 0 0, .int .u64 1] 110) := ⟨_, rfl⟩
  rw [← eW0]
  have s0 : (w.alloc (.cells #[.slice none 0 0, .slice none 0 0, .int .u64 0] 110)).heap.size = B := by rw [eB]; simp
  have s1 : ((w.alloc (.cells #[.slice none 0 0, .slice none 0 0, .int .u64 0] 110)).alloc (.cells cs 31)).heap.size = D := by rw [eD]; simp
  have hX0 : W0.heap[X]? = some (.cells #[.slice none 0 0, .slice none 0 0, .int .u64 0] 110 (0, 0)) := by
    rw [eW0, Below.heap_alloc _ _ _ (by rw [s1]; omega), Below.heap_alloc _ _ _ (by rw [s0]; omega), eX, heap_alloc_new]
  have hB0 : W0.heap[B]? = some (.cells cs 31 (0, 0)) := by
    rw [eW0, Below.heap_alloc _ _ _ (by rw [s1]; omega)]
    have := heap_alloc_new (w.alloc (.cells #[.slice none 0 0, .slice none 0 0, .int .u64 0] 110)) (.cells cs 31)
    rwa [s0] at this
  have hD0 : W0.heap[D]? = some (.cells #[.slice (some ⟨B, 0, none⟩) R R, .slice none 0 0, .int .u64 1] 110 (0, 0)) := by
    rw [eW0]
    have := heap_alloc_new ((w.alloc (.cells #[.slice none 0 0, .slice none 0 0, .int .u64 0] 110)).alloc (.cells cs 31)) (.cells #[.slice (some ⟨B, 0, none⟩) R R, .slice none 0 0, .int .u64 1] 110)
    rwa [s1] at this
  have hW0 : Below w.heap.size w W0 := by
    rw [eW0]
    exact ((((Below.refl _ _).alloc (Nat.le_refl _) _).alloc (by simp) _).alloc (by simp; omega) _)
  have hm0 : MatO W0 B B 0 (K + E) (fun _ => 0) (fun _ => 0) (M.besF m ap) := ⟨Nat.le_refl _, ⟨cs, hB0, fun i hi => absurd hi (by omega)⟩, fun i hi => absurd hi (by omega), fun i hi => absurd hi (by omega), fun i j hi => absurd hi (by omega)⟩
  have hXs : X < W0.heap.size := lt_of_block hX0
  have nXD : X ≠ D := by omega
  have nXB : X ≠ B := by omega
  have hbX : w.heap.size ≤ X := by omega
  have hbB : w.heap.size ≤ B := by omega
  have hbD : w.heap.size ≤ D := by omega
  have nDB : D ≠ B := by omega
  have hBD : B ≤ D := by omega
  have hXB : X < B := by omega
  have HX0 := Lib.hid hX0
  have HB0 := Lib.hid (show ∃ cs, W0.heap[B]? = some (.cells cs 31 (0, 0)) ∧ cs.size = R from ⟨cs, hB0, HCS.out⟩)
  have HD0 := Lib.hid hD0
  have HW0 := Lib.hid hW0
  have HM0 := Lib.hid hm0
  clear eX eB eD eW0 s0 s1 hX0 hB0 hD0 hW0 hm0 hmk
  go_loopw [17] (fun ti wr => ∃ k : Nat, k ≤ R ∧ ti = .int .i64 k ∧ (∃ G Cp, MatO wr B B k (K + E) G Cp (M.besF m ap)) ∧ (∃ cs, wr.heap[B]? = some (.cells cs 31 (0, 0)) ∧ cs.size = R) ∧
    wr.heap[D]? = some (.cells #[.slice (some ⟨B, 0, none⟩) R R, .slice none 0 0, .int .u64 1] 110 (0, 0)) ∧ wr.heap[X]? = some (.cells #[.slice none 0 0, .slice none 0 0, .int .u64 0] 110 (0, 0)) ∧ Below w.heap.size w wr) (fun ti _ => R - (intOf ti).toNat)
  case atStart => exact ⟨0, by omega, rfl, ⟨_, _, HM0.out⟩, HB0.out, HD0.out, HX0.out, HW0.out⟩
  case round =>
    obtain ⟨k, hk, rfl, ⟨G, Cp, hm⟩, hsz, hD, hX, hW⟩ := hrel
    have HM := Lib.hid hm
    have HSZ := Lib.hid hsz
    have HD := Lib.hid hD
    have HX := Lib.hid hX
    have HW := Lib.hid hW
    clear hm hsz hD hX hW HM0 HB0 HD0 HX0 HW0
    by_cases hlt : k < R
    · obtain ⟨u, hu, hN⟩ := HV.out k hlt
      have hzl := HOK.out.cols k hlt
      obtain ⟨hal, haw⟩ := HAP.out k hlt
      obtain ⟨Au, cu, rfl, _⟩ := nums_view hN
      rw [hzl] at hu hN
      have cu0 := (HW.out.cell (p := ⟨b, off + k, none⟩) hbl).trans hu
      have HN0 := Lib.hid hN
      have cD := cell_of_row wr D 0 _ _ (0, 0) HD.out
      simp only [List.getElem?_toArray, List.getElem?_cons_zero] at cD
      have hBl := HM.out.lt
      have fB := HM.out.free k
      obtain ⟨x0, cB⟩ : ∃ x0, wr.cell? ⟨B, k, none⟩ = some x0 := by
        obtain ⟨ds, e1, e2⟩ := HSZ.out
        rw [cell_of_row wr B k ds _ (0, 0) e1]
        exact ⟨ds[k]'(by omega), Array.getElem?_eq_getElem _⟩
      have HC := Lib.hid (HCALL.out wr.drew k hlt HW.out.drew)
      have HLZ := Lib.hid hzl
      have HLA := Lib.hid hal
      clear hu hN hzl hal haw
      go_wp2_with fail
      have hcon : ∀ (w1 : World) (va : Value), Nums w1 va (ap k) → Below w.heap.size w w1 → Calls Try.prog 90 #[.slice (some ⟨w1.heap.size, 0, none⟩) 2 2] (w1.alloc (.cells #[.slice Au K cu, va] 31)) (GivesRow (w1.alloc (.cells #[.slice Au K cu, va] 31)) (K + E) (M.besF m ap k)) := fun w1 va hva hb1 => by
        have a := concat_any w1.heap.size (.slice Au K cu) va (m.getD k []) (ap k) (w1.alloc (.cells #[.slice Au K cu, va] 31)) (by rw [HLZ.out]; omega) (by rw [HLZ.out, HLA.out]; omega) ((HN0.out.below hb1).below (balloc _ _)) (hva.below (balloc _ _)) (heap_alloc_new _ _)
        rw [HLZ.out, HLA.out] at a
        exact a
      have HCON := Lib.hid hcon
      clear hcon
      go_region_with (first
        | (go_at_call 78; refine HC.out.mono ?_; rintro e w1 ⟨va, rfl, hna, hba⟩; obtain ⟨av, cv, rfl⟩ := nums_slice' hna; have HCC := Lib.hid (HCON.out w1 _ hna (HW.out.drew.trans (hba.mono HW.out.size))); have cD1 : w1.cell? ⟨D, 0, none⟩ = some (.slice (some ⟨B, 0, none⟩) R R) := (hba.cell (p := ⟨D, 0, none⟩) (lt_of_block HD.out)).trans cD; have nD2 : D < w1.heap.size := (by have h1 := hba.size; have h2 : D < wr.heap.size := lt_of_block HD.out; simp at h1; omega); have nD1 : D ≠ w1.heap.size := (by omega))
        | (go_at_call 90; refine HCC.out.mono ?_; rintro e w2 ⟨g, c, rfl, hg, hc, hr, hb2⟩; have hb12 := bnext (bnext hba (balloc w1 (.cells #[.slice Au K cu, .slice av (ap k).length cv] 31))) hb2; have cD2 : w2.cell? ⟨D, 0, none⟩ = some (.slice (some ⟨B, 0, none⟩) R R) := (hb12.cell (p := ⟨D, 0, none⟩) (lt_of_block HD.out)).trans cD; have cB2 : w2.cell? ⟨B, k, none⟩ = some x0 := (hb12.cell (p := ⟨B, k, none⟩) hBl).trans cB; have fB2 : w2.frozen? ⟨B, k, none⟩ = false := (hb12.frozen (p := ⟨B, k, none⟩) hBl).trans fB))
      all_goals
        have HB12 := Lib.hid hb12
        have HR2 := Lib.hid hr
        have hgw : wr.heap.size ≤ g := by have := hba.size; simp at hg this; omega
        have hm2 := (HM.out.heap (w' := wr.drew) rfl).below hb12 (Nat.le_refl _)
        have hs2 : ∃ cs, w2.heap[B]? = some (.cells cs 31 (0, 0)) ∧ cs.size = R := by
          obtain ⟨ds, e1, e2⟩ := HSZ.out
          exact ⟨ds, (hb12.block B hBl).trans e1, e2⟩
        have hpu := hm2.push hs2 hlt (g := g) (c := c) (by omega) hc hr (fun i hi => by have := (HM.out.row i hi).lt; omega)
        have HPU := Lib.hid hpu
        have HD2 := Lib.hid ((hb12.block D (lt_of_block HD.out)).trans HD.out)
        have HX2 := Lib.hid ((hb12.block X (lt_of_block HX.out)).trans HX.out)
        have HW2 := Lib.hid (HW.out.drew.trans (hb12.mono HW.out.size))
        clear hb12 hr hg hba hb2 hm2 hs2 hpu hna cD cD1 nD1 nD2 cD2 cB fB cB2 fB2 HCC
        go_wp2_with fail
        go_roundw
        case rel => exact ⟨k + 1, by omega, by go_num, ⟨_, _, HPU.out.1⟩, HPU.out.2, (Below.heap_setCell _ _ _ D nDB).trans HD2.out, (Below.heap_setCell _ _ _ X nXB).trans HX2.out, HW2.out.setCell (p := ⟨B, k, none⟩) hbB _⟩
        case measure => simp [intOf]; omega
    · obtain rfl : R = k := by omega
      obtain ⟨u, hu, hN⟩ := HV.out 0 (by omega)
      obtain ⟨Au, cu, rfl, _⟩ := nums_view hN
      rw [HOK.out.cols 0 (by omega), Nat.add_zero] at hu
      have cu0 := (HW.out.cell (p := ⟨b, off, none⟩) hbl).trans hu
      have hlt := M.besF_lt (E := E) HOK.out HAP.out
      have hinv := M.red_inv HOK.out.isp hlt
      have hred : RedO wr B D B R (K + E) R G Cp (.slice none 0 0) (M.red p R (M.besF m ap) 0) := ⟨HD.out, HM.out, World.ownsRow_nil _ _ _ _, by omega, Nat.le_refl _⟩
      have HI := Lib.hid hinv
      have HRED := Lib.hid hred
      clear hu hN hinv hred hlt
      go_wp2_with fail
      clear cu0
      go_loopw [37] (fun ti wq => ∃ c : Nat, c ≤ K ∧ ti = .int .i64 c ∧ (∃ G Cp vp, RedO wq B D B R (K + E) R G Cp vp (M.red p R (M.besF m ap) c)) ∧ wq.heap[X]? = some (.cells #[.slice none 0 0, .slice none 0 0, .int .u64 0] 110 (0, 0)) ∧ Below w.heap.size w wq) (fun ti _ => K - (intOf ti).toNat)
      case atStart => exact ⟨0, by omega, rfl, ⟨_, _, _, HRED.out⟩, HX.out, HW.out⟩
      case round =>
        obtain ⟨c, hc, rfl, ⟨G, Cp, vp, hr⟩, hX, hW⟩ := hrel
        have HR := Lib.hid hr
        have HX2 := Lib.hid hX
        have HW2 := Lib.hid hW
        clear hr hX hW HRED HX HW HM HSZ HD
        by_cases hlt : c < K
        · have HP := Lib.hid (pivot_any p B D B R (K + E) R c G Cp vp _ _ _ HOK.out.isp (by omega) (by omega) (by omega) (by have := HR.out.mat.lt; omega) HR.out (HI.out c (by omega)))
          go_wp2_with fail
          refine HP.out.mono ?_
          rintro e w3 ⟨rfl, hb3, G3, Cp3, vp3, hr3⟩
          have HR3 := Lib.hid hr3
          have HX3 := Lib.hid ((hb3.block X (by omega)).trans HX2.out)
          have HW3 := Lib.hid (HW2.out.trans (hb3.mono hbB))
          clear hb3 hr3
          go_wp2_with fail
          go_roundw
          case rel => exact ⟨c + 1, by omega, by go_num, ⟨_, _, _, HR3.out⟩, HX3.out, HW3.out⟩
          case measure => simp [intOf]; omega
        · obtain rfl : K = c := by omega
          obtain ⟨Ap, cp, rfl⟩ := HR.out.len
          obtain ⟨L, eL⟩ : ∃ L, L = (M.red p R (M.besF m ap) K).lead.length := ⟨_, rfl⟩
          obtain ⟨d, ed⟩ : ∃ d, d = (M.red p R (M.besF m ap) K).d := ⟨_, rfl⟩
          have c0 := HR.out.c0
          have c1 := HR.out.c1
          have c2 := HR.out.c2
          rw [← eL] at c1
          rw [← ed] at c2
          have EL := Lib.hid eL
          have ED := Lib.hid ed
          clear eL ed
          have hrx := HX2.out
          have x0 := cell_of_row _ X 0 _ _ (0, 0) hrx
          have x1 := cell_of_row _ X 1 _ _ (0, 0) hrx
          have x2 := cell_of_row _ X 2 _ _ (0, 0) hrx
          have y0 := frozen_of_row _ X 0 _ _ hrx
          have y1 := frozen_of_row _ X 1 _ _ hrx
          have y2 := frozen_of_row _ X 2 _ _ hrx
          simp only [List.getElem?_toArray, List.getElem?_cons_zero, List.getElem?_cons_succ] at x0 x1 x2
          clear hrx
          go_wp2_with fail
          rename_i wq
          obtain ⟨W9, eW9⟩ : ∃ W9, W9 = ((wr.setCell ⟨X, 0, none⟩ (.slice (some ⟨B, 0, none⟩) R R)).setCell ⟨X, 1, none⟩ (.slice Ap L cp)).setCell ⟨X, 2, none⟩ (.int .u64 (d : Nat)) := ⟨_, rfl⟩
          have hX9 : W9.heap[X]? = some (.cells #[.slice (some ⟨B, 0, none⟩) R R, .slice Ap L cp, .int .u64 (d : Nat)] 110 (0, 0)) := by
            rw [eW9]
            have a := heap_setCell_same _ X 2 _ _ (.int .u64 (d : Nat)) (heap_setCell_same _ X 1 _ _ (.slice Ap L cp) (heap_setCell_same wr X 0 _ _ (.slice (some ⟨B, 0, none⟩) R R) HX2.out))
            rw [a]
            rfl
          have hn9 : ∀ g, g ≠ X → W9.heap[g]? = wr.heap[g]? := fun g hg => by
            rw [eW9]
            exact (Below.heap_setCell _ _ _ g hg).trans ((Below.heap_setCell _ _ _ g hg).trans (Below.heap_setCell _ _ _ g hg))
          have hW9 : Below w.heap.size w W9 := by
            rw [eW9]
            exact ((HW2.out.setCell (p := ⟨X, 0, none⟩) hbX _).setCell (p := ⟨X, 1, none⟩) hbX _).setCell (p := ⟨X, 2, none⟩) hbX _
          have hm9 : MatO W9 B B R (K + E) G Cp (M.red p R (M.besF m ap) K).m := HR.out.mat.same fun g hg => hn9 g (by
            rcases hg with rfl | ⟨i, hi, rfl⟩
            · omega
            · have := (HR.out.mat.baseG i hi).1; omega)
          have hp9 : W9.ownsRow w.heap.size 3 1 (.slice Ap L cp) (M.red p R (M.besF m ap) K).lead.length (ints (M.red p R (M.besF m ap) K).lead) := by
            rw [EL.out]
            refine ⟨HR.out.piv.1, ?_⟩
            rcases HR.out.piv.2 with h2 | ⟨g, c, cur, hv, hg, hh, r⟩
            · exact .inl h2
            · exact .inr ⟨g, c, cur, hv, by omega, (hn9 g (by omega)).trans hh, r⟩
          rw [← eW9]
          refine bodyPost_ret (results_cell_row (p := 6) (ty := 110) (by kernel_rfl) _ _ X _ _ (0, 0) _ rfl hX9 Try.underlying110 rfl (by kernel_rfl)) rfl ?_
          exact ⟨B, R, G, Cp, _, by rw [← ED.out], hW9, Nat.le_refl _, ⟨hbB, hm9.top, hm9.row, fun i hi => ⟨by have := (hm9.baseG i hi).1; omega, (hm9.baseG i hi).2⟩, hm9.inj⟩, hp9⟩
end Go.Proofs.Ytfgfapbhgehfiaa
