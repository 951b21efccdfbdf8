/-
  Package poly: Weights.
-/
import Derived.Test.YtafoonhmfieikaaP6
import Derived.Test.YtafoonhmfieikaaInvOk
import Derived.RegionTactic
import Derived.ChangeAlike
namespace Go.Proofs.Ytafoonhmfieikaa
open Go.RowKit
set_option linter.unusedVariables false

namespace M
def aboveAt (p : Nat) (xs : List Nat) (t i : Nat) : Nat := distK p t xs i xs.length
def belowAt (p : Nat) (xs : List Nat) (i : Nat) : Nat := distK p (xs.getD i 0) xs i xs.length
def weights (p : Nat) (xs : List Nat) (t : Nat) : List Nat := tabM xs.length fun i => aboveAt p xs t i * pw p (belowAt p xs i) (p - 2) % p
theorem below_zero {p : Nat} (hi : isP p = true) {xs : List Nat} (hw : within p xs = true) : (∀ i, i < xs.length → belowAt p xs i ≠ 0) ↔ xs.Nodup := by
  constructor
  · intro h
    apply Diff.nodup
    intro i j hij hj e
    apply h i (by omega)
    unfold belowAt
    rw [distK_zero hi (within_mem hw (by omega)) hw i _ (Nat.le_refl _)]
    exact ⟨j, hj, by omega, e.symm⟩
  · intro hn i hil h0
    unfold belowAt at h0
    rw [distK_zero hi (within_mem hw hil) hw i _ (Nat.le_refl _)] at h0
    obtain ⟨j, h1, h2, h3⟩ := h0
    exact h2 (getD_inj_of_nodup hn h1 hil h3)
theorem tabM_len (n : Nat) (F : Nat → Nat) : (tabM n F).length = n := by simp [tabM]
theorem within_tab {p n : Nat} {F : Nat → Nat} (h : ∀ i, i < n → F i < p) : within p (tabM n F) = true := within_of fun i hi => by
  rw [tabM_len] at hi
  rw [tabM_get, if_pos hi]; exact h i hi
end M

theorem rep_row1 {w : World} {n : Nat} {rep : List Value} (h : rep = List.replicate n (Value.int .u64 0)) (G : Nat → Nat) : Rw ((w.alloc (.cells rep.toArray 22)).alloc (.cells rep.toArray 22)).drew w.heap.size n (someOf G 0) := by
  intro i hi
  have h1 : ((w.alloc (.cells rep.toArray 22)).alloc (.cells rep.toArray 22)).drew.heap[w.heap.size]? = some (.cells rep.toArray 22 (0, 0)) := (Below.heap_alloc (w.alloc (.cells rep.toArray 22)) (.cells rep.toArray 22) w.heap.size (by simp)).trans (World.alloc_heap_new w _)
  refine ⟨?_, frozen_of_row _ _ i _ _ h1⟩
  rw [cell_of_row _ _ i _ _ (0, 0) h1, h]
  simp [someOf, hi]
theorem rep_row2 {w : World} {n : Nat} {rep : List Value} (h : rep = List.replicate n (Value.int .u64 0)) (G : Nat → Nat) : Rw ((w.alloc (.cells rep.toArray 22)).alloc (.cells rep.toArray 22)).drew (w.heap.size + 1) n (someOf G 0) := by
  intro i hi
  have h1 : ((w.alloc (.cells rep.toArray 22)).alloc (.cells rep.toArray 22)).drew.heap[w.heap.size + 1]? = some (.cells rep.toArray 22 (0, 0)) := by
    have := World.alloc_heap_new (w.alloc (.cells rep.toArray 22)) (.cells rep.toArray 22)
    rwa [World.size_alloc] at this
  refine ⟨?_, frozen_of_row _ _ i _ _ h1⟩
  rw [cell_of_row _ _ i _ _ (0, 0) h1, h]
  simp [someOf, hi]
theorem nums_of_cells {w : World} {B n : Nat} {zs : List Nat} {F : Nat → Nat} (hc : ∀ i, i < zs.length → w.cell? ⟨B, i, none⟩ = some (.int .u64 (F i : Nat))) (hB : B < w.heap.size) (hn : n ≤ 17592186043904) (hF : ∀ i, i < n → F i < 18446744073709551616) (hl : zs.length = n := by simp [M.tabM]) : Nums w (.slice (some ⟨B, 0, none⟩) n n) (M.tabM n F) := by
  refine ⟨fun x hx => ?_, by rw [tab_len]; exact hn, .inr ⟨B, 0, n, by rw [tab_len], by rw [tab_len]; exact Nat.le_refl _, hB, fun i hi => ?_⟩⟩
  · unfold M.tabM at hx
    obtain ⟨i, hi, rfl⟩ := List.mem_map.1 hx
    exact hF i (List.mem_range.1 hi)
  · rw [tab_len] at hi
    rw [tab_get F hi, Nat.zero_add]
    exact hc i (by omega)

/-- what Weights answers where its arguments are in order -/
def WeightsEnd (w : World) (p : Nat) (xs : List Nat) (t : Nat) (e : Ending) (w' : World) : Prop :=
  Below w.heap.size w w' ∧ ((xs.Nodup ∧ ∃ v, e = .returned (.tuple #[v, .int .i64 0]) ∧ Nums w' v (M.weights p xs t)) ∨ (¬ xs.Nodup ∧ e = .returned (.tuple #[.slice none 0 0, .int .i64 6])))

set_option maxHeartbeats 1000000 in
theorem weights_bad (p t : Nat) (v : Value) (xs : List Nat) (w : World) (hp : p < 18446744073709551616) (ht : t < 18446744073709551616) (hv : Nums w v xs) (h : M.chk p xs 201 ≠ 0) :
    Calls Try.prog 43 #[.int .u64 p, v, .int .u64 t] w fun e w' => e = .returned (.tuple #[.slice none 0 0, .int .i64 (M.chk p xs 201)]) ∧ w = w' := by
  have HC := Lib.hid (check_any p v xs 201 w hp (by omega) hv)
  obtain ⟨A, cap, rfl⟩ := nums_slice' hv
  have hb : (M.chk p xs 201 != 0) = true := by rw [bne_iff_ne]; exact h
  obtain ⟨c, ec⟩ : ∃ c, c = M.chk p xs 201 := ⟨_, rfl⟩
  rw [← ec] at HC hb ⊢
  clear ec h hp
  go_enter Try.func43, Try.ntmps43
  go_wp2_with fail
  refine HC.out.mono ?_
  rintro e w1 ⟨rfl, rfl⟩
  go_wp2_with fail
  go_ret2
  exact ⟨rfl, rfl⟩

set_option maxHeartbeats 1000000 in
theorem weights_arg (p t : Nat) (v : Value) (xs : List Nat) (w : World) (ht : t < 18446744073709551616) (hpt : p ≤ t) (hv : Nums w v xs) (h : M.chk p xs 201 = 0) :
    Calls Try.prog 43 #[.int .u64 p, v, .int .u64 t] w fun e w' => e = .returned (.tuple #[.slice none 0 0, .int .i64 2]) ∧ w = w' := by
  have hc := check_any p v xs 201 w (by omega) (by omega) hv
  rw [h] at hc
  have HC := Lib.hid hc
  obtain ⟨A, cap, rfl⟩ := nums_slice' hv
  have hb : decide ((p : Int) ≤ (t : Int)) = true := by simp; omega
  clear hc h
  go_enter Try.func43, Try.ntmps43
  go_wp2_with fail
  refine HC.out.mono ?_
  rintro e w1 ⟨rfl, rfl⟩
  go_wp2_with fail
  go_ret2
  exact ⟨rfl, rfl⟩

set_option maxHeartbeats 4000000 in
theorem weights_any (p t : Nat) (v : Value) (xs : List Nat) (w : World) (htp : t < p) (hv : Nums w v xs) (h : M.chk p xs 201 = 0) :
    Calls Try.prog 43 #[.int .u64 p, v, .int .u64 t] w (WeightsEnd w p xs t) := by
  obtain ⟨hi, hl, hwx⟩ := M.chk_ok h
  obtain ⟨h3, hp⟩ := M.pos_of hi
  have hc := check_any p v xs 201 w (by omega) (by omega) hv
  rw [h] at hc
  have HC := Lib.hid hc
  have HNV := Lib.hid hv
  obtain ⟨A, cap, rfl, _, _, hcells⟩ := nums_view hv
  have HV := Lib.hid hcells
  have HW := Lib.hid hwx
  have HI := Lib.hid hi
  obtain ⟨i0, hi0, hz0, hz1, hz2⟩ := info_parts infoU64
  obtain ⟨rep, erep⟩ : ∃ rep, rep = List.replicate xs.length (Value.int .u64 0) := ⟨_, rfl⟩
  have hmk : ∀ W : World, (Instr.makeSlice 23 (.int .i64 ((xs.length : Nat) : Int)) (.int .i64 ((xs.length : Nat) : Int))).run Try.prog W = .ok (.slice (some ⟨W.heap.size, 0, none⟩) xs.length xs.length) (W.alloc (.cells rep.toArray 22)) := by
    intro W
    have hr := run_make_row (P := Try.prog) 23 22 i0 (.int .u64 0) Try.underlying23 hi0 hz0 hz1 rfl .i64 .i64 xs.length (by rw [hz2]; omega) (by omega) W
    have : (madeCells #[Value.int .u64 0] xs.length) = rep.toArray := by rw [erep, ← toList_madeCells_one]
    rw [this] at hr; exact hr
  have HREP := Lib.hid erep
  have hb : decide ((p : Int) ≤ (t : Int)) = false := by simp; omega
  have hbn : decide (p ≤ t) = false := by simp; omega
  clear h hi hwx hcells hc hv erep
  go_enter Try.func43, Try.ntmps43
  go_wp2_with fail
  refine HC.out.mono ?_
  rintro e w1 ⟨rfl, rfl⟩
  go_wp2_with fail
  go_region
  ·
    obtain ⟨W0, hW0⟩ : ∃ W0, ((w.alloc (.cells rep.toArray 22)).alloc (.cells rep.toArray 22)).drew = W0 := ⟨_, rfl⟩
    have r1 : Rw W0 w.heap.size xs.length (someOf (M.aboveAt p xs t) 0) := by rw [← hW0]; exact rep_row1 HREP.out _
    have r2 : Rw W0 (w.heap.size + 1) xs.length (someOf (M.aboveAt p xs t) 0) := by rw [← hW0]; exact rep_row2 HREP.out _
    have hB0 : Below w.heap.size w W0 := by rw [← hW0]; exact (((Below.refl _ _).alloc (Nat.le_refl _) _).alloc (by simp) _).drew
    have hs0 : w.heap.size + 1 < W0.heap.size := by rw [← hW0]; simp
    have R1 := Lib.hid (r1.congr (G := someOf (M.aboveAt p xs t) 0) (fun i _ => rfl))
    have R2 := Lib.hid (r2.congr (G := someOf (M.belowAt p xs) 0) (fun i _ => rfl))
    have R1' := Lib.hid (r1.congr (G := someOf (M.belowAt p xs) 0) (fun i _ => rfl))
    have R2' := Lib.hid (r2.congr (G := someOf (M.aboveAt p xs t) 0) (fun i _ => rfl))
    have HB0 := Lib.hid hB0
    have HS0 := Lib.hid hs0
    rw [hW0]
    clear hW0 r1 r2 hB0 hs0 hmk
    go_wp2_with fail
    go_loopw [32] (fun ti wr => ∃ k : Nat, k ≤ xs.length ∧ ti = .int .i64 k ∧ Rw wr (w.heap.size) xs.length (someOf (M.aboveAt p xs t) k) ∧ Rw wr (w.heap.size + 1) xs.length (someOf (M.belowAt p xs) k) ∧ Below w.heap.size w wr ∧ w.heap.size + 1 < wr.heap.size) (fun ti _ => xs.length - (intOf ti).toNat)
    case atStart => exact ⟨0, by omega, rfl, by first | exact R1.out | exact R2'.out, by first | exact R2.out | exact R1'.out, HB0.out, HS0.out⟩
    case round =>
      obtain ⟨k, hk, rfl, ha, hb', hB, hs⟩ := hrel
      have HA := Lib.hid ha
      have HBW := Lib.hid hb'
      have HB := Lib.hid hB
      have HS := Lib.hid hs
      clear ha hb' hB hs
      by_cases hlt : k < xs.length
      · have hx := M.within_mem HW.out hlt
        have hN1 := HNV.out.at (Nat.le_refl _) HB.out HNV.out
        have hd1 := Lib.hid (distance_any p t _ xs k wr (by omega) hp htp HW.out (by omega) hN1)
        have hd2 := distance_any p (xs.getD k 0) _ xs k wr (by omega) hp hx HW.out (by omega) hN1
        obtain ⟨b, off, rfl, hbl, hcell⟩ := HV.out (by omega)
        have hc := (HB.out.cell (p := ⟨b, off + k, none⟩) hbl).trans (hcell k hlt)
        have hkn : k < xs.length := hlt
        obtain ⟨c3, f3⟩ := HA.out k hkn
        obtain ⟨c4, f4⟩ := HBW.out k hkn
        have st1 := someOf_step (M.aboveAt p xs t) k
        have st2 := someOf_step (M.belowAt p xs) k
        have ea : M.aboveAt p xs t k = M.distK p t xs k xs.length := rfl
        have eb : M.belowAt p xs k = M.distK p (xs.getD k 0) xs k xs.length := rfl
        rw [← ea] at hd1
        rw [← eb] at hd2
        obtain ⟨x, ex⟩ : ∃ x, x = xs.getD k 0 := ⟨_, rfl⟩
        rw [← ex] at hc hx hd2
        obtain ⟨v1, ev1⟩ : ∃ v1, v1 = M.aboveAt p xs t k := ⟨_, rfl⟩
        obtain ⟨v2, ev2⟩ : ∃ v2, v2 = M.belowAt p xs k := ⟨_, rfl⟩
        rw [← ev1] at hd1 st1
        rw [← ev2] at hd2 st2
        have HD2 := Lib.hid hd2
        have ra := ((HA.out.set hkn v1).other (b := w.heap.size + 1) (by omega) k (.int .u64 (v2 : Nat))).congr (fun i _ => st1 i)
        have rb := ((HBW.out.other (b := w.heap.size) (by omega) k (.int .u64 (v1 : Nat))).set hkn v2).congr (fun i _ => st2 i)
        have hB2 := (HB.out.setCell (p := ⟨w.heap.size, k, none⟩) (by simp) (.int .u64 (v1 : Nat))).setCell (p := ⟨w.heap.size + 1, k, none⟩) (by simp) (.int .u64 (v2 : Nat))
        have c5 := (HBW.out.other (b := w.heap.size) (by omega) k (.int .u64 (v1 : Nat)) k hkn).1
        have f5 := (HBW.out.other (b := w.heap.size) (by omega) k (.int .u64 (v1 : Nat)) k hkn).2
        have RA := Lib.hid ra
        have RB := Lib.hid rb
        have HB2 := Lib.hid hB2
        clear hd2 ex ev1 ev2 ea eb ra rb hB2 hcell st1 st2 hN1
        go_wp2_with fail
        refine hd1.out.mono ?_
        rintro e w' ⟨rfl, rfl⟩
        go_wp2_with fail
        refine HD2.out.mono ?_
        rintro e w' ⟨rfl, rfl⟩
        go_wp2_with fail
        go_roundw
        case rel => exact ⟨k + 1, by omega, by go_num, RA.out, RB.out, HB2.out, by simpa using HS.out⟩
        case measure => simp [intOf]; omega
      · obtain rfl : k = xs.length := by omega
        have hpos : 0 < p := by omega
        have ra := HA.out.congr (G := M.aboveAt p xs t) (fun i hi => by unfold someOf; rw [if_pos (by omega)])
        have rb := HBW.out.congr (G := M.belowAt p xs) (fun i hi => by unfold someOf; rw [if_pos (by omega)])
        have hla : ∀ i, M.aboveAt p xs t i < p := fun i => M.distK_lt (by omega) _ _ _
        have hlb : ∀ i, M.belowAt p xs i < p := fun i => M.distK_lt (by omega) _ _ _
        have NA := Lib.hid (ra.nums (by have := HS.out; omega) (by omega) (fun i _ => by have := hla i; omega))
        have NB := Lib.hid (rb.nums (by have := HS.out; omega) (by omega) (fun i _ => by have := hlb i; omega))
        have WA := Lib.hid (M.within_tab (n := xs.length) (fun i _ => hla i))
        have WB := Lib.hid (M.within_tab (n := xs.length) (fun i _ => hlb i))
        have VB : M.validB p (M.tabM xs.length (M.belowAt p xs)) = true := by unfold M.validB; rw [HI.out, WB.out]; rfl
        by_cases hz : NoZero (M.tabM xs.length (M.belowAt p xs)) (M.tabM xs.length (M.belowAt p xs)).length
        · have hnd : xs.Nodup := by
            rw [← M.below_zero HI.out HW.out]
            intro i hil
            have := hz i (by rw [M.tabM_len]; exact hil)
            rwa [M.tabM_get, if_pos hil] at this
          have hin := inverses_ok p _ _ wr VB hz NB.out
          rw [M.tabM_len] at hin
          have HIN := Lib.hid hin
          have HND := Lib.hid hnd
          clear hin hnd hz VB ra rb hla hlb
          go_wp2_with fail
          refine HIN.out.mono ?_
          rintro e w2 ⟨rfl, hb2, hs2, hc2⟩
          have B2 := Lib.hid (bnext HB.out hb2)
          have hNI : Nums w2 (.slice (some ⟨wr.heap.size + 1, 0, none⟩) xs.length xs.length) (M.tabM xs.length fun i => M.pw p ((M.tabM xs.length (M.belowAt p xs)).getD i 0) (p - 2)) := nums_of_cells (zs := M.tabM xs.length (M.belowAt p xs)) (by rw [M.tabM_len]; exact hc2) hs2 (by omega) (fun i _ => by have := M.pw_lt (p := p) ((M.tabM xs.length (M.belowAt p xs)).getD i 0) (p - 2) (by omega); omega)
          have NI := Lib.hid hNI
          have NA2 := Lib.hid (NA.out.below hb2)
          have WI := Lib.hid (M.within_tab (p := p) (n := xs.length) (F := fun i => M.pw p ((M.tabM xs.length (M.belowAt p xs)).getD i 0) (p - 2)) (fun i _ => M.pw_lt _ _ (by omega)))
          clear hb2 hs2 hc2 hNI
          go_wp2_with fail
          refine (termwise_any 78 (fun a b => a * b % p) p _ _ _ _ _ (.inr (.inr rfl)) (by omega) hp WA.out WI.out (by rw [M.tabM_len]; omega) (by rw [M.tabM_len]; omega) NA2.out NI.out (fun a b W ha hb => mul_ok p a b W (M.valid2_iff.2 ⟨HI.out, ha, hb⟩)) (fun a b => Nat.mod_lt _ (by omega))).mono ?_
          rintro e w3 ⟨v3, rfl, hn3, hb3⟩
          have B3 := Lib.hid (bnext B2.out hb3)
          have N3 := Lib.hid hn3
          clear hb3 hn3
          go_wp2_with fail
          go_ret2
          refine ⟨B3.out, .inl ⟨HND.out, _, rfl, ?_⟩⟩
          have e : M.weights p xs t = M.tabM (max (M.tabM xs.length (M.aboveAt p xs t)).length (M.tabM xs.length fun i => M.pw p ((M.tabM xs.length (M.belowAt p xs)).getD i 0) (p - 2)).length) (fun i => (M.tabM xs.length (M.aboveAt p xs t)).getD i 0 * (M.tabM xs.length fun i => M.pw p ((M.tabM xs.length (M.belowAt p xs)).getD i 0) (p - 2)).getD i 0 % p) := by
            rw [M.tabM_len, M.tabM_len, Nat.max_self]
            unfold M.weights
            apply tab_congr
            intro i hi
            rw [M.tabM_get, M.tabM_get, if_pos hi, if_pos hi, M.tabM_get, if_pos hi]
          rw [e]; exact N3.out
        · have hnd : ¬ xs.Nodup := by
            intro hn
            apply hz
            intro i hil
            rw [M.tabM_len] at hil
            rw [M.tabM_get, if_pos hil]
            exact (M.below_zero HI.out HW.out).2 hn i (hil)
          have HIN := Lib.hid (inverses_zero p _ _ wr (by omega) VB hz NB.out)
          have HND := Lib.hid hnd
          clear hnd hz VB ra rb hla hlb
          go_wp2_with fail
          refine HIN.out.mono ?_
          rintro e w2 ⟨rfl, hb2⟩
          have B2 := Lib.hid (bnext HB.out hb2)
          clear hb2
          go_wp2_with fail
          go_ret2
          exact ⟨B2.out, .inr ⟨HND.out, rfl⟩⟩
  ·
    obtain ⟨W0, hW0⟩ : ∃ W0, ((w.alloc (.cells rep.toArray 22)).alloc (.cells rep.toArray 22)).drew = W0 := ⟨_, rfl⟩
    have r1 : Rw W0 w.heap.size xs.length (someOf (M.aboveAt p xs t) 0) := by rw [← hW0]; exact rep_row1 HREP.out _
    have r2 : Rw W0 (w.heap.size + 1) xs.length (someOf (M.aboveAt p xs t) 0) := by rw [← hW0]; exact rep_row2 HREP.out _
    have hB0 : Below w.heap.size w W0 := by rw [← hW0]; exact (((Below.refl _ _).alloc (Nat.le_refl _) _).alloc (by simp) _).drew
    have hs0 : w.heap.size + 1 < W0.heap.size := by rw [← hW0]; simp
    have R1 := Lib.hid (r1.congr (G := someOf (M.aboveAt p xs t) 0) (fun i _ => rfl))
    have R2 := Lib.hid (r2.congr (G := someOf (M.belowAt p xs) 0) (fun i _ => rfl))
    have R1' := Lib.hid (r1.congr (G := someOf (M.belowAt p xs) 0) (fun i _ => rfl))
    have R2' := Lib.hid (r2.congr (G := someOf (M.aboveAt p xs t) 0) (fun i _ => rfl))
    have HB0 := Lib.hid hB0
    have HS0 := Lib.hid hs0
    rw [hW0]
    clear hW0 r1 r2 hB0 hs0 hmk
    go_wp2_with fail
    go_loopw [32] (fun ti wr => ∃ k : Nat, k ≤ xs.length ∧ ti = .int .i64 k ∧ Rw wr (w.heap.size + 1) xs.length (someOf (M.aboveAt p xs t) k) ∧ Rw wr (w.heap.size) xs.length (someOf (M.belowAt p xs) k) ∧ Below w.heap.size w wr ∧ w.heap.size + 1 < wr.heap.size) (fun ti _ => xs.length - (intOf ti).toNat)
    case atStart => exact ⟨0, by omega, rfl, by first | exact R1.out | exact R2'.out, by first | exact R2.out | exact R1'.out, HB0.out, HS0.out⟩
    case round =>
      obtain ⟨k, hk, rfl, ha, hb', hB, hs⟩ := hrel
      have HA := Lib.hid ha
      have HBW := Lib.hid hb'
      have HB := Lib.hid hB
      have HS := Lib.hid hs
      clear ha hb' hB hs
      by_cases hlt : k < xs.length
      · have hx := M.within_mem HW.out hlt
        have hN1 := HNV.out.at (Nat.le_refl _) HB.out HNV.out
        have hd1 := Lib.hid (distance_any p t _ xs k wr (by omega) hp htp HW.out (by omega) hN1)
        have hd2 := distance_any p (xs.getD k 0) _ xs k wr (by omega) hp hx HW.out (by omega) hN1
        obtain ⟨b, off, rfl, hbl, hcell⟩ := HV.out (by omega)
        have hc := (HB.out.cell (p := ⟨b, off + k, none⟩) hbl).trans (hcell k hlt)
        have hkn : k < xs.length := hlt
        obtain ⟨c3, f3⟩ := HA.out k hkn
        obtain ⟨c4, f4⟩ := HBW.out k hkn
        have st1 := someOf_step (M.aboveAt p xs t) k
        have st2 := someOf_step (M.belowAt p xs) k
        have ea : M.aboveAt p xs t k = M.distK p t xs k xs.length := rfl
        have eb : M.belowAt p xs k = M.distK p (xs.getD k 0) xs k xs.length := rfl
        rw [← ea] at hd1
        rw [← eb] at hd2
        obtain ⟨x, ex⟩ : ∃ x, x = xs.getD k 0 := ⟨_, rfl⟩
        rw [← ex] at hc hx hd2
        obtain ⟨v1, ev1⟩ : ∃ v1, v1 = M.aboveAt p xs t k := ⟨_, rfl⟩
        obtain ⟨v2, ev2⟩ : ∃ v2, v2 = M.belowAt p xs k := ⟨_, rfl⟩
        rw [← ev1] at hd1 st1
        rw [← ev2] at hd2 st2
        have HD2 := Lib.hid hd2
        have ra := ((HA.out.set hkn v1).other (b := w.heap.size) (by omega) k (.int .u64 (v2 : Nat))).congr (fun i _ => st1 i)
        have rb := ((HBW.out.other (b := w.heap.size + 1) (by omega) k (.int .u64 (v1 : Nat))).set hkn v2).congr (fun i _ => st2 i)
        have hB2 := (HB.out.setCell (p := ⟨w.heap.size + 1, k, none⟩) (by simp) (.int .u64 (v1 : Nat))).setCell (p := ⟨w.heap.size, k, none⟩) (by simp) (.int .u64 (v2 : Nat))
        have c5 := (HBW.out.other (b := w.heap.size + 1) (by omega) k (.int .u64 (v1 : Nat)) k hkn).1
        have f5 := (HBW.out.other (b := w.heap.size + 1) (by omega) k (.int .u64 (v1 : Nat)) k hkn).2
        have RA := Lib.hid ra
        have RB := Lib.hid rb
        have HB2 := Lib.hid hB2
        clear hd2 ex ev1 ev2 ea eb ra rb hB2 hcell st1 st2 hN1
        go_wp2_with fail
        refine hd1.out.mono ?_
        rintro e w' ⟨rfl, rfl⟩
        go_wp2_with fail
        refine HD2.out.mono ?_
        rintro e w' ⟨rfl, rfl⟩
        go_wp2_with fail
        go_roundw
        case rel => exact ⟨k + 1, by omega, by go_num, RA.out, RB.out, HB2.out, by simpa using HS.out⟩
        case measure => simp [intOf]; omega
      · obtain rfl : k = xs.length := by omega
        have hpos : 0 < p := by omega
        have ra := HA.out.congr (G := M.aboveAt p xs t) (fun i hi => by unfold someOf; rw [if_pos (by omega)])
        have rb := HBW.out.congr (G := M.belowAt p xs) (fun i hi => by unfold someOf; rw [if_pos (by omega)])
        have hla : ∀ i, M.aboveAt p xs t i < p := fun i => M.distK_lt (by omega) _ _ _
        have hlb : ∀ i, M.belowAt p xs i < p := fun i => M.distK_lt (by omega) _ _ _
        have NA := Lib.hid (ra.nums (by have := HS.out; omega) (by omega) (fun i _ => by have := hla i; omega))
        have NB := Lib.hid (rb.nums (by have := HS.out; omega) (by omega) (fun i _ => by have := hlb i; omega))
        have WA := Lib.hid (M.within_tab (n := xs.length) (fun i _ => hla i))
        have WB := Lib.hid (M.within_tab (n := xs.length) (fun i _ => hlb i))
        have VB : M.validB p (M.tabM xs.length (M.belowAt p xs)) = true := by unfold M.validB; rw [HI.out, WB.out]; rfl
        by_cases hz : NoZero (M.tabM xs.length (M.belowAt p xs)) (M.tabM xs.length (M.belowAt p xs)).length
        · have hnd : xs.Nodup := by
            rw [← M.below_zero HI.out HW.out]
            intro i hil
            have := hz i (by rw [M.tabM_len]; exact hil)
            rwa [M.tabM_get, if_pos hil] at this
          have hin := inverses_ok p _ _ wr VB hz NB.out
          rw [M.tabM_len] at hin
          have HIN := Lib.hid hin
          have HND := Lib.hid hnd
          clear hin hnd hz VB ra rb hla hlb
          go_wp2_with fail
          refine HIN.out.mono ?_
          rintro e w2 ⟨rfl, hb2, hs2, hc2⟩
          have B2 := Lib.hid (bnext HB.out hb2)
          have hNI : Nums w2 (.slice (some ⟨wr.heap.size + 1, 0, none⟩) xs.length xs.length) (M.tabM xs.length fun i => M.pw p ((M.tabM xs.length (M.belowAt p xs)).getD i 0) (p - 2)) := nums_of_cells (zs := M.tabM xs.length (M.belowAt p xs)) (by rw [M.tabM_len]; exact hc2) hs2 (by omega) (fun i _ => by have := M.pw_lt (p := p) ((M.tabM xs.length (M.belowAt p xs)).getD i 0) (p - 2) (by omega); omega)
          have NI := Lib.hid hNI
          have NA2 := Lib.hid (NA.out.below hb2)
          have WI := Lib.hid (M.within_tab (p := p) (n := xs.length) (F := fun i => M.pw p ((M.tabM xs.length (M.belowAt p xs)).getD i 0) (p - 2)) (fun i _ => M.pw_lt _ _ (by omega)))
          clear hb2 hs2 hc2 hNI
          go_wp2_with fail
          refine (termwise_any 78 (fun a b => a * b % p) p _ _ _ _ _ (.inr (.inr rfl)) (by omega) hp WA.out WI.out (by rw [M.tabM_len]; omega) (by rw [M.tabM_len]; omega) NA2.out NI.out (fun a b W ha hb => mul_ok p a b W (M.valid2_iff.2 ⟨HI.out, ha, hb⟩)) (fun a b => Nat.mod_lt _ (by omega))).mono ?_
          rintro e w3 ⟨v3, rfl, hn3, hb3⟩
          have B3 := Lib.hid (bnext B2.out hb3)
          have N3 := Lib.hid hn3
          clear hb3 hn3
          go_wp2_with fail
          go_ret2
          refine ⟨B3.out, .inl ⟨HND.out, _, rfl, ?_⟩⟩
          have e : M.weights p xs t = M.tabM (max (M.tabM xs.length (M.aboveAt p xs t)).length (M.tabM xs.length fun i => M.pw p ((M.tabM xs.length (M.belowAt p xs)).getD i 0) (p - 2)).length) (fun i => (M.tabM xs.length (M.aboveAt p xs t)).getD i 0 * (M.tabM xs.length fun i => M.pw p ((M.tabM xs.length (M.belowAt p xs)).getD i 0) (p - 2)).getD i 0 % p) := by
            rw [M.tabM_len, M.tabM_len, Nat.max_self]
            unfold M.weights
            apply tab_congr
            intro i hi
            rw [M.tabM_get, M.tabM_get, if_pos hi, if_pos hi, M.tabM_get, if_pos hi]
          rw [e]; exact N3.out
        · have hnd : ¬ xs.Nodup := by
            intro hn
            apply hz
            intro i hil
            rw [M.tabM_len] at hil
            rw [M.tabM_get, if_pos hil]
            exact (M.below_zero HI.out HW.out).2 hn i (hil)
          have HIN := Lib.hid (inverses_zero p _ _ wr (by omega) VB hz NB.out)
          have HND := Lib.hid hnd
          clear hnd hz VB ra rb hla hlb
          go_wp2_with fail
          refine HIN.out.mono ?_
          rintro e w2 ⟨rfl, hb2⟩
          have B2 := Lib.hid (bnext HB.out hb2)
          clear hb2
          go_wp2_with fail
          go_ret2
          exact ⟨B2.out, .inr ⟨HND.out, rfl⟩⟩
end Go.Proofs.Ytafoonhmfieikaa
