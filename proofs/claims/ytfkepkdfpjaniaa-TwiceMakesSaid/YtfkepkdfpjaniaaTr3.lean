/-
  The reference of package twice: Make.
-/
import Derived.Test.YtfkepkdfpjaniaaTr2
import Derived.Test.YtfkepkdfpjaniaaTrN
import Derived.Test.YtfkepkdfpjaniaaThr6
import Derived.Test.YtfkepkdfpjaniaaDrw6
namespace Go.Proofs.Ytfkepkdfpjaniaa
open Go.RowKit
set_option linter.unusedVariables false
set_option maxRecDepth 100000

theorem own_form7 {w : World} {base n size : Nat} {e : TypeId} {v : Value} {l : List Value} (h : w.ownsRow base e size v n l) : ∃ A c, v = .slice A n c := by
  rcases h.2 with ⟨rfl, rfl⟩ | ⟨g, cap, cur, rfl, _⟩
  · exact ⟨none, 0, rfl⟩
  · exact ⟨_, _, rfl⟩
theorem drop_take7 (p : Nat) (zs : List Nat) (a n : Nat) : ((List.range n).map fun i => (zs.drop a).getD i 0 % p) = M.tabM n fun i => zs.getD (a + i) 0 % p := by
  unfold M.tabM
  refine List.map_congr_left fun i _ => ?_
  simp [List.getD_eq_getElem?_getD]

set_option maxHeartbeats 4000000 in
theorem rmake7_any (p s T : Nat) (n0 : Int) (v : Value) (zs : List Nat) (w : World) (h3 : 3 ≤ p) (hp : p ≤ 65537) (hT : T ≤ 3) (hs : s < p) (hv : Nums w v zs) :
    Calls Try.prog 20 #[suV p n0 T, .int .u64 s, v] w fun e w' => ∃ v1 v2, e = .returned (.tuple #[v1, v2]) ∧ Mat w' v1 (M.mmade p s T zs T) ∧ Nums w' v2 (zs.drop (T + T * (T + 1))) ∧ Below w.heap.size w w' := by
  have hud : ∀ b : Bool, undef ≠ Value.bool b := fun b h => by cases h
  have HDR := Lib.hid fun W n V ys (hn : n ≤ 65536) (h : Nums W V ys) => refDraw_any p n V ys W h3 hp hn h
  have HTR := Lib.hid fun W V ys (h : Nums W V ys) => rtrim_own V ys W h
  obtain ⟨A, cap, rfl⟩ := nums_slice' hv
  have HV := Lib.hid hv
  have hw1 : IntKind.i64.wrap ((T : Int) + 1) = (T : Int) + 1 := by rw [IntKind.wrap_i64]; omega
  unfold RefDrew at HDR
  clear hv
  unfold suV
  go_enter Try.func20, Try.ntmps20
  go_wp2_with fail
  have hB0 := balloc w (.cells #[.int .u64 p, .int .i64 n0, .int .i64 (T : Nat)] 24)
  (with_reducible refine (HDR.out _ T _ zs (by omega) (HV.out.below hB0)).mono ?_)
  rintro e w1 ⟨v1, v2, rfl, hn1, hn2, hb1⟩
  have e1 : ((List.range T).map fun i => zs.getD i 0 % p) = M.tabM T fun i => zs.getD i 0 % p := rfl
  rw [e1] at hn1
  have hB1 := bnext hB0 hb1
  have c0 := (hb1.cell (p := ⟨w.heap.size, 0, none⟩) (by simp)).trans (show (w.alloc (.cells #[.int .u64 p, .int .i64 n0, .int .i64 (T : Nat)] 24)).cell? ⟨w.heap.size, 0, none⟩ = some (.int .u64 (p : Nat)) by simp)
  have c2 := (hb1.cell (p := ⟨w.heap.size, 2, none⟩) (by simp)).trans (show (w.alloc (.cells #[.int .u64 p, .int .i64 n0, .int .i64 (T : Nat)] 24)).cell? ⟨w.heap.size, 2, none⟩ = some (.int .i64 (T : Nat)) by simp)
  have hl1 : w.heap.size < w1.heap.size := by have := hb1.size; simp at this; omega
  have HO1 := Lib.hid (show (w1.alloc (.cells #[.int .u64 (s : Nat)] 22)).ownsRow w1.heap.size 22 1 (.slice (some ⟨w1.heap.size, 0, none⟩) 1 1) 1 (vals [s]) from World.ownsRow_lit (base := w1.heap.size) (e := 22) (size := 1) w1 #[.int .u64 (s : Nat)] 1 (Nat.le_refl _) (by decide) rfl)
  have HB2 := Lib.hid (balloc w1 (.cells #[.int .u64 (s : Nat)] 22))
  have D2 := Lib.hid (hn1.below HB2.out)
  have N2 := Lib.hid hn2
  have B1 := Lib.hid hB1
  have C0 := Lib.hid c0
  have C2 := Lib.hid c2
  have htl : (M.tabM T fun i => zs.getD i 0 % p).length = T := by simp [M.tabM]
  obtain ⟨d, ed⟩ : ∃ d, d = M.tabM T fun i => zs.getD i 0 % p := ⟨_, rfl⟩
  have hdw : ∀ z ∈ s :: d, z < 18446744073709551616 := by
    intro z hz
    rcases List.mem_cons.1 hz with rfl | hz
    · omega
    · rw [ed] at hz
      unfold M.tabM at hz
      obtain ⟨i, _, rfl⟩ := List.mem_map.1 hz
      have := Nat.mod_lt (zs.getD i 0) (show 0 < p by omega)
      omega
  rw [← ed] at D2 htl
  have ED := Lib.hid ed
  have HDW := Lib.hid hdw
  clear hb1 hn1 hn2 hB0 hB1 e1 c0 c2 ed hdw
  go_wp2_with (at_builtin; refine wpList_append_nums (by rfl) _ _ rfl _ _ _ _ (by rfl) HO1.out _ _ (by rfl) D2.out (by rw [htl]; omega) HB2.out.size ?_; intro v5 w5 ho5 hb5)
  have B5 := Lib.hid (HB2.out.trans hb5)
  have hn5 := nums_of_owns (zs := s :: d) (show w5.ownsRow w1.heap.size 22 1 v5 (1 + d.length) (vals (s :: d)) from ho5) HDW.out (by simp [htl]; omega)
  have HN5 := Lib.hid hn5
  clear ho5 hb5 hn5
  go_wp2_with fail
  have ht5 := HTR.out _ _ _ HN5.out
  unfold GivesO at ht5
  obtain ⟨q0, eq0⟩ : ∃ q0, q0 = M.trim (s :: d) := ⟨_, rfl⟩
  rw [← eq0] at ht5
  have HQ0 := Lib.hid (show (∀ z ∈ q0, z < 18446744073709551616) ∧ q0.length ≤ 17592186043904 from ⟨fun z hz => HDW.out z (by rw [eq0] at hz; exact List.mem_of_mem_take hz), by have := M.trim_len_le (s :: d); rw [← eq0] at this; simp [htl] at this; omega⟩)
  obtain ⟨L6, eL6⟩ : ∃ L6, L6 = q0.length := ⟨_, rfl⟩
  rw [← eL6] at ht5
  (with_reducible refine ht5.mono ?_)
  clear ht5
  rintro e w6 ⟨v6, rfl, ho6, hb6⟩
  obtain ⟨A6, c6, rfl⟩ := own_form7 ho6
  have hB6 := bnext B5.out hb6
  have hs5 : w.heap.size ≤ w5.heap.size := by have := B5.out.size; omega
  have hs6 : w.heap.size + 1 ≤ w6.heap.size := by have := hB6.size; omega
  have hr1 : RowsN (w6.alloc (.cells #[.slice A6 L6 c6] 31)) (w.heap.size + 1) (.slice (some ⟨w6.heap.size, 0, none⟩) 1 1) [q0] := RowsN.one (nums_of_owns (zs := q0) ho6 HQ0.out.1 HQ0.out.2) hs6
  have hB7 := bnext hB6 (balloc w6 (.cells #[.slice A6 L6 c6] 31))
  have d0 := (hB7.cell (p := ⟨w.heap.size, 0, none⟩) hl1).trans C0.out
  have d2 := (hB7.cell (p := ⟨w.heap.size, 2, none⟩) hl1).trans C2.out
  have N7 := Lib.hid (N2.out.below hB7)
  have R7 := Lib.hid (show RowsN (w6.alloc (.cells #[.slice A6 L6 c6] 31)) (w.heap.size + 1) (.slice (some ⟨w6.heap.size, 0, none⟩) 1 1) (M.mmade p s T zs 0) by rw [show M.mmade p s T zs 0 = [q0] by rw [eq0, ED.out]; rfl]; exact hr1)
  have B7 := Lib.hid (bnext B1.out hB7)
  have hl7 : w.heap.size < (w6.alloc (.cells #[.slice A6 L6 c6] 31)).heap.size := by have := hB7.size; omega
  clear ho6 hb6 hB6 hr1 hB7 eq0 eL6
  go_wp2_with fail
  obtain ⟨w7, ew7⟩ : ∃ w7, w7 = w6.alloc (.cells #[.slice A6 L6 c6] 31) := ⟨_, rfl⟩
  rw [← ew7] at d0 d2 N7 R7 B7 hl7 ⊢
  clear ew7
  go_loopw [9, 10, 28] (fun tr to ti wr => ∃ k : Nat, k ≤ T ∧ ti = .int .i64 k ∧ Nums wr tr (zs.drop (T + k * (T + 1))) ∧ RowsN wr (w.heap.size + 1) to (M.mmade p s T zs k) ∧ Below (w.heap.size + 1) w7 wr) (fun _ _ ti _ => T - (intOf ti).toNat)
  case atStart => exact ⟨0, by omega, rfl, by simpa using N7.out, R7.out, Below.refl _ _⟩
  case round =>
    obtain ⟨k, hk, rfl, hN, hR, hB⟩ := hrel
    obtain ⟨Ar, cr, rfl⟩ := nums_slice' hN
    obtain ⟨Ao, co, rfl⟩ := hR.form
    have HN := Lib.hid hN
    have HR := Lib.hid hR
    have HB := Lib.hid hB
    clear hN hR hB
    by_cases hlt : k < T
    · have e0 := (HB.out.cell (p := ⟨w.heap.size, 0, none⟩) (Nat.lt_succ_self _)).trans d0
      have e2 := (HB.out.cell (p := ⟨w.heap.size, 2, none⟩) (Nat.lt_succ_self _)).trans d2
      have e1 : ((List.range (T + 1)).map fun i => (zs.drop (T + k * (T + 1))).getD i 0 % p) = M.tabM (T + 1) fun i => zs.getD (T + k * (T + 1) + i) 0 % p := drop_take7 p zs _ _
      have HDK := Lib.hid (show Calls Try.prog 56 #[.int .u64 p, _, .int .i64 ((T : Int) + 1)] wr _ from HDR.out wr (T + 1) _ _ (by omega) HN.out)
      rw [e1] at HDK
      obtain ⟨RL, eRL⟩ : ∃ RL, RL = (zs.drop (T + k * (T + 1))).length := ⟨_, rfl⟩
      obtain ⟨OL, eOL⟩ : ∃ OL, OL = (M.mmade p s T zs k).length := ⟨_, rfl⟩
      rw [← eRL] at HDK HN ⊢
      rw [← eOL] at HR ⊢
      have ERL := Lib.hid eRL
      have EOL := Lib.hid eOL
      clear eRL eOL e1
      go_wp2_with fail
      (with_reducible refine HDK.out.mono ?_)
      rintro e wa ⟨va, vr, rfl, hna, hnr, hba⟩
      obtain ⟨dk, edk⟩ : ∃ dk, dk = M.tabM (T + 1) fun i => zs.getD (T + k * (T + 1) + i) 0 % p := ⟨_, rfl⟩
      rw [← edk] at hna
      rw [List.drop_drop, show T + k * (T + 1) + (T + 1) = T + (k + 1) * (T + 1) by rw [Nat.add_mul]; omega] at hnr
      have hdl : dk.length = T + 1 := by rw [edk]; simp [M.tabM]
      obtain ⟨Aa, ca, rfl⟩ := nums_slice' hna
      rw [hdl] at hna ⊢
      have EDK := Lib.hid edk
      have HNA := Lib.hid hna
      have HNR := Lib.hid hnr
      have HRA := Lib.hid (HR.out.below hba)
      have hsr : w.heap.size + 1 ≤ wr.heap.size := by have := HB.out.size; omega
      have HBA := Lib.hid (HB.out.trans (hba.mono hsr))
      have hsa : w.heap.size + 1 ≤ wa.heap.size := by have := HBA.out.size; omega
      clear hna hnr hba edk HR HB HN HDK
      go_wp2_with fail
      have htk := HTR.out _ _ _ HNA.out
      unfold GivesO at htk
      obtain ⟨qk, eqk⟩ : ∃ qk, qk = M.trim dk := ⟨_, rfl⟩
      rw [← eqk] at htk
      have HQK := Lib.hid (show (∀ z ∈ qk, z < 18446744073709551616) ∧ qk.length ≤ 17592186043904 from ⟨fun z hz => HNA.out.1 z (by rw [eqk] at hz; exact List.mem_of_mem_take hz), by have := M.trim_len_le dk; rw [← eqk] at this; omega⟩)
      obtain ⟨Lk, eLk⟩ : ∃ Lk, Lk = qk.length := ⟨_, rfl⟩
      rw [← eLk] at htk
      (with_reducible refine htk.mono ?_)
      clear htk
      rintro e wb ⟨vb, rfl, hob, hbb⟩
      obtain ⟨Ab, cb, rfl⟩ := own_form7 hob
      have hob' : Nums wb (.slice Ab Lk cb) qk := nums_of_owns (zs := qk) hob HQK.out.1 HQK.out.2
      have HOB := Lib.hid (hob'.below (balloc wb (.cells #[.slice Ab Lk cb] 31)))
      have HRB := Lib.hid ((HRA.out.below hbb).below (balloc wb (.cells #[.slice Ab Lk cb] 31)))
      have HNB := Lib.hid (HNR.out.below hbb)
      have hBb := HBA.out.trans (hbb.mono hsa)
      have hsw : w.heap.size + 1 ≤ wb.heap.size := by have := hBb.size; omega
      have HBC := Lib.hid (hBb.trans ((balloc wb (.cells #[.slice Ab Lk cb] 31)).mono hsw))
      have hsb : w.heap.size + 1 ≤ (wb.alloc (.cells #[.slice Ab Lk cb] 31)).heap.size := by have := HBC.out.size; omega
      have HBB := Lib.hid hBb
      have HMM := Lib.hid (show M.mmade p s T zs (k + 1) = M.mmade p s T zs k ++ [qk] by rw [eqk, EDK.out]; rfl)
      have hol : OL ≤ 1000 := by
        rw [EOL.out]
        have : ∀ j, (M.mmade p s T zs j).length = j + 1 := fun j => by induction j with
          | zero => rfl
          | succ j ih => simp [M.mmade, ih]
        rw [this]; omega
      clear hob hob' hbb hBb eqk eLk
      go_wp2_with (at_builtin; refine wpList_append_rowN (by rfl) _ _ rfl (base := w.heap.size + 1) (X := wb.heap.size) (by rfl) (by rfl) (heap_alloc_new wb _) HRB.out HOB.out (by rw [← EOL.out]; exact hol) hsb ?_; intro v9 w9 hR9 hb9 hN9; have HR9 := Lib.hid hR9; have HB9 := Lib.hid hb9; have HN9 := Lib.hid (hN9 vr _ (HNB.out.below (balloc wb _))); clear hR9 hb9 hN9)
      refine ⟨⟨k + 1, by omega, by go_num, HN9.out, HMM.out ▸ HR9.out, HBC.out.trans HB9.out⟩, ?_⟩
      simp [intOf]; omega
    · obtain rfl : k = T := by omega
      go_wp2_with fail
      go_ret2
      refine ⟨_, _, rfl, HR.out.mat ?_, HN.out, B7.out.trans (HB.out.mono (Nat.le_succ _))⟩
      have : ∀ j, (M.mmade p s k zs j).length = j + 1 := fun j => by induction j with
        | zero => rfl
        | succ j ih => simp [M.mmade, ih]
      rw [this]; omega
end Go.Proofs.Ytfkepkdfpjaniaa
