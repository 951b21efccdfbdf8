/-
  The walk of the law PolyFew.
-/
import Derived.Test.YtafoonhmfieikaaLawLib
import Derived.Test.YtafoonhmfieikaaApi3
namespace Go.Proofs.Ytafoonhmfieikaa.polyFewW
open Go.RowKit
set_option linter.unusedVariables false

set_option maxHeartbeats 1000000 in
theorem bad (w : World) (p : Nat) (hp : p < 18446744073709551616) (v : Value) (f : List Nat) (hv : Nums w v f) (c : Int) (hc : c ≠ 0) (hm : Calls Try.prog 49 #[.int .u64 p, v] w (Fails2 w c)) :
    Calls Try.prog 13 #[.int .u64 p, v] w fun e w' => e = .returned (.bool true) ∧ Below w.heap.size w w' := by
  have HM := Lib.hid hm
  have hb : (c != 0) = true := by rw [bne_iff_ne]; exact hc
  obtain ⟨A, cap, rfl⟩ := nums_slice' hv
  have hud : ∀ b : Bool, undef ≠ Value.bool b := fun b h => by cases h
  clear hc hv hm
  go_enter Try.func13, Try.ntmps13
  go_wp2_with fail
  refine (HM.out).mono ?_
  rintro e w1 ⟨rfl, hb1⟩
  have B1 := Lib.hid hb1
  clear hb1
  go_wp2_with fail
  refine (alive_any _).mono ?_
  rintro e w2 ⟨rfl, hb2⟩
  have B2 := Lib.hid (bnext B1.out hb2)
  clear hb2
  go_wp2_with fail
  go_ret
  exact ⟨rfl, B2.out⟩

set_option maxHeartbeats 1000000 in
theorem good (w : World) (p : Nat) (hp : p < 18446744073709551616) (v : Value) (f : List Nat) (hv : Nums w v f) (h : M.chk p f 201 = 0) (hz : M.trim f ≠ []) :
    Calls Try.prog 13 #[.int .u64 p, v] w fun e w' => e = .returned (.bool true) ∧ Below w.heap.size w w' := by
  obtain ⟨hi, hl, hw⟩ := M.chk_ok h
  obtain ⟨h3, hp'⟩ := M.pos_of hi
  have HV := Lib.hid hv
  have HM := Lib.hid (roots_ok p v f w hv h hz)
  have hlen : (M.roots p f).length < (M.trim f).length := by
    have := M.rootsTo_len hi (M.within_trim hw) (M.trim_trim f) hz
    rw [M.rootsTo_trim] at this; exact this
  have hsort : (M.roots p f).Pairwise (· < ·) := M.rootsTo_sorted p f p
  have hroot : ∀ i, i < (M.roots p f).length → (M.roots p f).getD i 0 < p ∧ M.pev p f ((M.roots p f).getD i 0) = 0 := fun i hi => by
    rw [M.getD_lt hi]; exact M.rootsTo_mem.1 (List.getElem_mem hi)
  have hinc : ∀ i, i + 1 < (M.roots p f).length → (M.roots p f).getD i 0 < (M.roots p f).getD (i + 1) 0 := fun i hi => by
    rw [M.getD_lt (by omega), M.getD_lt hi]
    exact (List.pairwise_iff_getElem.1 hsort) i (i + 1) (by omega) hi (by omega)
  have ht := fun W (h1 : Nums W v f) => rtrim_any v f W h1
  have he := fun x W (hx : x < p) (h1 : Nums W v f) => reval_any p x v f W (by omega) hp' hx hw h1
  obtain ⟨R, eR⟩ : ∃ R, R = M.roots p f := ⟨_, rfl⟩
  obtain ⟨g, eg⟩ : ∃ g, g = M.trim f := ⟨_, rfl⟩
  rw [← eR] at HM hlen hroot hinc
  rw [← eg] at ht hlen
  have HT := Lib.hid ht
  have HE := Lib.hid he
  have HRO := Lib.hid hroot
  have HIN := Lib.hid hinc
  obtain ⟨A, cap, rfl⟩ := nums_slice' hv
  have hud : ∀ b : Bool, undef ≠ Value.bool b := fun b h => by cases h
  clear h hz hv ht hi hw eg eR hsort hroot hinc he
  go_enter Try.func13, Try.ntmps13
  go_wp2_with fail
  refine (HM.out).mono ?_
  rintro e w1 ⟨v1, rfl, hNM, hb1⟩
  have B1 := Lib.hid hb1
  have NM := Lib.hid hNM
  clear hb1 hNM
  obtain ⟨aM, cM, rfl, hcM, hlM, hCM⟩ := nums_view NM.out
  have HCM := Lib.hid hCM
  clear hCM
  go_wp2_with fail
  go_loop [25] (fun t => ∃ k : Nat, k ≤ R.length ∧ t = .int .i64 k) (fun t => R.length - (intOf t).toNat)
  case atStart => exact ⟨0, by omega, rfl⟩
  case round =>
    obtain ⟨k, hk, rfl⟩ := hrel
    by_cases hlt : k < R.length
    · obtain ⟨b, off, rfl, hb, hcell⟩ := HCM.out (by omega)
      have hc := hcell k hlt
      obtain ⟨hxp, hx0⟩ := HRO.out k hlt
      have hev := HE.out _ w1 hxp (HV.out.below B1.out)
      rw [hx0] at hev
      by_cases hk0 : k = 0
      · subst hk0
        obtain ⟨x, ex⟩ : ∃ x, x = R.getD 0 0 := ⟨_, rfl⟩
        rw [← ex] at hc hev
        rw [Nat.add_zero] at hc
        have HEV := Lib.hid hev
        clear hev ex hx0 hxp hcell
        go_wp2_with fail
        refine HEV.out.mono ?_
        rintro e w' ⟨rfl, rfl⟩
        go_wp2_with fail
        go_round
        case rel => exact ⟨1, by omega, by go_num⟩
        case measure => simp [intOf]; omega
      · obtain ⟨m, rfl⟩ : ∃ m, k = m + 1 := ⟨k - 1, by omega⟩
        have hc2 := hcell m (by omega)
        have hin := HIN.out m hlt
        obtain ⟨x, ex⟩ : ∃ x, x = R.getD (m + 1) 0 := ⟨_, rfl⟩
        obtain ⟨y, ey⟩ : ∃ y, y = R.getD m 0 := ⟨_, rfl⟩
        rw [← ex] at hc hev hin
        rw [← ey] at hc2 hin
        have HEV := Lib.hid hev
        have hyx : ¬ x ≤ y := by omega
        clear hev ex ey hx0 hxp hcell hk0
        go_wp2_with fail
        refine HEV.out.mono ?_
        rintro e w' ⟨rfl, rfl⟩
        go_wp2_with fail
        go_round
        case rel => exact ⟨m + 2, by omega, by go_num⟩
        case measure => simp [intOf]; omega
    · obtain rfl : k = R.length := by omega
      go_wp2_with fail
      refine (HT.out _ (HV.out.below B1.out)).mono ?_
      rintro e w2 ⟨v2, rfl, hNT, hb2⟩
      have B2 := Lib.hid (bnext B1.out hb2)
      have NM_2 := Lib.hid (NM.out.below hb2)
      have NT := Lib.hid hNT
      clear hb2 hNT
      obtain ⟨aT, cT, rfl⟩ := nums_slice' NT.out
      go_wp2_with fail
      refine (alive_any _).mono ?_
      rintro e w3 ⟨rfl, hb3⟩
      have B3 := Lib.hid (bnext B2.out hb3)
      have NM_3 := Lib.hid (NM_2.out.below hb3)
      have NT_3 := Lib.hid (NT.out.below hb3)
      clear hb3
      go_wp2_with fail
      go_ret
      exact ⟨rfl, B3.out⟩

set_option maxHeartbeats 1000000 in
theorem walk (w : World) (p : Nat) (hp : p < 18446744073709551616) (v : Value) (f : List Nat) (hv : Nums w v f) :
    Calls Try.prog 13 #[.int .u64 p, v] w fun e w' => e = .returned (.bool true) ∧ Below w.heap.size w w' := by
  by_cases h : M.chk p f 201 = 0
  · by_cases hz : M.trim f = []
    · exact bad w p hp v f hv 7 (by omega) (roots_zero p v f w hv h hz)
    · exact good w p hp v f hv h hz
  · exact bad w p hp v f hv _ h (roots_bad p v f w hp hv h)
end Go.Proofs.Ytafoonhmfieikaa.polyFewW
