/-
  Package matrix: the search for a pivot.
-/
import Derived.Test.YtgoognipljknjaaMr1
import Derived.Test.YtgoognipljknjaaElimM
import Derived.Outline
namespace Go.Proofs.Ytgoognipljknjaa
open Go.RowKit
set_option linter.unusedVariables false
set_option maxRecDepth 100000

set_option maxHeartbeats 400000 in
theorem nonzero_any (g C cap col b : Nat) (F : Nat → Nat) (w : World) (hC : C ≤ 1000) (hcol : col < C) (h : Row w g C F) (hb : w.cell? ⟨b, 0, none⟩ = some (.int .i64 (col : Nat))) {r : Bool} (hr : decide (F col ≠ 0) = r) :
    Calls Try.prog 128 #[.slice (some ⟨g, 0, none⟩) C cap, .pointer (some ⟨b, 0, none⟩)] w fun e w' => e = .returned (.bool r) ∧ w = w' := by
  have hc := h.cell hcol
  obtain ⟨x, ex⟩ : ∃ x, x = F col := ⟨_, rfl⟩
  rw [← ex] at hc hr
  have HR := Lib.hid hr
  clear h hr ex
  go_enter Try.func128, Try.ntmps128
  go_wp2_with fail
  go_ret
  exact ⟨ret_bool (by rw [← HR.out, Bool.eq_iff_iff]; simp), rfl⟩

set_option maxHeartbeats 1000000 in
theorem idxRows_any (base B top R C col b cap : Nat) (A : Option Addr) (G Cp : Nat → Nat) (F : Nat → Nat → Nat) (w : World) (hR : R ≤ 1000) (hC : C ≤ 1000) (hcol : col < C) (hA : top < R → A = some ⟨B, top, none⟩)
    (h : MatO w base B R C G Cp F) (hb : w.cell? ⟨b, 0, none⟩ = some (.int .i64 (col : Nat))) {r : Nat} (hr : M.First F col top R r) {x : Int} (hx : x = if r < R then ((r - top : Nat) : Int) else -1) :
    Calls Try.prog 127 #[.slice A (R - top) cap, .func (.func 128) #[] #[.pointer (some ⟨b, 0, none⟩)]] w fun e w' => e = .returned (.int .i64 x) ∧ w = w' := by
  have HM := Lib.hid h
  have HA := Lib.hid hA
  have HX := Lib.hid hx
  have HR := Lib.hid hr
  obtain ⟨r1, r2, _, _⟩ := hr
  obtain ⟨n, en⟩ : ∃ n, n = R - top := ⟨_, rfl⟩
  rw [← en]
  have hn : n ≤ 1000 := by omega
  have HN := Lib.hid en
  clear h hA hx r1 r2 en
  go_enter Try.func127, Try.ntmps127
  go_wp2_with fail
  go_loop [8] (fun t => ∃ k : Nat, k ≤ n ∧ t = .int .i64 k ∧ ∀ i, i < k → F (top + i) col = 0) (fun t => n - (intOf t).toNat)
  case atStart => exact ⟨0, by omega, rfl, fun i hi => absurd hi (by omega)⟩
  case round =>
    obtain ⟨k, hk, rfl, hz⟩ := hrel
    have HZ := Lib.hid hz
    clear hz
    by_cases hlt : k < n
    · have hk2 : top + k < R := by have := HN.out; omega
      obtain rfl := HA.out (by omega)
      have hc := HM.out.cell hk2
      by_cases h0 : F (top + k) col = 0
      · have HC := Lib.hid (nonzero_any (G (top + k)) C (Cp (top + k)) col b (F (top + k)) w hC hcol (HM.out.row _ hk2) hb (r := false) (by simp [h0]))
        have H0 := Lib.hid h0
        clear h0
        go_wp2_with fail
        refine HC.out.mono ?_
        rintro e w' ⟨rfl, rfl⟩
        go_wp2_with fail
        go_round
        case rel => exact ⟨k + 1, by omega, by go_num, fun i hi => by
          by_cases e : i = k
          · rw [e]; exact H0.out
          · exact HZ.out i (by omega)⟩
        case measure => simp [intOf]; omega
      · have HC := Lib.hid (nonzero_any (G (top + k)) C (Cp (top + k)) col b (F (top + k)) w hC hcol (HM.out.row _ hk2) hb (r := true) (by simp [h0]))
        have H0 := Lib.hid h0
        clear h0
        go_wp2_with fail
        refine HC.out.mono ?_
        rintro e w' ⟨rfl, rfl⟩
        go_wp2_with fail
        go_ret
        have hF : M.First F col top R (top + k) := ⟨by omega, by omega, fun i h1 h2 => by have := HZ.out (i - top) (by omega); rwa [show top + (i - top) = i by omega] at this, fun _ => H0.out⟩
        have e := HR.out.unique hF
        exact ⟨ret1 (by rw [HX.out, e, if_pos hk2]; omega), rfl⟩
    · obtain rfl : k = n := by omega
      go_wp2_with fail
      go_ret
      have hF : M.First F col top R R := by
        obtain ⟨r1, r2, _, _⟩ := HR.out
        exact ⟨by omega, by omega, fun i h1 h2 => by have := HZ.out (i - top) (by have := HN.out; omega); rwa [show top + (i - top) = i by omega] at this, fun h => absurd h (by omega)⟩
      have e := HR.out.unique hF
      exact ⟨ret1 (by rw [HX.out, e, if_neg (by omega)]), rfl⟩
end Go.Proofs.Ytgoognipljknjaa
