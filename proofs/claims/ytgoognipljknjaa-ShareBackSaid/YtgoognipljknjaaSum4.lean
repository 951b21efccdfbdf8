/-
  The contract of Sum of package field; slices of slices of numbers.
-/
import Derived.Test.YtgoognipljknjaaRow
namespace Go.Proofs.Ytgoognipljknjaa
open Go.RowKit
set_option linter.unusedVariables false
set_option maxRecDepth 100000

namespace M
def sumK (l : List Nat) : Nat → Nat
  | 0 => 0
  | k + 1 => sumK l k + l.getD k 0
theorem sumK_le {p : Nat} {l : List Nat} (hp : p ≤ 65537) (h : within p l = true) : ∀ k, k ≤ l.length → sumK l k ≤ k * 65536
  | 0, _ => by simp [sumK]
  | k + 1, hk => by
    have ih := sumK_le hp h k (by omega)
    have := within_mem h (show k < l.length by omega)
    simp only [sumK]; omega
end M

set_option maxHeartbeats 1000000 in
theorem sum_cells (p b off cap : Nat) (zs : List Nat) (w : World) (hv : M.validB p zs = true) (hl : zs.length ≤ 17592186043904) (hz : ∀ n ∈ zs, n < 18446744073709551616) (hb : b < w.heap.size) (hc : zs.length ≤ cap)
    (hcell : ∀ i, i < zs.length → w.cell? ⟨b, off + i, none⟩ = some (.int .u64 (zs.getD i 0))) :
    Calls Try.prog 79 #[.int .u64 p, .slice (some ⟨b, off, none⟩) zs.length cap] w fun e w' => e = .returned (.tuple #[.int .u64 (M.sumK zs zs.length % p : Nat), .int .i64 0]) ∧ w = w' := by
  obtain ⟨h3, hp⟩ := M.pos_of (M.validB_isP hv)
  have hV := valid_any p (.slice (some ⟨b, off, none⟩) zs.length cap) zs w (by omega) ⟨hz, by omega, .inr ⟨b, off, cap, rfl, hc, hb, hcell⟩⟩
  rw [hv] at hV
  have HV := Lib.hid hV
  have HC := Lib.hid hcell
  have HW := Lib.hid (M.validB_within hv)
  clear hV hcell hv hz
  go_enter Try.func79, Try.ntmps79
  go_wp2_with fail
  refine HV.out.mono ?_
  rintro e w' ⟨rfl, rfl⟩
  go_wp2_with fail
  go_loop [6, 15] (fun ts ti => ∃ k : Nat, k ≤ zs.length ∧ ti = .int .i64 k ∧ ts = .int .u64 (M.sumK zs k)) (fun _ ti => zs.length - (intOf ti).toNat)
  case atStart => exact ⟨0, by omega, rfl, rfl⟩
  case round =>
    obtain ⟨k, hk, rfl, rfl⟩ := hrel
    have hs := M.sumK_le hp HW.out k hk
    by_cases hlt : k < zs.length
    · have hc1 := HC.out k hlt
      have hx := M.within_mem HW.out hlt
      have hst : M.sumK zs (k + 1) = M.sumK zs k + zs.getD k 0 := rfl
      obtain ⟨x, ex⟩ : ∃ x, x = zs.getD k 0 := ⟨_, rfl⟩
      obtain ⟨s, es⟩ : ∃ s, s = M.sumK zs k := ⟨_, rfl⟩
      rw [← ex] at hc1 hx hst
      rw [← es] at hst hs ⊢
      have HS := Lib.hid hst
      clear hst ex es
      go_wp2
      go_round
      case rel => exact ⟨k + 1, by omega, by go_num, by rw [HS.out]; go_num⟩
      case measure => simp [intOf]; omega
    · obtain rfl : k = zs.length := by omega
      go_wp2
      go_ret2
      exact ⟨ret2 (by first | rfl | rw [Int.natCast_emod]) rfl, rfl⟩

set_option maxHeartbeats 1000000 in
theorem sum_none (p cap : Nat) (a : Option Addr) (w : World) (hi : M.isP p = true) :
    Calls Try.prog 79 #[.int .u64 p, .slice a 0 cap] w fun e w' => e = .returned (.tuple #[.int .u64 (0 : Nat), .int .i64 0]) ∧ w = w' := by
  obtain ⟨h3, hp⟩ := M.pos_of hi
  have HV := Lib.hid (valid_nil p a cap w (by omega) hi)
  clear hi
  go_enter Try.func79, Try.ntmps79
  go_wp2_with fail
  refine HV.out.mono ?_
  rintro e w' ⟨rfl, rfl⟩
  go_wp2_with fail
  go_loop [6, 15] (fun ts ti => ti = .int .i64 0 ∧ ts = .int .u64 0) (fun _ _ => 0)
  case atStart => exact ⟨rfl, rfl⟩
  case round =>
    obtain ⟨rfl, rfl⟩ := hrel
    go_wp2
    go_ret2
    exact ⟨rfl, rfl⟩

theorem sum_ok (p : Nat) (v : Value) (zs : List Nat) (w : World) (hv : M.validB p zs = true) (hl : zs.length ≤ 17592186043904) (hN : Nums w v zs) :
    Calls Try.prog 79 #[.int .u64 p, v] w fun e w' => e = .returned (.tuple #[.int .u64 (M.sumK zs zs.length % p : Nat), .int .i64 0]) ∧ w = w' := by
  obtain ⟨h1, h2, h3⟩ := hN
  rcases h3 with ⟨a, cap, rfl, rfl, _⟩ | ⟨b, off, cap, rfl, hc, hb, hcell⟩
  · have h := sum_none p cap a w (M.validB_isP hv)
    have e : M.sumK [] ([] : List Nat).length % p = 0 := by simp [M.sumK]
    rw [e]; exact h
  · exact sum_cells p b off cap zs w hv hl h1 hb hc hcell

set_option maxHeartbeats 400000 in
theorem sum_bad (p : Nat) (v : Value) (zs : List Nat) (w : World) (hp : p < 18446744073709551616) (hv : M.validB p zs = false) (hN : Nums w v zs) :
    Calls Try.prog 79 #[.int .u64 p, v] w fun e w' => e = .returned (.tuple #[.int .u64 0, .int .i64 2]) ∧ w = w' := by
  have hV := valid_any p v zs w hp hN
  rw [hv] at hV
  have HV := Lib.hid hV
  clear hV hv hN hp
  go_enter Try.func79, Try.ntmps79
  go_wp2_with fail
  refine HV.out.mono ?_
  rintro e w' ⟨rfl, rfl⟩
  go_wp2_with fail
  go_ret2
  exact ⟨rfl, rfl⟩

/-! ### A slice of slices that reads as rows of numbers -/
def Mat (w : World) (v : Value) (m : List (List Nat)) : Prop :=
  m.length ≤ 17592186043904 ∧ ∃ A cap, v = .slice A m.length cap ∧ m.length ≤ cap ∧ (0 < m.length → ∃ b off, A = some ⟨b, off, none⟩ ∧ b < w.heap.size ∧ ∀ i, i < m.length → ∃ u, w.cell? ⟨b, off + i, none⟩ = some u ∧ Nums w u (m.getD i []))
theorem Mat.below {w w' : World} {v : Value} {m : List (List Nat)} (h : Mat w v m) (hb : Below w.heap.size w w') : Mat w' v m := by
  obtain ⟨h1, A, cap, h2, h3, h4⟩ := h
  refine ⟨h1, A, cap, h2, h3, fun h0 => ?_⟩
  obtain ⟨b, off, e, hlt, hc⟩ := h4 h0
  refine ⟨b, off, e, Nat.lt_of_lt_of_le hlt hb.size, fun i hi => ?_⟩
  obtain ⟨u, hu, hn⟩ := hc i hi
  exact ⟨u, (hb.cell (p := ⟨b, off + i, none⟩) hlt).trans hu, hn.below hb⟩
theorem Mat.at {w0 w w' : World} {B : Nat} {v : Value} {m : List (List Nat)} (h : Mat w0 v m) (hw : w0.heap.size ≤ B) (h1 : Below w0.heap.size w0 w) (hb : Below B w w') : Mat w' v m :=
  h.below (h1.trans (hb.mono hw))
theorem mat_nil (w : World) : Mat w (.slice none 0 0) [] := ⟨by simp, none, 0, rfl, by simp, fun h => absurd h (by simp)⟩

theorem mat_view {w : World} {v : Value} {m : List (List Nat)} (h : Mat w v m) : ∃ A cap, v = .slice A m.length cap := by
  obtain ⟨_, A, cap, e, _⟩ := h
  exact ⟨A, cap, e⟩
theorem mat_cell {w : World} {A : Option Addr} {n cap : Nat} {m : List (List Nat)} (h : Mat w (.slice A n cap) m) {i : Nat} (hi : i < m.length) :
    ∃ b off u, A = some ⟨b, off, none⟩ ∧ b < w.heap.size ∧ w.cell? ⟨b, off + i, none⟩ = some u ∧ Nums w u (m.getD i []) := by
  obtain ⟨_, A', cap', e, _, hc⟩ := h
  simp only [Value.slice.injEq] at e
  obtain ⟨rfl, rfl, rfl⟩ := e
  obtain ⟨b, off, rfl, hb, hcell⟩ := hc (by omega)
  obtain ⟨u, hu, hN⟩ := hcell i hi
  exact ⟨b, off, u, rfl, hb, hu, hN⟩
end Go.Proofs.Ytgoognipljknjaa
