/-
  Rows of points of one's own; a part of a slice of points.
-/
import Derived.Test.YtglehjcohdjhoaaRB
import Derived.Laws.AppendOwn
namespace Go.Proofs.Ytglehjcohdjhoaa
open Go.RowKit
set_option linter.unusedVariables false
set_option maxRecDepth 100000

/-- a row of points, point by point -/
def ptRow4 (xs ys : List Nat) : Nat → List Value
  | 0 => []
  | k + 1 => ptRow4 xs ys k ++ [.int .u64 (xs.getD k 0 : Nat), .int .u64 (ys.getD k 0 : Nat)]
theorem ptRow4_len (xs ys : List Nat) : ∀ k, (ptRow4 xs ys k).length = k * 2
  | 0 => rfl
  | k + 1 => by simp [ptRow4, ptRow4_len xs ys k]; omega
theorem ptRow4_get (xs ys : List Nat) : ∀ (k i : Nat), i < k → (ptRow4 xs ys k)[i * 2]? = some (.int .u64 (xs.getD i 0 : Nat)) ∧ (ptRow4 xs ys k)[i * 2 + 1]? = some (.int .u64 (ys.getD i 0 : Nat))
  | 0, i, h => absurd h (by omega)
  | k + 1, i, h => by
    by_cases hk : i < k
    · obtain ⟨h1, h2⟩ := ptRow4_get xs ys k i hk
      unfold ptRow4
      rw [List.getElem?_append_left (by rw [ptRow4_len]; omega), List.getElem?_append_left (by rw [ptRow4_len]; omega)]
      exact ⟨h1, h2⟩
    · obtain rfl : i = k := by omega
      unfold ptRow4
      rw [List.getElem?_append_right (by rw [ptRow4_len]; omega), List.getElem?_append_right (by rw [ptRow4_len]; omega), ptRow4_len, Nat.sub_self, Nat.add_sub_cancel_left]
      exact ⟨rfl, rfl⟩
theorem pts_of_row4 {w : World} {base : Nat} {v : Value} {xs ys : List Nat} (hyl : ys.length = xs.length) (hx : ∀ x ∈ xs, x < 18446744073709551616) (hy : ∀ y ∈ ys, y < 18446744073709551616) (hl : xs.length ≤ 1000)
    (h : w.ownsRow base 109 2 v xs.length (ptRow4 xs ys xs.length)) : Pts w v xs ys := by
  have hlt := h.lt
  have hcells := fun g hg => h.cells (g := g) hg
  refine ⟨hyl, by omega, hx, hy, ?_⟩
  rcases h.2 with ⟨rfl, h0⟩ | ⟨g, cap, cur, rfl, hb, hg, hc, _⟩
  · exact ⟨none, 0, by rw [h0], by omega, fun h1 => absurd h1 (by omega)⟩
  · refine ⟨some ⟨g, 0, none⟩, cap, rfl, hc, fun _ => ⟨g, 0, rfl, (hlt g rfl).2, fun i hi => ?_⟩⟩
    obtain ⟨e1, e2⟩ := ptRow4_get xs ys xs.length i hi
    have h1 := hcells g rfl _ _ e1
    have h2 := hcells g rfl _ _ e2
    rw [Addr.add_lit] at h1 h2
    rw [Nat.add_assoc]
    exact ⟨h1, h2⟩


theorem infoPt : (Try.prog.info? 109).map (fun i => (i.zero, i.size, i.bytes)) = some (some (.agg #[.int .u64 0, .int .u64 0]), 2, 16) := by kernel_rfl
theorem Pts.take {w : World} {A : Option Addr} {n cap k : Nat} {xs ys : List Nat} (h : Pts w (.slice A n cap) xs ys) (hk : k ≤ xs.length) : Pts w (.slice A k cap) (xs.take k) (ys.take k) := by
  obtain ⟨h1, h2, h3, h4, A', cap', e, hc, h5⟩ := h
  simp only [Value.slice.injEq] at e
  obtain ⟨rfl, rfl, rfl⟩ := e
  refine ⟨by simp [h1], by simp; omega, fun x hx => h3 x (List.mem_of_mem_take hx), fun y hy => h4 y (List.mem_of_mem_take hy), A, cap, by rw [List.length_take, Nat.min_eq_left hk], by rw [List.length_take]; omega, fun h0 => ?_⟩
  rw [List.length_take] at h0
  obtain ⟨b, off, e2, hlt, hcell⟩ := h5 (by omega)
  refine ⟨b, off, e2, hlt, fun i hi => ?_⟩
  rw [List.length_take] at hi
  have hik : i < k := by omega
  rw [M.getD_take, M.getD_take, if_pos hik, if_pos hik]
  exact hcell i (by omega)
end Go.Proofs.Ytglehjcohdjhoaa
