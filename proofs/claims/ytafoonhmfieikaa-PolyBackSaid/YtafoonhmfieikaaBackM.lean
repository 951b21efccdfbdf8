/-
  The weighted sum of a polynomial's values is its value: the mathematics of PolyBack, and rows of points.
-/
import Derived.Test.YtafoonhmfieikaaP9
import Derived.Test.YtafoonhmfieikaaP7
import Derived.Test.YtafoonhmfieikaaLagM
namespace Go.Proofs.Ytafoonhmfieikaa
open Go.RowKit
set_option linter.unusedVariables false

namespace M
def dotK (l m : List Nat) : Nat → Nat
  | 0 => 0
  | k + 1 => dotK l m k + l.getD k 0 * m.getD k 0
theorem unit_exists {p : Nat} (hi : isP p = true) {xs : List Nat} (hw : within p xs = true) (i : Nat) : ∀ k, k ≤ xs.length → ∃ u, UnitK p xs i k u
  | 0, _ => ⟨[1], UnitK.start (by have := pos_of hi; omega) _ _⟩
  | k + 1, hk => by
    obtain ⟨u, hu⟩ := unit_exists hi hw i k (by omega)
    by_cases h : k = i
    · subst h; exact ⟨u, hu.skip⟩
    · exact ⟨_, UnitK.step (by have := pos_of hi; omega) hw (show k < xs.length by omega) h hu⟩
theorem weights_get {p t : Nat} (hp : 1 < p) (xs : List Nat) {i : Nat} (hi : i < xs.length) : (weights p xs t).getD i 0 = unitAt p t xs i xs.length := by
  rw [unitAt_dist hp]
  unfold weights
  rw [tabM_get, if_pos hi]
  rfl
theorem lag_exists {p : Nat} (hi : isP p = true) {xs ys : List Nat} (hw : within p xs = true) (hy : within p ys = true) (hl : ys.length = xs.length) (hn : xs.Nodup) :
    ∀ k, k ≤ xs.length → ∃ f, LagK p xs ys k f ∧ ∀ t, t < p → pev p f t = dotK (weights p xs t) ys k % p
  | 0, _ => ⟨[], LagK.start _ _ _, fun t _ => by rw [pev_nil]; simp [dotK]⟩
  | k + 1, hk => by
    obtain ⟨f, hf, hs⟩ := lag_exists hi hw hy hl hn k (by omega)
    obtain ⟨u, hu⟩ := unit_exists hi hw k xs.length (Nat.le_refl _)
    refine ⟨_, hf.step hi hw hy hl hn (by omega) hu, fun t ht => ?_⟩
    rw [pev_add, pev_scale, hs t ht, hu.2.2 t ht, Nat.mod_add_mod, Nat.add_mod_mod]
    show _ = (dotK (weights p xs t) ys k + (weights p xs t).getD k 0 * ys.getD k 0) % p
    rw [weights_get (by have := pos_of hi; omega) xs (by omega)]
theorem map_pev_get (p : Nat) (f xs : List Nat) {i : Nat} (h : i < xs.length) : (xs.map (pev p f)).getD i 0 = pev p f (xs.getD i 0) := by
  simp only [List.getD_eq_getElem?_getD, List.getElem?_map]
  simp [h]
theorem within_map_pev {p : Nat} (hp : 0 < p) (f xs : List Nat) : within p (xs.map (pev p f)) = true := within_of fun i hi => by
  rw [map_pev_get p f xs (by simpa using hi)]; exact pev_lt _ _ hp
theorem thru_back {p : Nat} {f xs : List Nat} (hwf : within p f = true) (hlen : (trim f).length ≤ xs.length) : Thru p xs (xs.map (pev p f)) (trim f) :=
  ⟨within_trim hwf, trim_trim f, hlen, fun i hi => by rw [pev_trim, map_pev_get p f xs hi]⟩
/-- the value at t is the weighted sum of the values at xs -/
theorem back_eq {p : Nat} (hi : isP p = true) {f xs : List Nat} (hwf : within p f = true) (hlen : (trim f).length ≤ xs.length) (hw : within p xs = true) (hn : xs.Nodup) {t : Nat} (ht : t < p) :
    dotK (weights p xs t) (xs.map (pev p f)) xs.length % p = pev p f t := by
  have hp : 0 < p := by have := pos_of hi; omega
  obtain ⟨g, hg, hs⟩ := lag_exists hi hw (within_map_pev hp f xs) (by simp) hn xs.length (Nat.le_refl _)
  rw [← hs t ht, Thru.unique hi hn hw hg.done (thru_back hwf hlen), pev_trim]
end M

/-! ### rows of points -/
def ptRow (xs ys : List Nat) : Nat → List Value
  | 0 => []
  | k + 1 => ptRow xs ys k ++ [.int .u64 (xs.getD k 0 : Nat), .int .u64 (ys.getD k 0 : Nat)]
theorem ptRow_len (xs ys : List Nat) : ∀ k, (ptRow xs ys k).length = k * 2
  | 0 => rfl
  | k + 1 => by simp [ptRow, ptRow_len xs ys k]; omega
theorem ptRow_get (xs ys : List Nat) : ∀ (k i : Nat), i < k → (ptRow xs ys k)[i * 2]? = some (.int .u64 (xs.getD i 0 : Nat)) ∧ (ptRow xs ys k)[i * 2 + 1]? = some (.int .u64 (ys.getD i 0 : Nat))
  | 0, i, h => absurd h (by omega)
  | k + 1, i, h => by
    by_cases hk : i < k
    · obtain ⟨h1, h2⟩ := ptRow_get xs ys k i hk
      unfold ptRow
      rw [List.getElem?_append_left (by rw [ptRow_len]; omega), List.getElem?_append_left (by rw [ptRow_len]; omega)]
      exact ⟨h1, h2⟩
    · obtain rfl : i = k := by omega
      unfold ptRow
      rw [List.getElem?_append_right (by rw [ptRow_len]; omega), List.getElem?_append_right (by rw [ptRow_len]; omega), ptRow_len, Nat.sub_self, Nat.add_sub_cancel_left]
      exact ⟨rfl, rfl⟩
theorem pts_of_row {w : World} {base : Nat} {v : Value} {xs ys : List Nat} (hyl : ys.length = xs.length) (hx : ∀ x ∈ xs, x < 18446744073709551616) (hy : ∀ y ∈ ys, y < 18446744073709551616) (hl : xs.length ≤ 1000)
    (h : w.ownsRow base 61 2 v xs.length (ptRow xs ys xs.length)) : Pts w v xs ys := by
  have hlt := h.lt
  have hcells := fun g hg => h.cells (g := g) hg
  refine ⟨hyl, by omega, hx, hy, ?_⟩
  rcases h.2 with ⟨rfl, h0⟩ | ⟨g, cap, cur, rfl, hb, hg, hc, _⟩
  · exact ⟨none, 0, by rw [h0], by omega, fun h1 => absurd h1 (by omega)⟩
  · refine ⟨some ⟨g, 0, none⟩, cap, rfl, hc, fun _ => ⟨g, 0, rfl, (hlt g rfl).2, fun i hi => ?_⟩⟩
    obtain ⟨e1, e2⟩ := ptRow_get xs ys xs.length i hi
    have h1 := hcells g rfl _ _ e1
    have h2 := hcells g rfl _ _ e2
    rw [Addr.add_lit] at h1 h2
    rw [Nat.add_assoc]
    exact ⟨h1, h2⟩
end Go.Proofs.Ytafoonhmfieikaa
