/-
  A polynomial's values, some of which are replaced: what it misses then.
-/
import Derived.Test.YtfgfapbhgehfiaaD7
namespace Go.Proofs.Ytfgfapbhgehfiaa.M
set_option linter.unusedVariables false

/-- the values of f -/
def evals (p : Nat) (f xs : List Nat) : List Nat := xs.map fun x => pev p f x
theorem evals_len (p : Nat) (f xs : List Nat) : (evals p f xs).length = xs.length := by simp [evals]
theorem evals_get {p : Nat} {f xs : List Nat} {k : Nat} (h : k < xs.length) : (evals p f xs).getD k 0 = pev p f (xs.getD k 0) := by
  unfold evals
  rw [getD_lt (by simpa using h), List.getElem_map, getD_lt h]
/-- the first k replacements are made: value vs j stands at place pl j -/
def spoil (es : List Nat) (pl vs : Nat → Nat) : Nat → List Nat
  | 0 => es
  | k + 1 => (spoil es pl vs k).set (pl k) (vs k)
theorem spoil_len (es : List Nat) (pl vs : Nat → Nat) : ∀ k, (spoil es pl vs k).length = es.length
  | 0 => rfl
  | k + 1 => by rw [spoil, List.length_set, spoil_len es pl vs k]
theorem spoil_lt {es : List Nat} {pl vs : Nat → Nat} {B : Nat} (h : ∀ y ∈ es, y < B) : ∀ k, (∀ j, j < k → vs j < B) → ∀ y ∈ spoil es pl vs k, y < B
  | 0, _, y, hy => h y hy
  | k + 1, hv, y, hy => by
    rcases List.mem_or_eq_of_mem_set hy with h' | rfl
    · exact spoil_lt h k (fun j hj => hv j (by omega)) y h'
    · exact hv k (by omega)
theorem getD_set_other {l : List Nat} {i j v : Nat} (h : i ≠ j) : (l.set i v).getD j 0 = l.getD j 0 := by
  simp [List.getD_eq_getElem?_getD, List.getElem?_set_ne h]
theorem spoil_at {es : List Nat} {pl vs : Nat → Nat} {i : Nat} : ∀ k, (∀ j, j < k → pl j ≠ i) → (spoil es pl vs k).getD i 0 = es.getD i 0
  | 0, _ => rfl
  | k + 1, h => by
    rw [spoil, getD_set_other (h k (by omega))]
    exact spoil_at k fun j hj => h j (by omega)
theorem spoil_off {p : Nat} {f xs : List Nat} {pl vs : Nat → Nat} {k i : Nat} (h : i ∈ offI p f xs (spoil (evals p f xs) pl vs k)) : i ∈ (List.range k).map pl := by
  obtain ⟨h1, h2⟩ := offI_mem.1 h
  apply Classical.byContradiction
  intro hno
  refine h2 ?_
  rw [spoil_at k (fun j hj e => hno (List.mem_map.2 ⟨j, by simpa using hj, e⟩)), evals_get h1]
theorem nodup_le {l m : List Nat} (hl : l.Nodup) (h : ∀ x ∈ l, x ∈ m) : l.length ≤ m.length := by
  rcases Nat.lt_or_ge m.length l.length with h' | h'
  · have := (perm_of_sub l m hl h (by omega)).length_eq
    omega
  · exact h'
theorem spoil_few (p : Nat) (f xs : List Nat) (pl vs : Nat → Nat) (k : Nat) : (offI p f xs (spoil (evals p f xs) pl vs k)).length ≤ k := by
  have := nodup_le (offI_nodup p f xs (spoil (evals p f xs) pl vs k)) (m := (List.range k).map pl) fun i hi => spoil_off hi
  simpa using this
/-- what decoding is to find -/
theorem spoil_good {p d q : Nat} {f xs : List Nat} {pl vs : Nat → Nat} {k : Nat} (hf : within p f = true) (hl : (trim f).length ≤ d + 1) (hk : k ≤ q) : Good p d q xs (spoil (evals p f xs) pl vs k) (trim f) :=
  ⟨within_trim hf, trim_trim f, hl, by rw [offI_trim]; exact Nat.le_trans (spoil_few p f xs pl vs k) hk⟩
end Go.Proofs.Ytfgfapbhgehfiaa.M
namespace Go.Proofs.Ytfgfapbhgehfiaa
theorem ptRow4_congr {xs ys zs : List Nat} : ∀ k, (∀ i, i < k → ys.getD i 0 = zs.getD i 0) → ptRow4 xs ys k = ptRow4 xs zs k
  | 0, _ => rfl
  | k + 1, h => by
    unfold ptRow4
    rw [ptRow4_congr k fun i hi => h i (by omega), h k (by omega)]
theorem ptRow4_set {xs ys : List Nat} {i v : Nat} (hi : i < ys.length) : ∀ k, i < k → (ptRow4 xs ys k).set (i * 2 + 1) (.int .u64 (v : Nat)) = ptRow4 xs (ys.set i v) k
  | 0, h => absurd h (by omega)
  | k + 1, h => by
    unfold ptRow4
    by_cases hk : i < k
    · rw [List.set_append_left _ _ (by rw [ptRow4_len]; omega), ptRow4_set hi k hk, M.getD_set_other (by omega)]
    · obtain rfl : i = k := by omega
      rw [List.set_append_right _ _ (by rw [ptRow4_len]; omega), ptRow4_len, Nat.add_sub_cancel_left, ← ptRow4_congr (xs := xs) (ys := ys) i fun j hj => (M.getD_set_other (by omega)).symm]
      have e : (ys.set i v).getD i 0 = v := by simp [List.getD_eq_getElem?_getD, hi]
      rw [e]
      rfl
end Go.Proofs.Ytfgfapbhgehfiaa
