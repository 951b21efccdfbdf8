/-
  Columns through all the points: they make the pair that has these rows, or there is none.
-/
import Derived.Test.YtglehjcohdjhoaaPcM
namespace Go.Proofs.Ytglehjcohdjhoaa.M
set_option linter.unusedVariables false

/-- what the k-th column must be at the places -/
def colY (xs : List Nat) (rows : List (List Nat)) (k : Nat) : List Nat := tabM xs.length fun i => (rows.getD i []).getD k 0
/-- rows that are short enough, columns that are short enough and make a symmetric polynomial: it has these rows -/
theorem PairOf.of_columns {p n : Nat} (hp : 0 < p) {xs : List Nat} {rows : List (List Nat)} {g : Nat → List Nat} (hr : ∀ i, i < xs.length → (trim (rows.getD i [])).length ≤ n)
    (h : ∀ k, k < n → Thru p xs (colY xs rows k) (g k)) (hl : ∀ k, k < n → (g k).length ≤ n) (hs : SymF n fun k i => (g k).getD i 0) : PairOf p n xs rows fun i k => (g k).getD i 0 where
  sym i k h1 h2 := hs k i h2 h1
  lt i k h1 h2 := within_getD hp (h k h2).1 i
  row i hi := by
    refine (trim_eq_of (poly_trim _ _ _) fun k => ?_).symm
    have e := rowp_get (n := n) hp (fun i k => (g k).getD i 0) (xs.getD i 0) k
    unfold rowp at e
    rw [e]
    split
    · rename_i hk
      have e4 := (h k hk).2.2.2 i hi
      unfold colY at e4
      rw [tabM_get, if_pos hi] at e4
      rw [← e4]
      unfold colv pv pev
      refine (evN_mod _ _ _ fun j => ?_).symm
      rw [tabM_get]
      split
      · rfl
      · rw [getD_ge (l := g k) (by have := hl k hk; omega)]
    · rename_i hk
      rw [← trim_get]
      exact getD_ge (by have := hr i hi; omega)
/-- a pair with these rows has these columns -/
theorem PairOf.column {p n : Nat} (hi : isP p = true) {xs : List Nat} {rows : List (List Nat)} (hd : xs.Nodup) (hx : within p xs = true) (hn : n ≤ xs.length) {G : Nat → Nat → Nat} (h : PairOf p n xs rows G) {k : Nat} (hk : k < n) {g : List Nat} (hg : Thru p xs (colY xs rows k) g) :
    g.length ≤ n ∧ ∀ i, i < n → g.getD i 0 = G i k := by
  have hp : 0 < p := by have := pos_of hi; omega
  have e : g = poly p n fun i => G i k := by
    refine agree hi hg.1 (poly_within hp _ _) hg.2.1 (poly_trim _ _ _) hd hx hg.2.2.1 (Nat.le_trans (poly_len _ _ _) hn) fun x hm => ?_
    obtain ⟨j, hj, rfl⟩ := mem_getD hm
    rw [hg.2.2.2 j hj, pev_poly]
    unfold colY
    rw [tabM_get, if_pos hj]
    have e2 := rowp_get (n := n) hp G (xs.getD j 0) k
    rw [if_pos hk, h.row j hj, trim_get] at e2
    exact e2
  refine ⟨by rw [e]; exact poly_len _ _ _, fun i hi2 => ?_⟩
  rw [e, poly_get, if_pos hi2]
  exact Nat.mod_eq_of_lt (h.lt i k hi2 hk)
/-- a row that is too long belongs to none -/
theorem PairOf.short {p n : Nat} {xs : List Nat} {rows : List (List Nat)} {G : Nat → Nat → Nat} (h : PairOf p n xs rows G) {i : Nat} (hi : i < xs.length) : (trim (rows.getD i [])).length ≤ n := by
  rw [← h.row i hi]; exact rowp_len _ _ _ _
end Go.Proofs.Ytglehjcohdjhoaa.M
