/-
  Rows that are pairwise consistent belong to one symmetric polynomial.
-/
import Derived.Test.YtglehjcohdjhoaaPaM
namespace Go.Proofs.Ytglehjcohdjhoaa.M
set_option linter.unusedVariables false

theorem pat_T {p n : Nat} (hp : 0 < p) (F : Nat → Nat → Nat) (x y : Nat) : pat p n (fun i k => F k i) x y = pat p n F y x := by
  refine Eqm.nat (pv_lt hp _ _ _) (pv_lt hp _ _ _) ((pat_eqm p n (fun i k => F k i) x y).trans (Eqm.trans (.of_eq ?_) (pat_eqm p n F y x).symm))
  have e1 : sumI (fun k => (y : Int) ^ k * sumI (fun i => (x : Int) ^ i * (F k i : Int)) n) n = sumI (fun k => sumI (fun i => (y : Int) ^ k * ((x : Int) ^ i * (F k i : Int))) n) n := sumI_congr n fun k _ => (sumI_mul _ _ n).symm
  have e2 : sumI (fun k => (x : Int) ^ k * sumI (fun i => (y : Int) ^ i * (F i k : Int)) n) n = sumI (fun k => sumI (fun i => (x : Int) ^ k * ((y : Int) ^ i * (F i k : Int))) n) n := sumI_congr n fun k _ => (sumI_mul _ _ n).symm
  rw [e1, e2, sumI_swap]
  refine sumI_congr n fun i hi => sumI_congr n fun k hk => ?_
  grind

/-- F is a symmetric polynomial whose row at each xs[i] is rows[i] -/
structure PairOf (p n : Nat) (xs : List Nat) (rows : List (List Nat)) (F : Nat → Nat → Nat) : Prop where
  sym : SymF n F
  lt : ∀ i k, i < n → k < n → F i k < p
  row : ∀ i, i < xs.length → rowp p n F (xs.getD i 0) = trim (rows.getD i [])
theorem PairOf.unique {p n : Nat} (hi : isP p = true) {xs : List Nat} {rows : List (List Nat)} (hd : xs.Nodup) (hx : within p xs = true) (hn : n ≤ xs.length) {F G : Nat → Nat → Nat} (h : PairOf p n xs rows F) (h' : PairOf p n xs rows G) : ∀ i k, i < n → k < n → F i k = G i k := by
  intro i k h1 h2
  have e := same_of_rows (F := F) (G := G) hi hd hx hn (fun x hx' => by
    obtain ⟨j, hj, rfl⟩ := mem_getD hx'
    rw [h.row j hj, h'.row j hj]) i k h1 h2
  rwa [Nat.mod_eq_of_lt (h.lt i k h1 h2), Nat.mod_eq_of_lt (h'.lt i k h1 h2)] at e
theorem PairOf.congr {p n : Nat} {xs : List Nat} {rows : List (List Nat)} {F G : Nat → Nat → Nat} (h : PairOf p n xs rows F) (e : ∀ i k, i < n → k < n → F i k = G i k) : PairOf p n xs rows G where
  sym i k h1 h2 := by rw [← e i k h1 h2, ← e k i h2 h1]; exact h.sym i k h1 h2
  lt i k h1 h2 := by rw [← e i k h1 h2]; exact h.lt i k h1 h2
  row i hi := by
    rw [← h.row i hi]
    refine rowp_of_colv fun k hk => pv_congr (fun j hj => ?_) _
    rw [e j k hj hk]

/-- the columns: column k goes through the points (xs[i], rows[i][k]), i < n -/
structure Cols (p n : Nat) (xs : List Nat) (rows : List (List Nat)) (F : Nat → Nat → Nat) : Prop where
  lt : ∀ i k, i < n → k < n → F i k < p
  col : ∀ i k, i < n → k < n → colv p n F (xs.getD i 0) k = (rows.getD i []).getD k 0

theorem rowp_get {p n : Nat} (hp : 0 < p) (F : Nat → Nat → Nat) (x k : Nat) : (rowp p n F x).getD k 0 = if k < n then colv p n F x k else 0 := by
  unfold rowp
  rw [poly_get]
  split
  · exact Nat.mod_eq_of_lt (pv_lt hp _ _ _)
  · rfl
theorem take_mem {xs : List Nat} {n x : Nat} (h : x ∈ xs.take n) : ∃ i, i < n ∧ i < xs.length ∧ xs.getD i 0 = x := by
  obtain ⟨i, hi, rfl⟩ := List.getElem_of_mem h
  rw [List.length_take] at hi
  refine ⟨i, by omega, by omega, ?_⟩
  rw [List.getElem_take, getD_lt (by omega)]
theorem within_sub {p : Nat} {xs ys : List Nat} (h : within p xs = true) (hs : ∀ x ∈ ys, x ∈ xs) : within p ys = true := by
  unfold within at h ⊢
  rw [List.all_eq_true] at h ⊢
  exact fun x hx => h x (hs x hx)
/-- a polynomial with these rows has these columns -/
theorem Cols.of_pair {p n : Nat} (hi : isP p = true) {xs : List Nat} {rows : List (List Nat)} (hd : xs.Nodup) (hx : within p xs = true) (hn : n ≤ xs.length) {F G : Nat → Nat → Nat} (h : Cols p n xs rows F) (h' : PairOf p n xs rows G) : ∀ i k, i < n → k < n → F i k = G i k := by
  have hp : 0 < p := by have := pos_of hi; omega
  intro i k h1 h2
  have e := same_of_values hi (hd.sublist (List.take_sublist n xs)) (within_sub hx fun x hx' => List.mem_of_mem_take hx') (by simp; omega) (c := fun i => F i k) (d := fun i => G i k) (n := n) (fun x hx' => by
    obtain ⟨j, hj, hj2, rfl⟩ := take_mem hx'
    have e1 := h.col j k hj h2
    have e2 := rowp_get (n := n) hp G (xs.getD j 0) k
    rw [if_pos h2, h'.row j hj2, trim_get] at e2
    show colv p n F _ k = colv p n G _ k
    rw [e1, e2]) i h1
  rwa [Nat.mod_eq_of_lt (h.lt i k h1 h2), Nat.mod_eq_of_lt (h'.lt i k h1 h2)] at e
/-- no two rows quarrel -/
def Agreed (p : Nat) (xs : List Nat) (rows : List (List Nat)) : Prop := ∀ i k, i < k → k < xs.length → pev p (rows.getD i []) (xs.getD k 0) = pev p (rows.getD k []) (xs.getD i 0)
theorem Agreed.any {p : Nat} {xs : List Nat} {rows : List (List Nat)} (h : Agreed p xs rows) {i k : Nat} (hi : i < xs.length) (hk : k < xs.length) : pev p (rows.getD i []) (xs.getD k 0) = pev p (rows.getD k []) (xs.getD i 0) := by
  rcases Nat.lt_trichotomy i k with h1 | rfl | h1
  · exact h i k h1 hk
  · rfl
  · exact (h k i h1 hi).symm
theorem PairOf.agreed {p n : Nat} (hp : 0 < p) {xs : List Nat} {rows : List (List Nat)} {F : Nat → Nat → Nat} (h : PairOf p n xs rows F) : Agreed p xs rows := by
  intro i k h1 h2
  rw [← pev_trim p (rows.getD i []), ← pev_trim p (rows.getD k []), ← h.row i (by omega), ← h.row k h2, pev_rowp, pev_rowp]
  exact pat_sym hp h.sym _ _
/-- rows of degree below n that do not quarrel, n of them or more: the columns make the polynomial that has all these rows -/
theorem Cols.held {p n : Nat} (hi : isP p = true) {xs : List Nat} {rows : List (List Nat)} (hd : xs.Nodup) (hx : within p xs = true) (hn : n ≤ xs.length) (hw : ∀ i, i < xs.length → within p (rows.getD i []) = true) (hl : ∀ i, i < xs.length → (trim (rows.getD i [])).length ≤ n)
    (ha : Agreed p xs rows) {F : Nat → Nat → Nat} (h : Cols p n xs rows F) : PairOf p n xs rows F := by
  have hp : 0 < p := by have := pos_of hi; omega
  have hd' := hd.sublist (List.take_sublist n xs)
  have hx' : within p (xs.take n) = true := within_sub hx fun x hx' => List.mem_of_mem_take hx'
  have hn' : n ≤ (xs.take n).length := by simp; omega
  have r1 : ∀ j, j < n → rowp p n F (xs.getD j 0) = trim (rows.getD j []) := by
    intro j hj
    refine (trim_eq_of (poly_trim _ _ _) fun k => ?_).symm
    have e := rowp_get (n := n) hp F (xs.getD j 0) k
    unfold rowp at e
    rw [e]
    split
    · rename_i hk
      exact (h.col j k hj hk).symm
    · rename_i hk
      rw [← trim_get]
      exact getD_ge (by have := hl j (by omega); omega)
  have hs : SymF n F := by
    intro i k h1 h2
    have e := same_of_rows (F := F) (G := fun i k => F k i) hi hd' hx' hn' (fun x hm => by
      obtain ⟨j, hj, hj2, rfl⟩ := take_mem hm
      refine rowp_of_colv fun k hk => ?_
      have e := same_of_values hi hd' hx' hn' (c := colv p n F (xs.getD j 0)) (d := colv p n (fun i k => F k i) (xs.getD j 0)) (fun y hy => by
        obtain ⟨m, hm, hm2, rfl⟩ := take_mem hy
        show pat p n F _ _ = pat p n (fun i k => F k i) _ _
        rw [show pat p n (fun i k => F k i) (xs.getD j 0) (xs.getD m 0) = pat p n F (xs.getD m 0) (xs.getD j 0) from pat_T hp F _ _, ← pev_rowp p n F, ← pev_rowp p n F, r1 j hj, r1 m hm, pev_trim, pev_trim]
        exact ha.any hj2 hm2) k hk
      unfold colv at e ⊢
      rwa [Nat.mod_eq_of_lt (pv_lt hp _ _ _), Nat.mod_eq_of_lt (pv_lt hp _ _ _)] at e) i k h1 h2
    rwa [Nat.mod_eq_of_lt (h.lt i k h1 h2), Nat.mod_eq_of_lt (h.lt k i h2 h1)] at e
  refine ⟨hs, h.lt, fun j hj => ?_⟩
  by_cases hjn : j < n
  · exact r1 j hjn
  · refine agree hi (poly_within hp _ _) (within_trim (hw j hj)) (poly_trim _ _ _) (trim_trim _) hd' hx' (Nat.le_trans (rowp_len _ _ _ _) hn') (Nat.le_trans (hl j hj) hn') fun y hy => ?_
    obtain ⟨m, hm, hm2, rfl⟩ := take_mem hy
    rw [pev_rowp, pat_sym hp hs, ← pev_rowp, r1 m hm, pev_trim, pev_trim]
    exact ha.any hm2 hj
/-- what Join finds: the columns' polynomial, if it is a pair with these rows; else there is none -/
theorem Cols.none {p n : Nat} (hi : isP p = true) {xs : List Nat} {rows : List (List Nat)} (hd : xs.Nodup) (hx : within p xs = true) (hn : n ≤ xs.length) {F : Nat → Nat → Nat} (h : Cols p n xs rows F) (hno : ¬ PairOf p n xs rows F) (G : Nat → Nat → Nat) : ¬ PairOf p n xs rows G :=
  fun hG => hno (hG.congr fun i k h1 h2 => (h.of_pair hi hd hx hn hG i k h1 h2).symm)
/-- columns out of interpolation -/
theorem cols_of_thru {p n : Nat} {xs : List Nat} {rows : List (List Nat)} (hp : 0 < p) (hn : n ≤ xs.length) {g : Nat → List Nat} (h : ∀ k, k < n → Thru p (xs.take n) (tabM n fun i => (rows.getD i []).getD k 0) (g k)) : Cols p n xs rows fun i k => (g k).getD i 0 where
  lt i k h1 h2 := within_getD hp (h k h2).1 i
  col i k h1 h2 := by
    obtain ⟨e1, e2, e3, e4⟩ := h k h2
    have e := e4 i (by simp; omega)
    rw [tabM_get, if_pos h1, getD_take, if_pos h1] at e
    rw [← e]
    unfold colv pv pev
    refine evN_mod _ _ _ fun j => ?_
    rw [tabM_get]
    split
    · rfl
    · rw [getD_ge (l := g k) (by simp at e3; omega)]
end Go.Proofs.Ytglehjcohdjhoaa.M
