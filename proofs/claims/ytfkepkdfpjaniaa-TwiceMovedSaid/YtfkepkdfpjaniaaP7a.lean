/-
  Numbers, pairs and polynomials in two variables: the mathematics that masks use.
-/
import Derived.Test.YtfkepkdfpjaniaaDecM
namespace Go.Proofs.Ytfkepkdfpjaniaa.M
set_option linter.unusedVariables false

/-- the value at x of the polynomial with the coefficients c 0, .., c (n - 1) -/
def pv (p n : Nat) (c : Nat → Nat) (x : Nat) : Nat := evN x (tabM n c) % p
theorem pv_lt {p : Nat} (hp : 0 < p) (n : Nat) (c : Nat → Nat) (x : Nat) : pv p n c x < p := Nat.mod_lt _ hp
theorem pv_congr {p n : Nat} {c d : Nat → Nat} (h : ∀ i, i < n → c i % p = d i % p) (x : Nat) : pv p n c x = pv p n d x := by
  refine evN_mod x _ _ fun i => ?_
  rw [tabM_get, tabM_get]
  split
  · exact h i (by assumption)
  · rfl
theorem pev_poly (p n : Nat) (c : Nat → Nat) (x : Nat) : pev p (poly p n c) x = pv p n c x := by
  unfold poly pv
  rw [pev_trim]
  refine evN_mod x _ _ fun i => ?_
  rw [row_get, tabM_get]
  split
  · rw [Nat.mod_mod]
  · rfl
/-- two polynomials with n coefficients that agree at n places have the same coefficients -/
theorem same_of_values {p n : Nat} (hi : isP p = true) {c d : Nat → Nat} {xs : List Nat} (hd : xs.Nodup) (hx : within p xs = true) (hn : n ≤ xs.length) (h : ∀ x ∈ xs, pv p n c x = pv p n d x) : ∀ i, i < n → c i % p = d i % p := by
  have hp : 0 < p := by have := pos_of hi; omega
  have e : poly p n c = poly p n d := agree hi (poly_within hp n c) (poly_within hp n d) (poly_trim p n c) (poly_trim p n d) hd hx (Nat.le_trans (poly_len p n c) hn) (Nat.le_trans (poly_len p n d) hn) fun x hx' => by
    rw [pev_poly, pev_poly]
    exact h x hx'
  intro i hlt
  have e1 := poly_get p n c i
  rw [e, poly_get, if_pos hlt, if_pos hlt] at e1
  exact e1.symm
theorem pv_eqm (p n : Nat) (c : Nat → Nat) (x : Nat) : Eqm p (pv p n c x : Nat) (sumI (fun j => (x : Int) ^ j * (c j : Int)) n) := by
  unfold pv
  rw [← evN_sum]
  refine ⟨-((evN x (tabM n c) / p : Nat) : Int), ?_⟩
  have := Nat.div_add_mod (evN x (tabM n c)) p
  have h2 : ((p * (evN x (tabM n c) / p) + evN x (tabM n c) % p : Nat) : Int) = (evN x (tabM n c) : Nat) := by rw [this]
  rw [Int.natCast_add, Int.natCast_mul] at h2
  grind
theorem Eqm.nat {p a b : Nat} (ha : a < p) (hb : b < p) (h : Eqm p (a : Int) (b : Int)) : a = b := by
  obtain ⟨k, h⟩ := h
  have e : a % p = b % p := mod_eq_int.2 ⟨k, by rw [h]; grind⟩
  rwa [Nat.mod_eq_of_lt ha, Nat.mod_eq_of_lt hb] at e

/-- the coefficient of y^k in the row at x -/
def colv (p n : Nat) (F : Nat → Nat → Nat) (x k : Nat) : Nat := pv p n (fun i => F i k) x
/-- the row at x, a polynomial in y -/
def rowp (p n : Nat) (F : Nat → Nat → Nat) (x : Nat) : List Nat := poly p n (colv p n F x)
/-- the value at x and y -/
def pat (p n : Nat) (F : Nat → Nat → Nat) (x y : Nat) : Nat := pv p n (colv p n F x) y
theorem pev_rowp (p n : Nat) (F : Nat → Nat → Nat) (x y : Nat) : pev p (rowp p n F x) y = pat p n F x y := pev_poly _ _ _ _
theorem rowp_len (p n : Nat) (F : Nat → Nat → Nat) (x : Nat) : (rowp p n F x).length ≤ n := poly_len _ _ _
def SymF (n : Nat) (F : Nat → Nat → Nat) : Prop := ∀ i k, i < n → k < n → F i k = F k i

theorem pat_eqm (p n : Nat) (F : Nat → Nat → Nat) (x y : Nat) : Eqm p (pat p n F x y : Nat) (sumI (fun k => (y : Int) ^ k * sumI (fun i => (x : Int) ^ i * (F i k : Int)) n) n) :=
  (pv_eqm p n _ y).trans (sumI_eqm n fun k _ => (pv_eqm p n (fun i => F i k) x).mulL _)
/-- a symmetric polynomial: the arguments may be exchanged -/
theorem pat_sym {p n : Nat} (hp : 0 < p) {F : Nat → Nat → Nat} (hs : SymF n F) (x y : Nat) : pat p n F x y = pat p n F y x := by
  refine Eqm.nat (pv_lt hp _ _ _) (pv_lt hp _ _ _) ((pat_eqm p n F x y).trans (Eqm.trans (.of_eq ?_) (pat_eqm p n F y x).symm))
  have e1 : sumI (fun k => (y : Int) ^ k * sumI (fun i => (x : Int) ^ i * (F i k : Int)) n) n = sumI (fun k => sumI (fun i => (y : Int) ^ k * ((x : Int) ^ i * (F i k : Int))) n) n := sumI_congr n fun k _ => (sumI_mul _ _ n).symm
  have e2 : sumI (fun k => (x : Int) ^ k * sumI (fun i => (y : Int) ^ i * (F i k : Int)) n) n = sumI (fun k => sumI (fun i => (x : Int) ^ k * ((y : Int) ^ i * (F i k : Int))) n) n := sumI_congr n fun k _ => (sumI_mul _ _ n).symm
  rw [e1, e2, sumI_swap]
  refine sumI_congr n fun i hi => sumI_congr n fun k hk => ?_
  rw [hs k i hk hi]
  grind

/-- rows at n places determine the polynomial -/
theorem same_of_rows {p n : Nat} (hi : isP p = true) {F G : Nat → Nat → Nat} {xs : List Nat} (hd : xs.Nodup) (hx : within p xs = true) (hn : n ≤ xs.length) (h : ∀ x ∈ xs, rowp p n F x = rowp p n G x) : ∀ i k, i < n → k < n → F i k % p = G i k % p := by
  have hp : 0 < p := by have := pos_of hi; omega
  intro i k hi' hk
  refine same_of_values hi hd hx hn (c := fun i => F i k) (d := fun i => G i k) (fun x hx' => ?_) i hi'
  have e := poly_get p n (colv p n F x) k
  have e2 := poly_get p n (colv p n G x) k
  have e3 : poly p n (colv p n F x) = poly p n (colv p n G x) := h x hx'
  rw [e3, e2, if_pos hk, if_pos hk] at e
  unfold colv at e
  rw [Nat.mod_eq_of_lt (pv_lt hp _ _ _), Nat.mod_eq_of_lt (pv_lt hp _ _ _)] at e
  exact e.symm
theorem rowp_of_colv {p n : Nat} {F G : Nat → Nat → Nat} {x : Nat} (h : ∀ k, k < n → colv p n F x k = colv p n G x k) : rowp p n F x = rowp p n G x := poly_congr fun k hk => by rw [h k hk]
theorem colv_of_rowp {p n : Nat} (hp : 0 < p) {F G : Nat → Nat → Nat} {x : Nat} (h : rowp p n F x = rowp p n G x) : ∀ k, k < n → colv p n F x k = colv p n G x k := by
  intro k hk
  have e := poly_get p n (colv p n F x) k
  have e2 := poly_get p n (colv p n G x) k
  have e3 : poly p n (colv p n F x) = poly p n (colv p n G x) := h
  rw [e3, e2, if_pos hk, if_pos hk] at e
  unfold colv at e
  rw [Nat.mod_eq_of_lt (pv_lt hp _ _ _), Nat.mod_eq_of_lt (pv_lt hp _ _ _)] at e
  exact e.symm
theorem pv_zero {p n : Nat} (hn : 0 < n) (c : Nat → Nat) : pv p n c 0 = c 0 % p := by
  obtain ⟨m, rfl⟩ : ∃ m, n = m + 1 := ⟨n - 1, by omega⟩
  unfold pv tabM
  rw [List.range_succ_eq_map, List.map_cons]
  simp [evN]
theorem colv_zero {p n : Nat} (hn : 0 < n) (F : Nat → Nat → Nat) (k : Nat) : colv p n F 0 k = F 0 k % p := pv_zero hn _
theorem pat_zero {p n : Nat} (hn : 0 < n) (F : Nat → Nat → Nat) : pat p n F 0 0 = F 0 0 % p := by
  unfold pat
  rw [pv_zero hn, colv_zero hn, Nat.mod_mod]
/-- a secret and the rows at n - 1 places other than 0 determine the polynomial -/
theorem same_of_some {p n : Nat} (hi : isP p = true) (hn : 0 < n) {F G : Nat → Nat → Nat} (hF : SymF n F) (hG : SymF n G) {xs : List Nat} (hd : (0 :: xs).Nodup) (hx : within p xs = true) (hl : n ≤ xs.length + 1)
    (h : ∀ x ∈ xs, rowp p n F x = rowp p n G x) (h0 : F 0 0 % p = G 0 0 % p) : ∀ i k, i < n → k < n → F i k % p = G i k % p := by
  have hp : 0 < p := by have := pos_of hi; omega
  have hx0 : within p (0 :: xs) = true := by unfold within at hx ⊢; simp at hx ⊢; exact ⟨hp, hx⟩
  refine same_of_rows hi hd hx0 (by simpa using hl) fun x hx' => ?_
  rcases List.mem_cons.1 hx' with rfl | hx'
  · refine poly_congr fun k hk => ?_
    refine same_of_values hi hd hx0 (by simpa using hl) (c := colv p n F 0) (d := colv p n G 0) (fun y hy => ?_) k hk
    rcases List.mem_cons.1 hy with rfl | hy
    · show pat p n F 0 0 = pat p n G 0 0
      rw [pat_zero hn, pat_zero hn, h0]
    · show pat p n F 0 y = pat p n G 0 y
      rw [pat_sym hp hF, pat_sym hp hG, ← pev_rowp, ← pev_rowp, h y hy]
  · exact h x hx'
end Go.Proofs.Ytfkepkdfpjaniaa.M
namespace Go.Proofs.Ytfkepkdfpjaniaa.M
set_option linter.unusedVariables false

theorem pat_T {p n : Nat} (hp : 0 < p) (F : Nat → Nat → Nat) (x y : Nat) : pat p n (fun i k => F k i) x y = pat p n F y x := by
  refine Eqm.nat (pv_lt hp _ _ _) (pv_lt hp _ _ _) ((pat_eqm p n (fun i k => F k i) x y).trans (Eqm.trans (.of_eq ?_) (pat_eqm p n F y x).symm))
  have e1 : sumI (fun k => (y : Int) ^ k * sumI (fun i => (x : Int) ^ i * (F k i : Int)) n) n = sumI (fun k => sumI (fun i => (y : Int) ^ k * ((x : Int) ^ i * (F k i : Int))) n) n := sumI_congr n fun k _ => (sumI_mul _ _ n).symm
  have e2 : sumI (fun k => (x : Int) ^ k * sumI (fun i => (y : Int) ^ i * (F i k : Int)) n) n = sumI (fun k => sumI (fun i => (x : Int) ^ k * ((y : Int) ^ i * (F i k : Int))) n) n := sumI_congr n fun k _ => (sumI_mul _ _ n).symm
  rw [e1, e2, sumI_swap]
  refine sumI_congr n fun i hi => sumI_congr n fun k hk => ?_
  grind

/-- F is a symmetric polynomial whose row at each xs[i] is rows[i] -/
structure PairOf (p n : Nat) (xs : List Nat) (rows : List (List Nat)) (F : Nat → Nat → Nat) : Prop where
  sym : SymF n F
  lt : ∀ i k, i < n → k < n → F i k < p
  row : ∀ i, i < xs.length → rowp p n F (xs.getD i 0) = trim (rows.getD i [])
theorem PairOf.unique {p n : Nat} (hi : isP p = true) {xs : List Nat} {rows : List (List Nat)} (hd : xs.Nodup) (hx : within p xs = true) (hn : n ≤ xs.length) {F G : Nat → Nat → Nat} (h : PairOf p n xs rows F) (h' : PairOf p n xs rows G) : ∀ i k, i < n → k < n → F i k = G i k := by
  intro i k h1 h2
  have e := same_of_rows (F := F) (G := G) hi hd hx hn (fun x hx' => by
    obtain ⟨j, hj, rfl⟩ := mem_getD hx'
    rw [h.row j hj, h'.row j hj]) i k h1 h2
  rwa [Nat.mod_eq_of_lt (h.lt i k h1 h2), Nat.mod_eq_of_lt (h'.lt i k h1 h2)] at e
theorem PairOf.congr {p n : Nat} {xs : List Nat} {rows : List (List Nat)} {F G : Nat → Nat → Nat} (h : PairOf p n xs rows F) (e : ∀ i k, i < n → k < n → F i k = G i k) : PairOf p n xs rows G where
  sym i k h1 h2 := by rw [← e i k h1 h2, ← e k i h2 h1]; exact h.sym i k h1 h2
  lt i k h1 h2 := by rw [← e i k h1 h2]; exact h.lt i k h1 h2
  row i hi := by
    rw [← h.row i hi]
    refine rowp_of_colv fun k hk => pv_congr (fun j hj => ?_) _
    rw [e j k hj hk]

/-- the columns: column k goes through the points (xs[i], rows[i][k]), i < n -/
structure Cols (p n : Nat) (xs : List Nat) (rows : List (List Nat)) (F : Nat → Nat → Nat) : Prop where
  lt : ∀ i k, i < n → k < n → F i k < p
  col : ∀ i k, i < n → k < n → colv p n F (xs.getD i 0) k = (rows.getD i []).getD k 0

theorem rowp_get {p n : Nat} (hp : 0 < p) (F : Nat → Nat → Nat) (x k : Nat) : (rowp p n F x).getD k 0 = if k < n then colv p n F x k else 0 := by
  unfold rowp
  rw [poly_get]
  split
  · exact Nat.mod_eq_of_lt (pv_lt hp _ _ _)
  · rfl
theorem take_mem {xs : List Nat} {n x : Nat} (h : x ∈ xs.take n) : ∃ i, i < n ∧ i < xs.length ∧ xs.getD i 0 = x := by
  obtain ⟨i, hi, rfl⟩ := List.getElem_of_mem h
  rw [List.length_take] at hi
  refine ⟨i, by omega, by omega, ?_⟩
  rw [List.getElem_take, getD_lt (by omega)]
theorem within_sub {p : Nat} {xs ys : List Nat} (h : within p xs = true) (hs : ∀ x ∈ ys, x ∈ xs) : within p ys = true := by
  unfold within at h ⊢
  rw [List.all_eq_true] at h ⊢
  exact fun x hx => h x (hs x hx)
/-- a polynomial with these rows has these columns -/
theorem Cols.of_pair {p n : Nat} (hi : isP p = true) {xs : List Nat} {rows : List (List Nat)} (hd : xs.Nodup) (hx : within p xs = true) (hn : n ≤ xs.length) {F G : Nat → Nat → Nat} (h : Cols p n xs rows F) (h' : PairOf p n xs rows G) : ∀ i k, i < n → k < n → F i k = G i k := by
  have hp : 0 < p := by have := pos_of hi; omega
  intro i k h1 h2
  have e := same_of_values hi (hd.sublist (List.take_sublist n xs)) (within_sub hx fun x hx' => List.mem_of_mem_take hx') (by simp; omega) (c := fun i => F i k) (d := fun i => G i k) (n := n) (fun x hx' => by
    obtain ⟨j, hj, hj2, rfl⟩ := take_mem hx'
    have e1 := h.col j k hj h2
    have e2 := rowp_get (n := n) hp G (xs.getD j 0) k
    rw [if_pos h2, h'.row j hj2, trim_get] at e2
    show colv p n F _ k = colv p n G _ k
    rw [e1, e2]) i h1
  rwa [Nat.mod_eq_of_lt (h.lt i k h1 h2), Nat.mod_eq_of_lt (h'.lt i k h1 h2)] at e
/-- no two rows quarrel -/
def Agreed (p : Nat) (xs : List Nat) (rows : List (List Nat)) : Prop := ∀ i k, i < k → k < xs.length → pev p (rows.getD i []) (xs.getD k 0) = pev p (rows.getD k []) (xs.getD i 0)
theorem Agreed.any {p : Nat} {xs : List Nat} {rows : List (List Nat)} (h : Agreed p xs rows) {i k : Nat} (hi : i < xs.length) (hk : k < xs.length) : pev p (rows.getD i []) (xs.getD k 0) = pev p (rows.getD k []) (xs.getD i 0) := by
  rcases Nat.lt_trichotomy i k with h1 | rfl | h1
  · exact h i k h1 hk
  · rfl
  · exact (h k i h1 hi).symm
theorem PairOf.agreed {p n : Nat} (hp : 0 < p) {xs : List Nat} {rows : List (List Nat)} {F : Nat → Nat → Nat} (h : PairOf p n xs rows F) : Agreed p xs rows := by
  intro i k h1 h2
  rw [← pev_trim p (rows.getD i []), ← pev_trim p (rows.getD k []), ← h.row i (by omega), ← h.row k h2, pev_rowp, pev_rowp]
  exact pat_sym hp h.sym _ _
/-- rows of degree below n that do not quarrel, n of them or more: the columns make the polynomial that has all these rows -/
theorem Cols.held {p n : Nat} (hi : isP p = true) {xs : List Nat} {rows : List (List Nat)} (hd : xs.Nodup) (hx : within p xs = true) (hn : n ≤ xs.length) (hw : ∀ i, i < xs.length → within p (rows.getD i []) = true) (hl : ∀ i, i < xs.length → (trim (rows.getD i [])).length ≤ n)
    (ha : Agreed p xs rows) {F : Nat → Nat → Nat} (h : Cols p n xs rows F) : PairOf p n xs rows F := by
  have hp : 0 < p := by have := pos_of hi; omega
  have hd' := hd.sublist (List.take_sublist n xs)
  have hx' : within p (xs.take n) = true := within_sub hx fun x hx' => List.mem_of_mem_take hx'
  have hn' : n ≤ (xs.take n).length := by simp; omega
  have r1 : ∀ j, j < n → rowp p n F (xs.getD j 0) = trim (rows.getD j []) := by
    intro j hj
    refine (trim_eq_of (poly_trim _ _ _) fun k => ?_).symm
    have e := rowp_get (n := n) hp F (xs.getD j 0) k
    unfold rowp at e
    rw [e]
    split
    · rename_i hk
      exact (h.col j k hj hk).symm
    · rename_i hk
      rw [← trim_get]
      exact getD_ge (by have := hl j (by omega); omega)
  have hs : SymF n F := by
    intro i k h1 h2
    have e := same_of_rows (F := F) (G := fun i k => F k i) hi hd' hx' hn' (fun x hm => by
      obtain ⟨j, hj, hj2, rfl⟩ := take_mem hm
      refine rowp_of_colv fun k hk => ?_
      have e := same_of_values hi hd' hx' hn' (c := colv p n F (xs.getD j 0)) (d := colv p n (fun i k => F k i) (xs.getD j 0)) (fun y hy => by
        obtain ⟨m, hm, hm2, rfl⟩ := take_mem hy
        show pat p n F _ _ = pat p n (fun i k => F k i) _ _
        rw [show pat p n (fun i k => F k i) (xs.getD j 0) (xs.getD m 0) = pat p n F (xs.getD m 0) (xs.getD j 0) from pat_T hp F _ _, ← pev_rowp p n F, ← pev_rowp p n F, r1 j hj, r1 m hm, pev_trim, pev_trim]
        exact ha.any hj2 hm2) k hk
      unfold colv at e ⊢
      rwa [Nat.mod_eq_of_lt (pv_lt hp _ _ _), Nat.mod_eq_of_lt (pv_lt hp _ _ _)] at e) i k h1 h2
    rwa [Nat.mod_eq_of_lt (h.lt i k h1 h2), Nat.mod_eq_of_lt (h.lt k i h2 h1)] at e
  refine ⟨hs, h.lt, fun j hj => ?_⟩
  by_cases hjn : j < n
  · exact r1 j hjn
  · refine agree hi (poly_within hp _ _) (within_trim (hw j hj)) (poly_trim _ _ _) (trim_trim _) hd' hx' (Nat.le_trans (rowp_len _ _ _ _) hn') (Nat.le_trans (hl j hj) hn') fun y hy => ?_
    obtain ⟨m, hm, hm2, rfl⟩ := take_mem hy
    rw [pev_rowp, pat_sym hp hs, ← pev_rowp, r1 m hm, pev_trim, pev_trim]
    exact ha.any hm2 hj
/-- what Join finds: the columns' polynomial, if it is a pair with these rows; else there is none -/
theorem Cols.none {p n : Nat} (hi : isP p = true) {xs : List Nat} {rows : List (List Nat)} (hd : xs.Nodup) (hx : within p xs = true) (hn : n ≤ xs.length) {F : Nat → Nat → Nat} (h : Cols p n xs rows F) (hno : ¬ PairOf p n xs rows F) (G : Nat → Nat → Nat) : ¬ PairOf p n xs rows G :=
  fun hG => hno (hG.congr fun i k h1 h2 => (h.of_pair hi hd hx hn hG i k h1 h2).symm)
/-- columns out of interpolation -/
theorem cols_of_thru {p n : Nat} {xs : List Nat} {rows : List (List Nat)} (hp : 0 < p) (hn : n ≤ xs.length) {g : Nat → List Nat} (h : ∀ k, k < n → Thru p (xs.take n) (tabM n fun i => (rows.getD i []).getD k 0) (g k)) : Cols p n xs rows fun i k => (g k).getD i 0 where
  lt i k h1 h2 := within_getD hp (h k h2).1 i
  col i k h1 h2 := by
    obtain ⟨e1, e2, e3, e4⟩ := h k h2
    have e := e4 i (by simp; omega)
    rw [tabM_get, if_pos h1, getD_take, if_pos h1] at e
    rw [← e]
    unfold colv pv pev
    refine evN_mod _ _ _ fun j => ?_
    rw [tabM_get]
    split
    · rfl
    · rw [getD_ge (l := g k) (by simp at e3; omega)]
end Go.Proofs.Ytfkepkdfpjaniaa.M
namespace Go.Proofs.Ytfkepkdfpjaniaa.M
set_option linter.unusedVariables false

/-- where row i begins in the list of the coefficients (i, k), i ≤ k -/
def triR (n : Nat) : Nat → Nat
  | 0 => 0
  | i + 1 => triR n i + (n - i)
theorem triR_mono {n : Nat} {i m : Nat} (h : i ≤ m) : triR n i ≤ triR n m := by
  induction m with
  | zero => obtain rfl : i = 0 := by omega
            exact Nat.le_refl _
  | succ m ih =>
    rcases Nat.lt_or_ge m i with h' | h'
    · obtain rfl : i = m + 1 := by omega
      exact Nat.le_refl _
    · exact Nat.le_trans (ih h') (Nat.le_add_right _ _)
theorem triR_small {n : Nat} (h : n ≤ 4) : triR n n = n * (n + 1) / 2 := by
  match n, h with
  | 0, _ => rfl
  | 1, _ => rfl
  | 2, _ => rfl
  | 3, _ => rfl
  | 4, _ => rfl
  | n + 5, h => omega
/-- the matrix that the list l fills -/
def triF (n : Nat) (l : List Nat) (i k : Nat) : Nat := if i ≤ k then l.getD (triR n i + (k - i)) 0 else l.getD (triR n k + (i - k)) 0
theorem triF_sym (n : Nat) (l : List Nat) : SymF n (triF n l) := by
  intro i k _ _
  unfold triF
  rcases Nat.lt_trichotomy i k with h | rfl | h
  · rw [if_pos (by omega), if_neg (by omega)]
  · rfl
  · rw [if_neg (by omega), if_pos (by omega)]
/-- the list that a matrix is made of: its first m rows -/
def tapeK (n : Nat) (F : Nat → Nat → Nat) : Nat → List Nat
  | 0 => []
  | i + 1 => tapeK n F i ++ tabM (n - i) fun j => F i (i + j)
theorem tapeK_len (n : Nat) (F : Nat → Nat → Nat) : ∀ m, (tapeK n F m).length = triR n m
  | 0 => rfl
  | m + 1 => by
    rw [tapeK, List.length_append, tapeK_len n F m]
    simp [triR, tabM]
theorem tapeK_get (n : Nat) (F : Nat → Nat → Nat) : ∀ m i j, i < m → j < n - i → (tapeK n F m).getD (triR n i + j) 0 = F i (i + j)
  | 0, i, j, h, _ => absurd h (by omega)
  | m + 1, i, j, h, hj => by
    unfold tapeK
    by_cases him : i < m
    · have h1 : triR n i + j < (tapeK n F m).length := by
        rw [tapeK_len]
        have := triR_mono (n := n) (show i + 1 ≤ m by omega)
        rw [show triR n (i + 1) = triR n i + (n - i) from rfl] at this
        omega
      rw [List.getD_eq_getElem?_getD, List.getElem?_append_left h1, ← List.getD_eq_getElem?_getD]
      exact tapeK_get n F m i j him hj
    · obtain rfl : i = m := by omega
      rw [List.getD_eq_getElem?_getD, List.getElem?_append_right (by rw [tapeK_len]; omega), tapeK_len, Nat.add_sub_cancel_left, ← List.getD_eq_getElem?_getD, tabM_get, if_pos hj]
theorem tri_pos {n : Nat} : ∀ m a, m ≤ n → a < triR n m → ∃ i j, i < m ∧ j < n - i ∧ a = triR n i + j
  | 0, a, _, h => absurd h (by simp [triR])
  | m + 1, a, hm, h => by
    by_cases h' : a < triR n m
    · obtain ⟨i, j, h1, h2, h3⟩ := tri_pos m a (by omega) h'
      exact ⟨i, j, by omega, h2, h3⟩
    · unfold triR at h
      exact ⟨m, a - triR n m, by omega, by omega, by omega⟩
theorem triF_tape {n : Nat} {F : Nat → Nat → Nat} (hs : SymF n F) : ∀ i k, i < n → k < n → triF n (tapeK n F n) i k = F i k := by
  intro i k hi hk
  unfold triF
  split
  · rename_i h
    rw [tapeK_get n F n i (k - i) hi (by omega), show i + (k - i) = k by omega]
  · rw [tapeK_get n F n k (i - k) hk (by omega), show k + (i - k) = i by omega]
    exact hs k i hk hi
/-- the list is determined by the matrix -/
theorem triF_inj {n : Nat} {l m : List Nat} (hl : l.length = triR n n) (hm : m.length = triR n n) (h : ∀ i k, i < n → k < n → triF n l i k = triF n m i k) : l = m := by
  refine ext_getD (by rw [hl, hm]) fun a => ?_
  by_cases ha : a < triR n n
  · obtain ⟨i, j, h1, h2, rfl⟩ := tri_pos n a (Nat.le_refl _) ha
    have e := h i (i + j) h1 (by omega)
    unfold triF at e
    rw [if_pos (by omega), if_pos (by omega), Nat.add_sub_cancel_left] at e
    exact e
  · rw [getD_ge (by omega), getD_ge (by omega)]
theorem tapeK_tri {n : Nat} {l : List Nat} (hl : l.length = triR n n) : tapeK n (triF n l) n = l :=
  triF_inj (tapeK_len _ _ _) hl fun i k hi hk => triF_tape (triF_sym n l) i k hi hk
theorem tapeK_lt {p n : Nat} {F : Nat → Nat → Nat} (h : ∀ i k, i < n → k < n → F i k < p) : ∀ m, m ≤ n → within p (tapeK n F m) = true
  | 0, _ => rfl
  | m + 1, hm => by
    have := tapeK_lt h m (by omega)
    unfold within at this ⊢
    unfold tapeK tabM
    rw [List.all_append, this, Bool.true_and, List.all_eq_true]
    intro x hx
    obtain ⟨j, hj, rfl⟩ := List.mem_map.1 hx
    have := List.mem_range.1 hj
    simpa using h m (m + j) (by omega) (by omega)
theorem triF_lt {p n : Nat} (hp : 0 < p) {l : List Nat} (h : within p l = true) (i k : Nat) : triF n l i k < p := by
  unfold triF
  split <;> exact within_getD hp h _

/-- F and K times z(x) z(y) -/
def liftF (p : Nat) (F : Nat → Nat → Nat) (K : Nat) (z : List Nat) (i k : Nat) : Nat := (F i k + K * (z.getD i 0 * z.getD k 0 % p) % p) % p
theorem liftF_sym {n : Nat} {F : Nat → Nat → Nat} (hs : SymF n F) (p K : Nat) (z : List Nat) : SymF n (liftF p F K z) := by
  intro i k hi hk
  unfold liftF
  rw [hs i k hi hk, Nat.mul_comm (z.getD i 0)]
theorem modN (p a : Nat) : Eqm p ((a % p : Nat) : Int) (a : Nat) := by
  refine ⟨-((a / p : Nat) : Int), ?_⟩
  have := Nat.div_add_mod a p
  have h2 : ((p * (a / p) + a % p : Nat) : Int) = (a : Nat) := by rw [this]
  rw [Int.natCast_add, Int.natCast_mul] at h2
  grind
theorem liftF_eqm (p : Nat) (F : Nat → Nat → Nat) (K : Nat) (z : List Nat) (i k : Nat) : Eqm p (liftF p F K z i k : Nat) ((F i k : Int) + (K : Int) * ((z.getD i 0 : Int) * (z.getD k 0 : Int))) := by
  unfold liftF
  refine (modN p _).trans ?_
  rw [Int.natCast_add]
  refine (Eqm.refl _ _).add ((modN p _).trans ?_)
  rw [Int.natCast_mul]
  refine (Eqm.refl _ _).mul ((modN p _).trans ?_)
  rw [Int.natCast_mul]
  exact Eqm.refl _ _
/-- where z is 0 the row is as it was -/
theorem liftF_row {p n : Nat} (hp : 0 < p) (F : Nat → Nat → Nat) (K : Nat) (z : List Nat) (hz : z.length ≤ n) {x : Nat} (h : pev p z x = 0) : rowp p n (liftF p F K z) x = rowp p n F x := by
  refine rowp_of_colv fun k hk => Eqm.nat (pv_lt hp _ _ _) (pv_lt hp _ _ _) ?_
  refine (pv_eqm p n (fun i => liftF p F K z i k) x).trans (Eqm.trans ?_ (pv_eqm p n (fun i => F i k) x).symm)
  have hz0 : Eqm p (sumI (fun j => (x : Int) ^ j * (z.getD j 0 : Int)) n) 0 := by
    have e : pv p n (fun j => z.getD j 0) x = pev p z x := by
      unfold pv pev
      refine evN_mod _ _ _ fun j => ?_
      rw [tabM_get]
      split
      · rfl
      · rw [getD_ge (l := z) (by omega)]
    have := pv_eqm p n (fun j => z.getD j 0) x
    rw [e, h] at this
    exact this.symm
  have e1 : Eqm p (sumI (fun i => (x : Int) ^ i * (liftF p F K z i k : Nat)) n) (sumI (fun i => (x : Int) ^ i * (F i k : Int) + ((K : Int) * (z.getD k 0 : Int)) * ((x : Int) ^ i * (z.getD i 0 : Int))) n) := by
    refine sumI_eqm n fun i _ => ?_
    refine ((liftF_eqm p F K z i k).mulL _).trans (.of_eq ?_)
    grind
  refine e1.trans ?_
  rw [sumI_add, sumI_mul]
  have := (Eqm.refl p (sumI (fun i => (x : Int) ^ i * (F i k : Int)) n)).add (hz0.mulL ((K : Int) * (z.getD k 0 : Int)))
  rw [Int.mul_zero, Int.add_zero] at this
  exact this
/-- and back -/
theorem liftF_back {p n : Nat} (hp : 0 < p) {F : Nat → Nat → Nat} {K L : Nat} (z : List Nat) (hF : ∀ i k, i < n → k < n → F i k < p) (h : (K + L) % p = 0) : ∀ i k, i < n → k < n → liftF p (liftF p F K z) L z i k = F i k := by
  intro i k hi hk
  refine Eqm.nat (Nat.mod_lt _ hp) (hF i k hi hk) ?_
  refine (liftF_eqm p (liftF p F K z) L z i k).trans ?_
  have e := (liftF_eqm p F K z i k).add (Eqm.refl p ((L : Int) * ((z.getD i 0 : Int) * (z.getD k 0 : Int))))
  refine e.trans ?_
  obtain ⟨c, hc⟩ : ∃ c, K + L = p * c := ⟨(K + L) / p, by have := Nat.div_add_mod (K + L) p; omega⟩
  refine ⟨(c : Int) * ((z.getD i 0 : Int) * (z.getD k 0 : Int)), ?_⟩
  have : ((K + L : Nat) : Int) = ((p * c : Nat) : Int) := by rw [hc]
  rw [Int.natCast_add, Int.natCast_mul] at this
  grind
end Go.Proofs.Ytfkepkdfpjaniaa.M
namespace Go.Proofs.Ytfkepkdfpjaniaa.M
set_option linter.unusedVariables false

/-- what the k-th column must be at the places -/
def colY (xs : List Nat) (rows : List (List Nat)) (k : Nat) : List Nat := tabM xs.length fun i => (rows.getD i []).getD k 0
/-- rows that are short enough, columns that are short enough and make a symmetric polynomial: it has these rows -/
theorem PairOf.of_columns {p n : Nat} (hp : 0 < p) {xs : List Nat} {rows : List (List Nat)} {g : Nat → List Nat} (hr : ∀ i, i < xs.length → (trim (rows.getD i [])).length ≤ n)
    (h : ∀ k, k < n → Thru p xs (colY xs rows k) (g k)) (hl : ∀ k, k < n → (g k).length ≤ n) (hs : SymF n fun k i => (g k).getD i 0) : PairOf p n xs rows fun i k => (g k).getD i 0 where
  sym i k h1 h2 := hs k i h2 h1
  lt i k h1 h2 := within_getD hp (h k h2).1 i
  row i hi := by
    refine (trim_eq_of (poly_trim _ _ _) fun k => ?_).symm
    have e := rowp_get (n := n) hp (fun i k => (g k).getD i 0) (xs.getD i 0) k
    unfold rowp at e
    rw [e]
    split
    · rename_i hk
      have e4 := (h k hk).2.2.2 i hi
      unfold colY at e4
      rw [tabM_get, if_pos hi] at e4
      rw [← e4]
      unfold colv pv pev
      refine (evN_mod _ _ _ fun j => ?_).symm
      rw [tabM_get]
      split
      · rfl
      · rw [getD_ge (l := g k) (by have := hl k hk; omega)]
    · rename_i hk
      rw [← trim_get]
      exact getD_ge (by have := hr i hi; omega)
/-- a pair with these rows has these columns -/
theorem PairOf.column {p n : Nat} (hi : isP p = true) {xs : List Nat} {rows : List (List Nat)} (hd : xs.Nodup) (hx : within p xs = true) (hn : n ≤ xs.length) {G : Nat → Nat → Nat} (h : PairOf p n xs rows G) {k : Nat} (hk : k < n) {g : List Nat} (hg : Thru p xs (colY xs rows k) g) :
    g.length ≤ n ∧ ∀ i, i < n → g.getD i 0 = G i k := by
  have hp : 0 < p := by have := pos_of hi; omega
  have e : g = poly p n fun i => G i k := by
    refine agree hi hg.1 (poly_within hp _ _) hg.2.1 (poly_trim _ _ _) hd hx hg.2.2.1 (Nat.le_trans (poly_len _ _ _) hn) fun x hm => ?_
    obtain ⟨j, hj, rfl⟩ := mem_getD hm
    rw [hg.2.2.2 j hj, pev_poly]
    unfold colY
    rw [tabM_get, if_pos hj]
    have e2 := rowp_get (n := n) hp G (xs.getD j 0) k
    rw [if_pos hk, h.row j hj, trim_get] at e2
    exact e2
  refine ⟨by rw [e]; exact poly_len _ _ _, fun i hi2 => ?_⟩
  rw [e, poly_get, if_pos hi2]
  exact Nat.mod_eq_of_lt (h.lt i k hi2 hk)
/-- a row that is too long belongs to none -/
theorem PairOf.short {p n : Nat} {xs : List Nat} {rows : List (List Nat)} {G : Nat → Nat → Nat} (h : PairOf p n xs rows G) {i : Nat} (hi : i < xs.length) : (trim (rows.getD i [])).length ≤ n := by
  rw [← h.row i hi]; exact rowp_len _ _ _ _
end Go.Proofs.Ytfkepkdfpjaniaa.M
