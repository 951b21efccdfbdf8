/-
  Symmetric polynomials in two variables: values, rows, what some rows determine.
-/
import Derived.Test.YtglehjcohdjhoaaDecM
namespace Go.Proofs.Ytglehjcohdjhoaa.M
set_option linter.unusedVariables false

/-- the value at x of the polynomial with the coefficients c 0, .., c (n - 1) -/
def pv (p n : Nat) (c : Nat → Nat) (x : Nat) : Nat := evN x (tabM n c) % p
theorem pv_lt {p : Nat} (hp : 0 < p) (n : Nat) (c : Nat → Nat) (x : Nat) : pv p n c x < p := Nat.mod_lt _ hp
theorem pv_congr {p n : Nat} {c d : Nat → Nat} (h : ∀ i, i < n → c i % p = d i % p) (x : Nat) : pv p n c x = pv p n d x := by
  refine evN_mod x _ _ fun i => ?_
  rw [tabM_get, tabM_get]
  split
  · exact h i (by assumption)
  · rfl
theorem pev_poly (p n : Nat) (c : Nat → Nat) (x : Nat) : pev p (poly p n c) x = pv p n c x := by
  unfold poly pv
  rw [pev_trim]
  refine evN_mod x _ _ fun i => ?_
  rw [row_get, tabM_get]
  split
  · rw [Nat.mod_mod]
  · rfl
/-- two polynomials with n coefficients that agree at n places have the same coefficients -/
theorem same_of_values {p n : Nat} (hi : isP p = true) {c d : Nat → Nat} {xs : List Nat} (hd : xs.Nodup) (hx : within p xs = true) (hn : n ≤ xs.length) (h : ∀ x ∈ xs, pv p n c x = pv p n d x) : ∀ i, i < n → c i % p = d i % p := by
  have hp : 0 < p := by have := pos_of hi; omega
  have e : poly p n c = poly p n d := agree hi (poly_within hp n c) (poly_within hp n d) (poly_trim p n c) (poly_trim p n d) hd hx (Nat.le_trans (poly_len p n c) hn) (Nat.le_trans (poly_len p n d) hn) fun x hx' => by
    rw [pev_poly, pev_poly]
    exact h x hx'
  intro i hlt
  have e1 := poly_get p n c i
  rw [e, poly_get, if_pos hlt, if_pos hlt] at e1
  exact e1.symm
theorem pv_eqm (p n : Nat) (c : Nat → Nat) (x : Nat) : Eqm p (pv p n c x : Nat) (sumI (fun j => (x : Int) ^ j * (c j : Int)) n) := by
  unfold pv
  rw [← evN_sum]
  refine ⟨-((evN x (tabM n c) / p : Nat) : Int), ?_⟩
  have := Nat.div_add_mod (evN x (tabM n c)) p
  have h2 : ((p * (evN x (tabM n c) / p) + evN x (tabM n c) % p : Nat) : Int) = (evN x (tabM n c) : Nat) := by rw [this]
  rw [Int.natCast_add, Int.natCast_mul] at h2
  grind
theorem Eqm.nat {p a b : Nat} (ha : a < p) (hb : b < p) (h : Eqm p (a : Int) (b : Int)) : a = b := by
  obtain ⟨k, h⟩ := h
  have e : a % p = b % p := mod_eq_int.2 ⟨k, by rw [h]; grind⟩
  rwa [Nat.mod_eq_of_lt ha, Nat.mod_eq_of_lt hb] at e

/-- the coefficient of y^k in the row at x -/
def colv (p n : Nat) (F : Nat → Nat → Nat) (x k : Nat) : Nat := pv p n (fun i => F i k) x
/-- the row at x, a polynomial in y -/
def rowp (p n : Nat) (F : Nat → Nat → Nat) (x : Nat) : List Nat := poly p n (colv p n F x)
/-- the value at x and y -/
def pat (p n : Nat) (F : Nat → Nat → Nat) (x y : Nat) : Nat := pv p n (colv p n F x) y
theorem pev_rowp (p n : Nat) (F : Nat → Nat → Nat) (x y : Nat) : pev p (rowp p n F x) y = pat p n F x y := pev_poly _ _ _ _
theorem rowp_len (p n : Nat) (F : Nat → Nat → Nat) (x : Nat) : (rowp p n F x).length ≤ n := poly_len _ _ _
def SymF (n : Nat) (F : Nat → Nat → Nat) : Prop := ∀ i k, i < n → k < n → F i k = F k i

theorem pat_eqm (p n : Nat) (F : Nat → Nat → Nat) (x y : Nat) : Eqm p (pat p n F x y : Nat) (sumI (fun k => (y : Int) ^ k * sumI (fun i => (x : Int) ^ i * (F i k : Int)) n) n) :=
  (pv_eqm p n _ y).trans (sumI_eqm n fun k _ => (pv_eqm p n (fun i => F i k) x).mulL _)
/-- a symmetric polynomial: the arguments may be exchanged -/
theorem pat_sym {p n : Nat} (hp : 0 < p) {F : Nat → Nat → Nat} (hs : SymF n F) (x y : Nat) : pat p n F x y = pat p n F y x := by
  refine Eqm.nat (pv_lt hp _ _ _) (pv_lt hp _ _ _) ((pat_eqm p n F x y).trans (Eqm.trans (.of_eq ?_) (pat_eqm p n F y x).symm))
  have e1 : sumI (fun k => (y : Int) ^ k * sumI (fun i => (x : Int) ^ i * (F i k : Int)) n) n = sumI (fun k => sumI (fun i => (y : Int) ^ k * ((x : Int) ^ i * (F i k : Int))) n) n := sumI_congr n fun k _ => (sumI_mul _ _ n).symm
  have e2 : sumI (fun k => (x : Int) ^ k * sumI (fun i => (y : Int) ^ i * (F i k : Int)) n) n = sumI (fun k => sumI (fun i => (x : Int) ^ k * ((y : Int) ^ i * (F i k : Int))) n) n := sumI_congr n fun k _ => (sumI_mul _ _ n).symm
  rw [e1, e2, sumI_swap]
  refine sumI_congr n fun i hi => sumI_congr n fun k hk => ?_
  rw [hs k i hk hi]
  grind

/-- rows at n places determine the polynomial -/
theorem same_of_rows {p n : Nat} (hi : isP p = true) {F G : Nat → Nat → Nat} {xs : List Nat} (hd : xs.Nodup) (hx : within p xs = true) (hn : n ≤ xs.length) (h : ∀ x ∈ xs, rowp p n F x = rowp p n G x) : ∀ i k, i < n → k < n → F i k % p = G i k % p := by
  have hp : 0 < p := by have := pos_of hi; omega
  intro i k hi' hk
  refine same_of_values hi hd hx hn (c := fun i => F i k) (d := fun i => G i k) (fun x hx' => ?_) i hi'
  have e := poly_get p n (colv p n F x) k
  have e2 := poly_get p n (colv p n G x) k
  have e3 : poly p n (colv p n F x) = poly p n (colv p n G x) := h x hx'
  rw [e3, e2, if_pos hk, if_pos hk] at e
  unfold colv at e
  rw [Nat.mod_eq_of_lt (pv_lt hp _ _ _), Nat.mod_eq_of_lt (pv_lt hp _ _ _)] at e
  exact e.symm
theorem rowp_of_colv {p n : Nat} {F G : Nat → Nat → Nat} {x : Nat} (h : ∀ k, k < n → colv p n F x k = colv p n G x k) : rowp p n F x = rowp p n G x := poly_congr fun k hk => by rw [h k hk]
theorem colv_of_rowp {p n : Nat} (hp : 0 < p) {F G : Nat → Nat → Nat} {x : Nat} (h : rowp p n F x = rowp p n G x) : ∀ k, k < n → colv p n F x k = colv p n G x k := by
  intro k hk
  have e := poly_get p n (colv p n F x) k
  have e2 := poly_get p n (colv p n G x) k
  have e3 : poly p n (colv p n F x) = poly p n (colv p n G x) := h
  rw [e3, e2, if_pos hk, if_pos hk] at e
  unfold colv at e
  rw [Nat.mod_eq_of_lt (pv_lt hp _ _ _), Nat.mod_eq_of_lt (pv_lt hp _ _ _)] at e
  exact e.symm
theorem pv_zero {p n : Nat} (hn : 0 < n) (c : Nat → Nat) : pv p n c 0 = c 0 % p := by
  obtain ⟨m, rfl⟩ : ∃ m, n = m + 1 := ⟨n - 1, by omega⟩
  unfold pv tabM
  rw [List.range_succ_eq_map, List.map_cons]
  simp [evN]
theorem colv_zero {p n : Nat} (hn : 0 < n) (F : Nat → Nat → Nat) (k : Nat) : colv p n F 0 k = F 0 k % p := pv_zero hn _
theorem pat_zero {p n : Nat} (hn : 0 < n) (F : Nat → Nat → Nat) : pat p n F 0 0 = F 0 0 % p := by
  unfold pat
  rw [pv_zero hn, colv_zero hn, Nat.mod_mod]
/-- a secret and the rows at n - 1 places other than 0 determine the polynomial -/
theorem same_of_some {p n : Nat} (hi : isP p = true) (hn : 0 < n) {F G : Nat → Nat → Nat} (hF : SymF n F) (hG : SymF n G) {xs : List Nat} (hd : (0 :: xs).Nodup) (hx : within p xs = true) (hl : n ≤ xs.length + 1)
    (h : ∀ x ∈ xs, rowp p n F x = rowp p n G x) (h0 : F 0 0 % p = G 0 0 % p) : ∀ i k, i < n → k < n → F i k % p = G i k % p := by
  have hp : 0 < p := by have := pos_of hi; omega
  have hx0 : within p (0 :: xs) = true := by unfold within at hx ⊢; simp at hx ⊢; exact ⟨hp, hx⟩
  refine same_of_rows hi hd hx0 (by simpa using hl) fun x hx' => ?_
  rcases List.mem_cons.1 hx' with rfl | hx'
  · refine poly_congr fun k hk => ?_
    refine same_of_values hi hd hx0 (by simpa using hl) (c := colv p n F 0) (d := colv p n G 0) (fun y hy => ?_) k hk
    rcases List.mem_cons.1 hy with rfl | hy
    · show pat p n F 0 0 = pat p n G 0 0
      rw [pat_zero hn, pat_zero hn, h0]
    · show pat p n F 0 y = pat p n G 0 y
      rw [pat_sym hp hF, pat_sym hp hG, ← pev_rowp, ← pev_rowp, h y hy]
  · exact h x hx'
end Go.Proofs.Ytglehjcohdjhoaa.M
