/-
  A symmetric polynomial and the list of its coefficients; adding a multiple of z(x) z(y).
-/
import Derived.Test.YtglehjcohdjhoaaPbM
namespace Go.Proofs.Ytglehjcohdjhoaa.M
set_option linter.unusedVariables false

/-- where row i begins in the list of the coefficients (i, k), i ≤ k -/
def triR (n : Nat) : Nat → Nat
  | 0 => 0
  | i + 1 => triR n i + (n - i)
theorem triR_mono {n : Nat} {i m : Nat} (h : i ≤ m) : triR n i ≤ triR n m := by
  induction m with
  | zero => obtain rfl : i = 0 := by omega
            exact Nat.le_refl _
  | succ m ih =>
    rcases Nat.lt_or_ge m i with h' | h'
    · obtain rfl : i = m + 1 := by omega
      exact Nat.le_refl _
    · exact Nat.le_trans (ih h') (Nat.le_add_right _ _)
theorem triR_small {n : Nat} (h : n ≤ 4) : triR n n = n * (n + 1) / 2 := by
  match n, h with
  | 0, _ => rfl
  | 1, _ => rfl
  | 2, _ => rfl
  | 3, _ => rfl
  | 4, _ => rfl
  | n + 5, h => omega
/-- the matrix that the list l fills -/
def triF (n : Nat) (l : List Nat) (i k : Nat) : Nat := if i ≤ k then l.getD (triR n i + (k - i)) 0 else l.getD (triR n k + (i - k)) 0
theorem triF_sym (n : Nat) (l : List Nat) : SymF n (triF n l) := by
  intro i k _ _
  unfold triF
  rcases Nat.lt_trichotomy i k with h | rfl | h
  · rw [if_pos (by omega), if_neg (by omega)]
  · rfl
  · rw [if_neg (by omega), if_pos (by omega)]
/-- the list that a matrix is made of: its first m rows -/
def tapeK (n : Nat) (F : Nat → Nat → Nat) : Nat → List Nat
  | 0 => []
  | i + 1 => tapeK n F i ++ tabM (n - i) fun j => F i (i + j)
theorem tapeK_len (n : Nat) (F : Nat → Nat → Nat) : ∀ m, (tapeK n F m).length = triR n m
  | 0 => rfl
  | m + 1 => by
    rw [tapeK, List.length_append, tapeK_len n F m]
    simp [triR, tabM]
theorem tapeK_get (n : Nat) (F : Nat → Nat → Nat) : ∀ m i j, i < m → j < n - i → (tapeK n F m).getD (triR n i + j) 0 = F i (i + j)
  | 0, i, j, h, _ => absurd h (by omega)
  | m + 1, i, j, h, hj => by
    unfold tapeK
    by_cases him : i < m
    · have h1 : triR n i + j < (tapeK n F m).length := by
        rw [tapeK_len]
        have := triR_mono (n := n) (show i + 1 ≤ m by omega)
        rw [show triR n (i + 1) = triR n i + (n - i) from rfl] at this
        omega
      rw [List.getD_eq_getElem?_getD, List.getElem?_append_left h1, ← List.getD_eq_getElem?_getD]
      exact tapeK_get n F m i j him hj
    · obtain rfl : i = m := by omega
      rw [List.getD_eq_getElem?_getD, List.getElem?_append_right (by rw [tapeK_len]; omega), tapeK_len, Nat.add_sub_cancel_left, ← List.getD_eq_getElem?_getD, tabM_get, if_pos hj]
theorem tri_pos {n : Nat} : ∀ m a, m ≤ n → a < triR n m → ∃ i j, i < m ∧ j < n - i ∧ a = triR n i + j
  | 0, a, _, h => absurd h (by simp [triR])
  | m + 1, a, hm, h => by
    by_cases h' : a < triR n m
    · obtain ⟨i, j, h1, h2, h3⟩ := tri_pos m a (by omega) h'
      exact ⟨i, j, by omega, h2, h3⟩
    · unfold triR at h
      exact ⟨m, a - triR n m, by omega, by omega, by omega⟩
theorem triF_tape {n : Nat} {F : Nat → Nat → Nat} (hs : SymF n F) : ∀ i k, i < n → k < n → triF n (tapeK n F n) i k = F i k := by
  intro i k hi hk
  unfold triF
  split
  · rename_i h
    rw [tapeK_get n F n i (k - i) hi (by omega), show i + (k - i) = k by omega]
  · rw [tapeK_get n F n k (i - k) hk (by omega), show k + (i - k) = i by omega]
    exact hs k i hk hi
/-- the list is determined by the matrix -/
theorem triF_inj {n : Nat} {l m : List Nat} (hl : l.length = triR n n) (hm : m.length = triR n n) (h : ∀ i k, i < n → k < n → triF n l i k = triF n m i k) : l = m := by
  refine ext_getD (by rw [hl, hm]) fun a => ?_
  by_cases ha : a < triR n n
  · obtain ⟨i, j, h1, h2, rfl⟩ := tri_pos n a (Nat.le_refl _) ha
    have e := h i (i + j) h1 (by omega)
    unfold triF at e
    rw [if_pos (by omega), if_pos (by omega), Nat.add_sub_cancel_left] at e
    exact e
  · rw [getD_ge (by omega), getD_ge (by omega)]
theorem tapeK_tri {n : Nat} {l : List Nat} (hl : l.length = triR n n) : tapeK n (triF n l) n = l :=
  triF_inj (tapeK_len _ _ _) hl fun i k hi hk => triF_tape (triF_sym n l) i k hi hk
theorem tapeK_lt {p n : Nat} {F : Nat → Nat → Nat} (h : ∀ i k, i < n → k < n → F i k < p) : ∀ m, m ≤ n → within p (tapeK n F m) = true
  | 0, _ => rfl
  | m + 1, hm => by
    have := tapeK_lt h m (by omega)
    unfold within at this ⊢
    unfold tapeK tabM
    rw [List.all_append, this, Bool.true_and, List.all_eq_true]
    intro x hx
    obtain ⟨j, hj, rfl⟩ := List.mem_map.1 hx
    have := List.mem_range.1 hj
    simpa using h m (m + j) (by omega) (by omega)
theorem triF_lt {p n : Nat} (hp : 0 < p) {l : List Nat} (h : within p l = true) (i k : Nat) : triF n l i k < p := by
  unfold triF
  split <;> exact within_getD hp h _

/-- F and K times z(x) z(y) -/
def liftF (p : Nat) (F : Nat → Nat → Nat) (K : Nat) (z : List Nat) (i k : Nat) : Nat := (F i k + K * (z.getD i 0 * z.getD k 0 % p) % p) % p
theorem liftF_sym {n : Nat} {F : Nat → Nat → Nat} (hs : SymF n F) (p K : Nat) (z : List Nat) : SymF n (liftF p F K z) := by
  intro i k hi hk
  unfold liftF
  rw [hs i k hi hk, Nat.mul_comm (z.getD i 0)]
theorem modN (p a : Nat) : Eqm p ((a % p : Nat) : Int) (a : Nat) := by
  refine ⟨-((a / p : Nat) : Int), ?_⟩
  have := Nat.div_add_mod a p
  have h2 : ((p * (a / p) + a % p : Nat) : Int) = (a : Nat) := by rw [this]
  rw [Int.natCast_add, Int.natCast_mul] at h2
  grind
theorem liftF_eqm (p : Nat) (F : Nat → Nat → Nat) (K : Nat) (z : List Nat) (i k : Nat) : Eqm p (liftF p F K z i k : Nat) ((F i k : Int) + (K : Int) * ((z.getD i 0 : Int) * (z.getD k 0 : Int))) := by
  unfold liftF
  refine (modN p _).trans ?_
  rw [Int.natCast_add]
  refine (Eqm.refl _ _).add ((modN p _).trans ?_)
  rw [Int.natCast_mul]
  refine (Eqm.refl _ _).mul ((modN p _).trans ?_)
  rw [Int.natCast_mul]
  exact Eqm.refl _ _
/-- where z is 0 the row is as it was -/
theorem liftF_row {p n : Nat} (hp : 0 < p) (F : Nat → Nat → Nat) (K : Nat) (z : List Nat) (hz : z.length ≤ n) {x : Nat} (h : pev p z x = 0) : rowp p n (liftF p F K z) x = rowp p n F x := by
  refine rowp_of_colv fun k hk => Eqm.nat (pv_lt hp _ _ _) (pv_lt hp _ _ _) ?_
  refine (pv_eqm p n (fun i => liftF p F K z i k) x).trans (Eqm.trans ?_ (pv_eqm p n (fun i => F i k) x).symm)
  have hz0 : Eqm p (sumI (fun j => (x : Int) ^ j * (z.getD j 0 : Int)) n) 0 := by
    have e : pv p n (fun j => z.getD j 0) x = pev p z x := by
      unfold pv pev
      refine evN_mod _ _ _ fun j => ?_
      rw [tabM_get]
      split
      · rfl
      · rw [getD_ge (l := z) (by omega)]
    have := pv_eqm p n (fun j => z.getD j 0) x
    rw [e, h] at this
    exact this.symm
  have e1 : Eqm p (sumI (fun i => (x : Int) ^ i * (liftF p F K z i k : Nat)) n) (sumI (fun i => (x : Int) ^ i * (F i k : Int) + ((K : Int) * (z.getD k 0 : Int)) * ((x : Int) ^ i * (z.getD i 0 : Int))) n) := by
    refine sumI_eqm n fun i _ => ?_
    refine ((liftF_eqm p F K z i k).mulL _).trans (.of_eq ?_)
    grind
  refine e1.trans ?_
  rw [sumI_add, sumI_mul]
  have := (Eqm.refl p (sumI (fun i => (x : Int) ^ i * (F i k : Int)) n)).add (hz0.mulL ((K : Int) * (z.getD k 0 : Int)))
  rw [Int.mul_zero, Int.add_zero] at this
  exact this
/-- and back -/
theorem liftF_back {p n : Nat} (hp : 0 < p) {F : Nat → Nat → Nat} {K L : Nat} (z : List Nat) (hF : ∀ i k, i < n → k < n → F i k < p) (h : (K + L) % p = 0) : ∀ i k, i < n → k < n → liftF p (liftF p F K z) L z i k = F i k := by
  intro i k hi hk
  refine Eqm.nat (Nat.mod_lt _ hp) (hF i k hi hk) ?_
  refine (liftF_eqm p (liftF p F K z) L z i k).trans ?_
  have e := (liftF_eqm p F K z i k).add (Eqm.refl p ((L : Int) * ((z.getD i 0 : Int) * (z.getD k 0 : Int))))
  refine e.trans ?_
  obtain ⟨c, hc⟩ : ∃ c, K + L = p * c := ⟨(K + L) / p, by have := Nat.div_add_mod (K + L) p; omega⟩
  refine ⟨(c : Int) * ((z.getD i 0 : Int) * (z.getD k 0 : Int)), ?_⟩
  have : ((K + L : Nat) : Int) = ((p * c : Nat) : Int) := by rw [hc]
  rw [Int.natCast_add, Int.natCast_mul] at this
  grind
end Go.Proofs.Ytglehjcohdjhoaa.M
