/-
  Masks: mathematics.
-/
import Derived.Test.YtfkepkdfpjaniaaP7a
import Derived.Test.YtfkepkdfpjaniaaP7b
namespace Go.Proofs.Ytfkepkdfpjaniaa.M
set_option linter.unusedVariables false

/-- f, k places up -/
def zer (k : Nat) (f : List Nat) : List Nat := List.replicate k 0 ++ f
theorem zer_len (k : Nat) (f : List Nat) : (zer k f).length = k + f.length := by simp [zer]
theorem zer_get (k : Nat) (f : List Nat) (i : Nat) : (zer k f).getD i 0 = if i < k then 0 else f.getD (i - k) 0 := by
  unfold zer
  by_cases h : i < k
  · rw [if_pos h, List.getD_eq_getElem?_getD, List.getElem?_append_left (by simpa using h)]
    simp [h]
  · rw [if_neg h, List.getD_eq_getElem?_getD, List.getElem?_append_right (by simpa using Nat.le_of_not_lt h)]
    simp [List.getD_eq_getElem?_getD]
theorem zer_within {p : Nat} (hp : 0 < p) {f : List Nat} (h : within p f = true) (k : Nat) : within p (zer k f) = true := by
  unfold within zer at *
  rw [List.all_append, h, Bool.and_true, List.all_eq_true]
  intro x hx
  have := List.eq_of_mem_replicate hx
  subst this
  simpa using hp
theorem evN_zer (x k : Nat) (f : List Nat) : evN x (zer k f) = x ^ k * evN x f := by
  induction k with
  | zero => simp [zer]
  | succ k ih =>
    have e : zer (k + 1) f = 0 :: zer k f := by simp [zer, List.replicate_succ]
    rw [e]
    simp only [evN]
    rw [ih, Nat.pow_succ, Nat.zero_add]
    simp only [Nat.mul_comm, Nat.mul_assoc]
theorem pev_zer (p k x : Nat) (f : List Nat) : pev p (zer k f) x = x ^ k * pev p f x % p := by
  unfold pev
  rw [evN_zer, Nat.mul_mod_mod]

/-- the sum of the first k polynomials, the i-th i places up -/
def wholeK (p : Nat) (m : List (List Nat)) : Nat → List Nat
  | 0 => []
  | k + 1 => padd p (wholeK p m k) (zer k (m.getD k []))
theorem wholeK_trim (p : Nat) (m : List (List Nat)) : ∀ k, trim (wholeK p m k) = wholeK p m k
  | 0 => rfl
  | k + 1 => poly_trim _ _ _
theorem wholeK_within {p : Nat} (hp : 0 < p) (m : List (List Nat)) : ∀ k, within p (wholeK p m k) = true
  | 0 => rfl
  | k + 1 => poly_within hp _ _
theorem wholeK_len {p : Nat} {m : List (List Nat)} {L : Nat} (h : ∀ i, (m.getD i []).length ≤ L) : ∀ k, (wholeK p m k).length ≤ if k = 0 then 0 else k - 1 + L
  | 0 => Nat.le_refl _
  | k + 1 => by
    have ih := wholeK_len (p := p) h k
    have hl := poly_len p (max (wholeK p m k).length (zer k (m.getD k [])).length) fun i => (wholeK p m k).getD i 0 + (zer k (m.getD k [])).getD i 0
    have hz := zer_len k (m.getD k [])
    have hk := h k
    rw [if_neg (by omega)]
    show (padd p (wholeK p m k) (zer k (m.getD k []))).length ≤ _
    unfold padd
    split at ih
    · subst_vars; simp only [Nat.zero_add] at *; omega
    · omega
/-- the high value, polynomial by polynomial -/
def hiK (p : Nat) (m : List (List Nat)) (x : Nat) : Nat → Nat
  | 0 => 0
  | k + 1 => (hiK p m x k + x ^ k * pev p (m.getD k []) x % p) % p
theorem wholeK_pev (p : Nat) (m : List (List Nat)) (x : Nat) : ∀ k, pev p (wholeK p m k) x = hiK p m x k
  | 0 => by simp [wholeK, hiK, pev, evN]
  | k + 1 => by
    show pev p (padd p _ _) x = _
    rw [pev_add, wholeK_pev p m x k, pev_zer]; rfl
theorem hiK_zero {p : Nat} (m : List (List Nat)) : ∀ k, hiK p m 0 (k + 1) = pev p (m.getD 0 []) 0 % p
  | 0 => by simp [hiK]
  | k + 1 => by
    show (hiK p m 0 (k + 1) + 0 ^ (k + 1) * pev p (m.getD (k + 1) []) 0 % p) % p = _
    rw [hiK_zero m k]
    simp
/-- the high value is the value of the polynomial of the values -/
theorem hiK_vals {p : Nat} (m : List (List Nat)) (x : Nat) (n : Nat) : hiK p m x n = evN x (tabM n fun k => pev p (m.getD k []) x) % p := by
  induction n with
  | zero => simp [hiK, tabM, evN]
  | succ n ih =>
    show (hiK p m x n + x ^ n * pev p (m.getD n []) x % p) % p = _
    rw [ih, show tabM (n + 1) (fun k => pev p (m.getD k []) x) = tabM n (fun k => pev p (m.getD k []) x) ++ [pev p (m.getD n []) x] by simp [tabM, List.range_succ], evN_snoc, show (tabM n fun k => pev p (m.getD k []) x).length = n by simp [tabM], ← Nat.add_mod]

/-- the error of a mask, the setup apart -/
def mform (p n : Nat) (m : List (List Nat)) : Int := if m.length ≠ n then 4 else if m.all (fun r => decide (r.length ≤ n)) = false then 4 else if m.all (within p) = false then 2 else 0
/-- m is a mask for p and T, n = T + 1 -/
structure TOk (p n : Nat) (m : List (List Nat)) : Prop where
  len : m.length = n
  rows : ∀ i, i < n → (m.getD i []).length ≤ n
  lt : ∀ i, i < n → within p (m.getD i []) = true
/-- the mask that a secret and a tape make: what is drawn, list by list -/
def mmade (p s T : Nat) (zs : List Nat) : Nat → List (List Nat)
  | 0 => [trim (s :: tabM T fun i => zs.getD i 0 % p)]
  | k + 1 => mmade p s T zs k ++ [trim (tabM (T + 1) fun i => zs.getD (T + k * (T + 1) + i) 0 % p)]
/-- the mask moved -/
def mmoved (p : Nat) (m : List (List Nat)) (z q : List Nat) : Nat → List (List Nat)
  | 0 => []
  | k + 1 => mmoved p m z q k ++ [psub p (m.getD k []) (pscale p z (q.getD k 0))]
end Go.Proofs.Ytfkepkdfpjaniaa.M
namespace Go.Proofs.Ytfkepkdfpjaniaa.M
set_option linter.unusedVariables false

theorem mmade_len (p s T : Nat) (zs : List Nat) : ∀ k, (mmade p s T zs k).length = k + 1
  | 0 => rfl
  | k + 1 => by simp [mmade, mmade_len p s T zs k]
theorem mmade_zeroth (p s T : Nat) (zs : List Nat) : ∀ k, (mmade p s T zs k).getD 0 [] = trim (s :: tabM T fun i => zs.getD i 0 % p)
  | 0 => rfl
  | k + 1 => by
    have h := mmade_zeroth p s T zs k
    have hl := mmade_len p s T zs k
    show (mmade p s T zs k ++ _).getD 0 [] = _
    rw [← h, List.getD_eq_getElem?_getD, List.getElem?_append_left (by omega), List.getD_eq_getElem?_getD]
/-- every list of a mask that is made is the trimmed of at most T + 1 numbers below p -/
theorem mmade_rows {p s T : Nat} (h0 : 0 < p) (hs : s < p) (zs : List Nat) : ∀ k i, i < k + 1 → ∃ l, (mmade p s T zs k).getD i [] = trim l ∧ l.length ≤ T + 1 ∧ within p l = true
  | 0, i, hi => by
    obtain rfl : i = 0 := by omega
    refine ⟨_, rfl, by simp [tabM], ?_⟩
    unfold within
    simp only [List.all_cons, Bool.and_eq_true, decide_eq_true_eq]
    exact ⟨hs, within_tabM fun j _ => Nat.mod_lt _ h0⟩
  | k + 1, i, hi => by
    have hl := mmade_len p s T zs k
    by_cases e : i = k + 1
    · refine ⟨tabM (T + 1) fun j => zs.getD (T + k * (T + 1) + j) 0 % p, ?_, by simp [tabM], within_tabM fun j _ => Nat.mod_lt _ h0⟩
      subst e
      show (mmade p s T zs k ++ _).getD (k + 1) [] = _
      rw [List.getD_eq_getElem?_getD, List.getElem?_append_right (by omega), hl]
      simp
    · obtain ⟨l, h1, h2⟩ := mmade_rows h0 hs zs k i (by omega)
      refine ⟨l, ?_, h2⟩
      rw [← h1]
      show (mmade p s T zs k ++ _).getD i [] = _
      rw [List.getD_eq_getElem?_getD, List.getElem?_append_left (by omega), List.getD_eq_getElem?_getD]
theorem mmade_ok {p s T : Nat} (h0 : 0 < p) (hs : s < p) (zs : List Nat) : TOk p (T + 1) (mmade p s T zs T) where
  len := mmade_len _ _ _ _ _
  rows i hi := by
    obtain ⟨l, e, h1, _⟩ := mmade_rows (T := T) h0 hs zs T i hi
    rw [e]; exact Nat.le_trans (trim_len_le l) h1
  lt i hi := by
    obtain ⟨l, e, _, h2⟩ := mmade_rows (T := T) h0 hs zs T i hi
    rw [e]; exact within_trim h2
theorem mmade_secret {p s T : Nat} (hs : s < p) (zs : List Nat) (k : Nat) : pev p ((mmade p s T zs k).getD 0 []) 0 = s := by
  rw [mmade_zeroth, pev_trim]
  simp [pev, evN, Nat.mod_eq_of_lt hs]
/-- the high value at 0 is the low value there -/
theorem hiK_low {p : Nat} (m : List (List Nat)) (n : Nat) : hiK p m 0 (n + 1) = pev p (m.getD 0 []) 0 := by
  rw [hiK_zero]
  unfold pev
  rw [Nat.mod_mod]
/-- Whole has degree at most 2T -/
theorem whole_deg {p T : Nat} {m : List (List Nat)} (h : TOk p (T + 1) m) : (wholeK p m (T + 1)).length ≤ 2 * T + 1 := by
  have := wholeK_len (p := p) (m := m) (L := T + 1) (fun i => by
    by_cases hi : i < T + 1
    · exact h.rows i hi
    · rw [List.getD_eq_getElem?_getD, List.getElem?_eq_none (by have := h.len; omega)]; simp) (T + 1)
  rw [if_neg (by omega)] at this
  omega
/-- the sum of a product and Whole -/
theorem masked_len {p T : Nat} {Z Q w : List Nat} (hZ : Z.length ≤ T + 1) (hQ : Q.length ≤ T + 1) (hw : w.length ≤ 2 * T + 1) : (padd p (pmul p Z Q) w).length ≤ 2 * T + 1 := by
  have h1 : (pmul p Z Q).length ≤ 2 * T + 1 := by
    unfold pmul
    by_cases h : Z.length + Q.length ≤ 2 * T + 1
    · exact Nat.le_trans (poly_len _ _ _) h
    · have e : poly p (Z.length + Q.length) (mulAt Z (at_ Q)) = poly p (2 * T + 1) (mulAt Z (at_ Q)) := poly_eq fun i => by
        by_cases h1 : i < 2 * T + 1
        · rw [if_pos (by omega), if_pos h1]
        · have hz := mulAt_zero (at_ Q) (T + 1) (fun j hj => getD_ge (by omega)) Z i (by omega)
          rw [if_neg h1, hz]
          simp
      rw [e]
      exact poly_len _ _ _
  have h2 := poly_len p (max (pmul p Z Q).length w.length) fun i => (pmul p Z Q).getD i 0 + w.getD i 0
  unfold padd
  omega
/-- minus f, the value of the masked product at 0 -/
theorem masked_zero {p : Nat} (h0 : 0 < p) {Z Q w f : List Nat} (hf : within p f = true) (hw : pev p w 0 = pev p f 0) : pev p (psub p [pev p (padd p (pmul p Z Q) w) 0] f) 0 = pev p Z 0 * pev p Q 0 % p := by
  rw [pev_sub _ _ _ h0 hf, pev_add, pev_mul, hw]
  have h1 : pev p f 0 < p := Nat.mod_lt _ h0
  have h2 : pev p Z 0 * pev p Q 0 % p < p := Nat.mod_lt _ h0
  obtain ⟨A, eA⟩ : ∃ A, A = pev p Z 0 * pev p Q 0 % p := ⟨_, rfl⟩
  obtain ⟨B, eB⟩ : ∃ B, B = pev p f 0 := ⟨_, rfl⟩
  rw [← eA] at h2 ⊢
  rw [← eB] at h1 ⊢
  have e : pev p [(A + B) % p] 0 = (A + B) % p := by simp [pev, evN]
  rw [e]
  by_cases h : A + B < p
  · rw [Nat.mod_eq_of_lt h, show A + B + p - B = A + p by omega, Nat.add_mod_right, Nat.mod_eq_of_lt h2]
  · have h5 : (A + B) % p = A + B - p := by rw [Nat.mod_eq_sub_mod (by omega), Nat.mod_eq_of_lt (by omega)]
    rw [h5, show A + B - p + p - B = A by omega, Nat.mod_eq_of_lt h2]
theorem masked_deg {p : Nat} (c : Nat) (f : List Nat) : (psub p [c] f).length ≤ max 1 (trim f).length := by
  have e : psub p [c] f = poly p (max 1 (trim f).length) fun i => [c].getD i 0 + p - f.getD i 0 := by
    unfold psub
    refine poly_eq fun i => ?_
    have hl := trim_len_le f
    by_cases h : i < max 1 (trim f).length
    · rw [if_pos (by simp; omega), if_pos h]
    · have hz : f.getD i 0 = 0 := by rw [← trim_get]; exact getD_ge (by omega)
      have hc : [c].getD i 0 = 0 := getD_ge (by simp; omega)
      rw [if_neg h, hz, hc]
      simp
  rw [e]
  exact poly_len _ _ _

theorem mulAt_none : ∀ (g : List Nat) (i : Nat), mulAt g (at_ []) i = 0
  | [], i => rfl
  | b :: g, 0 => by simp [mulAt, at_]
  | b :: g, k + 1 => by
    show b * at_ [] (k + 1) + mulAt g (at_ []) k = 0
    rw [mulAt_none g k]; simp [at_]
theorem mulAt_cons_right (a : Nat) (t : List Nat) : ∀ (g : List Nat) (i : Nat), mulAt g (at_ (a :: t)) i = a * g.getD i 0 + sh (mulAt g (at_ t)) i
  | [], i => by cases i <;> simp [mulAt, sh]
  | b :: g, 0 => by simp [mulAt, at_, sh, Nat.mul_comm]
  | b :: g, k + 1 => by
    show b * at_ (a :: t) (k + 1) + mulAt g (at_ (a :: t)) k = a * (b :: g).getD (k + 1) 0 + mulAt (b :: g) (at_ t) k
    rw [mulAt_cons_right a t g k, mulAt_cons b g (at_ t) k, show at_ (a :: t) (k + 1) = at_ t k from rfl, show (b :: g).getD (k + 1) 0 = g.getD k 0 from rfl]
    omega
theorem mulAt_comm : ∀ (f g : List Nat) (i : Nat), mulAt f (at_ g) i = mulAt g (at_ f) i
  | [], g, i => by rw [mulAt_none]; rfl
  | a :: t, g, i => by
    rw [mulAt_cons, mulAt_cons_right]
    congr 1
    cases i with
    | zero => rfl
    | succ k => exact mulAt_comm t g k
theorem pmul_comm (p : Nat) (f g : List Nat) : pmul p f g = pmul p g f := by
  unfold pmul
  rw [Nat.add_comm]
  exact poly_congr fun i _ => by rw [mulAt_comm]
theorem sub_back {p x a s c : Nat} (h1 : x % p = (a + p - s) % p) (h2 : s < p) (h3 : s = c % p) : (x + c) % p = a % p :=
  calc (x + c) % p = (x % p + c % p) % p := Nat.add_mod _ _ _
    _ = ((a + p - s) % p + s) % p := by rw [h1, ← h3]
    _ = (a + p - s + s) % p := Nat.mod_add_mod _ _ _
    _ = (a + p) % p := by rw [show a + p - s + s = a + p by omega]
    _ = a % p := Nat.add_mod_right _ _
theorem add_four {p a' a b' b S s A' A : Nat} (e1 : A' % p = (a' + b') % p) (e2 : A % p = (a + b) % p) (ih : (a' + S) % p = a % p) (e3 : (b' + s) % p = b % p) : (A' + (S + s)) % p = A % p :=
  calc (A' + (S + s)) % p = (A' % p + (S + s)) % p := (Nat.mod_add_mod _ _ _).symm
    _ = ((a' + b') % p + (S + s)) % p := by rw [e1]
    _ = (a' + b' + (S + s)) % p := Nat.mod_add_mod _ _ _
    _ = (a' + S + (b' + s)) % p := by rw [show a' + b' + (S + s) = a' + S + (b' + s) by omega]
    _ = ((a' + S) % p + (b' + s) % p) % p := Nat.add_mod _ _ _
    _ = (a % p + b % p) % p := by rw [ih, e3]
    _ = (a + b) % p := (Nat.add_mod _ _ _).symm
    _ = A % p := e2.symm
theorem same_of_sums {p L R S : Nat} (hL : L < p) (hR : R < p) (h : (L + S) % p = (R + S) % p) : L = R := by
  refine nat_eq_of_dvd hL hR ?_
  have h2 : (((L + S : Nat) : Int)) % (p : Int) = ((R + S : Nat) : Int) % (p : Int) := by exact_mod_cast congrArg (Nat.cast (R := Int)) h
  have h3 := Int.dvd_of_emod_eq_zero (Int.emod_eq_emod_iff_emod_sub_eq_zero.1 h2)
  rwa [show ((L + S : Nat) : Int) - ((R + S : Nat) : Int) = (L : Int) - R by omega] at h3
/-- Whole of a moved mask, coefficient by coefficient -/
theorem whole_moved_get {p : Nat} (h0 : 0 < p) (m : List (List Nat)) (z q : List Nat) (M : List (List Nat)) (N : Nat) (hM : ∀ j, j < N → M.getD j [] = psub p (m.getD j []) (pscale p z (q.getD j 0))) : ∀ k i, k ≤ N → ((wholeK p M k).getD i 0 + mulAt (tabM k fun j => q.getD j 0) (at_ z) i) % p = (wholeK p m k).getD i 0 % p
  | 0, i, _ => by simp [wholeK, tabM, mulAt]
  | k + 1, i, hN => by
    have ih := whole_moved_get h0 m z q M N hM k i (by omega)
    have hk := hM k (by omega)
    rw [show tabM (k + 1) (fun j => q.getD j 0) = tabM k (fun j => q.getD j 0) ++ [q.getD k 0] by simp [tabM, List.range_succ], mulAt_snoc, show (tabM k fun j => q.getD j 0).length = k by simp [tabM]]
    refine add_four (padd_get p (wholeK p M k) (zer k (M.getD k [])) i) (padd_get p (wholeK p m k) (zer k (m.getD k [])) i) ih ?_
    rw [zer_get, zer_get]
    by_cases h : i < k
    · rw [if_pos h, if_pos h, if_neg (by omega)]
    · rw [if_neg h, if_neg h, if_pos (by omega), hk]
      have g2 := pscale_get p z (q.getD k 0) (i - k)
      have g3 : (pscale p z (q.getD k 0)).getD (i - k) 0 < p := within_getD h0 (poly_within h0 _ _) _
      rw [Nat.mod_eq_of_lt g3] at g2
      exact sub_back (psub_get p (m.getD k []) (pscale p z (q.getD k 0)) (i - k)) g3 (by rw [g2]; exact congrArg (· % p) (Nat.mul_comm _ _))
theorem poly_ext {p n m : Nat} {c d : Nat → Nat} (h : ∀ i, (poly p n c).getD i 0 = (poly p m d).getD i 0) : poly p n c = poly p m d := poly_eq fun i => by have := h i; rwa [poly_get, poly_get] at this
/-- Whole of a moved mask is Whole minus z q -/
theorem whole_moved {p N : Nat} (h0 : 0 < p) (m : List (List Nat)) (z q : List Nat) (M : List (List Nat)) (hq : q.length ≤ N + 1) (hM : ∀ j, j < N + 1 → M.getD j [] = psub p (m.getD j []) (pscale p z (q.getD j 0))) : wholeK p M (N + 1) = psub p (wholeK p m (N + 1)) (pmul p z q) := by
  have hg : ∀ i, (wholeK p M (N + 1)).getD i 0 = (psub p (wholeK p m (N + 1)) (pmul p z q)).getD i 0 := fun i => by
    refine same_of_sums (p := p) (S := mulAt (tabM (N + 1) fun j => q.getD j 0) (at_ z) i) (within_getD h0 (wholeK_within h0 _ _) _) (within_getD h0 (poly_within h0 _ _) _) ?_
    rw [whole_moved_get h0 m z q M (N + 1) hM (N + 1) i (Nat.le_refl _)]
    have hp : (pmul p z q).getD i 0 < p := within_getD h0 (poly_within h0 _ _) _
    refine (sub_back (psub_get p (wholeK p m (N + 1)) (pmul p z q) i) hp ?_).symm
    have h1 := pmul_get p z q i
    rw [Nat.mod_eq_of_lt hp] at h1
    rw [h1, mulAt_comm]
    refine mulAt_mod _ _ _ _ (fun j => ?_) (fun _ => rfl) i
    rw [tabM_get]
    by_cases h : j < N + 1
    · rw [if_pos h]
    · rw [if_neg h, getD_ge (by omega)]
  exact poly_ext hg
/-- where z is 0, a moved polynomial has its old value -/
theorem moved_value {p : Nat} (h0 : 0 < p) {f z : List Nat} {c x : Nat} (hz : pev p z x = 0) : pev p (psub p f (pscale p z c)) x = pev p f x := by
  rw [pev_sub f (pscale p z c) x h0 (poly_within h0 _ _), pev_scale, hz]
  have h1 : pev p f x < p := Nat.mod_lt _ h0
  simp [Nat.mod_eq_of_lt h1]
/-- the sum of the product and Whole stays what it was -/
theorem masked_same {p : Nat} (h0 : 0 < p) {was now w v zq : List Nat} (hv : v = psub p w zq) (hzq : within p zq = true) (hd : ∀ i, (was.getD i 0 + zq.getD i 0) % p = now.getD i 0 % p) : padd p now v = padd p was w := by
  refine poly_ext fun i => ?_
  show (padd p now v).getD i 0 = (padd p was w).getD i 0
  have hL : (padd p now v).getD i 0 < p := within_getD h0 (poly_within h0 _ _) _
  have hR : (padd p was w).getD i 0 < p := within_getD h0 (poly_within h0 _ _) _
  refine same_of_sums (p := p) (S := zq.getD i 0) hL hR ?_
  have hs : zq.getD i 0 < p := within_getD h0 hzq _
  have e1 := padd_get p now v i
  have e2 := padd_get p was w i
  have e3 : (v.getD i 0 + zq.getD i 0) % p = w.getD i 0 % p := by
    rw [hv]
    exact sub_back (psub_get p w zq i) hs (Nat.mod_eq_of_lt hs).symm
  calc ((padd p now v).getD i 0 + zq.getD i 0) % p = ((padd p now v).getD i 0 % p + zq.getD i 0) % p := (Nat.mod_add_mod _ _ _).symm
    _ = (now.getD i 0 + v.getD i 0 + zq.getD i 0) % p := by rw [e1, Nat.mod_add_mod]
    _ = (now.getD i 0 % p + (v.getD i 0 + zq.getD i 0) % p) % p := by rw [Nat.add_assoc, Nat.add_mod]
    _ = ((was.getD i 0 + zq.getD i 0) % p + w.getD i 0 % p) % p := by rw [hd i, e3]
    _ = (was.getD i 0 + zq.getD i 0 + w.getD i 0) % p := (Nat.add_mod _ _ _).symm
    _ = (was.getD i 0 + w.getD i 0 + zq.getD i 0) % p := by rw [Nat.add_right_comm]
    _ = ((padd p was w).getD i 0 % p + zq.getD i 0) % p := by rw [e2, Nat.mod_add_mod]
    _ = ((padd p was w).getD i 0 + zq.getD i 0) % p := Nat.mod_add_mod _ _ _
theorem conv_add {p : Nat} (f g h : List Nat) (i : Nat) : mulAt (padd p f g) (at_ h) i % p = (mulAt f (at_ h) i + mulAt g (at_ h) i) % p := by
  rw [← addL_mulAt]
  exact mulAt_mod _ _ _ _ (fun j => by rw [padd_get, addL_get]) (fun _ => rfl) i
theorem conv_scale {p : Nat} (f h : List Nat) (k i : Nat) : mulAt (pscale p f k) (at_ h) i % p = k * mulAt f (at_ h) i % p := by
  rw [← smul_mulAt]
  refine mulAt_mod _ _ _ _ (fun j => ?_) (fun _ => rfl) i
  rw [pscale_get]
  by_cases hj : j < f.length
  · simp [List.getD_eq_getElem?_getD, hj, Nat.mul_comm]
  · rw [getD_ge (by omega), getD_ge (by simp; omega)]; simp
/-- the quotient of the change of a product, when both factors are shifted by multiples of z -/
def shiftQ (p : Nat) (X Y z : List Nat) (A B : Nat) : List Nat := padd p (padd p (pscale p Y A) (pscale p X B)) (pscale p z (A * B))
theorem shiftQ_conv {p : Nat} (X Y z : List Nat) (A B i : Nat) : (mulAt X (at_ Y) i + mulAt (shiftQ p X Y z A B) (at_ z) i) % p = mulAt (padd p X (pscale p z A)) (at_ (padd p Y (pscale p z B))) i % p := by
  have h1 : mulAt X (at_ (padd p Y (pscale p z B))) i % p = (mulAt Y (at_ X) i + B * mulAt z (at_ X) i) % p := by
    rw [mulAt_comm X, conv_add, Nat.add_mod, conv_scale, ← Nat.add_mod]
  have h0 : mulAt z (at_ (padd p Y (pscale p z B))) i % p = (mulAt Y (at_ z) i + B * mulAt z (at_ z) i) % p := by
    rw [mulAt_comm z, conv_add, Nat.add_mod, conv_scale, ← Nat.add_mod]
  have h2 : mulAt (pscale p z A) (at_ (padd p Y (pscale p z B))) i % p = A * (mulAt Y (at_ z) i + B * mulAt z (at_ z) i) % p := by
    rw [conv_scale, Nat.mul_mod, h0, ← Nat.mul_mod]
  have h3 : mulAt (padd p X (pscale p z A)) (at_ (padd p Y (pscale p z B))) i % p = (mulAt Y (at_ X) i + B * mulAt z (at_ X) i + A * (mulAt Y (at_ z) i + B * mulAt z (at_ z) i)) % p := by
    rw [conv_add, Nat.add_mod, h1, h2, ← Nat.add_mod]
  have h7 : mulAt (padd p (pscale p Y A) (pscale p X B)) (at_ z) i % p = (A * mulAt Y (at_ z) i + B * mulAt X (at_ z) i) % p := by
    rw [conv_add, Nat.add_mod, conv_scale, conv_scale, ← Nat.add_mod]
  have h8 : mulAt (shiftQ p X Y z A B) (at_ z) i % p = (A * mulAt Y (at_ z) i + B * mulAt X (at_ z) i + A * B * mulAt z (at_ z) i) % p := by
    unfold shiftQ
    rw [conv_add, Nat.add_mod, h7, conv_scale, ← Nat.add_mod]
  clear h0 h1 h2 h7
  rw [mulAt_comm X z] at h8
  rw [mulAt_comm X Y]
  generalize mulAt (shiftQ p X Y z A B) (at_ z) i = Q at h8 ⊢
  generalize mulAt (padd p X (pscale p z A)) (at_ (padd p Y (pscale p z B))) i = R at h3 ⊢
  generalize mulAt Y (at_ X) i = a at h3 ⊢
  generalize mulAt z (at_ X) i = b at h3 h8
  generalize mulAt Y (at_ z) i = c at h3 h8
  generalize mulAt z (at_ z) i = d at h3 h8
  rw [h3, Nat.add_mod, h8, ← Nat.add_mod]
  have e : a + (A * c + B * b + A * B * d) = a + B * b + A * (c + B * d) := by
    rw [Nat.mul_add, Nat.mul_assoc]; omega
  rw [e]
theorem shift_sum {p : Nat} (X Y z : List Nat) (A B i : Nat) : ((pmul p X Y).getD i 0 + mulAt (shiftQ p X Y z A B) (at_ z) i) % p = (pmul p (padd p X (pscale p z A)) (padd p Y (pscale p z B))).getD i 0 % p := by
  rw [pmul_get, ← shiftQ_conv, Nat.add_mod, pmul_get, ← Nat.add_mod]
/-- z divides the change of the product, and the quotient is known -/
theorem shift_isDiv {p : Nat} (h0 : 0 < p) (X Y z : List Nat) (A B : Nat) (hz : 0 < z.length) :
    IsDiv p (trim (psub p (pmul p (padd p X (pscale p z A)) (padd p Y (pscale p z B))) (pmul p X Y))) z (shiftQ p X Y z A B) [] := by
  refine ⟨poly_within h0 _ _, poly_trim _ _ _, rfl, rfl, by simpa using hz, fun i => ?_⟩
  rw [trim_get]
  have hs := shift_sum (p := p) X Y z A B i
  have hw : (pmul p X Y).getD i 0 < p := within_getD h0 (poly_within h0 _ _) _
  have hd : (psub p (pmul p (padd p X (pscale p z A)) (padd p Y (pscale p z B))) (pmul p X Y)).getD i 0 < p := within_getD h0 (poly_within h0 _ _) _
  have hb := sub_back (psub_get p (pmul p (padd p X (pscale p z A)) (padd p Y (pscale p z B))) (pmul p X Y) i) hw (Nat.mod_eq_of_lt hw).symm
  have he := same_of_sums (p := p) (R := mulAt (shiftQ p X Y z A B) (at_ z) i % p) hd (Nat.mod_lt _ h0) (S := (pmul p X Y).getD i 0) (by rw [hb, ← hs, Nat.mod_add_mod, Nat.add_comm])
  rw [he]
  simp
/-- how long the quotient is -/
theorem shiftQ_len {p T : Nat} {X Y z : List Nat} (A B : Nat) (hX : X.length ≤ T) (hY : Y.length ≤ T) (hz : z.length ≤ T) : (shiftQ p X Y z A B).length ≤ T := by
  have l1 := poly_len p Y.length fun i => Y.getD i 0 * A
  have l2 := poly_len p X.length fun i => X.getD i 0 * B
  have l3 := poly_len p z.length fun i => z.getD i 0 * (A * B)
  have l4 := poly_len p (max (pscale p Y A).length (pscale p X B).length) fun i => (pscale p Y A).getD i 0 + (pscale p X B).getD i 0
  have l5 := poly_len p (max (padd p (pscale p Y A) (pscale p X B)).length (pscale p z (A * B)).length) fun i => (padd p (pscale p Y A) (pscale p X B)).getD i 0 + (pscale p z (A * B)).getD i 0
  have d1 : (pscale p Y A).length ≤ Y.length := l1
  have d2 : (pscale p X B).length ≤ X.length := l2
  have d3 : (pscale p z (A * B)).length ≤ z.length := l3
  have d4 : (padd p (pscale p Y A) (pscale p X B)).length ≤ max (pscale p Y A).length (pscale p X B).length := l4
  have d5 : (shiftQ p X Y z A B).length ≤ max (padd p (pscale p Y A) (pscale p X B)).length (pscale p z (A * B)).length := l5
  omega
end Go.Proofs.Ytfkepkdfpjaniaa.M
namespace Go.Proofs.Ytfkepkdfpjaniaa.M
set_option linter.unusedVariables false

/-- the last k polynomials: f + x (g + x (..)) -/
def hor (p : Nat) (m : List (List Nat)) (n : Nat) : Nat → List Nat
  | 0 => []
  | k + 1 => padd p (m.getD (n - 1 - k) []) (0 :: hor p m n k)
/-- the coefficients of the sum of the first k, the j-th j places up -/
def sumZr (g : Nat → List Nat) : Nat → Nat → Nat
  | 0, _ => 0
  | k + 1, i => sumZr g k i + (zer k (g k)).getD i 0
theorem zer_succ_get (k : Nat) (f : List Nat) (i : Nat) : (zer (k + 1) f).getD i 0 = if i = 0 then 0 else (zer k f).getD (i - 1) 0 := by
  have e : zer (k + 1) f = 0 :: zer k f := by simp [zer, List.replicate_succ]
  rw [e]
  cases i with
  | zero => rfl
  | succ i => rw [if_neg (by omega)]; rfl
theorem sumZr_front (g : Nat → List Nat) : ∀ (k i : Nat), sumZr g (k + 1) i = (g 0).getD i 0 + if i = 0 then 0 else sumZr (fun j => g (j + 1)) k (i - 1)
  | 0, i => by
    show 0 + (zer 0 (g 0)).getD i 0 = _
    simp [zer, sumZr]
  | k + 1, i => by
    show sumZr g (k + 1) i + (zer (k + 1) (g (k + 1))).getD i 0 = _
    rw [sumZr_front g k i, zer_succ_get]
    by_cases h : i = 0
    · simp [h]
    · rw [if_neg h, if_neg h, if_neg h]
      show _ = _ + (sumZr (fun j => g (j + 1)) k (i - 1) + (zer k (g (k + 1))).getD (i - 1) 0)
      omega
theorem sumZr_congr {g g' : Nat → List Nat} : ∀ (k : Nat) (i : Nat), (∀ j, j < k → g j = g' j) → sumZr g k i = sumZr g' k i
  | 0, i, _ => rfl
  | k + 1, i, h => by
    show sumZr g k i + (zer k (g k)).getD i 0 = sumZr g' k i + (zer k (g' k)).getD i 0
    rw [sumZr_congr k i (fun j hj => h j (by omega)), h k (by omega)]
theorem wholeK_get {p : Nat} (m : List (List Nat)) : ∀ (k i : Nat), (wholeK p m k).getD i 0 % p = sumZr (fun j => m.getD j []) k i % p
  | 0, i => by simp [wholeK, sumZr]
  | k + 1, i => by
    show (padd p (wholeK p m k) (zer k (m.getD k []))).getD i 0 % p = _
    rw [padd_get, Nat.add_mod, wholeK_get m k i, ← Nat.add_mod]
    rfl
theorem hor_get {p : Nat} (m : List (List Nat)) (n : Nat) : ∀ (k i : Nat), k ≤ n → (hor p m n k).getD i 0 % p = sumZr (fun j => m.getD (n - k + j) []) k i % p
  | 0, i, _ => by simp [hor, sumZr]
  | k + 1, i, hk => by
    show (padd p (m.getD (n - 1 - k) []) (0 :: hor p m n k)).getD i 0 % p = _
    rw [padd_get, sumZr_front]
    simp only [Nat.add_zero]
    rw [show n - 1 - k = n - (k + 1) by omega]
    cases i with
    | zero => simp
    | succ i =>
      rw [if_neg (by omega), show (0 :: hor p m n k).getD (i + 1) 0 = (hor p m n k).getD i 0 from rfl, Nat.add_sub_cancel, Nat.add_mod, hor_get m n k i (by omega), ← Nat.add_mod]
      rw [sumZr_congr k i (g' := fun j => m.getD (n - (k + 1) + (j + 1)) []) (fun j hj => by rw [show n - k + j = n - (k + 1) + (j + 1) by omega])]
theorem hor_within {p : Nat} (hp : 0 < p) (m : List (List Nat)) (n : Nat) : ∀ k, within p (hor p m n k) = true
  | 0 => rfl
  | k + 1 => poly_within hp _ _
theorem hor_len {p : Nat} {m : List (List Nat)} {n : Nat} (h : ∀ i, (m.getD i []).length ≤ n) : ∀ k, (hor p m n k).length ≤ n + k
  | 0 => by simp [hor]
  | k + 1 => by
    have ih := hor_len (p := p) h k
    have hk := h (n - 1 - k)
    refine Nat.le_trans (poly_len _ _ _) ?_
    simp only [List.length_cons]
    omega
theorem hor_whole {p : Nat} (hp : 0 < p) (m : List (List Nat)) : ∀ n, hor p m n n = wholeK p m n
  | 0 => rfl
  | n + 1 => by
    have h : ∀ i, (hor p m (n + 1) (n + 1)).getD i 0 = (wholeK p m (n + 1)).getD i 0 := fun i => by
      have h1 := hor_get (p := p) m (n + 1) (n + 1) i (Nat.le_refl _)
      have h2 := wholeK_get (p := p) m (n + 1) i
      rw [Nat.mod_eq_of_lt (within_getD hp (hor_within hp m _ _) i)] at h1
      rw [Nat.mod_eq_of_lt (within_getD hp (wholeK_within hp m _) i)] at h2
      rw [h1, h2]
      simp only [Nat.sub_self, Nat.zero_add]
    exact poly_ext h
end Go.Proofs.Ytfkepkdfpjaniaa.M
