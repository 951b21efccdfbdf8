/-
  Newton's interpolation: the mathematics of the function Through. No program.
-/
import Derived.Test.YtgoognipljknjaaPolyD
namespace Go.Proofs.Ytgoognipljknjaa.M
set_option linter.unusedVariables false

/-- the product of the differences of x and the first k of xs, without the one at place i -/
def distK (p x : Nat) (xs : List Nat) (i : Nat) : Nat → Nat
  | 0 => 1
  | k + 1 => if k = i then distK p x xs i k else distK p x xs i k * (x + p - xs.getD k 0) % p
theorem distK_lt {p x : Nat} (hp : 1 < p) (xs : List Nat) (i : Nat) : ∀ k, distK p x xs i k < p
  | 0 => hp
  | k + 1 => by
    unfold distK; split
    · exact distK_lt hp xs i k
    · exact Nat.mod_lt _ (by omega)
theorem sub_zero_iff {p x y : Nat} (hx : x < p) (hy : y < p) : (x + p - y) % p = 0 ↔ x = y := by
  constructor
  · intro h
    by_cases hxy : y ≤ x
    · rw [show x + p - y = (x - y) + p by omega, Nat.add_mod_right, Nat.mod_eq_of_lt (by omega)] at h; omega
    · rw [Nat.mod_eq_of_lt (by omega)] at h; omega
  · rintro rfl; rw [Nat.add_sub_cancel_left, Nat.mod_self]
/-- such a product is 0 just where a factor is -/
theorem distK_zero {p : Nat} (hi : isP p = true) {x : Nat} (hx : x < p) {xs : List Nat} (hw : within p xs = true) (i : Nat) : ∀ k, k ≤ xs.length → (distK p x xs i k = 0 ↔ ∃ j, j < k ∧ j ≠ i ∧ xs.getD j 0 = x)
  | 0, _ => by simp [distK]
  | k + 1, hk => by
    have ih := distK_zero hi hx hw i k (by omega)
    have hp := pos_of hi
    have hl := distK_lt (x := x) (show 1 < p by omega) xs i k
    unfold distK
    by_cases h : k = i
    · rw [if_pos h, ih]
      constructor
      · rintro ⟨j, h1, h2, h3⟩; exact ⟨j, by omega, h2, h3⟩
      · rintro ⟨j, h1, h2, h3⟩; exact ⟨j, by omega, h2, h3⟩
    · rw [if_neg h]
      have hy := within_mem hw (show k < xs.length by omega)
      constructor
      · intro h0
        rcases prime_mul hi h0 with h1 | h1
        · rw [Nat.mod_eq_of_lt hl] at h1
          obtain ⟨j, g1, g2, g3⟩ := ih.1 h1
          exact ⟨j, by omega, g2, g3⟩
        · exact ⟨k, by omega, h, ((sub_zero_iff hx hy).1 h1).symm⟩
      · rintro ⟨j, g1, g2, g3⟩
        by_cases hj : j = k
        · subst hj
          rw [Nat.mul_mod, (sub_zero_iff hx hy).2 g3.symm]; simp
        · rw [ih.2 ⟨j, by omega, g2, g3⟩]; simp

def pplus (p : Nat) (f : List Nat) (k : Nat) (g : List Nat) : List Nat := poly p (max f.length g.length) fun i => f.getD i 0 + k * g.getD i 0
theorem pplus_get (p : Nat) (f : List Nat) (k : Nat) (g : List Nat) (i : Nat) : (pplus p f k g).getD i 0 % p = (f.getD i 0 + k * g.getD i 0) % p :=
  poly_mod_get (fun i hi => by rw [getD_ge (l := f) (by omega), getD_ge (l := g) (by omega)]; simp) i
theorem pev_plus (p : Nat) (f : List Nat) (k : Nat) (g : List Nat) (x : Nat) : pev p (pplus p f k g) x = (pev p f x + k * pev p g x) % p := by
  unfold pev
  rw [evN_mod x (pplus p f k g) (addL f (g.map (k * ·))) (fun i => by rw [pplus_get, addL_get, smul_get]), addL_ev, smul_ev, Nat.add_mod (evN x f % p), Nat.mod_mod, Nat.mul_mod k (evN x g % p), Nat.mod_mod, ← Nat.mul_mod, ← Nat.add_mod]
theorem pplus_nil (p : Nat) (k : Nat) (g : List Nat) : pplus p [] k g = pscale p g k := by
  unfold pplus pscale
  apply poly_eq
  intro i
  simp only [List.length_nil, Nat.zero_max, List.getD_nil, Nat.zero_add]
  rw [Nat.mul_comm]

def tabM (n : Nat) (F : Nat → Nat) : List Nat := (List.range n).map F
theorem tabM_get {n : Nat} (F : Nat → Nat) (i : Nat) : (tabM n F).getD i 0 = if i < n then F i else 0 := by
  unfold tabM
  by_cases h : i < n
  · simp [List.getD_eq_getElem?_getD, h]
  · simp [List.getD_eq_getElem?_getD, h]
/-- what the function product hands back -/
def prodL (p : Nat) (f g : List Nat) : List Nat := if f.length = 0 ∨ g.length = 0 then [] else tabM (f.length + g.length - 1) fun i => mulAt f (at_ g) i % p
theorem prodL_get (p : Nat) (f g : List Nat) (i : Nat) : (prodL p f g).getD i 0 % p = mulAt f (at_ g) i % p := by
  unfold prodL
  by_cases h : f.length = 0 ∨ g.length = 0
  · rw [if_pos h]
    rcases h with h | h
    · obtain rfl := List.eq_nil_of_length_eq_zero h; simp [mulAt]
    · rw [mulAt_congr (g := at_ g) (h := fun _ => 0) (fun j => getD_ge (l := g) (by omega))]
      have : ∀ (l : List Nat) (k : Nat), mulAt l (fun _ => 0) k = 0 := fun l => by
        induction l with
        | nil => intro k; rfl
        | cons a t ih => intro k; cases k <;> simp [mulAt, ih]
      rw [this]; simp
  · rw [if_neg h, tabM_get]
    by_cases hi : i < f.length + g.length - 1
    · rw [if_pos hi, Nat.mod_mod]
    · rw [if_neg hi, mulAt_zero (at_ g) g.length (fun j hj => getD_ge hj) _ _ (by omega)]
theorem prodL_within {p : Nat} (hp : 0 < p) (f g : List Nat) : within p (prodL p f g) = true := by
  unfold prodL
  split
  · rfl
  · apply within_of
    intro i _
    rw [tabM_get]; split
    · exact Nat.mod_lt _ hp
    · exact hp
theorem prodL_len {p : Nat} {f g : List Nat} (hf : 0 < f.length) (hg : 0 < g.length) : (prodL p f g).length = f.length + g.length - 1 := by
  unfold prodL; rw [if_neg (by omega)]; simp [tabM]
theorem pev_prod (p : Nat) (f g : List Nat) (x : Nat) : pev p (prodL p f g) x = pev p f x * pev p g x % p := by
  unfold pev
  rw [evN_mod x (prodL p f g) (mulL f g) (fun i => by rw [prodL_get, mulL_get]), mulL_ev, ← Nat.mul_mod]
/-- the product of polynomials, trimmed -/
theorem prodL_trim (p : Nat) (f g : List Nat) : trim (prodL p f g) = pmul p f g := by
  unfold pmul poly
  apply trim_congr
  intro i
  rw [row_get]
  unfold prodL
  by_cases h : f.length = 0 ∨ g.length = 0
  · rw [if_pos h]
    have e : mulAt f (at_ g) i % p = 0 := by
      have := prodL_get p f g i
      unfold prodL at this
      rw [if_pos h] at this
      rw [← this]; simp
    rw [e]; simp
  · rw [if_neg h, tabM_get]
    by_cases hi : i < f.length + g.length - 1
    · rw [if_pos hi, if_pos (by omega)]
    · rw [if_neg hi]
      split
      · rw [mulAt_zero (at_ g) g.length (fun j hj => getD_ge hj) _ _ (by omega)]; simp
      · rfl
/-- the product of two polynomials that are not zero ends in no zero -/
theorem prodL_self {p : Nat} (hi : isP p = true) {f g : List Nat} (hf : Lead p f) (hg : Lead p g) : trim (prodL p f g) = prodL p f g := by
  have hl := prodL_len (p := p) hf.2.1 hg.2.1
  apply trim_of_last
  right
  rw [hl]
  have hf1 := hf.2.1
  have hg1 := hg.2.1
  intro h0
  have h1 := prodL_get p f g (f.length + g.length - 1 - 1)
  rw [h0, Nat.zero_mod] at h1
  have hsp : f = f.take (f.length - 1) ++ [f.getD (f.length - 1) 0] := by
    have := List.take_succ_eq_append_getElem (l := f) (i := f.length - 1) (by omega)
    rw [show f.length - 1 + 1 = f.length by omega, List.take_length] at this
    rw [getD_lt (by omega)]; exact this
  have hz : mulAt (f.take (f.length - 1)) (at_ g) (f.length + g.length - 1 - 1) = 0 := mulAt_zero (at_ g) g.length (fun j hj => getD_ge hj) _ _ (by rw [List.length_take]; omega)
  rw [hsp, mulAt_snoc, ← hsp] at h1
  have hlen : (f.take (f.length - 1)).length = f.length - 1 := by rw [List.length_take]; omega
  rw [hlen, hz, if_pos (by omega), Nat.zero_add, show f.length + g.length - 1 - 1 - (f.length - 1) = g.length - 1 by omega] at h1
  have a1 := within_mem hf.1 (k := f.length - 1) (by omega)
  have a2 := within_mem hg.1 (k := g.length - 1) (by omega)
  rcases prime_mul hi h1.symm with h2 | h2
  · rw [Nat.mod_eq_of_lt a1] at h2; exact hf.2.2 h2
  · have : at_ g (g.length - 1) = g.getD (g.length - 1) 0 := rfl
    rw [this, Nat.mod_eq_of_lt a2] at h2; exact hg.2.2 h2
theorem pev_linear {p : Nat} (r t : Nat) (hr : r ≤ p) : pev p [(p - r) % p, 1] t = (t + p - r) % p := by
  unfold pev
  simp only [evN, Nat.mul_zero, Nat.add_zero, Nat.mul_one]
  rw [Nat.mod_add_mod, show p - r + t = t + p - r by omega]

/-! ### One step of Newton -/
/-- z is zero at the first k of xs and nowhere else -/
def Node (p : Nat) (xs : List Nat) (k : Nat) (z : List Nat) : Prop := within p z = true ∧ z.length = k + 1 ∧ ∀ t, t < p → pev p z t = distK p t xs xs.length k
theorem Node.start {p : Nat} (hp : 1 < p) (xs : List Nat) : Node p xs 0 [1] :=
  ⟨within_of (fun i hi => by simp at hi; subst hi; simpa using hp), rfl, fun t ht => by simp [pev, evN, distK, Nat.mod_eq_of_lt hp]⟩
theorem Node.step {p : Nat} (hp : 1 < p) {xs : List Nat} (hw : within p xs = true) {k : Nat} (hk : k < xs.length) {z : List Nat} (h : Node p xs k z) : Node p xs (k + 1) (prodL p z [(p - xs.getD k 0) % p, 1]) := by
  obtain ⟨h1, h2, h3⟩ := h
  have hx := within_mem hw hk
  refine ⟨prodL_within (by omega) _ _, by rw [prodL_len (by omega) (by simp), h2]; simp, fun t ht => ?_⟩
  rw [pev_prod, h3 t ht, pev_linear _ _ (by omega)]
  show _ = if k = xs.length then _ else _
  rw [if_neg (by omega), Nat.mul_mod, Nat.mod_mod, ← Nat.mul_mod]
/-- what the loop of Through holds after k rounds -/
def Newt (p : Nat) (xs ys : List Nat) (k : Nat) (f : List Nat) : Prop := within p f = true ∧ trim f = f ∧ f.length ≤ k ∧ ∀ i, i < k → pev p f (xs.getD i 0) = ys.getD i 0
theorem Newt.start (p : Nat) (xs ys : List Nat) : Newt p xs ys 0 [] := ⟨rfl, rfl, Nat.le_refl _, fun i hi => by omega⟩
theorem Newt.done {p : Nat} {xs ys f : List Nat} (h : Newt p xs ys xs.length f) : Thru p xs ys f := h
theorem Newt.step {p : Nat} (hi : isP p = true) {xs ys : List Nat} (hw : within p xs = true) (hy : within p ys = true) (hl : ys.length = xs.length) {k : Nat} (hk : k < xs.length) {f z : List Nat} (h : Newt p xs ys k f) (hz : Node p xs k z)
    (h0 : pev p z (xs.getD k 0) ≠ 0) : Newt p xs ys (k + 1) (pplus p f ((ys.getD k 0 + p - pev p f (xs.getD k 0)) % p * pw p (pev p z (xs.getD k 0)) (p - 2) % p) z) := by
  obtain ⟨a1, a2, a3, a4⟩ := h
  obtain ⟨b1, b2, b3⟩ := hz
  have hp : 0 < p := by have := pos_of hi; omega
  have hx := within_mem hw hk
  have hyk := within_mem hy (show k < ys.length by omega)
  refine ⟨poly_within hp _ _, poly_trim _ _ _, ?_, fun i hi' => ?_⟩
  · have := poly_len p (max f.length z.length) (fun i => f.getD i 0 + ((ys.getD k 0 + p - pev p f (xs.getD k 0)) % p * pw p (pev p z (xs.getD k 0)) (p - 2) % p) * z.getD i 0)
    unfold pplus; omega
  · rw [pev_plus]
    by_cases he : i = k
    · subst he
      have hfl := pev_lt f (xs.getD i 0) hp
      have hzl := pev_lt z (xs.getD i 0) hp
      have hinv : pw p (pev p z (xs.getD i 0)) (p - 2) * pev p z (xs.getD i 0) % p = 1 := by
        unfold pw; rw [Nat.mod_mul_mod]; exact inv_mul hi (by rw [Nat.mod_eq_of_lt hzl]; exact h0)
      generalize pev p z (xs.getD i 0) = a at *
      generalize pev p f (xs.getD i 0) = b at *
      generalize pw p a (p - 2) = q at *
      generalize ys.getD i 0 = y at *
      rw [Nat.add_mod, Nat.mod_mul_mod, Nat.mul_assoc, Nat.mul_mod, hinv, Nat.mul_one, Nat.mod_mod, Nat.mod_mod, ← Nat.add_mod, show b + (y + p - b) = y + p by omega, Nat.add_mod_right, Nat.mod_eq_of_lt hyk]
    · have hxi := within_mem hw (show i < xs.length by omega)
      have hz0 : pev p z (xs.getD i 0) = 0 := by
        rw [b3 _ hxi, distK_zero hi hxi hw _ _ (by omega)]
        exact ⟨i, by omega, by omega, rfl⟩
      rw [hz0, Nat.mul_zero, Nat.add_zero, Nat.mod_eq_of_lt (pev_lt f _ hp), a4 i (by omega)]
theorem getD_inj_of_nodup {l : List Nat} (h : l.Nodup) {i j : Nat} (hi : i < l.length) (hj : j < l.length) (e : l.getD i 0 = l.getD j 0) : i = j := by
  rw [getD_lt hi, getD_lt hj] at e
  unfold List.Nodup at h
  rw [List.pairwise_iff_getElem] at h
  rcases Nat.lt_trichotomy i j with h1 | h1 | h1
  · exact absurd e (h i j hi hj h1)
  · exact h1
  · exact absurd e.symm (h j i hj hi h1)
theorem node_zero {p : Nat} (hi : isP p = true) {xs : List Nat} (hw : within p xs = true) {k : Nat} (hk : k < xs.length) {z : List Nat} (hz : Node p xs k z) (h0 : pev p z (xs.getD k 0) = 0) : ¬ xs.Nodup := by
  have hx := within_mem hw hk
  rw [hz.2.2 _ hx, distK_zero hi hx hw _ _ (by omega)] at h0
  obtain ⟨j, h1, _, h3⟩ := h0
  intro hn
  have := getD_inj_of_nodup hn (by omega) hk h3
  omega
/-- the first k of xs differ from each other -/
def Diff (xs : List Nat) (k : Nat) : Prop := ∀ i j, i < j → j < k → xs.getD i 0 ≠ xs.getD j 0
theorem Diff.step {p : Nat} (hi : isP p = true) {xs : List Nat} (hw : within p xs = true) {k : Nat} (hk : k < xs.length) {z : List Nat} (hz : Node p xs k z) (h0 : pev p z (xs.getD k 0) ≠ 0) (h : Diff xs k) : Diff xs (k + 1) := by
  have hx := within_mem hw hk
  intro i j hij hj
  by_cases he : j = k
  · subst he
    intro e
    apply h0
    rw [hz.2.2 _ hx, distK_zero hi hx hw _ _ (by omega)]
    exact ⟨i, hij, by omega, e⟩
  · exact h i j hij (by omega)
theorem Diff.nodup {xs : List Nat} (h : Diff xs xs.length) : xs.Nodup := by
  unfold List.Nodup
  rw [List.pairwise_iff_getElem]
  intro i j hi hj hij
  have := h i j hij hj
  rwa [getD_lt hi, getD_lt hj] at this
theorem Diff.of_nodup {xs : List Nat} (h : xs.Nodup) : Diff xs xs.length := fun i j hij hj e => by
  have := getD_inj_of_nodup h (by omega) hj e
  omega
end Go.Proofs.Ytgoognipljknjaa.M
