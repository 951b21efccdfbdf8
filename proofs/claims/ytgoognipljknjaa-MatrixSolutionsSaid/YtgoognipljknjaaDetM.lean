/-
  Congruence; sums; Laplace's determinant over the integers; what alternates in the rows.
-/
namespace Go.Proofs.Ytgoognipljknjaa.M
set_option linter.unusedVariables false

/-! ### Congruence -/
def Eqm (p a b : Int) : Prop := ∃ k, a = b + p * k
theorem Eqm.refl (p a : Int) : Eqm p a a := ⟨0, by grind⟩
theorem Eqm.of_eq {p a b : Int} (h : a = b) : Eqm p a b := h ▸ Eqm.refl p a
theorem Eqm.symm {p a b : Int} (h : Eqm p a b) : Eqm p b a := by obtain ⟨k, h⟩ := h; exact ⟨-k, by grind⟩
theorem Eqm.trans {p a b c : Int} (h : Eqm p a b) (h2 : Eqm p b c) : Eqm p a c := by obtain ⟨k, h⟩ := h; obtain ⟨l, h2⟩ := h2; exact ⟨k + l, by grind⟩
theorem Eqm.add {p a b c d : Int} (h : Eqm p a b) (h2 : Eqm p c d) : Eqm p (a + c) (b + d) := by obtain ⟨k, h⟩ := h; obtain ⟨l, h2⟩ := h2; exact ⟨k + l, by grind⟩
theorem Eqm.mul {p a b c d : Int} (h : Eqm p a b) (h2 : Eqm p c d) : Eqm p (a * c) (b * d) := by obtain ⟨k, h⟩ := h; obtain ⟨l, h2⟩ := h2; exact ⟨k * d + b * l + p * k * l, by grind⟩
theorem Eqm.neg {p a b : Int} (h : Eqm p a b) : Eqm p (-a) (-b) := by obtain ⟨k, h⟩ := h; exact ⟨-k, by grind⟩
theorem Eqm.sub {p a b c d : Int} (h : Eqm p a b) (h2 : Eqm p c d) : Eqm p (a - c) (b - d) := by obtain ⟨k, h⟩ := h; obtain ⟨l, h2⟩ := h2; exact ⟨k - l, by grind⟩
theorem Eqm.mulL {p a b : Int} (c : Int) (h : Eqm p a b) : Eqm p (c * a) (c * b) := (Eqm.refl p c).mul h
theorem eqm_mod (p a : Int) : Eqm p (a % p) a := ⟨-(a / p), by have := Int.emod_add_mul_ediv a p; grind⟩
theorem eqm_nat {p a b : Nat} : Eqm p a b ↔ a % p = b % p := by
  constructor
  · rintro ⟨k, h⟩
    have : ((a : Int) % p) = (b : Int) % p := by rw [h]; simp
    exact_mod_cast this
  · intro h
    have h1 := eqm_mod p a
    have h2 := eqm_mod p b
    have h3 : ((a : Int) % p) = (b : Int) % p := by exact_mod_cast h
    rw [h3] at h1
    exact h1.symm.trans h2
theorem eqm_natmod (p a : Nat) : Eqm p ((a % p : Nat) : Int) (a : Nat) := by have := eqm_mod p a; exact_mod_cast this
theorem eqm_lt {p a b : Nat} (h : Eqm p a b) (ha : a < p) (hb : b < p) : a = b := by
  have := eqm_nat.1 h
  rwa [Nat.mod_eq_of_lt ha, Nat.mod_eq_of_lt hb] at this
theorem eqm_self (p : Int) : Eqm p p 0 := ⟨1, by grind⟩

/-! ### Sums -/
def sumI (f : Nat → Int) : Nat → Int
  | 0 => 0
  | n + 1 => sumI f n + f n
theorem sumI_congr {f g : Nat → Int} : ∀ n, (∀ i, i < n → f i = g i) → sumI f n = sumI g n
  | 0, _ => rfl
  | n + 1, h => by rw [sumI, sumI, sumI_congr n (fun i hi => h i (by omega)), h n (by omega)]
theorem sumI_eqm {p : Int} {f g : Nat → Int} : ∀ n, (∀ i, i < n → Eqm p (f i) (g i)) → Eqm p (sumI f n) (sumI g n)
  | 0, _ => Eqm.refl p 0
  | n + 1, h => (sumI_eqm n (fun i hi => h i (by omega))).add (h n (by omega))
theorem sumI_add (f g : Nat → Int) : ∀ n, sumI (fun i => f i + g i) n = sumI f n + sumI g n
  | 0 => rfl
  | n + 1 => by rw [sumI, sumI, sumI, sumI_add f g n]; grind
theorem sumI_mul (c : Int) (f : Nat → Int) : ∀ n, sumI (fun i => c * f i) n = c * sumI f n
  | 0 => by simp [sumI]
  | n + 1 => by rw [sumI, sumI, sumI_mul c f n]; grind
theorem sumI_zero {f : Nat → Int} : ∀ n, (∀ i, i < n → f i = 0) → sumI f n = 0
  | 0, _ => rfl
  | n + 1, h => by rw [sumI, sumI_zero n (fun i hi => h i (by omega)), h n (by omega)]; rfl
theorem sumI_one {f : Nat → Int} {a : Nat} : ∀ n, a < n → (∀ i, i < n → i ≠ a → f i = 0) → sumI f n = f a
  | 0, h, _ => absurd h (by omega)
  | n + 1, h, h0 => by
    rw [sumI]
    by_cases e : a = n
    · subst e; rw [sumI_zero a (fun i hi => h0 i (by omega) (by omega))]; grind
    · rw [sumI_one n (by omega) (fun i hi => h0 i (by omega)), h0 n (by omega) (by omega)]; grind
theorem sumI_two {f : Nat → Int} {a b : Nat} (hab : a < b) : ∀ n, b < n → (∀ i, i < n → i ≠ a → i ≠ b → f i = 0) → sumI f n = f a + f b
  | 0, h, _ => absurd h (by omega)
  | n + 1, h, h0 => by
    rw [sumI]
    by_cases e : b = n
    · subst e; rw [sumI_one b hab (fun i hi hia => h0 i (by omega) hia (by omega))]
    · rw [sumI_two hab n (by omega) (fun i hi => h0 i (by omega)), h0 n (by omega) (by omega) (by omega)]; grind
theorem sumI_swap (f : Nat → Nat → Int) (m : Nat) : ∀ n, sumI (fun i => sumI (fun j => f i j) m) n = sumI (fun j => sumI (fun i => f i j) n) m
  | 0 => by simp [sumI]; exact (sumI_zero m (fun i _ => rfl)).symm
  | n + 1 => by
    rw [sumI, sumI_swap f m n, ← sumI_add]
    rfl

/-! ### Rows replaced -/
abbrev MI := Nat → Nat → Int
def upd (m : MI) (r : Nat) (u : Nat → Int) : MI := fun i => if i = r then u else m i
theorem upd_same (m : MI) (r : Nat) (u : Nat → Int) : upd m r u r = u := by simp [upd]
theorem upd_other (m : MI) {r i : Nat} (u : Nat → Int) (h : i ≠ r) : upd m r u i = m i := by simp [upd, h]
theorem upd_self (m : MI) (r : Nat) : upd m r (m r) = m := by
  funext i
  by_cases h : i = r
  · subst h; simp [upd]
  · simp [upd, h]
theorem upd_comm (m : MI) {r s : Nat} (h : r ≠ s) (u v : Nat → Int) : upd (upd m r u) s v = upd (upd m s v) r u := by
  funext i
  unfold upd
  by_cases h1 : i = s
  · subst h1; simp [Ne.symm h]
  · simp [h1]
theorem upd_upd (m : MI) (r : Nat) (u v : Nat → Int) : upd (upd m r u) r v = upd m r v := by
  funext i
  unfold upd
  by_cases h1 : i = r <;> simp [h1]
theorem upd_both (m : MI) {r s : Nat} (h : r ≠ s) : upd (upd m r (m r)) s (m s) = m := by
  rw [upd_self, upd_self]

/-! ### Laplace -/
def sgn (i : Nat) : Int := if i % 2 = 0 then 1 else -1
theorem sgn_succ (i : Nat) : sgn (i + 1) = - sgn i := by
  unfold sgn
  by_cases h : i % 2 = 0
  · rw [if_pos h, if_neg (by omega)]
  · rw [if_neg h, if_pos (by omega)]; rfl
def skp (i a : Nat) : Nat := if a < i then a else a + 1
def minor (i : Nat) (m : MI) : MI := fun a b => m (skp i a) (b + 1)
def lap : Nat → MI → Int
  | 0, _ => 1
  | n + 1, m => sumI (fun i => sgn i * (m i 0 * lap n (minor i m))) (n + 1)

theorem lap_congr {p : Int} : ∀ (n : Nat) (m m' : MI), (∀ i, i < n → ∀ j, j < n → Eqm p (m i j) (m' i j)) → Eqm p (lap n m) (lap n m')
  | 0, _, _, _ => Eqm.refl _ _
  | n + 1, m, m', h => by
    refine sumI_eqm _ fun i hi => Eqm.mulL _ ((h i hi 0 (by omega)).mul (lap_congr n _ _ fun a ha b hb => ?_))
    exact h _ (by unfold skp; split <;> omega) _ (by omega)

theorem minor_own (m : MI) (r : Nat) (u : Nat → Int) : minor r (upd m r u) = minor r m := by
  funext a b
  unfold minor
  rw [upd_other _ _ (by unfold skp; split <;> omega)]
def uns (i r : Nat) : Nat := if r < i then r else r - 1
theorem minor_upd (m : MI) {i r : Nat} (h : i ≠ r) (u : Nat → Int) : minor i (upd m r u) = upd (minor i m) (uns i r) (fun b => u (b + 1)) := by
  funext a b
  unfold minor
  by_cases e : a = uns i r
  · have e2 : skp i a = r := by
      by_cases h1 : r < i
      · have : a = r := by rw [e]; unfold uns; rw [if_pos h1]
        subst this; unfold skp; rw [if_pos h1]
      · have : a = r - 1 := by rw [e]; unfold uns; rw [if_neg h1]
        subst this; unfold skp; rw [if_neg (by omega)]; omega
    rw [e2, upd_same, e, upd_same]
  · have e2 : skp i a ≠ r := by intro e3; apply e; unfold uns; unfold skp at e3; split at e3 <;> split <;> omega
    rw [upd_other _ _ e2, upd_other _ _ e]

theorem lap_lin : ∀ (n : Nat) (m : MI) (r : Nat) (u v : Nat → Int) (a b : Int), r < n → lap n (upd m r (fun j => a * u j + b * v j)) = a * lap n (upd m r u) + b * lap n (upd m r v)
  | 0, _, _, _, _, _, _, h => absurd h (by omega)
  | n + 1, m, r, u, v, a, b, hr => by
    rw [lap, lap, lap, ← sumI_mul, ← sumI_mul, ← sumI_add]
    apply sumI_congr
    intro i hi
    by_cases e : i = r
    · subst e
      rw [minor_own, minor_own, minor_own, upd_same, upd_same, upd_same]
      grind
    · rw [minor_upd m e, minor_upd m e, minor_upd m e, upd_other _ _ e, upd_other _ _ e, upd_other _ _ e]
      have := lap_lin n (minor i m) (uns i r) (fun b => u (b + 1)) (fun b => v (b + 1)) a b (by unfold uns; split <;> omega)
      rw [this]
      grind

theorem lap_adj : ∀ (n : Nat) (m : MI) (r : Nat), r + 1 < n → m r = m (r + 1) → lap n m = 0
  | 0, _, _, h, _ => absurd h (by omega)
  | n + 1, m, r, hr, e => by
    rw [lap, sumI_two (a := r) (b := r + 1) (by omega) (n + 1) hr]
    · have e2 : minor r m = minor (r + 1) m := by
        funext a b
        unfold minor skp
        by_cases h1 : a < r
        · rw [if_pos h1, if_pos (by omega)]
        · by_cases h2 : a = r
          · subst h2; rw [if_neg (by omega), if_pos (by omega), e]
          · rw [if_neg h1, if_neg (by omega)]
      rw [e2, sgn_succ, e]
      grind
    · intro i hi h1 h2
      have : lap n (minor i m) = 0 := by
        by_cases h3 : i < r
        · refine lap_adj n _ (r - 1) (by omega) ?_
          funext b
          unfold minor skp
          rw [if_neg (by omega), if_neg (by omega), show r - 1 + 1 = r by omega, e]
        · refine lap_adj n _ r (by omega) ?_
          funext b
          unfold minor skp
          rw [if_pos (by omega), if_pos (by omega), e]
      rw [this]
      grind

/-- linear in a row, as a sum -/
theorem lap_sum (n : Nat) (m : MI) (r : Nat) (u v : Nat → Int) (hr : r < n) : lap n (upd m r (fun j => u j + v j)) = lap n (upd m r u) + lap n (upd m r v) := by
  have := lap_lin n m r u v 1 1 hr
  simpa using this
theorem lap_swap_adj (n : Nat) (m : MI) (r : Nat) (u v : Nat → Int) (hr : r + 1 < n) : lap n (upd (upd m r u) (r + 1) v) + lap n (upd (upd m r v) (r + 1) u) = 0 := by
  have hz : ∀ x : Nat → Int, lap n (upd (upd m r x) (r + 1) x) = 0 := fun x => lap_adj n _ r hr (by rw [upd_same, upd_other _ _ (by omega), upd_same])
  have h0 := hz (fun j => u j + v j)
  rw [lap_sum n _ (r + 1) u v hr] at h0
  have e1 : ∀ x, lap n (upd (upd m r (fun j => u j + v j)) (r + 1) x) = lap n (upd (upd m r u) (r + 1) x) + lap n (upd (upd m r v) (r + 1) x) := fun x => by
    rw [upd_comm m (by omega), lap_sum n _ r u v (by omega), upd_comm m (r := r + 1) (s := r) (by omega), upd_comm m (r := r + 1) (s := r) (by omega)]
  rw [e1, e1, hz u, hz v] at h0
  grind

theorem lap_alt (n : Nat) : ∀ (d : Nat) (m : MI) (r s : Nat), s = r + d + 1 → s < n → m r = m s → lap n m = 0
  | 0, m, r, s, hs, hn, e => lap_adj n m r (by omega) (by rw [e, hs])
  | d + 1, m, r, s, hs, hn, e => by
    obtain ⟨t, ht⟩ : ∃ t, s = t + 1 := ⟨s - 1, by omega⟩
    subst ht
    have h := lap_swap_adj n m t (m t) (m (t + 1)) hn
    rw [upd_both m (by omega)] at h
    have h2 := lap_alt n d (upd (upd m t (m (t + 1))) (t + 1) (m t)) r t (by omega) (by omega) (by
      rw [upd_other _ _ (by omega), upd_other _ _ (by omega), upd_other _ _ (by omega), upd_same, e])
    rw [h2] at h
    grind

/-! ### What alternates -/
structure Alt (p : Int) (n : Nat) (F : MI → Int) : Prop where
  congr : ∀ m m' : MI, (∀ i, i < n → ∀ j, j < n → Eqm p (m i j) (m' i j)) → Eqm p (F m) (F m')
  lin : ∀ (m : MI) (r : Nat) (u v : Nat → Int) (a b : Int), r < n → Eqm p (F (upd m r (fun j => a * u j + b * v j))) (a * F (upd m r u) + b * F (upd m r v))
  alt : ∀ (m : MI) (r s : Nat), r < s → s < n → m r = m s → Eqm p (F m) 0

theorem lap_is (p : Int) (n : Nat) : Alt p n (lap n) :=
  ⟨fun m m' h => lap_congr n m m' h, fun m r u v a b h => Eqm.of_eq (lap_lin n m r u v a b h), fun m r s hrs hs e => Eqm.of_eq (lap_alt n (s - r - 1) m r s (by omega) hs e)⟩

namespace Alt
variable {p : Int} {n : Nat} {F : MI → Int}
theorem same (h : Alt p n F) (m : MI) {r s : Nat} (hr : r < n) (hs : s < n) (hrs : r ≠ s) (e : m r = m s) : Eqm p (F m) 0 := by
  rcases Nat.lt_or_ge r s with h1 | h1
  · exact h.alt m r s h1 hs e
  · exact h.alt m s r (by omega) hr e.symm
theorem scale (h : Alt p n F) (m : MI) {r : Nat} (hr : r < n) (c : Int) (u : Nat → Int) : Eqm p (F (upd m r (fun j => c * u j))) (c * F (upd m r u)) := by
  have := h.lin m r u u c 0 hr
  simpa using this
theorem sum (h : Alt p n F) (m : MI) {r : Nat} (hr : r < n) (u v : Nat → Int) : Eqm p (F (upd m r (fun j => u j + v j))) (F (upd m r u) + F (upd m r v)) := by
  have := h.lin m r u v 1 1 hr
  simpa using this
theorem swap (h : Alt p n F) (m : MI) {r s : Nat} (hr : r < n) (hs : s < n) (hrs : r ≠ s) (u v : Nat → Int) : Eqm p (F (upd (upd m r u) s v)) (-F (upd (upd m r v) s u)) := by
  have hz : ∀ x : Nat → Int, Eqm p (F (upd (upd m r x) s x)) 0 := fun x => h.same _ hr hs hrs (by rw [upd_same, upd_other _ _ hrs, upd_same])
  have h0 := hz (fun j => u j + v j)
  have h1 := h.sum (upd m r (fun j => u j + v j)) hs u v
  have e1 : ∀ x, Eqm p (F (upd (upd m r (fun j => u j + v j)) s x)) (F (upd (upd m r u) s x) + F (upd (upd m r v) s x)) := fun x => by
    rw [upd_comm m hrs, upd_comm m hrs, upd_comm m hrs]
    exact h.sum _ hr u v
  obtain ⟨k0, h0⟩ := h0
  obtain ⟨k1, h1⟩ := h1
  obtain ⟨k2, h2⟩ := e1 u
  obtain ⟨k3, h3⟩ := e1 v
  obtain ⟨k4, h4⟩ := hz u
  obtain ⟨k5, h5⟩ := hz v
  exact ⟨k0 - k1 - k2 - k3 - k4 - k5, by grind⟩
theorem addrow (h : Alt p n F) (m : MI) {r s : Nat} (hr : r < n) (hs : s < n) (hrs : r ≠ s) (c : Int) : Eqm p (F (upd m r (fun j => m r j + c * m s j))) (F m) := by
  have h1 := h.lin m r (m r) (m s) 1 c hr
  have h2 := h.same (upd m r (m s)) hr hs hrs (by rw [upd_same, upd_other _ _ (Ne.symm hrs)])
  rw [upd_self] at h1
  obtain ⟨k1, h1⟩ := h1
  obtain ⟨k2, h2⟩ := h2
  refine ⟨k1 + c * k2, ?_⟩
  have e : (fun j => 1 * m r j + c * m s j) = fun j => m r j + c * m s j := by funext j; grind
  rw [e] at h1
  rw [h1, h2]
  grind
theorem zero (h : Alt p n F) (m : MI) {r : Nat} (hr : r < n) (hz : ∀ j, j < n → Eqm p (m r j) 0) : Eqm p (F m) 0 := by
  have h1 := h.scale m hr 0 (m r)
  rw [upd_self] at h1
  have h2 := h.congr m (upd m r (fun j => 0 * m r j)) (fun i hi j hj => by
    by_cases e : i = r
    · subst e; rw [upd_same]; have := hz j hj; simpa using this
    · rw [upd_other _ _ e]; exact Eqm.refl _ _)
  have h3 := h2.trans h1
  simpa using h3
/-- c times the row top is added to each of the other rows, another c for each of them -/
theorem addall (h : Alt p n F) (m : MI) {top : Nat} (ht : top < n) (c : Nat → Int) : ∀ k, k ≤ n → Eqm p (F (fun i => if i < k ∧ i ≠ top then (fun j => m i j + c i * m top j) else m i)) (F m)
  | 0, _ => by
    have : (fun i => if i < 0 ∧ i ≠ top then (fun j => m i j + c i * m top j) else m i) = m := by funext i; rw [if_neg (by omega)]
    rw [this]; exact Eqm.refl _ _
  | k + 1, hk => by
    have ih := addall h m ht c k (by omega)
    by_cases e : k = top
    · subst e
      have : (fun i => if i < k + 1 ∧ i ≠ k then (fun j => m i j + c i * m k j) else m i) = (fun i => if i < k ∧ i ≠ k then (fun j => m i j + c i * m k j) else m i) := by
        funext i
        by_cases h1 : i < k
        · rw [if_pos ⟨by omega, by omega⟩, if_pos ⟨h1, by omega⟩]
        · rw [if_neg (by omega), if_neg (by omega)]
      rw [this]; exact ih
    · have h2 := h.addrow (fun i => if i < k ∧ i ≠ top then (fun j => m i j + c i * m top j) else m i) (r := k) (s := top) (by omega) ht e (c k)
      have : upd (fun i => if i < k ∧ i ≠ top then (fun j => m i j + c i * m top j) else m i) k (fun j => (if k < k ∧ k ≠ top then (fun j => m k j + c k * m top j) else m k) j + c k * (if top < k ∧ top ≠ top then (fun j => m top j + c top * m top j) else m top) j) = (fun i => if i < k + 1 ∧ i ≠ top then (fun j => m i j + c i * m top j) else m i) := by
        funext i
        by_cases h1 : i = k
        · subst h1
          have a1 : ¬ (i < i ∧ i ≠ top) := by omega
          have a2 : ¬ (top < i ∧ top ≠ top) := by simp
          rw [upd_same, if_neg a1, if_neg a2, if_pos ⟨by omega, e⟩]
        · rw [upd_other _ _ h1]
          by_cases h3 : i < k ∧ i ≠ top
          · rw [if_pos h3, if_pos ⟨by omega, h3.2⟩]
          · rw [if_neg h3, if_neg (by omega)]
      rw [← this]
      exact h2.trans ih
end Alt
end Go.Proofs.Ytgoognipljknjaa.M
