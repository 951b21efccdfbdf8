/-
  DetM, ElimM (joined).
-/
import Derived.Test.YtfkepkdfpjaniaaMA
namespace Go.Proofs.Ytfkepkdfpjaniaa.M
set_option linter.unusedVariables false

/-! ### Congruence -/
def Eqm (p a b : Int) : Prop := ∃ k, a = b + p * k
theorem Eqm.refl (p a : Int) : Eqm p a a := ⟨0, by grind⟩
theorem Eqm.of_eq {p a b : Int} (h : a = b) : Eqm p a b := h ▸ Eqm.refl p a
theorem Eqm.symm {p a b : Int} (h : Eqm p a b) : Eqm p b a := by obtain ⟨k, h⟩ := h; exact ⟨-k, by grind⟩
theorem Eqm.trans {p a b c : Int} (h : Eqm p a b) (h2 : Eqm p b c) : Eqm p a c := by obtain ⟨k, h⟩ := h; obtain ⟨l, h2⟩ := h2; exact ⟨k + l, by grind⟩
theorem Eqm.add {p a b c d : Int} (h : Eqm p a b) (h2 : Eqm p c d) : Eqm p (a + c) (b + d) := by obtain ⟨k, h⟩ := h; obtain ⟨l, h2⟩ := h2; exact ⟨k + l, by grind⟩
theorem Eqm.mul {p a b c d : Int} (h : Eqm p a b) (h2 : Eqm p c d) : Eqm p (a * c) (b * d) := by obtain ⟨k, h⟩ := h; obtain ⟨l, h2⟩ := h2; exact ⟨k * d + b * l + p * k * l, by grind⟩
theorem Eqm.neg {p a b : Int} (h : Eqm p a b) : Eqm p (-a) (-b) := by obtain ⟨k, h⟩ := h; exact ⟨-k, by grind⟩
theorem Eqm.sub {p a b c d : Int} (h : Eqm p a b) (h2 : Eqm p c d) : Eqm p (a - c) (b - d) := by obtain ⟨k, h⟩ := h; obtain ⟨l, h2⟩ := h2; exact ⟨k - l, by grind⟩
theorem Eqm.mulL {p a b : Int} (c : Int) (h : Eqm p a b) : Eqm p (c * a) (c * b) := (Eqm.refl p c).mul h
theorem eqm_mod (p a : Int) : Eqm p (a % p) a := ⟨-(a / p), by have := Int.emod_add_mul_ediv a p; grind⟩
theorem eqm_nat {p a b : Nat} : Eqm p a b ↔ a % p = b % p := by
  constructor
  · rintro ⟨k, h⟩
    have : ((a : Int) % p) = (b : Int) % p := by rw [h]; simp
    exact_mod_cast this
  · intro h
    have h1 := eqm_mod p a
    have h2 := eqm_mod p b
    have h3 : ((a : Int) % p) = (b : Int) % p := by exact_mod_cast h
    rw [h3] at h1
    exact h1.symm.trans h2
theorem eqm_natmod (p a : Nat) : Eqm p ((a % p : Nat) : Int) (a : Nat) := by have := eqm_mod p a; exact_mod_cast this
theorem eqm_lt {p a b : Nat} (h : Eqm p a b) (ha : a < p) (hb : b < p) : a = b := by
  have := eqm_nat.1 h
  rwa [Nat.mod_eq_of_lt ha, Nat.mod_eq_of_lt hb] at this
theorem eqm_self (p : Int) : Eqm p p 0 := ⟨1, by grind⟩

/-! ### Sums -/
def sumI (f : Nat → Int) : Nat → Int
  | 0 => 0
  | n + 1 => sumI f n + f n
theorem sumI_congr {f g : Nat → Int} : ∀ n, (∀ i, i < n → f i = g i) → sumI f n = sumI g n
  | 0, _ => rfl
  | n + 1, h => by rw [sumI, sumI, sumI_congr n (fun i hi => h i (by omega)), h n (by omega)]
theorem sumI_eqm {p : Int} {f g : Nat → Int} : ∀ n, (∀ i, i < n → Eqm p (f i) (g i)) → Eqm p (sumI f n) (sumI g n)
  | 0, _ => Eqm.refl p 0
  | n + 1, h => (sumI_eqm n (fun i hi => h i (by omega))).add (h n (by omega))
theorem sumI_add (f g : Nat → Int) : ∀ n, sumI (fun i => f i + g i) n = sumI f n + sumI g n
  | 0 => rfl
  | n + 1 => by rw [sumI, sumI, sumI, sumI_add f g n]; grind
theorem sumI_mul (c : Int) (f : Nat → Int) : ∀ n, sumI (fun i => c * f i) n = c * sumI f n
  | 0 => by simp [sumI]
  | n + 1 => by rw [sumI, sumI, sumI_mul c f n]; grind
theorem sumI_zero {f : Nat → Int} : ∀ n, (∀ i, i < n → f i = 0) → sumI f n = 0
  | 0, _ => rfl
  | n + 1, h => by rw [sumI, sumI_zero n (fun i hi => h i (by omega)), h n (by omega)]; rfl
theorem sumI_one {f : Nat → Int} {a : Nat} : ∀ n, a < n → (∀ i, i < n → i ≠ a → f i = 0) → sumI f n = f a
  | 0, h, _ => absurd h (by omega)
  | n + 1, h, h0 => by
    rw [sumI]
    by_cases e : a = n
    · subst e; rw [sumI_zero a (fun i hi => h0 i (by omega) (by omega))]; grind
    · rw [sumI_one n (by omega) (fun i hi => h0 i (by omega)), h0 n (by omega) (by omega)]; grind
theorem sumI_two {f : Nat → Int} {a b : Nat} (hab : a < b) : ∀ n, b < n → (∀ i, i < n → i ≠ a → i ≠ b → f i = 0) → sumI f n = f a + f b
  | 0, h, _ => absurd h (by omega)
  | n + 1, h, h0 => by
    rw [sumI]
    by_cases e : b = n
    · subst e; rw [sumI_one b hab (fun i hi hia => h0 i (by omega) hia (by omega))]
    · rw [sumI_two hab n (by omega) (fun i hi => h0 i (by omega)), h0 n (by omega) (by omega) (by omega)]; grind
theorem sumI_swap (f : Nat → Nat → Int) (m : Nat) : ∀ n, sumI (fun i => sumI (fun j => f i j) m) n = sumI (fun j => sumI (fun i => f i j) n) m
  | 0 => by simp [sumI]; exact (sumI_zero m (fun i _ => rfl)).symm
  | n + 1 => by
    rw [sumI, sumI_swap f m n, ← sumI_add]
    rfl

/-! ### Rows replaced -/
abbrev MI := Nat → Nat → Int
def upd (m : MI) (r : Nat) (u : Nat → Int) : MI := fun i => if i = r then u else m i
theorem upd_same (m : MI) (r : Nat) (u : Nat → Int) : upd m r u r = u := by simp [upd]
theorem upd_other (m : MI) {r i : Nat} (u : Nat → Int) (h : i ≠ r) : upd m r u i = m i := by simp [upd, h]
theorem upd_self (m : MI) (r : Nat) : upd m r (m r) = m := by
  funext i
  by_cases h : i = r
  · subst h; simp [upd]
  · simp [upd, h]
theorem upd_comm (m : MI) {r s : Nat} (h : r ≠ s) (u v : Nat → Int) : upd (upd m r u) s v = upd (upd m s v) r u := by
  funext i
  unfold upd
  by_cases h1 : i = s
  · subst h1; simp [Ne.symm h]
  · simp [h1]
theorem upd_upd (m : MI) (r : Nat) (u v : Nat → Int) : upd (upd m r u) r v = upd m r v := by
  funext i
  unfold upd
  by_cases h1 : i = r <;> simp [h1]
theorem upd_both (m : MI) {r s : Nat} (h : r ≠ s) : upd (upd m r (m r)) s (m s) = m := by
  rw [upd_self, upd_self]

/-! ### Laplace -/
def sgn (i : Nat) : Int := if i % 2 = 0 then 1 else -1
theorem sgn_succ (i : Nat) : sgn (i + 1) = - sgn i := by
  unfold sgn
  by_cases h : i % 2 = 0
  · rw [if_pos h, if_neg (by omega)]
  · rw [if_neg h, if_pos (by omega)]; rfl
def skp (i a : Nat) : Nat := if a < i then a else a + 1
def minor (i : Nat) (m : MI) : MI := fun a b => m (skp i a) (b + 1)
def lap : Nat → MI → Int
  | 0, _ => 1
  | n + 1, m => sumI (fun i => sgn i * (m i 0 * lap n (minor i m))) (n + 1)

theorem lap_congr {p : Int} : ∀ (n : Nat) (m m' : MI), (∀ i, i < n → ∀ j, j < n → Eqm p (m i j) (m' i j)) → Eqm p (lap n m) (lap n m')
  | 0, _, _, _ => Eqm.refl _ _
  | n + 1, m, m', h => by
    refine sumI_eqm _ fun i hi => Eqm.mulL _ ((h i hi 0 (by omega)).mul (lap_congr n _ _ fun a ha b hb => ?_))
    exact h _ (by unfold skp; split <;> omega) _ (by omega)

theorem minor_own (m : MI) (r : Nat) (u : Nat → Int) : minor r (upd m r u) = minor r m := by
  funext a b
  unfold minor
  rw [upd_other _ _ (by unfold skp; split <;> omega)]
def uns (i r : Nat) : Nat := if r < i then r else r - 1
theorem minor_upd (m : MI) {i r : Nat} (h : i ≠ r) (u : Nat → Int) : minor i (upd m r u) = upd (minor i m) (uns i r) (fun b => u (b + 1)) := by
  funext a b
  unfold minor
  by_cases e : a = uns i r
  · have e2 : skp i a = r := by
      by_cases h1 : r < i
      · have : a = r := by rw [e]; unfold uns; rw [if_pos h1]
        subst this; unfold skp; rw [if_pos h1]
      · have : a = r - 1 := by rw [e]; unfold uns; rw [if_neg h1]
        subst this; unfold skp; rw [if_neg (by omega)]; omega
    rw [e2, upd_same, e, upd_same]
  · have e2 : skp i a ≠ r := by intro e3; apply e; unfold uns; unfold skp at e3; split at e3 <;> split <;> omega
    rw [upd_other _ _ e2, upd_other _ _ e]

theorem lap_lin : ∀ (n : Nat) (m : MI) (r : Nat) (u v : Nat → Int) (a b : Int), r < n → lap n (upd m r (fun j => a * u j + b * v j)) = a * lap n (upd m r u) + b * lap n (upd m r v)
  | 0, _, _, _, _, _, _, h => absurd h (by omega)
  | n + 1, m, r, u, v, a, b, hr => by
    rw [lap, lap, lap, ← sumI_mul, ← sumI_mul, ← sumI_add]
    apply sumI_congr
    intro i hi
    by_cases e : i = r
    · subst e
      rw [minor_own, minor_own, minor_own, upd_same, upd_same, upd_same]
      grind
    · rw [minor_upd m e, minor_upd m e, minor_upd m e, upd_other _ _ e, upd_other _ _ e, upd_other _ _ e]
      have := lap_lin n (minor i m) (uns i r) (fun b => u (b + 1)) (fun b => v (b + 1)) a b (by unfold uns; split <;> omega)
      rw [this]
      grind

theorem lap_adj : ∀ (n : Nat) (m : MI) (r : Nat), r + 1 < n → m r = m (r + 1) → lap n m = 0
  | 0, _, _, h, _ => absurd h (by omega)
  | n + 1, m, r, hr, e => by
    rw [lap, sumI_two (a := r) (b := r + 1) (by omega) (n + 1) hr]
    · have e2 : minor r m = minor (r + 1) m := by
        funext a b
        unfold minor skp
        by_cases h1 : a < r
        · rw [if_pos h1, if_pos (by omega)]
        · by_cases h2 : a = r
          · subst h2; rw [if_neg (by omega), if_pos (by omega), e]
          · rw [if_neg h1, if_neg (by omega)]
      rw [e2, sgn_succ, e]
      grind
    · intro i hi h1 h2
      have : lap n (minor i m) = 0 := by
        by_cases h3 : i < r
        · refine lap_adj n _ (r - 1) (by omega) ?_
          funext b
          unfold minor skp
          rw [if_neg (by omega), if_neg (by omega), show r - 1 + 1 = r by omega, e]
        · refine lap_adj n _ r (by omega) ?_
          funext b
          unfold minor skp
          rw [if_pos (by omega), if_pos (by omega), e]
      rw [this]
      grind

/-- linear in a row, as a sum -/
theorem lap_sum (n : Nat) (m : MI) (r : Nat) (u v : Nat → Int) (hr : r < n) : lap n (upd m r (fun j => u j + v j)) = lap n (upd m r u) + lap n (upd m r v) := by
  have := lap_lin n m r u v 1 1 hr
  simpa using this
theorem lap_swap_adj (n : Nat) (m : MI) (r : Nat) (u v : Nat → Int) (hr : r + 1 < n) : lap n (upd (upd m r u) (r + 1) v) + lap n (upd (upd m r v) (r + 1) u) = 0 := by
  have hz : ∀ x : Nat → Int, lap n (upd (upd m r x) (r + 1) x) = 0 := fun x => lap_adj n _ r hr (by rw [upd_same, upd_other _ _ (by omega), upd_same])
  have h0 := hz (fun j => u j + v j)
  rw [lap_sum n _ (r + 1) u v hr] at h0
  have e1 : ∀ x, lap n (upd (upd m r (fun j => u j + v j)) (r + 1) x) = lap n (upd (upd m r u) (r + 1) x) + lap n (upd (upd m r v) (r + 1) x) := fun x => by
    rw [upd_comm m (by omega), lap_sum n _ r u v (by omega), upd_comm m (r := r + 1) (s := r) (by omega), upd_comm m (r := r + 1) (s := r) (by omega)]
  rw [e1, e1, hz u, hz v] at h0
  grind

theorem lap_alt (n : Nat) : ∀ (d : Nat) (m : MI) (r s : Nat), s = r + d + 1 → s < n → m r = m s → lap n m = 0
  | 0, m, r, s, hs, hn, e => lap_adj n m r (by omega) (by rw [e, hs])
  | d + 1, m, r, s, hs, hn, e => by
    obtain ⟨t, ht⟩ : ∃ t, s = t + 1 := ⟨s - 1, by omega⟩
    subst ht
    have h := lap_swap_adj n m t (m t) (m (t + 1)) hn
    rw [upd_both m (by omega)] at h
    have h2 := lap_alt n d (upd (upd m t (m (t + 1))) (t + 1) (m t)) r t (by omega) (by omega) (by
      rw [upd_other _ _ (by omega), upd_other _ _ (by omega), upd_other _ _ (by omega), upd_same, e])
    rw [h2] at h
    grind

/-! ### What alternates -/
structure Alt (p : Int) (n : Nat) (F : MI → Int) : Prop where
  congr : ∀ m m' : MI, (∀ i, i < n → ∀ j, j < n → Eqm p (m i j) (m' i j)) → Eqm p (F m) (F m')
  lin : ∀ (m : MI) (r : Nat) (u v : Nat → Int) (a b : Int), r < n → Eqm p (F (upd m r (fun j => a * u j + b * v j))) (a * F (upd m r u) + b * F (upd m r v))
  alt : ∀ (m : MI) (r s : Nat), r < s → s < n → m r = m s → Eqm p (F m) 0

theorem lap_is (p : Int) (n : Nat) : Alt p n (lap n) :=
  ⟨fun m m' h => lap_congr n m m' h, fun m r u v a b h => Eqm.of_eq (lap_lin n m r u v a b h), fun m r s hrs hs e => Eqm.of_eq (lap_alt n (s - r - 1) m r s (by omega) hs e)⟩

namespace Alt
variable {p : Int} {n : Nat} {F : MI → Int}
theorem same (h : Alt p n F) (m : MI) {r s : Nat} (hr : r < n) (hs : s < n) (hrs : r ≠ s) (e : m r = m s) : Eqm p (F m) 0 := by
  rcases Nat.lt_or_ge r s with h1 | h1
  · exact h.alt m r s h1 hs e
  · exact h.alt m s r (by omega) hr e.symm
theorem scale (h : Alt p n F) (m : MI) {r : Nat} (hr : r < n) (c : Int) (u : Nat → Int) : Eqm p (F (upd m r (fun j => c * u j))) (c * F (upd m r u)) := by
  have := h.lin m r u u c 0 hr
  simpa using this
theorem sum (h : Alt p n F) (m : MI) {r : Nat} (hr : r < n) (u v : Nat → Int) : Eqm p (F (upd m r (fun j => u j + v j))) (F (upd m r u) + F (upd m r v)) := by
  have := h.lin m r u v 1 1 hr
  simpa using this
theorem swap (h : Alt p n F) (m : MI) {r s : Nat} (hr : r < n) (hs : s < n) (hrs : r ≠ s) (u v : Nat → Int) : Eqm p (F (upd (upd m r u) s v)) (-F (upd (upd m r v) s u)) := by
  have hz : ∀ x : Nat → Int, Eqm p (F (upd (upd m r x) s x)) 0 := fun x => h.same _ hr hs hrs (by rw [upd_same, upd_other _ _ hrs, upd_same])
  have h0 := hz (fun j => u j + v j)
  have h1 := h.sum (upd m r (fun j => u j + v j)) hs u v
  have e1 : ∀ x, Eqm p (F (upd (upd m r (fun j => u j + v j)) s x)) (F (upd (upd m r u) s x) + F (upd (upd m r v) s x)) := fun x => by
    rw [upd_comm m hrs, upd_comm m hrs, upd_comm m hrs]
    exact h.sum _ hr u v
  obtain ⟨k0, h0⟩ := h0
  obtain ⟨k1, h1⟩ := h1
  obtain ⟨k2, h2⟩ := e1 u
  obtain ⟨k3, h3⟩ := e1 v
  obtain ⟨k4, h4⟩ := hz u
  obtain ⟨k5, h5⟩ := hz v
  exact ⟨k0 - k1 - k2 - k3 - k4 - k5, by grind⟩
theorem addrow (h : Alt p n F) (m : MI) {r s : Nat} (hr : r < n) (hs : s < n) (hrs : r ≠ s) (c : Int) : Eqm p (F (upd m r (fun j => m r j + c * m s j))) (F m) := by
  have h1 := h.lin m r (m r) (m s) 1 c hr
  have h2 := h.same (upd m r (m s)) hr hs hrs (by rw [upd_same, upd_other _ _ (Ne.symm hrs)])
  rw [upd_self] at h1
  obtain ⟨k1, h1⟩ := h1
  obtain ⟨k2, h2⟩ := h2
  refine ⟨k1 + c * k2, ?_⟩
  have e : (fun j => 1 * m r j + c * m s j) = fun j => m r j + c * m s j := by funext j; grind
  rw [e] at h1
  rw [h1, h2]
  grind
theorem zero (h : Alt p n F) (m : MI) {r : Nat} (hr : r < n) (hz : ∀ j, j < n → Eqm p (m r j) 0) : Eqm p (F m) 0 := by
  have h1 := h.scale m hr 0 (m r)
  rw [upd_self] at h1
  have h2 := h.congr m (upd m r (fun j => 0 * m r j)) (fun i hi j hj => by
    by_cases e : i = r
    · subst e; rw [upd_same]; have := hz j hj; simpa using this
    · rw [upd_other _ _ e]; exact Eqm.refl _ _)
  have h3 := h2.trans h1
  simpa using h3
/-- c times the row top is added to each of the other rows, another c for each of them -/
theorem addall (h : Alt p n F) (m : MI) {top : Nat} (ht : top < n) (c : Nat → Int) : ∀ k, k ≤ n → Eqm p (F (fun i => if i < k ∧ i ≠ top then (fun j => m i j + c i * m top j) else m i)) (F m)
  | 0, _ => by
    have : (fun i => if i < 0 ∧ i ≠ top then (fun j => m i j + c i * m top j) else m i) = m := by funext i; rw [if_neg (by omega)]
    rw [this]; exact Eqm.refl _ _
  | k + 1, hk => by
    have ih := addall h m ht c k (by omega)
    by_cases e : k = top
    · subst e
      have : (fun i => if i < k + 1 ∧ i ≠ k then (fun j => m i j + c i * m k j) else m i) = (fun i => if i < k ∧ i ≠ k then (fun j => m i j + c i * m k j) else m i) := by
        funext i
        by_cases h1 : i < k
        · rw [if_pos ⟨by omega, by omega⟩, if_pos ⟨h1, by omega⟩]
        · rw [if_neg (by omega), if_neg (by omega)]
      rw [this]; exact ih
    · have h2 := h.addrow (fun i => if i < k ∧ i ≠ top then (fun j => m i j + c i * m top j) else m i) (r := k) (s := top) (by omega) ht e (c k)
      have : upd (fun i => if i < k ∧ i ≠ top then (fun j => m i j + c i * m top j) else m i) k (fun j => (if k < k ∧ k ≠ top then (fun j => m k j + c k * m top j) else m k) j + c k * (if top < k ∧ top ≠ top then (fun j => m top j + c top * m top j) else m top) j) = (fun i => if i < k + 1 ∧ i ≠ top then (fun j => m i j + c i * m top j) else m i) := by
        funext i
        by_cases h1 : i = k
        · subst h1
          have a1 : ¬ (i < i ∧ i ≠ top) := by omega
          have a2 : ¬ (top < i ∧ top ≠ top) := by simp
          rw [upd_same, if_neg a1, if_neg a2, if_pos ⟨by omega, e⟩]
        · rw [upd_other _ _ h1]
          by_cases h3 : i < k ∧ i ≠ top
          · rw [if_pos h3, if_pos ⟨by omega, h3.2⟩]
          · rw [if_neg h3, if_neg (by omega)]
      rw [← this]
      exact h2.trans ih
end Alt
end Go.Proofs.Ytfkepkdfpjaniaa.M
namespace Go.Proofs.Ytfkepkdfpjaniaa.M
set_option linter.unusedVariables false

theorem sumI_pair {f : Nat → Int} {a b : Nat} (hab : a ≠ b) {n : Nat} (ha : a < n) (hb : b < n) (h : ∀ i, i < n → i ≠ a → i ≠ b → f i = 0) : sumI f n = f a + f b := by
  rcases Nat.lt_or_ge a b with h1 | h1
  · exact sumI_two h1 n hb h
  · rw [sumI_two (a := b) (b := a) (by omega) n ha (fun i hi h2 h3 => h i hi h3 h2)]; grind
theorem sumI_split (f : Nat → Int) (n : Nat) : ∀ m, sumI f (n + m) = sumI f n + sumI (fun i => f (n + i)) m
  | 0 => by simp [sumI]
  | m + 1 => by rw [← Nat.add_assoc, sumI, sumI, sumI_split f n m]; grind
theorem sumI_eqm_zero {p : Int} {f : Nat → Int} (n : Nat) (h : ∀ i, i < n → Eqm p (f i) 0) : Eqm p (sumI f n) 0 := by
  have := sumI_eqm (g := fun _ => 0) n h
  rwa [sumI_zero n (fun _ _ => rfl)] at this

abbrev Mx := Nat → Nat → Nat
def cI (m : Mx) : MI := fun i j => (m i j : Int)
def swp (m : Mx) (top r : Nat) : Mx := fun i => if i = top then m r else if i = r then m top else m i
def elimF (p : Nat) (m : Mx) (top r col : Nat) : Mx := fun i j =>
  if i = top then m r j * pw p (m r col) (p - 2) % p
  else (swp m top r i j + p - swp m top r i col * (m r j * pw p (m r col) (p - 2) % p) % p) % p

def firstR (m : Mx) (col : Nat) : Nat → Nat → Nat
  | 0, t => t
  | n + 1, t => if m t col ≠ 0 then t else firstR m col n (t + 1)
def First (m : Mx) (col top R r : Nat) : Prop := top ≤ r ∧ r ≤ R ∧ (∀ i, top ≤ i → i < r → m i col = 0) ∧ (r < R → m r col ≠ 0)
theorem firstR_first (m : Mx) (col : Nat) : ∀ n t, First m col t (t + n) (firstR m col n t)
  | 0, t => ⟨by simp [firstR], by simp [firstR], fun i h1 h2 => by simp [firstR] at h2; omega, fun h => by simp [firstR] at h⟩
  | n + 1, t => by
    unfold firstR
    by_cases h : m t col ≠ 0
    · rw [if_pos h]; exact ⟨Nat.le_refl _, by omega, fun i h1 h2 => by omega, fun _ => h⟩
    · rw [if_neg h]
      obtain ⟨h1, h2, h3, h4⟩ := firstR_first m col n (t + 1)
      refine ⟨by omega, by omega, fun i hi hi2 => ?_, fun hr => h4 (by omega)⟩
      by_cases e : i = t
      · subst e; simpa using h
      · exact h3 i (by omega) hi2
theorem First.unique {m : Mx} {col top R r r' : Nat} (h : First m col top R r) (h' : First m col top R r') : r = r' := by
  obtain ⟨a1, a2, a3, a4⟩ := h
  obtain ⟨b1, b2, b3, b4⟩ := h'
  rcases Nat.lt_trichotomy r r' with h | h | h
  · exact absurd (b3 r a1 h) (a4 (by omega))
  · exact h
  · exact absurd (a3 r' b1 h) (b4 (by omega))

structure Rd where
  m : Mx
  lead : List Nat
  d : Nat
def Rd.at_ (s : Rd) (R col : Nat) : Nat := firstR s.m col (R - s.lead.length) s.lead.length
def rstep (p R : Nat) (s : Rd) (col : Nat) : Rd :=
  if s.at_ R col < R then ⟨elimF p s.m s.lead.length (s.at_ R col) col, s.lead ++ [col], (if s.at_ R col = s.lead.length then s.d else p - s.d) * s.m (s.at_ R col) col % p⟩ else s
def red (p R : Nat) (m : Mx) : Nat → Rd
  | 0 => ⟨m, [], 1⟩
  | k + 1 => rstep p R (red p R m k) k
theorem Rd.at_first (s : Rd) {R : Nat} (h : s.lead.length ≤ R) (col : Nat) : First s.m col s.lead.length R (s.at_ R col) := by
  have := firstR_first s.m col (R - s.lead.length) s.lead.length
  rwa [Nat.add_sub_cancel' h] at this
theorem rstep_none {p R : Nat} {s : Rd} {col : Nat} (h : ¬ s.at_ R col < R) : rstep p R s col = s := by unfold rstep; rw [if_neg h]
theorem rstep_some {p R : Nat} {s : Rd} {col : Nat} (h : s.at_ R col < R) : rstep p R s col = ⟨elimF p s.m s.lead.length (s.at_ R col) col, s.lead ++ [col], (if s.at_ R col = s.lead.length then s.d else p - s.d) * s.m (s.at_ R col) col % p⟩ := by unfold rstep; rw [if_pos h]

theorem swp_le (m : Mx) {top r R : Nat} (ht : top < R) (hr : r < R) {P : Nat → (Nat → Nat) → Prop} (h : ∀ i, i < R → ∀ i', i' < R → P i (m i')) : ∀ i, i < R → P i (swp m top r i) := fun i hi => by
  unfold swp
  split
  · exact h i hi r hr
  · split
    · exact h i hi top ht
    · exact h i hi i hi
theorem swp_lt {p : Nat} {m : Mx} {top r R C : Nat} (ht : top < R) (hr : r < R) (h : ∀ i, i < R → ∀ j, j < C → m i j < p) : ∀ i, i < R → ∀ j, j < C → swp m top r i j < p :=
  swp_le m ht hr (P := fun _ f => ∀ j, j < C → f j < p) (fun _ _ i' hi' => h i' hi')
theorem swp_top (m : Mx) (top r : Nat) : swp m top r top = m r := by simp [swp]
theorem swp_self (m : Mx) (top : Nat) : swp m top top = m := by
  funext i
  unfold swp
  by_cases h : i = top <;> simp [h]

theorem sub_mod_eqm {p x y : Nat} (h : 0 < p) : Eqm p (((x + p - y % p) % p : Nat) : Int) ((x : Int) - y) := by
  have h1 := eqm_natmod p (x + p - y % p)
  have h2 := eqm_natmod p y
  have h3 := Nat.mod_lt y h
  have e : ((x + p - y % p : Nat) : Int) = (x : Int) + p - ((y % p : Nat) : Int) := by omega
  rw [e] at h1
  refine h1.trans ?_
  have h4 := (Eqm.add (Eqm.refl p (x : Int)) (eqm_self p)).sub h2
  simpa using h4
theorem mul_mod_eqm {p x y : Nat} : Eqm p ((x * y % p : Nat) : Int) ((x : Int) * y) := by
  have := eqm_natmod p (x * y)
  simpa using this

/-! ### one step -/
theorem elim_top (p : Nat) (m : Mx) (top r col j : Nat) : elimF p m top r col top j = m r j * pw p (m r col) (p - 2) % p := by simp [elimF]
theorem elim_other (p : Nat) (m : Mx) {top r col i : Nat} (h : i ≠ top) (j : Nat) : elimF p m top r col i j = (swp m top r i j + p - swp m top r i col * elimF p m top r col top j % p) % p := by simp [elimF, h]
theorem elim_lt {p : Nat} (hp : 0 < p) (m : Mx) (top r col i j : Nat) : elimF p m top r col i j < p := by unfold elimF; split <;> exact Nat.mod_lt _ hp
theorem elim_pivot {p : Nat} (hi : isP p = true) {m : Mx} {r col : Nat} (top : Nat) (hl : m r col < p) (h0 : m r col ≠ 0) : elimF p m top r col top col = 1 := by
  rw [elim_top]
  have := inv_mod hi (a := m r col) (by rw [Nat.mod_eq_of_lt hl]; exact h0)
  rwa [Nat.mod_eq_of_lt hl] at this
theorem elim_column {p : Nat} (hi : isP p = true) {m : Mx} {top r col i : Nat} (hl : m r col < p) (h0 : m r col ≠ 0) (h : i ≠ top) (hs : swp m top r i col < p) : elimF p m top r col i col = 0 := by
  have h3 := (pos_of hi).1
  rw [elim_other p m h, elim_pivot hi top hl h0, Nat.mul_one, Nat.mod_eq_of_lt hs, Nat.add_sub_cancel_left, Nat.mod_self]
theorem elim_zero {p : Nat} (hp : 0 < p) {m : Mx} {top r col i j : Nat} (h : m r j = 0) (hs : swp m top r i j < p) (hi : i ≠ top) : elimF p m top r col i j = swp m top r i j := by
  rw [elim_other p m hi, elim_top, h, Nat.zero_mul, Nat.zero_mod, Nat.mul_zero, Nat.zero_mod, Nat.sub_zero, Nat.add_mod_right, Nat.mod_eq_of_lt hs]
theorem elim_eqm {p : Nat} (hp : 0 < p) (m : Mx) {top r col i : Nat} (h : i ≠ top) (j : Nat) : Eqm p (elimF p m top r col i j) ((swp m top r i j : Int) - swp m top r i col * elimF p m top r col top j) := by
  rw [elim_other p m h]
  have := sub_mod_eqm (p := p) (x := swp m top r i j) (y := swp m top r i col * elimF p m top r col top j) hp
  simpa using this

/-- the sum of the products of a row and y -/
def dotI (m : Mx) (C : Nat) (y : Nat → Int) (i : Nat) : Int := sumI (fun j => (m i j : Int) * y j) C
def Ker (p R C : Nat) (m : Mx) (y : Nat → Int) : Prop := ∀ i, i < R → Eqm p (dotI m C y i) 0

theorem dot_top (p : Nat) (m : Mx) (top r col C : Nat) (y : Nat → Int) : Eqm p (dotI (elimF p m top r col) C y top) ((pw p (m r col) (p - 2) : Nat) * dotI m C y r) := by
  unfold dotI
  rw [← sumI_mul]
  refine sumI_eqm C fun j _ => ?_
  rw [elim_top]
  have := (mul_mod_eqm (p := p) (x := m r j) (y := pw p (m r col) (p - 2))).mul (Eqm.refl p (y j))
  refine this.trans (Eqm.of_eq (by grind))
theorem dot_other {p : Nat} (hp : 0 < p) (m : Mx) {top r col i : Nat} (C : Nat) (y : Nat → Int) (h : i ≠ top) : Eqm p (dotI (elimF p m top r col) C y i) (dotI (swp m top r) C y i - swp m top r i col * dotI (elimF p m top r col) C y top) := by
  have e : dotI (swp m top r) C y i - swp m top r i col * dotI (elimF p m top r col) C y top = sumI (fun j => ((swp m top r i j : Int) * y j) + (-(swp m top r i col : Int)) * ((elimF p m top r col top j : Int) * y j)) C := by
    unfold dotI
    rw [sumI_add, sumI_mul]
    grind
  rw [e]
  refine sumI_eqm C fun j _ => ?_
  have := (elim_eqm hp m (top := top) (r := r) (col := col) h j).mul (Eqm.refl p (y j))
  refine this.trans (Eqm.of_eq (by grind))
theorem ker_swp {p R C : Nat} {m : Mx} {top r : Nat} (ht : top < R) (hr : r < R) (y : Nat → Int) : Ker p R C (swp m top r) y ↔ Ker p R C m y := by
  have hd : ∀ i, dotI (swp m top r) C y i = if i = top then dotI m C y r else if i = r then dotI m C y top else dotI m C y i := fun i => by
    unfold dotI swp
    by_cases h1 : i = top
    · simp [h1]
    · by_cases h2 : i = r
      · subst h2; simp [h1]
      · simp [h1, h2]
  constructor
  · intro h i hi
    by_cases h1 : i = r
    · have := h top ht; rw [hd, if_pos rfl] at this; rw [h1]; exact this
    · by_cases h2 : i = top
      · have := h r hr
        rw [hd] at this
        by_cases h3 : r = top
        · omega
        · rw [if_neg h3, if_pos rfl] at this; rw [h2]; exact this
      · have := h i hi; rw [hd, if_neg h2, if_neg h1] at this; exact this
  · intro h i hi
    rw [hd]
    split
    · exact h r hr
    · split
      · exact h top ht
      · exact h i hi
theorem ker_elim {p R C : Nat} (hi : isP p = true) {m : Mx} {top r col : Nat} (ht : top < R) (hr : r < R) (hl : m r col < p) (h0 : m r col ≠ 0) (y : Nat → Int) : Ker p R C (elimF p m top r col) y ↔ Ker p R C m y := by
  have hp : 0 < p := by have := (pos_of hi).1; omega
  refine Iff.trans ?_ (ker_swp (top := top) (r := r) ht hr y)
  have etop : dotI (swp m top r) C y top = dotI m C y r := by unfold dotI; rw [swp_top]
  have hinv : Eqm p ((m r col : Int) * (pw p (m r col) (p - 2) : Nat)) 1 := by
    have := elim_pivot hi top hl h0
    rw [elim_top] at this
    have h2 := mul_mod_eqm (p := p) (x := m r col) (y := pw p (m r col) (p - 2))
    rw [this] at h2
    exact h2.symm
  constructor
  · intro h i hi'
    have h1 := h top ht
    by_cases e : i = top
    · subst e
      rw [etop]
      have h2 := (dot_top p m i r col C y).symm.trans h1
      have h3 := h2.mulL (m r col : Int)
      have h4 := hinv.mul (Eqm.refl p (dotI m C y r))
      rw [Int.mul_zero] at h3
      have h5 := (h4.symm.trans (Eqm.of_eq (by grind))).trans h3
      simpa using h5
    · have h2 := (dot_other hp m (top := top) (r := r) (col := col) C y e).symm.trans (h i hi')
      have h3 := h2.add (h1.mulL (swp m top r i col : Int))
      have h4 : dotI (swp m top r) C y i - swp m top r i col * dotI (elimF p m top r col) C y top + swp m top r i col * dotI (elimF p m top r col) C y top = dotI (swp m top r) C y i := by grind
      rw [h4] at h3
      simpa using h3
  · intro h
    have h1 : Eqm p (dotI (elimF p m top r col) C y top) 0 := by
      have := h top ht
      rw [etop] at this
      have h2 := this.mulL ((pw p (m r col) (p - 2) : Nat) : Int)
      rw [Int.mul_zero] at h2
      exact (dot_top p m top r col C y).trans h2
    intro i hi'
    by_cases e : i = top
    · rw [e]; exact h1
    · refine (dot_other hp m C y e).trans ?_
      have := (h i hi').sub (h1.mulL (swp m top r i col : Int))
      simpa using this

/-! ### what the reduction keeps -/
structure Inv (p R C : Nat) (m0 : Mx) (k : Nat) (s : Rd) : Prop where
  lt : ∀ i, i < R → ∀ j, j < C → s.m i j < p
  len : s.lead.length ≤ R
  lenk : s.lead.length ≤ k
  dpos : 0 < s.d
  dlt : s.d < p
  sorted : ∀ a b, a < b → b < s.lead.length → s.lead.getD a 0 < s.lead.getD b 0
  ltk : ∀ a, a < s.lead.length → s.lead.getD a 0 < k
  zero : ∀ i, s.lead.length ≤ i → i < R → ∀ j, j < k → s.m i j = 0
  unitc : ∀ a, a < s.lead.length → ∀ i, i < R → s.m i (s.lead.getD a 0) = if i = a then 1 else 0
  ker : ∀ y, Ker p R C s.m y ↔ Ker p R C m0 y

theorem getD_snoc (l : List Nat) (x i : Nat) : (l ++ [x]).getD i 0 = if i < l.length then l.getD i 0 else if i = l.length then x else 0 := by
  rw [List.getD_eq_getElem?_getD]
  by_cases h : i < l.length
  · rw [List.getElem?_append_left h, if_pos h, ← List.getD_eq_getElem?_getD]
  · rw [if_neg h, List.getElem?_append_right (by omega)]
    by_cases e : i = l.length
    · subst e; simp
    · rw [if_neg e, List.getElem?_eq_none (by simp; omega)]; rfl

theorem Inv.start {p R C : Nat} (hp : 1 < p) {m : Mx} (h : ∀ i, i < R → ∀ j, j < C → m i j < p) : Inv p R C m 0 ⟨m, [], 1⟩ :=
  ⟨h, by simp, by simp, by simp, by simpa using hp, fun a b _ hb => by simp at hb, fun a ha => by simp at ha, fun i _ _ j hj => by omega, fun a ha => by simp at ha, fun y => Iff.rfl⟩

theorem Inv.step {p R C : Nat} (hi : isP p = true) {m0 : Mx} {k : Nat} (hk : k < C) {s : Rd} (h : Inv p R C m0 k s) : Inv p R C m0 (k + 1) (rstep p R s k) := by
  have h3 := (pos_of hi).1
  have hp : 0 < p := by omega
  by_cases hr : s.at_ R k < R
  case neg =>
    rw [rstep_none hr]
    obtain ⟨f1, f2, f3, f4⟩ := s.at_first h.len k
    have er : s.at_ R k = R := by omega
    rw [er] at f3
    refine ⟨h.lt, h.len, by have := h.lenk; omega, h.dpos, h.dlt, h.sorted, fun a ha => by have := h.ltk a ha; omega, fun i h1 h2 j hj => ?_, h.unitc, h.ker⟩
    by_cases e : j = k
    · subst e; exact f3 i h1 h2
    · exact h.zero i h1 h2 j (by omega)
  rw [rstep_some hr]
  obtain ⟨f1, f2, f3, f4⟩ := s.at_first h.len k
  obtain ⟨r, er⟩ : ∃ r, s.at_ R k = r := ⟨_, rfl⟩
  rw [er] at hr f1 f2 f3 f4 ⊢
  have h0 := f4 hr
  have ht : s.lead.length < R := by omega
  have hl := h.lt r hr k hk
  have hsl := swp_lt ht hr h.lt
  have hrz : ∀ j, j < k → s.m r j = 0 := h.zero r f1 hr
  refine ⟨?_, ?_, ?_, ?_, ?_, ?_, ?_, ?_, ?_, ?_⟩
  · intro i _ j _; exact elim_lt hp _ _ _ _ _ _
  · simp; omega
  · have := h.lenk; simp; omega
  · dsimp only
    have hd : (if r = s.lead.length then s.d else p - s.d) < p ∧ 0 < (if r = s.lead.length then s.d else p - s.d) := by have := h.dpos; have := h.dlt; split <;> omega
    rcases Nat.eq_zero_or_pos ((if r = s.lead.length then s.d else p - s.d) * s.m r k % p) with e | e
    · rcases prime_mul hi e with e | e
      · rw [Nat.mod_eq_of_lt hd.1] at e; omega
      · rw [Nat.mod_eq_of_lt hl] at e; omega
    · exact e
  · exact Nat.mod_lt _ hp
  · intro a b hab hb
    dsimp only at hb ⊢
    rw [List.length_append, List.length_singleton] at hb
    rw [getD_snoc, getD_snoc, if_pos (by omega)]
    by_cases e : b < s.lead.length
    · rw [if_pos e]; exact h.sorted a b hab e
    · rw [if_neg e, if_pos (by omega)]; exact h.ltk a (by omega)
  · intro a ha
    dsimp only at ha ⊢
    rw [List.length_append, List.length_singleton] at ha
    rw [getD_snoc]
    by_cases e : a < s.lead.length
    · rw [if_pos e]; have := h.ltk a e; omega
    · rw [if_neg e, if_pos (by omega)]; omega
  · intro i h1 h2 j hj
    dsimp only at h1 ⊢
    rw [List.length_append, List.length_singleton] at h1
    by_cases e : j = k
    · subst e; exact elim_column hi hl h0 (by omega) (hsl i h2 j hk)
    · have hj' : j < k := by omega
      rw [elim_zero hp (hrz j hj') (hsl i h2 j (by omega)) (by omega)]
      unfold swp
      rw [if_neg (by omega)]
      split
      · exact h.zero _ (Nat.le_refl _) ht j hj'
      · exact h.zero i (by omega) h2 j hj'
  · intro a ha i hiR
    dsimp only at ha ⊢
    rw [List.length_append, List.length_singleton] at ha
    rw [getD_snoc]
    by_cases e : a < s.lead.length
    · rw [if_pos e]
      have hc := h.ltk a e
      by_cases e2 : i = s.lead.length
      · rw [e2, elim_top, hrz _ hc, Nat.zero_mul, Nat.zero_mod, if_neg (by omega)]
      · rw [elim_zero hp (hrz _ hc) (hsl i hiR _ (by omega)) e2]
        unfold swp
        rw [if_neg e2]
        split
        · next e3 => rw [h.unitc a e _ ht, if_neg (by omega), if_neg (by omega)]
        · exact h.unitc a e i hiR
    · have ea : a = s.lead.length := by omega
      rw [if_neg e, if_pos ea]
      by_cases e2 : i = s.lead.length
      · rw [e2, elim_pivot hi _ hl h0, if_pos ea.symm]
      · rw [elim_column hi hl h0 e2 (hsl i hiR k hk), if_neg (by omega)]
  · intro y
    exact (ker_elim hi ht hr hl h0 y).trans (h.ker y)

theorem red_inv {p R C : Nat} (hi : isP p = true) {m : Mx} (h : ∀ i, i < R → ∀ j, j < C → m i j < p) : ∀ k, k ≤ C → Inv p R C m k (red p R m k)
  | 0, _ => Inv.start (by have := (pos_of hi).1; omega) h
  | k + 1, hk => Inv.step hi (by omega) (red_inv hi h k (by omega))

/-! ### columns that are not looked at -/
theorem firstR_congr {m m' : Mx} {col : Nat} : ∀ n t, (∀ i, t ≤ i → i < t + n → m i col = m' i col) → firstR m col n t = firstR m' col n t
  | 0, _, _ => rfl
  | n + 1, t, h => by
    unfold firstR
    rw [h t (Nat.le_refl _) (by omega), firstR_congr n (t + 1) (fun i h1 h2 => h i (by omega) (by omega))]
def Agree (R K : Nat) (s s' : Rd) : Prop := s.lead = s'.lead ∧ s.d = s'.d ∧ s.lead.length ≤ R ∧ ∀ i, i < R → ∀ j, j < K → s.m i j = s'.m i j
theorem Agree.step {p R K : Nat} {s s' : Rd} (h : Agree R K s s') {k : Nat} (hk : k < K) : Agree R K (rstep p R s k) (rstep p R s' k) := by
  obtain ⟨h1, h2, h3, h4⟩ := h
  have er : s.at_ R k = s'.at_ R k := by
    unfold Rd.at_
    rw [← h1]
    exact firstR_congr _ _ fun i _ hi => h4 i (by omega) k hk
  obtain ⟨f1, f2, f3, f4⟩ := s.at_first h3 k
  by_cases hr : s.at_ R k < R
  · rw [rstep_some hr, rstep_some (er ▸ hr), ← er, ← h1, ← h2]
    obtain ⟨r, e⟩ : ∃ r, s.at_ R k = r := ⟨_, rfl⟩
    rw [e] at hr f1 f2 f3 f4 ⊢
    refine ⟨rfl, by dsimp only; rw [h4 r hr k hk], by simp; omega, fun i hi j hj => ?_⟩
    dsimp only
    have ht : s.lead.length < R := by omega
    have hs : ∀ i, i < R → ∀ j, j < K → swp s.m s.lead.length r i j = swp s'.m s.lead.length r i j := fun i hi j hj => by
      unfold swp
      split
      · exact h4 r hr j hj
      · split
        · exact h4 _ ht j hj
        · exact h4 i hi j hj
    unfold elimF
    rw [hs i hi j hj, hs i hi k hk, h4 r hr j hj, h4 r hr k hk]
  · rw [rstep_none hr, rstep_none (er ▸ hr)]
    exact ⟨h1, h2, h3, h4⟩
theorem red_congr {p R K : Nat} {m m' : Mx} (h : ∀ i, i < R → ∀ j, j < K → m i j = m' i j) : ∀ k, k ≤ K → Agree R K (red p R m k) (red p R m' k)
  | 0, _ => ⟨rfl, rfl, by simp [red], h⟩
  | k + 1, hk => (red_congr h k (by omega)).step (by omega)

/-! ### the determinant -/
theorem swp_alt {p : Int} {n : Nat} {F : MI → Int} (hF : Alt p n F) (m : Mx) {top r : Nat} (ht : top < n) (hr : r < n) (h : r ≠ top) : Eqm p (F (cI (swp m top r))) (-F (cI m)) := by
  have h1 := hF.swap (cI m) ht hr (Ne.symm h) (cI m r) (cI m top)
  rw [upd_both (cI m) (Ne.symm h)] at h1
  have e : upd (upd (cI m) top (cI m r)) r (cI m top) = cI (swp m top r) := by
    funext i
    unfold upd cI swp
    by_cases e1 : i = r
    · subst e1; simp [h]
    · by_cases e2 : i = top
      · subst e2; simp [Ne.symm h]
      · simp [e1, e2]
  rwa [e] at h1
theorem elim_alt {p n : Nat} (hp : 0 < p) {F : MI → Int} (hF : Alt p n F) (m : Mx) {top r : Nat} (ht : top < n) (hr : r < n) (col : Nat) :
    Eqm p (F (cI (elimF p m top r col))) ((pw p (m r col) (p - 2) : Nat) * F (cI (swp m top r))) := by
  obtain ⟨s, hs⟩ : ∃ s, s = swp m top r := ⟨_, rfl⟩
  have hst : s top = m r := by rw [hs, swp_top]
  have h1 := hF.scale (cI s) ht ((pw p (m r col) (p - 2) : Nat) : Int) (cI s top)
  rw [upd_self] at h1
  obtain ⟨t, et⟩ : ∃ t, t = upd (cI s) top (fun j => ((pw p (m r col) (p - 2) : Nat) : Int) * cI s top j) := ⟨_, rfl⟩
  rw [← et] at h1
  have h2 := hF.addall t ht (fun i => -(s i col : Int)) n (Nat.le_refl _)
  rw [← hs]
  refine Eqm.trans (hF.congr _ _ fun i hi j hj => ?_) (h2.trans h1)
  have htt : t top j = ((pw p (m r col) (p - 2) : Nat) : Int) * (m r j : Int) := by rw [et, upd_same]; unfold cI; rw [hst]
  by_cases e : i = top
  · rw [if_neg (by omega), e, htt]
    unfold cI
    rw [elim_top]
    exact mul_mod_eqm.trans (Eqm.of_eq (by grind))
  · rw [if_pos ⟨hi, e⟩]
    have h3 := elim_eqm hp m (top := top) (r := r) (col := col) e j
    have h4 : Eqm p (elimF p m top r col top j) (t top j) := by
      rw [htt, elim_top]; exact mul_mod_eqm.trans (Eqm.of_eq (by grind))
    have h5 := (Eqm.refl p (s i j : Int)).sub (h4.mulL (s i col : Int))
    rw [← hs] at h3
    refine (show Eqm p (cI (elimF p m top r col) i j) _ from h3).trans (h5.trans (Eqm.of_eq ?_))
    have h6 : t i j = (s i j : Int) := by rw [et, upd_other _ _ e]; rfl
    rw [h6]
    grind

theorem red_alt {p n C : Nat} (hi : isP p = true) {F : MI → Int} (hF : Alt p n F) {m : Mx} (h : ∀ i, i < n → ∀ j, j < C → m i j < p) (hC : n ≤ C) :
    ∀ k, k ≤ C → Eqm p (F (cI m)) (((red p n m k).d : Int) * F (cI (red p n m k).m))
  | 0, _ => Eqm.of_eq (by simp [red])
  | k + 1, hk => by
    have ih := red_alt hi hF h hC k (by omega)
    have hv := red_inv hi h k (by omega)
    have hp : 0 < p := by have := (pos_of hi).1; omega
    rw [red]
    obtain ⟨s, es⟩ : ∃ s, red p n m k = s := ⟨_, rfl⟩
    rw [es] at ih hv ⊢
    by_cases hr : s.at_ n k < n
    case neg => rw [rstep_none hr]; exact ih
    rw [rstep_some hr]
    obtain ⟨f1, f2, f3, f4⟩ := s.at_first hv.len k
    obtain ⟨r, er⟩ : ∃ r, s.at_ n k = r := ⟨_, rfl⟩
    rw [er] at hr f1 f2 f3 f4 ⊢
    dsimp only
    have hl := hv.lt r hr k (by omega)
    have h0 := f4 hr
    have ht : s.lead.length < n := by omega
    have h1 := elim_alt hp hF s.m ht hr k
    have hinv : Eqm p ((s.m r k : Int) * (pw p (s.m r k) (p - 2) : Nat)) 1 := by
      have := elim_pivot hi 0 hl h0
      rw [elim_top] at this
      have h2 := mul_mod_eqm (p := p) (x := s.m r k) (y := pw p (s.m r k) (p - 2))
      rw [this] at h2
      exact h2.symm
    have h2 : Eqm p (((if r = s.lead.length then s.d else p - s.d : Nat) : Int) * F (cI (swp s.m s.lead.length r))) ((s.d : Int) * F (cI s.m)) := by
      by_cases e : r = s.lead.length
      · rw [if_pos e, e, swp_self]; exact Eqm.refl _ _
      · rw [if_neg e]
        have h3 := swp_alt hF s.m ht hr e
        have h4 : ((p - s.d : Nat) : Int) = (p : Int) - s.d := by have := hv.dlt; omega
        rw [h4]
        have h5 := ((eqm_self p).sub (Eqm.refl p (s.d : Int))).mul h3
        exact h5.trans (Eqm.of_eq (by grind))
    have h6 := (mul_mod_eqm (p := p) (x := (if r = s.lead.length then s.d else p - s.d)) (y := s.m r k)).mul h1
    refine Eqm.trans ?_ h6.symm
    refine ih.trans (h2.symm.trans ?_)
    have h7 := hinv.mul (Eqm.refl p ((((if r = s.lead.length then s.d else p - s.d : Nat) : Int) * F (cI (swp s.m s.lead.length r)))))
    exact (Eqm.of_eq (by grind)).trans (h7.symm.trans (Eqm.of_eq (by grind)))
end Go.Proofs.Ytfkepkdfpjaniaa.M
