/-
  Lagrange's interpolation: the mathematics of the reference. No program.
-/
import Derived.Test.YtgoognipljknjaaRootsM
namespace Go.Proofs.Ytgoognipljknjaa.M
set_option linter.unusedVariables false

/-- the value at t of the reference's basis polynomial for place i, after k rounds -/
def unitAt (p t : Nat) (xs : List Nat) (i : Nat) : Nat → Nat
  | 0 => 1
  | k + 1 => if k = i then unitAt p t xs i k else unitAt p t xs i k * ((t + p - xs.getD k 0) % p) % p * pw p ((xs.getD i 0 + p - xs.getD k 0) % p) (p - 2) % p
theorem unitAt_lt {p t : Nat} (hp : 1 < p) (xs : List Nat) (i : Nat) : ∀ k, unitAt p t xs i k < p
  | 0 => hp
  | k + 1 => by
    unfold unitAt; split
    · exact unitAt_lt hp xs i k
    · exact Nat.mod_lt _ (by omega)
theorem pw_mul (p a b e : Nat) : pw p (a * b % p) e = pw p a e * pw p b e % p := by
  unfold pw
  rw [← Nat.mul_mod, ← Nat.mul_pow, ← Nat.pow_mod]
theorem pw_one {p : Nat} (hp : 1 < p) (e : Nat) : pw p 1 e = 1 := by unfold pw; rw [Nat.one_pow, Nat.mod_eq_of_lt hp]
theorem pw_mod (p a e : Nat) : pw p (a % p) e = pw p a e := by unfold pw; rw [← Nat.pow_mod]
theorem unitAt_dist {p t : Nat} (hp : 1 < p) (xs : List Nat) (i : Nat) : ∀ k, unitAt p t xs i k = distK p t xs i k * pw p (distK p (xs.getD i 0) xs i k) (p - 2) % p
  | 0 => by simp only [unitAt, distK]; rw [pw_one hp, Nat.mul_one, Nat.mod_eq_of_lt hp]
  | k + 1 => by
    have ih := unitAt_dist (t := t) hp xs i k
    unfold unitAt distK
    by_cases h : k = i
    · rw [if_pos h, if_pos h, if_pos h]; exact ih
    · rw [if_neg h, if_neg h, if_neg h, ih, pw_mul, pw_mod]
      generalize distK p t xs i k = a
      generalize pw p (distK p (xs.getD i 0) xs i k) (p - 2) = b
      generalize t + p - xs.getD k 0 = c
      generalize pw p (xs.getD i 0 + p - xs.getD k 0) (p - 2) = d
      have e1 : a * b % p * (c % p) % p * d % p = a * c * (b * d) % p := by
        rw [Nat.mod_mul_mod, Nat.mul_mod (a * b % p * (c % p)) d, Nat.mul_mod (a * b % p) (c % p), Nat.mod_mod, Nat.mod_mod, ← Nat.mul_mod (a * b) c, ← Nat.mul_mod (a * b * c) d]
        congr 1
        rw [Nat.mul_assoc a b c, Nat.mul_comm b c, ← Nat.mul_assoc a c b, Nat.mul_assoc (a * c)]
      have e2 : a * c % p * (b * d % p) % p = a * c * (b * d) % p := by rw [← Nat.mul_mod]
      rw [e1, e2]
/-- the number of rounds before k that multiply -/
def cnt (i k : Nat) : Nat := if i < k then k - 1 else k
/-- what the loop of unit holds -/
def UnitK (p : Nat) (xs : List Nat) (i k : Nat) (u : List Nat) : Prop := within p u = true ∧ u.length ≤ cnt i k + 1 ∧ ∀ t, t < p → pev p u t = unitAt p t xs i k
theorem UnitK.start {p : Nat} (hp : 1 < p) (xs : List Nat) (i : Nat) : UnitK p xs i 0 [1] :=
  ⟨within_of (fun j hj => by simp at hj; subst hj; simpa using hp), by simp, fun t ht => by simp [pev, evN, unitAt, Nat.mod_eq_of_lt hp]⟩
theorem UnitK.skip {p : Nat} {xs : List Nat} {i : Nat} {u : List Nat} (h : UnitK p xs i i u) : UnitK p xs i (i + 1) u := by
  obtain ⟨h1, h2, h3⟩ := h
  refine ⟨h1, by unfold cnt at h2 ⊢; simp at h2 ⊢; omega, fun t ht => ?_⟩
  rw [h3 t ht]
  show _ = if i = i then _ else _
  rw [if_pos rfl]
theorem sub_zero_left {p x : Nat} (hx : x < p) : (0 + p - x) % p = (p - x) % p := by rw [Nat.zero_add]
theorem pev_lin1 {p : Nat} (x t : Nat) (hx : x < p) : pev p [(0 + p - x) % p, 1] t = (t + p - x) % p := by
  rw [Nat.zero_add]; exact pev_linear x t (by omega)
theorem UnitK.step {p : Nat} (hp : 1 < p) {xs : List Nat} (hw : within p xs = true) {i k : Nat} (hk : k < xs.length) (hki : k ≠ i) {u : List Nat} (h : UnitK p xs i k u) :
    UnitK p xs i (k + 1) (pscale p (pmul p u [(0 + p - xs.getD k 0) % p, 1]) (pw p ((xs.getD i 0 + p - xs.getD k 0) % p) (p - 2))) := by
  obtain ⟨h1, h2, h3⟩ := h
  have hx := within_mem hw hk
  refine ⟨poly_within (by omega) _ _, ?_, fun t ht => ?_⟩
  · have l1 := poly_len p (pmul p u [(0 + p - xs.getD k 0) % p, 1]).length (fun j => (pmul p u [(0 + p - xs.getD k 0) % p, 1]).getD j 0 * pw p ((xs.getD i 0 + p - xs.getD k 0) % p) (p - 2))
    have l2 : (pmul p u [(0 + p - xs.getD k 0) % p, 1]).length ≤ u.length + 1 := by
      rw [← prodL_trim]
      refine Nat.le_trans (trim_len_le _) ?_
      unfold prodL
      split
      · simp
      · simp [tabM]
    unfold pscale
    unfold cnt at h2 ⊢
    split at h2 <;> split <;> omega
  · rw [pev_scale, pev_mul, h3 t ht, pev_lin1 _ _ hx]
    show _ = if k = i then _ else _
    rw [if_neg hki]
theorem inv_mod {p : Nat} (hi : isP p = true) {a : Nat} (ha : a % p ≠ 0) : a % p * pw p a (p - 2) % p = 1 := by
  unfold pw; rw [Nat.mod_mul_mod, Nat.mul_mod, Nat.mod_mod, ← Nat.mul_mod, Nat.mul_comm]; exact inv_mul hi ha
/-- a basis polynomial is 1 at its own place and 0 at the others -/
theorem unitAt_own {p : Nat} (hi : isP p = true) {xs : List Nat} (hw : within p xs = true) (hn : xs.Nodup) {i : Nat} (hil : i < xs.length) : unitAt p (xs.getD i 0) xs i xs.length = 1 := by
  have hp := pos_of hi
  rw [unitAt_dist (by omega)]
  have hx := within_mem hw hil
  have h0 : distK p (xs.getD i 0) xs i xs.length ≠ 0 := fun h => by
    obtain ⟨j, h1, h2, h3⟩ := (distK_zero hi hx hw i _ (Nat.le_refl _)).1 h
    exact h2 (getD_inj_of_nodup hn h1 hil h3)
  have hl := distK_lt (x := xs.getD i 0) (show 1 < p by omega) xs i xs.length
  have := inv_mod hi (a := distK p (xs.getD i 0) xs i xs.length) (by rw [Nat.mod_eq_of_lt hl]; exact h0)
  rwa [Nat.mod_eq_of_lt hl] at this
theorem unitAt_other {p : Nat} (hi : isP p = true) {xs : List Nat} (hw : within p xs = true) {i j : Nat} (hil : i < xs.length) (hjl : j < xs.length) (hij : j ≠ i) : unitAt p (xs.getD j 0) xs i xs.length = 0 := by
  have hp := pos_of hi
  rw [unitAt_dist (by omega), (distK_zero hi (within_mem hw hjl) hw i _ (Nat.le_refl _)).2 ⟨j, hjl, hij, rfl⟩]
  simp

/-! ### the sum of Lagrange -/
/-- what the reference's loop of Through holds after k rounds -/
def LagK (p : Nat) (xs ys : List Nat) (k : Nat) (f : List Nat) : Prop := within p f = true ∧ trim f = f ∧ f.length ≤ xs.length ∧ ∀ j, j < xs.length → pev p f (xs.getD j 0) = if j < k then ys.getD j 0 else 0
theorem LagK.start (p : Nat) (xs ys : List Nat) : LagK p xs ys 0 [] := ⟨rfl, rfl, by simp, fun j hj => by simp [pev_nil]⟩
theorem LagK.done {p : Nat} {xs ys f : List Nat} (h : LagK p xs ys xs.length f) : Thru p xs ys f := ⟨h.1, h.2.1, h.2.2.1, fun j hj => by rw [h.2.2.2 j hj, if_pos hj]⟩
theorem LagK.step {p : Nat} (hi : isP p = true) {xs ys : List Nat} (hw : within p xs = true) (hy : within p ys = true) (hl : ys.length = xs.length) (hn : xs.Nodup) {k : Nat} (hk : k < xs.length) {f u : List Nat} (h : LagK p xs ys k f) (hu : UnitK p xs k xs.length u) :
    LagK p xs ys (k + 1) (padd p f (pscale p u (ys.getD k 0))) := by
  obtain ⟨a1, a2, a3, a4⟩ := h
  obtain ⟨b1, b2, b3⟩ := hu
  have hp : 0 < p := by have := pos_of hi; omega
  refine ⟨poly_within hp _ _, poly_trim _ _ _, ?_, fun j hj => ?_⟩
  · have l1 := poly_len p (max f.length (pscale p u (ys.getD k 0)).length) (fun i => f.getD i 0 + (pscale p u (ys.getD k 0)).getD i 0)
    have l2 : (pscale p u (ys.getD k 0)).length ≤ u.length := poly_len p u.length (fun i => u.getD i 0 * ys.getD k 0)
    unfold padd
    unfold cnt at b2
    rw [if_pos hk] at b2
    omega
  · have hxj := within_mem hw hj
    have hyj := within_mem hy (show j < ys.length by omega)
    rw [pev_add, pev_scale, a4 j hj, b3 _ hxj]
    by_cases he : j = k
    · subst he
      rw [unitAt_own hi hw hn hj, if_neg (by omega), if_pos (by omega), Nat.one_mul, Nat.zero_add, Nat.mod_mod, Nat.mod_eq_of_lt hyj]
    · rw [unitAt_other hi hw hk hj he, Nat.zero_mul, Nat.zero_mod, Nat.add_zero]
      by_cases h1 : j < k
      · rw [if_pos h1, if_pos (by omega), Nat.mod_eq_of_lt hyj]
      · rw [if_neg h1, if_neg (by omega), Nat.zero_mod]

/-! ### the reference's Away -/
/-- what its loop holds after k rounds -/
def AwayK (p : Nat) (xs : List Nat) (k : Nat) (f : List Nat) : Prop := within p f = true ∧ trim f = f ∧ f.length ≤ k + 1 ∧ pev p f 0 = 1 ∧ ∀ j, j < k → pev p f (xs.getD j 0) = 0
theorem AwayK.start {p : Nat} (hp : 1 < p) (xs : List Nat) : AwayK p xs 0 [1] :=
  ⟨within_of (fun j hj => by simp at hj; subst hj; simpa using hp), rfl, by simp, by simp [pev, evN, Nat.mod_eq_of_lt hp], fun j hj => by omega⟩
theorem AwayK.step {p : Nat} (hi : isP p = true) {xs : List Nat} (hw : within p xs = true) {k : Nat} (hk : k < xs.length) (h0 : xs.getD k 0 ≠ 0) {f : List Nat} (h : AwayK p xs k f) :
    AwayK p xs (k + 1) (pmul p f [1, (0 + p - pw p (xs.getD k 0) (p - 2)) % p]) := by
  obtain ⟨a1, a2, a3, a4, a5⟩ := h
  have hp := pos_of hi
  refine ⟨poly_within (by omega) _ _, poly_trim _ _ _, ?_, ?_, fun j hj => ?_⟩
  · rw [← prodL_trim]
    refine Nat.le_trans (trim_len_le _) ?_
    unfold prodL
    split
    · simp
    · simp [tabM]; omega
  · rw [pev_mul, a4]
    simp only [pev, evN, Nat.zero_mul, Nat.add_zero, Nat.one_mul]
    rw [Nat.mod_mod, Nat.mod_eq_of_lt (by omega)]
  · rw [pev_mul]
    by_cases he : j = k
    · subst he
      have hx := within_mem hw hk
      have hz : pev p [1, (0 + p - pw p (xs.getD j 0) (p - 2)) % p] (xs.getD j 0) = 0 := by
        have hin := inv_mod hi (a := xs.getD j 0) (by rw [Nat.mod_eq_of_lt hx]; exact h0)
        rw [Nat.mod_eq_of_lt hx] at hin
        have hql := pw_lt (p := p) (xs.getD j 0) (p - 2) (by omega)
        simp only [pev, evN, Nat.mul_zero, Nat.add_zero]
        generalize pw p (xs.getD j 0) (p - 2) = q at *
        generalize xs.getD j 0 = x at *
        have e : (1 + x * ((0 + p - q) % p)) % p = (x * q % p + x * (p - q)) % p := by
          rw [hin, Nat.zero_add, Nat.add_mod, Nat.mul_mod x ((p - q) % p), Nat.mod_mod, ← Nat.mul_mod, ← Nat.add_mod]
        rw [e, Nat.mod_add_mod, ← Nat.mul_add, show q + (p - q) = p by omega, Nat.mul_mod_left]
      rw [hz, Nat.mul_zero, Nat.zero_mod]
    · rw [a5 j (by omega), Nat.zero_mul, Nat.zero_mod]
theorem AwayK.done {p : Nat} {xs f : List Nat} (h : AwayK p xs xs.length f) : Thru p (xs ++ [0]) (List.replicate xs.length 0 ++ [1]) f := by
  obtain ⟨a1, a2, a3, a4, a5⟩ := h
  refine ⟨a1, a2, by simpa using a3, fun i hi => ?_⟩
  by_cases h1 : i < xs.length
  · have e1 : (xs ++ [0]).getD i 0 = xs.getD i 0 := by rw [List.getD_eq_getElem?_getD, List.getD_eq_getElem?_getD, List.getElem?_append_left h1]
    have e2 : (List.replicate xs.length 0 ++ [1]).getD i 0 = 0 := by rw [List.getD_eq_getElem?_getD, List.getElem?_append_left (by simpa using h1)]; simp [h1]
    rw [e1, e2]; exact a5 i h1
  · obtain rfl : i = xs.length := by simp at hi; omega
    have e1 : (xs ++ [0]).getD xs.length 0 = 0 := by rw [List.getD_eq_getElem?_getD, List.getElem?_append_right (Nat.le_refl _), Nat.sub_self]; rfl
    have e2 : (List.replicate xs.length 0 ++ [1]).getD xs.length 0 = 1 := by rw [List.getD_eq_getElem?_getD, List.getElem?_append_right (by simp), List.length_replicate, Nat.sub_self]; rfl
    rw [e1, e2]; exact a4
end Go.Proofs.Ytgoognipljknjaa.M
