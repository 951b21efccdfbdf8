/-
  InvM, DivM, DivRM (joined).
-/
import Derived.Test.YtfkepkdfpjaniaaMA
namespace Go.Proofs.Ytfkepkdfpjaniaa.M

theorem mmod1 (x y p : Nat) : x % p * y % p = x * y % p := by rw [Nat.mul_mod, Nat.mod_mod, ← Nat.mul_mod]
theorem mmod2 (x y p : Nat) : x * (y % p) % p = x * y % p := by rw [Nat.mul_mod, Nat.mod_mod, ← Nat.mul_mod]
theorem prod_append (l m : List Nat) : prod (l ++ m) = prod l * prod m := by
  induction l with
  | nil => simp [prod]
  | cons a l ih => simp [prod, ih, Nat.mul_assoc]
theorem prod_take_succ (l : List Nat) {k : Nat} (h : k < l.length) : prod (l.take (k + 1)) = prod (l.take k) * l.getD k 0 := by
  rw [List.take_succ_eq_append_getElem h, prod_append]
  simp [prod, List.getD_eq_getElem?_getD, h]
theorem prod_drop_pred (l : List Nat) {k : Nat} (h : k < l.length) : prod (l.drop k) = l.getD k 0 * prod (l.drop (k + 1)) := by
  rw [List.drop_eq_getElem_cons h]
  simp [prod, List.getD_eq_getElem?_getD, h]
theorem prod_split (l : List Nat) {k : Nat} (h : k < l.length) : prod l = prod (l.take k) * (l.getD k 0 * prod (l.drop (k + 1))) := by
  conv => lhs; rw [← List.take_append_drop k l, prod_append]
  rw [prod_drop_pred l h]
/-- the inverse of the whole product times the numbers from k on -/
def restAt (p : Nat) (l : List Nat) (k : Nat) : Nat := pw p (prod l % p) (p - 2) * prod (l.drop k) % p
def preAt (p : Nat) (l : List Nat) (k : Nat) : Nat := prod (l.take k) % p
theorem preAt_succ (p : Nat) (l : List Nat) {k : Nat} (h : k < l.length) : preAt p l (k + 1) = preAt p l k * l.getD k 0 % p := by
  unfold preAt; rw [prod_take_succ l h, mmod1]
theorem preAt_all (p : Nat) (l : List Nat) : preAt p l l.length = prod l % p := by unfold preAt; rw [List.take_length]
theorem restAt_end (p : Nat) (l : List Nat) (hp : 0 < p) : restAt p l l.length = pw p (preAt p l l.length) (p - 2) := by
  unfold restAt
  rw [List.drop_length, preAt_all]
  simp only [prod, Nat.mul_one]
  exact Nat.mod_eq_of_lt (pw_lt _ _ hp)
theorem restAt_pred (p : Nat) (l : List Nat) {k : Nat} (h : k < l.length) : restAt p l k = restAt p l (k + 1) * l.getD k 0 % p := by
  unfold restAt
  rw [prod_drop_pred l h, Nat.mul_mod (_ % p) (l.getD k 0), Nat.mod_mod, ← Nat.mul_mod, Nat.mul_assoc, Nat.mul_comm (l.getD k 0)]
theorem prod_unit {p : Nat} (hi : isP p = true) (l : List Nat) (h : ∀ x ∈ l, x % p ≠ 0) : prod l ^ (p - 1) % p = 1 := fermat hi (prod_ne hi l h)
theorem inv_at {p : Nat} (hi : isP p = true) (l : List Nat) (h : ∀ x ∈ l, x % p ≠ 0) {k : Nat} (hk : k < l.length) : preAt p l k * restAt p l (k + 1) % p = pw p (l.getD k 0) (p - 2) := by
  have hp := pos_of hi
  unfold preAt restAt pw
  rw [prod_split l hk]
  have hA := prod_unit hi (l.take k) (fun x hx => h x (List.mem_of_mem_take hx))
  have hS := prod_unit hi (l.drop (k + 1)) (fun x hx => h x (List.mem_of_mem_drop hx))
  generalize prod (l.take k) = A at *
  generalize prod (l.drop (k + 1)) = S at *
  generalize l.getD k 0 = a at *
  rw [← Nat.pow_mod, mmod1, mmod1, mmod2]
  have e : A * ((A * (a * S)) ^ (p - 2) * S) = A ^ (p - 1) * S ^ (p - 1) * a ^ (p - 2) := by
    have e1 : A ^ (p - 1) = A ^ (p - 2) * A := by rw [← Nat.pow_succ]; congr 1; omega
    have e2 : S ^ (p - 1) = S ^ (p - 2) * S := by rw [← Nat.pow_succ]; congr 1; omega
    rw [Nat.mul_pow, Nat.mul_pow, e1, e2]
    simp only [Nat.mul_assoc, Nat.mul_comm, Nat.mul_left_comm]
  rw [e, Nat.mul_mod, Nat.mul_mod (A ^ (p - 1)), hA, hS]
  simp
end Go.Proofs.Ytfkepkdfpjaniaa.M
namespace Go.Proofs.Ytfkepkdfpjaniaa.M
set_option linter.unusedVariables false

theorem mulAt_zeros (g : Nat → Nat) : ∀ s i, mulAt (List.replicate s 0) g i = 0
  | 0, i => by simp [mulAt]
  | s + 1, 0 => by simp [List.replicate_succ, mulAt]
  | s + 1, i + 1 => by simp [List.replicate_succ, mulAt, mulAt_zeros g s i]
theorem mono_get (s c i : Nat) : (List.replicate s 0 ++ [c]).getD i 0 = if i = s then c else 0 := by
  by_cases h : i < s
  · rw [List.getD_eq_getElem?_getD, List.getElem?_append_left (by simpa using h), if_neg (by omega)]
    simp [h]
  · by_cases h2 : i = s
    · subst h2
      rw [List.getD_eq_getElem?_getD, List.getElem?_append_right (by simp), if_pos rfl]
      simp
    · rw [if_neg h2, getD_ge (by simp; omega)]
theorem mulAt_mono (g : Nat → Nat) (s c i : Nat) : mulAt (List.replicate s 0 ++ [c]) g i = if s ≤ i then c * g (i - s) else 0 := by
  rw [mulAt_snoc, mulAt_zeros, Nat.zero_add, List.length_replicate]
theorem tab_at (n : Nat) (F : Nat → Nat) (i : Nat) : (tabM n F).getD i 0 = if i < n then F i else 0 := tabM_get F i
/-- one more coefficient of the quotient -/
theorem mulAt_set {p n s c : Nat} {Q : Nat → Nat} (g : Nat → Nat) (hs : s < n) (h0 : Q s = 0) (i : Nat) :
    mulAt (tabM n fun j => if j = s then c else Q j) g i % p = (mulAt (tabM n Q) g i + if s ≤ i then c * g (i - s) else 0) % p := by
  rw [← mulAt_mono, ← addL_mulAt]
  refine mulAt_mod _ _ _ _ (fun j => ?_) (fun _ => rfl) i
  rw [addL_get, mono_get, tab_at, tab_at]
  by_cases hj : j = s
  · subst hj
    rw [if_pos rfl, if_pos hs, if_pos rfl, if_pos hs, h0, Nat.zero_add]
  · rw [if_neg hj, if_neg hj, Nat.add_zero]
theorem tab_zero (n : Nat) (g : Nat → Nat) (p i : Nat) : mulAt (tabM n fun _ => 0) g i % p = 0 := by
  rw [mulAt_mod (tabM n fun _ => 0) [] g g (fun j => by rw [tab_at]; split <;> simp) (fun _ => rfl) i]
  simp [mulAt]
theorem trim_le_of {l : List Nat} {m : Nat} (h : ∀ i, m ≤ i → l.getD i 0 = 0) : (trim l).length ≤ m := by
  rcases Nat.lt_or_ge m (trim l).length with h1 | h1
  · have := trim_last (l := l) (by omega)
    rw [trim_get] at this
    exact absurd (h _ (by omega)) this
  · exact h1

/-- the remainder while a multiple of g, shifted, is taken from it -/
def RJ (p : Nat) (g : List Nat) (R : Nat → Nat) (s c j i : Nat) : Nat := if s ≤ i ∧ i < s + j then (R i + (p - c) * g.getD (i - s) 0) % p else R i
theorem RJ_zero (p : Nat) (g : List Nat) (R : Nat → Nat) (s c i : Nat) : RJ p g R s c 0 i = R i := by unfold RJ; rw [if_neg (by omega)]
theorem RJ_at (p : Nat) (g : List Nat) (R : Nat → Nat) (s c j : Nat) : RJ p g R s c j (s + j) = R (s + j) := by unfold RJ; rw [if_neg (by omega)]
theorem RJ_step (p : Nat) (g : List Nat) (R : Nat → Nat) (s c j i : Nat) : (if i = s + j then (R (s + j) + (p - c) * g.getD j 0) % p else RJ p g R s c j i) = RJ p g R s c (j + 1) i := by
  unfold RJ
  by_cases h : i = s + j
  · subst h
    rw [if_pos rfl, if_pos (by omega), Nat.add_sub_cancel_left]
  · rw [if_neg h]
    by_cases h2 : s ≤ i ∧ i < s + j
    · rw [if_pos h2, if_pos (by omega)]
    · rw [if_neg h2, if_neg (by omega)]
theorem RJ_lt {p : Nat} (hp : 0 < p) (g : List Nat) {R : Nat → Nat} (hR : ∀ i, R i < p) (s c j i : Nat) : RJ p g R s c j i < p := by
  unfold RJ; split
  · exact Nat.mod_lt _ hp
  · exact hR i

/-- what the program's long division holds after k rounds -/
structure DivK (p : Nat) (f g : List Nat) (n k : Nat) (Q R : Nat → Nat) : Prop where
  q : ∀ i, Q i < p
  q0 : ∀ i, i < n - k → Q i = 0
  r : ∀ i, R i < p
  r0 : ∀ i, f.length - k ≤ i → R i = 0
  eq : ∀ i, f.getD i 0 % p = (mulAt (tabM n Q) (at_ g) i + R i) % p
  top : (k = 0 → R (f.length - 1) ≠ 0) ∧ (0 < k → Q (n - 1) ≠ 0)
theorem DivK.start {p : Nat} {f g : List Nat} (hp : 0 < p) (hf : within p f = true) (tf : trim f = f) (h0 : 0 < f.length) (n : Nat) : DivK p f g n 0 (fun _ => 0) (fun i => f.getD i 0) where
  q := fun _ => hp
  q0 := fun _ _ => rfl
  r := fun i => within_getD hp hf i
  r0 := fun i hi => getD_ge (by omega)
  eq := fun i => by rw [Nat.add_mod, tab_zero, Nat.zero_add, Nat.mod_mod]
  top := ⟨fun _ => trim_self_last tf h0, fun h => absurd h (by omega)⟩
theorem DivK.step {p : Nat} (hi : isP p = true) {f g : List Nat} (hg : Lead p g) {n k : Nat} (hn : n + g.length = f.length + 1) (hk : k < n) {Q R : Nat → Nat} (h : DivK p f g n k Q R) {c : Nat} (hc : c = R (n - 1 - k + g.length - 1) * pw p (g.getD (g.length - 1) 0) (p - 2) % p) :
    DivK p f g n (k + 1) (fun j => if j = n - 1 - k then c else Q j) (RJ p g R (n - 1 - k) c g.length) := by
  have hp3 := pos_of hi
  have hp : 0 < p := by omega
  obtain ⟨hg1, hg2, hg3⟩ := hg
  have hgl := within_mem hg1 (k := g.length - 1) (by omega)
  have hinv := inv_mod hi (a := g.getD (g.length - 1) 0) (by rw [Nat.mod_eq_of_lt hgl]; exact hg3)
  rw [Nat.mod_eq_of_lt hgl] at hinv
  obtain ⟨a, ea⟩ : ∃ a, a = g.getD (g.length - 1) 0 := ⟨_, rfl⟩
  rw [← ea] at hinv hgl hc
  obtain ⟨b, eb⟩ : ∃ b, b = pw p a (p - 2) := ⟨_, rfl⟩
  rw [← eb] at hinv hc
  have hcl : c < p := by rw [hc]; exact Nat.mod_lt _ hp
  obtain ⟨s, es⟩ : ∃ s, s = n - 1 - k := ⟨_, rfl⟩
  rw [← es] at hc ⊢
  have hsn : s < n := by omega
  refine ⟨fun i => ?_, fun i hi' => ?_, RJ_lt hp g h.r s c g.length, fun i hi' => ?_, fun i => ?_, fun e => absurd e (by omega), fun _ => ?_⟩
  · split
    · exact hcl
    · exact h.q i
  · rw [if_neg (by omega)]; exact h.q0 i (by omega)
  · unfold RJ
    by_cases hin : s ≤ i ∧ i < s + g.length
    · obtain rfl : i = s + g.length - 1 := by omega
      rw [if_pos hin, show s + g.length - 1 - s = g.length - 1 by omega, ← ea]
      generalize R (s + g.length - 1) = x at *
      have e : c * a % p = x % p := by rw [hc, Nat.mod_mul_mod, Nat.mul_assoc, Nat.mul_comm b a, Nat.mul_mod, hinv, Nat.mul_one, Nat.mod_mod]
      rw [Nat.add_mod, ← e, ← Nat.add_mod, ← Nat.add_mul, show c + (p - c) = p by omega, Nat.mul_mod_right]
    · rw [if_neg hin]; exact h.r0 i (by omega)
  · rw [h.eq i, Nat.add_mod (mulAt _ _ _) (RJ _ _ _ _ _ _ _), mulAt_set (at_ g) hsn (h.q0 s (by omega)) i, ← Nat.add_mod]
    unfold RJ
    by_cases h1 : s ≤ i
    · rw [if_pos h1]
      by_cases h2 : i < s + g.length
      · rw [if_pos ⟨h1, h2⟩, Nat.add_mod_mod]
        show _ = (_ + c * g.getD (i - s) 0 + (R i + (p - c) * g.getD (i - s) 0)) % p
        generalize g.getD (i - s) 0 = y
        generalize mulAt (tabM n Q) (at_ g) i = m
        have e : m + c * y + (R i + (p - c) * y) = m + R i + p * y := by
          have : (c + (p - c)) * y = p * y := by rw [show c + (p - c) = p by omega]
          rw [Nat.add_mul] at this
          omega
        rw [e, Nat.add_mul_mod_self_left]
      · rw [if_neg (by omega), show at_ g (i - s) = 0 from getD_ge (by omega), Nat.mul_zero, Nat.add_zero]
    · rw [if_neg h1, if_neg (by omega), Nat.add_zero]
  · skip
    by_cases hk0 : k = 0
    · subst hk0
      rw [if_pos (by omega)]
      have hr := h.top.1 rfl
      rw [show f.length - 1 = s + g.length - 1 by omega] at hr
      intro h0
      rw [hc] at h0
      rcases prime_mul hi h0 with h1 | h1
      · rw [Nat.mod_eq_of_lt (h.r _)] at h1; exact hr h1
      · rw [Nat.mul_mod, h1] at hinv; simp at hinv
    · rw [if_neg (by omega)]; exact h.top.2 (by omega)
theorem DivK.done {p : Nat} (hi : isP p = true) {f g : List Nat} (hg : Lead p g) {n : Nat} (hn : n + g.length = f.length + 1) (h0 : 0 < n) {Q R : Nat → Nat} (h : DivK p f g n n Q R) :
    IsDiv p f g (tabM n Q) (trim (tabM f.length R)) := by
  have hl : (tabM n Q).length = n := by simp [tabM]
  refine ⟨within_of fun i hi' => ?_, trim_of_last (.inr ?_), within_trim (within_of fun i hi' => ?_), trim_trim _, ?_, fun i => ?_⟩
  · rw [tab_at]; split
    · exact h.q i
    · have := pos_of hi; omega
  · rw [hl, tab_at, if_pos (by omega)]; exact h.top.2 h0
  · rw [tab_at]; split
    · exact h.r i
    · have := pos_of hi; omega
  · have := trim_le_of (l := tabM f.length R) (m := g.length - 1) (fun i hi' => by
      rw [tab_at]; split
      · exact h.r0 i (by omega)
      · rfl)
    have := hg.2.1
    omega
  · rw [h.eq i, trim_get, tab_at]
    split
    · rfl
    · rw [h.r0 i (by omega)]
/-- a shorter list is its own remainder -/
theorem isDiv_short {p : Nat} {f g : List Nat} (hf : within p f = true) (tf : trim f = f) (hl : f.length < g.length) : IsDiv p f g [] f :=
  ⟨rfl, rfl, hf, tf, hl, fun i => by simp [mulAt]⟩
end Go.Proofs.Ytfkepkdfpjaniaa.M
namespace Go.Proofs.Ytfkepkdfpjaniaa.M
set_option linter.unusedVariables false

/-- what the reference's loop of Divide holds -/
structure RefK (p : Nat) (f g F : List Nat) (Q : Nat → Nat) : Prop where
  w : within p F = true
  t : trim F = F
  l : F.length ≤ f.length
  q : ∀ i, Q i < p
  q0 : ∀ i, i + g.length ≤ F.length → Q i = 0
  eq : ∀ i, f.getD i 0 % p = (mulAt (tabM f.length Q) (at_ g) i + F.getD i 0) % p
theorem RefK.start {p : Nat} (hp : 0 < p) {f g : List Nat} (hf : within p f = true) (tf : trim f = f) : RefK p f g f (fun _ => 0) where
  w := hf
  t := tf
  l := Nat.le_refl _
  q := fun _ => hp
  q0 := fun _ _ => rfl
  eq := fun i => by rw [Nat.add_mod, tab_zero, Nat.zero_add, Nat.mod_mod]
theorem shift_get (p : Nat) (g : List Nat) (s c i : Nat) : (List.replicate s 0 ++ pscale p g c).getD i 0 = if s ≤ i then (pscale p g c).getD (i - s) 0 else 0 := by
  by_cases h : s ≤ i
  · rw [if_pos h, List.getD_eq_getElem?_getD, List.getElem?_append_right (by simpa using h), List.length_replicate, ← List.getD_eq_getElem?_getD]
  · rw [if_neg h, List.getD_eq_getElem?_getD, List.getElem?_append_left (by simp; omega)]
    simp [show i < s by omega]
theorem shift_within {p : Nat} (hp : 0 < p) (g : List Nat) (s c : Nat) : within p (List.replicate s 0 ++ pscale p g c) = true := within_of fun i hi => by
  rw [shift_get]; split
  · exact within_getD hp (poly_within hp _ _) _
  · exact hp
theorem shift_mod {p : Nat} (hp : 0 < p) (g : List Nat) (s c i : Nat) : (List.replicate s 0 ++ pscale p g c).getD i 0 = if s ≤ i then g.getD (i - s) 0 * c % p else 0 := by
  rw [shift_get]
  split
  · have := pscale_get p g c (i - s)
    rwa [Nat.mod_eq_of_lt (show (pscale p g c).getD (i - s) 0 < p from within_getD hp (poly_within hp _ _) _)] at this
  · rfl
theorem RefK.step {p : Nat} (hi : isP p = true) {f g F : List Nat} (hg : Lead p g) {Q : Nat → Nat} (h : RefK p f g F Q) (hl : g.length ≤ F.length) {c : Nat} (hc : c = F.getD (F.length - 1) 0 * pw p (g.getD (g.length - 1) 0) (p - 2) % p) :
    RefK p f g (psub p F (List.replicate (F.length - g.length) 0 ++ pscale p g c)) (fun j => if j = F.length - g.length then c else Q j) ∧ (psub p F (List.replicate (F.length - g.length) 0 ++ pscale p g c)).length < F.length := by
  have hp3 := pos_of hi
  have hp : 0 < p := by omega
  obtain ⟨hg1, hg2, hg3⟩ := hg
  have hgl := within_mem hg1 (k := g.length - 1) (by omega)
  have hinv := inv_mod hi (a := g.getD (g.length - 1) 0) (by rw [Nat.mod_eq_of_lt hgl]; exact hg3)
  rw [Nat.mod_eq_of_lt hgl] at hinv
  have hFl := h.l
  obtain ⟨s, es⟩ : ∃ s, s = F.length - g.length := ⟨_, rfl⟩
  rw [← es]
  have hcl : c < p := by rw [hc]; exact Nat.mod_lt _ hp
  have hS := fun i => psub_get p F (List.replicate s 0 ++ pscale p g c) i
  have hW : within p (psub p F (List.replicate s 0 ++ pscale p g c)) = true := poly_within hp _ _
  have hT : trim (psub p F (List.replicate s 0 ++ pscale p g c)) = psub p F (List.replicate s 0 ++ pscale p g c) := poly_trim _ _ _
  have hlen : (psub p F (List.replicate s 0 ++ pscale p g c)).length ≤ F.length - 1 := by
    rw [← hT]
    refine trim_le_of fun i hi' => ?_
    have h1 := hS i
    rw [Nat.mod_eq_of_lt (within_getD hp hW i), shift_mod hp] at h1
    rw [h1]
    by_cases he : i = F.length - 1
    · subst he
      rw [if_pos (by omega), show F.length - 1 - s = g.length - 1 by omega]
      generalize g.getD (g.length - 1) 0 = a at *
      have hx := within_mem h.w (k := F.length - 1) (by omega)
      generalize F.getD (F.length - 1) 0 = x at *
      have e : a * c % p = x := by
        rw [hc, Nat.mul_mod_mod, Nat.mul_comm x, ← Nat.mul_assoc, Nat.mul_mod, hinv, Nat.one_mul, Nat.mod_mod, Nat.mod_eq_of_lt hx]
      rw [e, Nat.add_sub_cancel_left, Nat.mod_self]
    · rw [getD_ge (l := F) (by omega), Nat.zero_add]
      have hz : g.getD (i - s) 0 = 0 := getD_ge (by omega)
      rw [hz]
      split <;> simp
  refine ⟨⟨hW, hT, by omega, fun i => ?_, fun i hi' => ?_, fun i => ?_⟩, by omega⟩
  · split
    · exact hcl
    · exact h.q i
  · rw [if_neg (by omega)]; exact h.q0 i (by omega)
  · rw [h.eq i, Nat.add_mod (mulAt _ _ _) ((psub _ _ _).getD _ _), mulAt_set (at_ g) (show s < f.length by omega) (h.q0 s (by omega)) i, hS i, shift_mod hp, ← Nat.add_mod]
    by_cases h1 : s ≤ i
    · rw [if_pos h1, if_pos h1]
      show _ = (_ + c * g.getD (i - s) 0 + _) % p
      generalize g.getD (i - s) 0 = y
      generalize mulAt (tabM f.length Q) (at_ g) i = m
      generalize F.getD i 0 = x
      have e1 : y * c % p ≤ p := Nat.le_of_lt (Nat.mod_lt _ hp)
      have e2 : (m + c * y + (x + p - y * c % p)) % p = (m + y * c % p + (x + p - y * c % p)) % p := by
        generalize x + p - y * c % p = Z
        rw [show m + c * y + Z = c * y + (m + Z) by omega, show m + y * c % p + Z = y * c % p + (m + Z) by omega, Nat.mod_add_mod, Nat.mul_comm]
      rw [e2, show m + y * c % p + (x + p - y * c % p) = m + x + p by omega, Nat.add_mod_right]
    · rw [if_neg h1, if_neg h1, Nat.add_zero, Nat.sub_zero, ← Nat.add_assoc, Nat.add_mod_right]
theorem RefK.done {p : Nat} (hi : isP p = true) {f g F : List Nat} {Q : Nat → Nat} (h : RefK p f g F Q) (hl : F.length < g.length) : IsDiv p f g (trim (tabM f.length Q)) F := by
  have hp : 0 < p := by have := pos_of hi; omega
  refine ⟨within_trim (within_of fun i hi' => ?_), trim_trim _, h.w, h.t, hl, fun i => ?_⟩
  · rw [tab_at]; split
    · exact h.q i
    · exact hp
  · rw [h.eq i, Nat.add_mod, mulAt_mod (tabM f.length Q) (trim (tabM f.length Q)) (at_ g) (at_ g) (fun i => by rw [trim_get]) (fun _ => rfl) i, ← Nat.add_mod]
end Go.Proofs.Ytfkepkdfpjaniaa.M
