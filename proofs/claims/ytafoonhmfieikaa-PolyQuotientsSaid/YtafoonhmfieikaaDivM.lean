/-
  Long division as the program does it: the mathematics of divide.
-/
import Derived.Test.YtafoonhmfieikaaPolyD
import Derived.Test.YtafoonhmfieikaaLagM
namespace Go.Proofs.Ytafoonhmfieikaa.M
set_option linter.unusedVariables false

theorem mulAt_zeros (g : Nat → Nat) : ∀ s i, mulAt (List.replicate s 0) g i = 0
  | 0, i => by simp [mulAt]
  | s + 1, 0 => by simp [List.replicate_succ, mulAt]
  | s + 1, i + 1 => by simp [List.replicate_succ, mulAt, mulAt_zeros g s i]
theorem mono_get (s c i : Nat) : (List.replicate s 0 ++ [c]).getD i 0 = if i = s then c else 0 := by
  by_cases h : i < s
  · rw [List.getD_eq_getElem?_getD, List.getElem?_append_left (by simpa using h), if_neg (by omega)]
    simp [h]
  · by_cases h2 : i = s
    · subst h2
      rw [List.getD_eq_getElem?_getD, List.getElem?_append_right (by simp), if_pos rfl]
      simp
    · rw [if_neg h2, getD_ge (by simp; omega)]
theorem mulAt_mono (g : Nat → Nat) (s c i : Nat) : mulAt (List.replicate s 0 ++ [c]) g i = if s ≤ i then c * g (i - s) else 0 := by
  rw [mulAt_snoc, mulAt_zeros, Nat.zero_add, List.length_replicate]
theorem tab_at (n : Nat) (F : Nat → Nat) (i : Nat) : (tabM n F).getD i 0 = if i < n then F i else 0 := tabM_get F i
/-- one more coefficient of the quotient -/
theorem mulAt_set {p n s c : Nat} {Q : Nat → Nat} (g : Nat → Nat) (hs : s < n) (h0 : Q s = 0) (i : Nat) :
    mulAt (tabM n fun j => if j = s then c else Q j) g i % p = (mulAt (tabM n Q) g i + if s ≤ i then c * g (i - s) else 0) % p := by
  rw [← mulAt_mono, ← addL_mulAt]
  refine mulAt_mod _ _ _ _ (fun j => ?_) (fun _ => rfl) i
  rw [addL_get, mono_get, tab_at, tab_at]
  by_cases hj : j = s
  · subst hj
    rw [if_pos rfl, if_pos hs, if_pos rfl, if_pos hs, h0, Nat.zero_add]
  · rw [if_neg hj, if_neg hj, Nat.add_zero]
theorem tab_zero (n : Nat) (g : Nat → Nat) (p i : Nat) : mulAt (tabM n fun _ => 0) g i % p = 0 := by
  rw [mulAt_mod (tabM n fun _ => 0) [] g g (fun j => by rw [tab_at]; split <;> simp) (fun _ => rfl) i]
  simp [mulAt]
theorem trim_le_of {l : List Nat} {m : Nat} (h : ∀ i, m ≤ i → l.getD i 0 = 0) : (trim l).length ≤ m := by
  rcases Nat.lt_or_ge m (trim l).length with h1 | h1
  · have := trim_last (l := l) (by omega)
    rw [trim_get] at this
    exact absurd (h _ (by omega)) this
  · exact h1

/-- the remainder while a multiple of g, shifted, is taken from it -/
def RJ (p : Nat) (g : List Nat) (R : Nat → Nat) (s c j i : Nat) : Nat := if s ≤ i ∧ i < s + j then (R i + (p - c) * g.getD (i - s) 0) % p else R i
theorem RJ_zero (p : Nat) (g : List Nat) (R : Nat → Nat) (s c i : Nat) : RJ p g R s c 0 i = R i := by unfold RJ; rw [if_neg (by omega)]
theorem RJ_at (p : Nat) (g : List Nat) (R : Nat → Nat) (s c j : Nat) : RJ p g R s c j (s + j) = R (s + j) := by unfold RJ; rw [if_neg (by omega)]
theorem RJ_step (p : Nat) (g : List Nat) (R : Nat → Nat) (s c j i : Nat) : (if i = s + j then (R (s + j) + (p - c) * g.getD j 0) % p else RJ p g R s c j i) = RJ p g R s c (j + 1) i := by
  unfold RJ
  by_cases h : i = s + j
  · subst h
    rw [if_pos rfl, if_pos (by omega), Nat.add_sub_cancel_left]
  · rw [if_neg h]
    by_cases h2 : s ≤ i ∧ i < s + j
    · rw [if_pos h2, if_pos (by omega)]
    · rw [if_neg h2, if_neg (by omega)]
theorem RJ_lt {p : Nat} (hp : 0 < p) (g : List Nat) {R : Nat → Nat} (hR : ∀ i, R i < p) (s c j i : Nat) : RJ p g R s c j i < p := by
  unfold RJ; split
  · exact Nat.mod_lt _ hp
  · exact hR i

/-- what the program's long division holds after k rounds -/
structure DivK (p : Nat) (f g : List Nat) (n k : Nat) (Q R : Nat → Nat) : Prop where
  q : ∀ i, Q i < p
  q0 : ∀ i, i < n - k → Q i = 0
  r : ∀ i, R i < p
  r0 : ∀ i, f.length - k ≤ i → R i = 0
  eq : ∀ i, f.getD i 0 % p = (mulAt (tabM n Q) (at_ g) i + R i) % p
  top : (k = 0 → R (f.length - 1) ≠ 0) ∧ (0 < k → Q (n - 1) ≠ 0)
theorem DivK.start {p : Nat} {f g : List Nat} (hp : 0 < p) (hf : within p f = true) (tf : trim f = f) (h0 : 0 < f.length) (n : Nat) : DivK p f g n 0 (fun _ => 0) (fun i => f.getD i 0) where
  q := fun _ => hp
  q0 := fun _ _ => rfl
  r := fun i => within_getD hp hf i
  r0 := fun i hi => getD_ge (by omega)
  eq := fun i => by rw [Nat.add_mod, tab_zero, Nat.zero_add, Nat.mod_mod]
  top := ⟨fun _ => trim_self_last tf h0, fun h => absurd h (by omega)⟩
theorem DivK.step {p : Nat} (hi : isP p = true) {f g : List Nat} (hg : Lead p g) {n k : Nat} (hn : n + g.length = f.length + 1) (hk : k < n) {Q R : Nat → Nat} (h : DivK p f g n k Q R) {c : Nat} (hc : c = R (n - 1 - k + g.length - 1) * pw p (g.getD (g.length - 1) 0) (p - 2) % p) :
    DivK p f g n (k + 1) (fun j => if j = n - 1 - k then c else Q j) (RJ p g R (n - 1 - k) c g.length) := by
  have hp3 := pos_of hi
  have hp : 0 < p := by omega
  obtain ⟨hg1, hg2, hg3⟩ := hg
  have hgl := within_mem hg1 (k := g.length - 1) (by omega)
  have hinv := inv_mod hi (a := g.getD (g.length - 1) 0) (by rw [Nat.mod_eq_of_lt hgl]; exact hg3)
  rw [Nat.mod_eq_of_lt hgl] at hinv
  obtain ⟨a, ea⟩ : ∃ a, a = g.getD (g.length - 1) 0 := ⟨_, rfl⟩
  rw [← ea] at hinv hgl hc
  obtain ⟨b, eb⟩ : ∃ b, b = pw p a (p - 2) := ⟨_, rfl⟩
  rw [← eb] at hinv hc
  have hcl : c < p := by rw [hc]; exact Nat.mod_lt _ hp
  obtain ⟨s, es⟩ : ∃ s, s = n - 1 - k := ⟨_, rfl⟩
  rw [← es] at hc ⊢
  have hsn : s < n := by omega
  refine ⟨fun i => ?_, fun i hi' => ?_, RJ_lt hp g h.r s c g.length, fun i hi' => ?_, fun i => ?_, fun e => absurd e (by omega), fun _ => ?_⟩
  · split
    · exact hcl
    · exact h.q i
  · rw [if_neg (by omega)]; exact h.q0 i (by omega)
  · unfold RJ
    by_cases hin : s ≤ i ∧ i < s + g.length
    · obtain rfl : i = s + g.length - 1 := by omega
      rw [if_pos hin, show s + g.length - 1 - s = g.length - 1 by omega, ← ea]
      generalize R (s + g.length - 1) = x at *
      have e : c * a % p = x % p := by rw [hc, Nat.mod_mul_mod, Nat.mul_assoc, Nat.mul_comm b a, Nat.mul_mod, hinv, Nat.mul_one, Nat.mod_mod]
      rw [Nat.add_mod, ← e, ← Nat.add_mod, ← Nat.add_mul, show c + (p - c) = p by omega, Nat.mul_mod_right]
    · rw [if_neg hin]; exact h.r0 i (by omega)
  · rw [h.eq i, Nat.add_mod (mulAt _ _ _) (RJ _ _ _ _ _ _ _), mulAt_set (at_ g) hsn (h.q0 s (by omega)) i, ← Nat.add_mod]
    unfold RJ
    by_cases h1 : s ≤ i
    · rw [if_pos h1]
      by_cases h2 : i < s + g.length
      · rw [if_pos ⟨h1, h2⟩, Nat.add_mod_mod]
        show _ = (_ + c * g.getD (i - s) 0 + (R i + (p - c) * g.getD (i - s) 0)) % p
        generalize g.getD (i - s) 0 = y
        generalize mulAt (tabM n Q) (at_ g) i = m
        have e : m + c * y + (R i + (p - c) * y) = m + R i + p * y := by
          have : (c + (p - c)) * y = p * y := by rw [show c + (p - c) = p by omega]
          rw [Nat.add_mul] at this
          omega
        rw [e, Nat.add_mul_mod_self_left]
      · rw [if_neg (by omega), show at_ g (i - s) = 0 from getD_ge (by omega), Nat.mul_zero, Nat.add_zero]
    · rw [if_neg h1, if_neg (by omega), Nat.add_zero]
  · skip
    by_cases hk0 : k = 0
    · subst hk0
      rw [if_pos (by omega)]
      have hr := h.top.1 rfl
      rw [show f.length - 1 = s + g.length - 1 by omega] at hr
      intro h0
      rw [hc] at h0
      rcases prime_mul hi h0 with h1 | h1
      · rw [Nat.mod_eq_of_lt (h.r _)] at h1; exact hr h1
      · rw [Nat.mul_mod, h1] at hinv; simp at hinv
    · rw [if_neg (by omega)]; exact h.top.2 (by omega)
theorem DivK.done {p : Nat} (hi : isP p = true) {f g : List Nat} (hg : Lead p g) {n : Nat} (hn : n + g.length = f.length + 1) (h0 : 0 < n) {Q R : Nat → Nat} (h : DivK p f g n n Q R) :
    IsDiv p f g (tabM n Q) (trim (tabM f.length R)) := by
  have hl : (tabM n Q).length = n := by simp [tabM]
  refine ⟨within_of fun i hi' => ?_, trim_of_last (.inr ?_), within_trim (within_of fun i hi' => ?_), trim_trim _, ?_, fun i => ?_⟩
  · rw [tab_at]; split
    · exact h.q i
    · have := pos_of hi; omega
  · rw [hl, tab_at, if_pos (by omega)]; exact h.top.2 h0
  · rw [tab_at]; split
    · exact h.r i
    · have := pos_of hi; omega
  · have := trim_le_of (l := tabM f.length R) (m := g.length - 1) (fun i hi' => by
      rw [tab_at]; split
      · exact h.r0 i (by omega)
      · rfl)
    have := hg.2.1
    omega
  · rw [h.eq i, trim_get, tab_at]
    split
    · rfl
    · rw [h.r0 i (by omega)]
/-- a shorter list is its own remainder -/
theorem isDiv_short {p : Nat} {f g : List Nat} (hf : within p f = true) (tf : trim f = f) (hl : f.length < g.length) : IsDiv p f g [] f :=
  ⟨rfl, rfl, hf, tf, hl, fun i => by simp [mulAt]⟩
end Go.Proofs.Ytafoonhmfieikaa.M
