/-
  Long division as the reference does it.
-/
import Derived.Test.YtafoonhmfieikaaApartM
namespace Go.Proofs.Ytafoonhmfieikaa.M
set_option linter.unusedVariables false

/-- what the reference's loop of Divide holds -/
structure RefK (p : Nat) (f g F : List Nat) (Q : Nat → Nat) : Prop where
  w : within p F = true
  t : trim F = F
  l : F.length ≤ f.length
  q : ∀ i, Q i < p
  q0 : ∀ i, i + g.length ≤ F.length → Q i = 0
  eq : ∀ i, f.getD i 0 % p = (mulAt (tabM f.length Q) (at_ g) i + F.getD i 0) % p
theorem RefK.start {p : Nat} (hp : 0 < p) {f g : List Nat} (hf : within p f = true) (tf : trim f = f) : RefK p f g f (fun _ => 0) where
  w := hf
  t := tf
  l := Nat.le_refl _
  q := fun _ => hp
  q0 := fun _ _ => rfl
  eq := fun i => by rw [Nat.add_mod, tab_zero, Nat.zero_add, Nat.mod_mod]
theorem shift_get (p : Nat) (g : List Nat) (s c i : Nat) : (List.replicate s 0 ++ pscale p g c).getD i 0 = if s ≤ i then (pscale p g c).getD (i - s) 0 else 0 := by
  by_cases h : s ≤ i
  · rw [if_pos h, List.getD_eq_getElem?_getD, List.getElem?_append_right (by simpa using h), List.length_replicate, ← List.getD_eq_getElem?_getD]
  · rw [if_neg h, List.getD_eq_getElem?_getD, List.getElem?_append_left (by simp; omega)]
    simp [show i < s by omega]
theorem shift_within {p : Nat} (hp : 0 < p) (g : List Nat) (s c : Nat) : within p (List.replicate s 0 ++ pscale p g c) = true := within_of fun i hi => by
  rw [shift_get]; split
  · exact within_getD hp (poly_within hp _ _) _
  · exact hp
theorem shift_mod {p : Nat} (hp : 0 < p) (g : List Nat) (s c i : Nat) : (List.replicate s 0 ++ pscale p g c).getD i 0 = if s ≤ i then g.getD (i - s) 0 * c % p else 0 := by
  rw [shift_get]
  split
  · have := pscale_get p g c (i - s)
    rwa [Nat.mod_eq_of_lt (show (pscale p g c).getD (i - s) 0 < p from within_getD hp (poly_within hp _ _) _)] at this
  · rfl
theorem RefK.step {p : Nat} (hi : isP p = true) {f g F : List Nat} (hg : Lead p g) {Q : Nat → Nat} (h : RefK p f g F Q) (hl : g.length ≤ F.length) {c : Nat} (hc : c = F.getD (F.length - 1) 0 * pw p (g.getD (g.length - 1) 0) (p - 2) % p) :
    RefK p f g (psub p F (List.replicate (F.length - g.length) 0 ++ pscale p g c)) (fun j => if j = F.length - g.length then c else Q j) ∧ (psub p F (List.replicate (F.length - g.length) 0 ++ pscale p g c)).length < F.length := by
  have hp3 := pos_of hi
  have hp : 0 < p := by omega
  obtain ⟨hg1, hg2, hg3⟩ := hg
  have hgl := within_mem hg1 (k := g.length - 1) (by omega)
  have hinv := inv_mod hi (a := g.getD (g.length - 1) 0) (by rw [Nat.mod_eq_of_lt hgl]; exact hg3)
  rw [Nat.mod_eq_of_lt hgl] at hinv
  have hFl := h.l
  obtain ⟨s, es⟩ : ∃ s, s = F.length - g.length := ⟨_, rfl⟩
  rw [← es]
  have hcl : c < p := by rw [hc]; exact Nat.mod_lt _ hp
  have hS := fun i => psub_get p F (List.replicate s 0 ++ pscale p g c) i
  have hW : within p (psub p F (List.replicate s 0 ++ pscale p g c)) = true := poly_within hp _ _
  have hT : trim (psub p F (List.replicate s 0 ++ pscale p g c)) = psub p F (List.replicate s 0 ++ pscale p g c) := poly_trim _ _ _
  have hlen : (psub p F (List.replicate s 0 ++ pscale p g c)).length ≤ F.length - 1 := by
    rw [← hT]
    refine trim_le_of fun i hi' => ?_
    have h1 := hS i
    rw [Nat.mod_eq_of_lt (within_getD hp hW i), shift_mod hp] at h1
    rw [h1]
    by_cases he : i = F.length - 1
    · subst he
      rw [if_pos (by omega), show F.length - 1 - s = g.length - 1 by omega]
      generalize g.getD (g.length - 1) 0 = a at *
      have hx := within_mem h.w (k := F.length - 1) (by omega)
      generalize F.getD (F.length - 1) 0 = x at *
      have e : a * c % p = x := by
        rw [hc, Nat.mul_mod_mod, Nat.mul_comm x, ← Nat.mul_assoc, Nat.mul_mod, hinv, Nat.one_mul, Nat.mod_mod, Nat.mod_eq_of_lt hx]
      rw [e, Nat.add_sub_cancel_left, Nat.mod_self]
    · rw [getD_ge (l := F) (by omega), Nat.zero_add]
      have hz : g.getD (i - s) 0 = 0 := getD_ge (by omega)
      rw [hz]
      split <;> simp
  refine ⟨⟨hW, hT, by omega, fun i => ?_, fun i hi' => ?_, fun i => ?_⟩, by omega⟩
  · split
    · exact hcl
    · exact h.q i
  · rw [if_neg (by omega)]; exact h.q0 i (by omega)
  · rw [h.eq i, Nat.add_mod (mulAt _ _ _) ((psub _ _ _).getD _ _), mulAt_set (at_ g) (show s < f.length by omega) (h.q0 s (by omega)) i, hS i, shift_mod hp, ← Nat.add_mod]
    by_cases h1 : s ≤ i
    · rw [if_pos h1, if_pos h1]
      show _ = (_ + c * g.getD (i - s) 0 + _) % p
      generalize g.getD (i - s) 0 = y
      generalize mulAt (tabM f.length Q) (at_ g) i = m
      generalize F.getD i 0 = x
      have e1 : y * c % p ≤ p := Nat.le_of_lt (Nat.mod_lt _ hp)
      have e2 : (m + c * y + (x + p - y * c % p)) % p = (m + y * c % p + (x + p - y * c % p)) % p := by
        generalize x + p - y * c % p = Z
        rw [show m + c * y + Z = c * y + (m + Z) by omega, show m + y * c % p + Z = y * c % p + (m + Z) by omega, Nat.mod_add_mod, Nat.mul_comm]
      rw [e2, show m + y * c % p + (x + p - y * c % p) = m + x + p by omega, Nat.add_mod_right]
    · rw [if_neg h1, if_neg h1, Nat.add_zero, Nat.sub_zero, ← Nat.add_assoc, Nat.add_mod_right]
theorem RefK.done {p : Nat} (hi : isP p = true) {f g F : List Nat} {Q : Nat → Nat} (h : RefK p f g F Q) (hl : F.length < g.length) : IsDiv p f g (trim (tabM f.length Q)) F := by
  have hp : 0 < p := by have := pos_of hi; omega
  refine ⟨within_trim (within_of fun i hi' => ?_), trim_trim _, h.w, h.t, hl, fun i => ?_⟩
  · rw [tab_at]; split
    · exact h.q i
    · exact hp
  · rw [h.eq i, Nat.add_mod, mulAt_mod (tabM f.length Q) (trim (tabM f.length Q)) (at_ g) (at_ g) (fun i => by rw [trim_get]) (fun _ => rfl) i, ← Nat.add_mod]
end Go.Proofs.Ytafoonhmfieikaa.M
