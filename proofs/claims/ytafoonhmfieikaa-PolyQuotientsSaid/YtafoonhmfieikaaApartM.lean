/-
  Quotients put together again; what the greatest common divisor divides.
-/
import Derived.Test.YtafoonhmfieikaaP13
import Derived.Test.YtafoonhmfieikaaRootsM
namespace Go.Proofs.Ytafoonhmfieikaa.M
set_option linter.unusedVariables false

theorem mulAt_null : ∀ (l : List Nat) (k : Nat), mulAt l (fun _ => 0) k = 0
  | [], k => by simp [mulAt]
  | a :: t, 0 => by simp [mulAt]
  | a :: t, k + 1 => by simp [mulAt, mulAt_null t k]
theorem at_trim (g : List Nat) (i : Nat) : at_ (trim g) i = at_ g i := trim_get g i
theorem isDiv_qlen {p : Nat} (hi : isP p = true) {f g q r : List Nat} (hg : Lead p g) (tg : trim g = g) (h : IsDiv p f g q r) : q.length ≤ f.length := by
  obtain ⟨a1, a2, a3, a4, a5, a6⟩ := h
  rcases Nat.eq_zero_or_pos q.length with h0 | h0
  · omega
  · have hp : 0 < p := by have := pos_of hi; omega
    have hl := pmul_len hi a1 hg.1 (by rw [a2]; exact h0) (by rw [tg]; exact hg.2.1)
    rw [a2, tg] at hl
    have hg0 := hg.2.1
    have ht : (pmul p q g).getD ((pmul p q g).length - 1) 0 ≠ 0 := trim_self_last (poly_trim p (q.length + g.length) (mulAt q (at_ g))) (show 0 < (pmul p q g).length by omega)
    have hm := pmul_get p q g ((pmul p q g).length - 1)
    have hw : (pmul p q g).getD ((pmul p q g).length - 1) 0 < p := within_getD hp (poly_within hp (q.length + g.length) (mulAt q (at_ g))) ((pmul p q g).length - 1)
    have e6 := a6 ((pmul p q g).length - 1)
    rw [getD_ge (l := r) (by omega), Nat.add_zero, ← hm] at e6
    have hne : (pmul p q g).getD ((pmul p q g).length - 1) 0 % p ≠ 0 := by
      rw [Nat.mod_eq_of_lt hw]; exact ht
    rw [← e6] at hne
    rcases Nat.lt_or_ge ((pmul p q g).length - 1) f.length with h1 | h1
    · omega
    · rw [getD_ge h1] at hne; simp at hne
theorem div_back {p : Nat} (hp : 0 < p) {F g q r : List Nat} (hF : within p F = true) (tF : trim F = F) (h : IsDiv p F (trim g) q r) : padd p (pmul p q g) r = F := by
  refine ext_red hp (poly_within hp _ _) hF (poly_trim _ _ _) tF fun i => ?_
  rw [padd_get, Nat.add_mod, pmul_get, ← Nat.add_mod, h.2.2.2.2.2 i, mulAt_congr (at_trim g)]
theorem dv_nil {p : Nat} {h : Nat → Nat} (hd : Dv p [] h) (i : Nat) : h i % p = 0 := by
  obtain ⟨c, hc⟩ := hd
  rw [hc i, show at_ [] = fun _ => 0 from funext fun i => by simp [at_], mulAt_null]; simp
/-- the greatest common divisor of f and g, g not zero: it has a leading coefficient, and divides both -/
theorem GcdOf.facts {p : Nat} (hi : isP p = true) {f g D : List Nat} (hg : Lead p g) (h : GcdOf p f g D) : Lead p D ∧ trim D = D ∧ D.length ≤ 201 ∧ Dv p D (at_ f) ∧ Dv p D (at_ g) := by
  obtain ⟨d, he, hw, ht, hl, rfl⟩ := h
  obtain ⟨d1, d2⟩ := he.dv
  have h0 : d ≠ [] := fun e => by
    subst e
    have h1 := dv_nil d2 (g.length - 1)
    have h2 := within_mem hg.1 (k := g.length - 1) (by have := hg.2.1; omega)
    have h3 : at_ g (g.length - 1) = g.getD (g.length - 1) 0 := rfl
    rw [h3, Nat.mod_eq_of_lt h2] at h1
    exact hg.2.2 h1
  rw [if_neg h0]
  have hlead := lead_of hw ht (by cases d with | nil => exact absurd rfl h0 | cons a t => simp)
  obtain ⟨m1, m2⟩ := monic_lead hi hlead
  have m3 := monic_dv hi hlead
  exact ⟨m1, poly_trim _ _ _, by rw [m2]; exact hl, m3.trans d1, m3.trans d2⟩
end Go.Proofs.Ytafoonhmfieikaa.M
