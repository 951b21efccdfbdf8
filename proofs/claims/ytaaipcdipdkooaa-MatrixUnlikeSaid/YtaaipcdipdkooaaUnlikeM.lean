/-
  The matrix of powers: with numbers all different it has an inverse, with a number twice it has none. m times its inverse.
-/
import Derived.Test.YtaaipcdipdkooaaKerM
import Derived.Test.YtaaipcdipdkooaaPow3
namespace Go.Proofs.Ytaaipcdipdkooaa.M
set_option linter.unusedVariables false

theorem evN_sum (x n : Nat) (y : Nat → Nat) : ((evN x (tabM n y) : Nat) : Int) = sumI (fun j => ((x ^ j : Nat) : Int) * (y j : Int)) n := by
  induction n with
  | zero => rfl
  | succ n ih =>
    rw [tabM_succ, evN_snoc, tabM_len]
    show _ = sumI _ n + _
    rw [← ih]
    simp
theorem eqm_zero_mod {p n : Nat} (h : Eqm p (n : Int) 0) : n % p = 0 := by
  obtain ⟨k, hk⟩ := h
  have : (p : Int) ∣ (n : Int) := ⟨k, by rw [hk]; simp⟩
  exact Nat.mod_eq_zero_of_dvd (Int.natCast_dvd_natCast.1 this)
theorem vander_ker {p R : Nat} (hi : isP p = true) {xs : List Nat} (hl : xs.length = R) (hw : within p xs = true) (hd : xs.Nodup) {y : Nat → Nat} (hy : ∀ j, j < R → y j < p) (hk : Ker p R R (pwF p xs) fun j => (y j : Int)) {j : Nat} (hj : j < R) : y j = 0 := by
  have hf : within p (tabM R y) = true := within_tabM hy
  have h0 : ∀ x ∈ xs, pev p (trim (tabM R y)) x = 0 := fun x hx => by
    rw [pev_trim]
    unfold pev
    obtain ⟨i, hi', rfl⟩ := List.getElem_of_mem hx
    apply eqm_zero_mod
    rw [evN_sum]
    refine Eqm.trans (Eqm.symm ?_) (hk i (by omega))
    unfold dotI
    refine sumI_eqm R fun j hj => ?_
    have e : xs.getD i 0 = xs[i] := by rw [List.getD_eq_getElem?_getD, List.getElem?_eq_getElem hi']; rfl
    unfold pwF pw
    rw [e]
    exact (eqm_natmod p _).mul (Eqm.refl _ _)
  have ht := no_more_roots hi (within_trim hf) (trim_trim _) hd hw (by have := trim_len_le (tabM R y); rw [tabM_len] at this; omega) h0
  have := trim_get (tabM R y) j
  rw [ht, tabM_at _ hj] at this
  simpa using this.symm
theorem exists_free {p R C k : Nat} {m0 : Mx} {s : Rd} (h : Inv p R C m0 k s) (hL : s.lead.length < k) : ∃ f, f < k ∧ s.lead.contains f = false := by
  have key : ∀ a, a ≤ s.lead.length → (∀ i, i < a → s.lead.getD i 0 = i) ∨ ∃ f, f < k ∧ s.lead.contains f = false := by
    intro a
    induction a with
    | zero => exact fun _ => .inl fun i hi => absurd hi (by omega)
    | succ a ih =>
      intro ha
      rcases ih (by omega) with h1 | h1
      · by_cases e : s.lead.getD a 0 = a
        · refine .inl fun i hi => ?_
          by_cases e2 : i = a
          · rw [e2]; exact e
          · exact h1 i (by omega)
        · refine .inr ⟨a, by omega, contains_no fun i hi => ?_⟩
          have hg := lead_ge h a (by omega)
          by_cases e2 : i < a
          · rw [h1 i e2]; omega
          · by_cases e3 : i = a
            · rw [e3]; exact e
            · have := h.sorted a i (by omega) hi; omega
      · exact .inr h1
  rcases key _ (Nat.le_refl _) with h1 | h1
  · exact ⟨s.lead.length, hL, contains_no fun i hi => by rw [h1 i hi]; omega⟩
  · exact h1
theorem ker_congr {p R C : Nat} {m m' : Mx} (h : ∀ i, i < R → ∀ j, j < C → m i j = m' i j) {y : Nat → Int} (hk : Ker p R C m y) : Ker p R C m' y := fun i hi => by
  have := hk i hi
  unfold dotI at this ⊢
  rw [sumI_congr C fun j hj => by rw [← h i hi j hj]]
  exact this
theorem pw_ok {p R : Nat} (hi : isP p = true) {xs : List Nat} (hR : 1 ≤ R ∧ R ≤ 64) : Ok p (tabMM R R (pwF p xs)) R R := by
  have h3 := (pos_of hi).1
  exact ⟨hi, tabMM_len _ _ _, hR.1, hR.2, hR.1, hR.2, fun i hi => by rw [tabMM_at _ _ hi, tabM_len], fun i hi => by
    rw [tabMM_at _ _ hi]
    exact within_tabM fun j _ => Nat.mod_lt _ (by omega)⟩
/-- numbers all different: every column has its pivot -/
theorem pw_full {p R : Nat} (hi : isP p = true) {xs : List Nat} (hl : xs.length = R) (hR : 1 ≤ R ∧ R ≤ 64) (hw : within p xs = true) (hd : xs.Nodup) : ¬ (rdI p (tabMM R R (pwF p xs)) R).lead.length < R := by
  intro hlt
  have hok := pw_ok hi (xs := xs) hR
  have h3 := (pos_of hi).1
  rw [(rdI_agree hok).1] at hlt
  unfold rd at hlt
  have hinv := red_inv hi (m := el (tabMM R R (pwF p xs))) (fun i hi' j hj => hok.el_lt hi' hj) R (Nat.le_refl _)
  obtain ⟨s, es⟩ : ∃ s, red p R (el (tabMM R R (pwF p xs))) R = s := ⟨_, rfl⟩
  rw [es] at hinv hlt
  obtain ⟨f, hf, hno⟩ := exists_free hinv hlt
  have hk := ker_congr (fun i hi j hj => tabMM_el (pwF p xs) hi hj) (nul_ker hinv hf hno)
  have := vander_ker hi hl hw hd (fun j _ => nulK_lt (by omega) _ _) hk hf
  rw [nulK_off _ (fun a ha e => by have := contains_at ha; rw [e, hno] at this; cases this), if_pos rfl] at this
  cases this
/-- a number twice: no inverse -/
theorem pw_twice {p R : Nat} (hi : isP p = true) {xs : List Nat} (hR : 1 ≤ R ∧ R ≤ 64) {a b : Nat} (ha : a < R) (hb : b < R) (hab : a ≠ b) (e : xs.getD a 0 = xs.getD b 0) : (rdI p (tabMM R R (pwF p xs)) R).lead.length < R := by
  apply Nat.lt_of_not_le
  intro hge
  have hok := pw_ok hi (xs := xs) hR
  have h3 := (pos_of hi).1
  have h1 := inv_right hok (by omega) ha ha
  have h2 := inv_right hok (by omega) hb ha
  rw [if_pos rfl] at h1
  rw [if_neg (Ne.symm hab)] at h2
  have hs := sumI_congr (f := fun c => (el (tabMM R R (pwF p xs)) a c : Int) * ((rdI p (tabMM R R (pwF p xs)) R).m c (R + a) : Int)) (g := fun c => (el (tabMM R R (pwF p xs)) b c : Int) * ((rdI p (tabMM R R (pwF p xs)) R).m c (R + a) : Int)) R (fun c hc => by
    rw [tabMM_el _ ha hc, tabMM_el _ hb hc]
    unfold pwF
    rw [e])
  rw [hs] at h1
  have h4 := h1.symm.trans h2
  have := eqm_zero_mod (p := p) (n := 1) h4
  rw [Nat.mod_eq_of_lt (by omega)] at this
  cases this
theorem eqm_mod_eq {p a b : Nat} (h : Eqm p (a : Int) (b : Int)) : a % p = b % p := by
  obtain ⟨k, hk⟩ := h
  have : ((a : Int) % (p : Int)) = ((b : Int) % (p : Int)) := by rw [hk, Int.add_mul_emod_self_left]
  exact_mod_cast this
theorem dotK_sum (l m : List Nat) : ∀ k, ((dotK l m k : Nat) : Int) = sumI (fun c => (l.getD c 0 : Int) * (m.getD c 0 : Int)) k
  | 0 => rfl
  | k + 1 => by
    show ((dotK l m k + l.getD k 0 * m.getD k 0 : Nat) : Int) = sumI _ k + _
    rw [Int.natCast_add, dotK_sum l m k, Int.natCast_mul]
/-- m times its inverse -/
theorem mul_inv {p R : Nat} {m : List (List Nat)} (hok : Ok p m R R) (hf : ¬ (rdI p m R).lead.length < R) : mul p m (inv p m R) R R R = tabMM R R fun i j => if j = i then 1 else 0 := by
  have h3 := (pos_of hok.isp).1
  unfold mul
  refine tabMM_congr fun i hi j hj => ?_
  unfold mulF
  have h := inv_right hok hf hi hj
  have hs : ((dotK (m.getD i []) (col (inv p m R) j R) R : Nat) : Int) = sumI (fun c => (el m i c : Int) * ((rdI p m R).m c (R + j) : Int)) R := by
    rw [dotK_sum]
    refine sumI_congr R fun c hc => ?_
    unfold col
    rw [tabM_at _ hc]
    unfold inv
    rw [tabMM_el _ hc hj]
    rfl
  rw [← hs] at h
  have h' : Eqm p ((dotK (m.getD i []) (col (inv p m R) j R) R : Nat) : Int) ((if j = i then 1 else 0 : Nat) : Int) := by
    by_cases e : i = j
    · rw [if_pos e] at h; rw [if_pos e.symm]; exact h
    · rw [if_neg e] at h; rw [if_neg (Ne.symm e)]; exact h
  rw [eqm_mod_eq h', Nat.mod_eq_of_lt (by split <;> omega)]
/-- the inverse is a matrix of numbers below p -/
theorem inv_isOk {p R : Nat} {m : List (List Nat)} (hok : Ok p m R R) : Ok p (inv p m R) R R := by
  have h3 := (pos_of hok.isp).1
  have hlt := besF_lt (E := R) hok (ap := one R) (fun i hi => ⟨by unfold one; rw [tabM_len], by
    unfold one
    refine within_tabM fun j _ => ?_
    split <;> omega⟩)
  have hinv := red_inv hok.isp hlt R (by omega)
  unfold inv
  exact ⟨hok.isp, tabMM_len _ _ _, hok.R1, hok.R64, hok.R1, hok.R64, fun i hi => by rw [tabMM_at _ _ hi, tabM_len], fun i hi => by
    rw [tabMM_at _ _ hi]
    exact within_tabM fun j hj => hinv.lt i hi (R + j) (by omega)⟩
end Go.Proofs.Ytaaipcdipdkooaa.M
