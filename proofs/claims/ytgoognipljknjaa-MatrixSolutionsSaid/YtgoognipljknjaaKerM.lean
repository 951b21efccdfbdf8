/-
  What the reduction tells: the leads of a full rank, the inverse, the solutions of m x = 0, their number.
-/
import Derived.Test.YtgoognipljknjaaFree
import Derived.Test.YtgoognipljknjaaMr13
namespace Go.Proofs.Ytgoognipljknjaa.M
set_option linter.unusedVariables false

theorem lead_inj {p R C k : Nat} {m0 : Mx} {s : Rd} (h : Inv p R C m0 k s) {a b : Nat} (ha : a < s.lead.length) (hb : b < s.lead.length) (e : s.lead.getD a 0 = s.lead.getD b 0) : a = b := by
  rcases Nat.lt_trichotomy a b with h1 | h1 | h1
  · have := h.sorted a b h1 hb; omega
  · exact h1
  · have := h.sorted b a h1 ha; omega
theorem lead_ge {p R C k : Nat} {m0 : Mx} {s : Rd} (h : Inv p R C m0 k s) : ∀ a, a < s.lead.length → a ≤ s.lead.getD a 0
  | 0, _ => Nat.zero_le _
  | a + 1, ha => by
    have h1 := lead_ge h a (by omega)
    have h2 := h.sorted a (a + 1) (by omega) ha
    omega
theorem lead_gap {p R C k : Nat} {m0 : Mx} {s : Rd} (h : Inv p R C m0 k s) (a : Nat) : ∀ d, a + d < s.lead.length → s.lead.getD a 0 + d ≤ s.lead.getD (a + d) 0
  | 0, _ => Nat.le_refl _
  | d + 1, ha => by
    have h1 := lead_gap h a d (by omega)
    have h2 := h.sorted (a + d) (a + (d + 1)) (by omega) ha
    omega
/-- as many pivots as columns: each column has its own -/
theorem lead_full {p R C k : Nat} {m0 : Mx} {s : Rd} (h : Inv p R C m0 k s) (hk : s.lead.length = k) {a : Nat} (ha : a < k) : s.lead.getD a 0 = a := by
  have h1 := lead_ge h a (by omega)
  have h2 := lead_gap h a (k - 1 - a) (by omega)
  have h3 := h.ltk (a + (k - 1 - a)) (by omega)
  omega
/-- m times what inverse answers is the unit matrix -/
theorem inv_right {p R : Nat} {m : List (List Nat)} (hok : Ok p m R R) (hf : ¬ (rdI p m R).lead.length < R) {i j : Nat} (hi : i < R) (hj : j < R) :
    Eqm p (sumI (fun c => (el m i c : Int) * ((rdI p m R).m c (R + j) : Int)) R) (if i = j then 1 else 0) := by
  have hlt := besF_lt (E := R) hok (ap := one R) (fun i hi => ⟨by unfold one; rw [tabM_len], by
    unfold one
    refine within_tabM fun j _ => ?_
    have := (pos_of hok.isp).1
    split <;> omega⟩)
  have hinv := red_inv hok.isp hlt R (by omega)
  have hs : red p R (besF m (one R)) R = rdI p m R := rfl
  rw [hs] at hinv
  obtain ⟨s, es⟩ : ∃ s, rdI p m R = s := ⟨_, rfl⟩
  rw [es] at hinv hf ⊢
  have hL : s.lead.length = R := by have := hinv.len; omega
  have hun : ∀ i, i < R → ∀ a, a < R → s.m i a = if i = a then 1 else 0 := fun i hi a ha => by
    have := hinv.unitc a (by omega) i hi
    rw [lead_full hinv hL ha] at this
    exact this
  have hk : Ker p R (R + R) s.m (fun c => if c < R then -(s.m c (R + j) : Int) else if c = R + j then 1 else 0) := fun i hi => by
    unfold dotI
    refine Eqm.of_eq ?_
    have hij : i ≠ R + j := by omega
    rw [sumI_pair (a := i) (b := R + j) hij (by omega) (by omega)]
    · dsimp only
      rw [hun i hi i hi, if_pos rfl, if_pos hi, if_neg (by omega), if_pos rfl]
      grind
    · intro c hc h1 h2
      dsimp only
      by_cases e : c < R
      · rw [hun i hi c e, if_neg (Ne.symm h1)]; simp
      · rw [if_neg e, if_neg h2]; simp
  have hk0 := (hinv.ker _).1 hk i hi
  unfold dotI at hk0
  rw [sumI_split] at hk0
  have e1 : sumI (fun c => (besF m (one R) i c : Int) * (if c < R then -(s.m c (R + j) : Int) else if c = R + j then 1 else 0)) R = - sumI (fun c => (el m i c : Int) * (s.m c (R + j) : Int)) R := by
    have h1 := sumI_mul (-1) (fun c => (el m i c : Int) * (s.m c (R + j) : Int)) R
    rw [show - sumI (fun c => (el m i c : Int) * (s.m c (R + j) : Int)) R = -1 * sumI (fun c => (el m i c : Int) * (s.m c (R + j) : Int)) R by grind, ← h1]
    refine sumI_congr R fun c hc => ?_
    have : besF m (one R) i c = el m i c := by
      unfold besF el
      rw [getD_app, if_pos (by rw [hok.cols i hi]; exact hc)]
    rw [this, if_pos hc]
    grind
  have e2 : sumI (fun c => (besF m (one R) i (R + c) : Int) * (if R + c < R then -(s.m (R + c) (R + j) : Int) else if R + c = R + j then 1 else 0)) R = if i = j then 1 else 0 := by
    rw [sumI_one R hj]
    · have : besF m (one R) i (R + j) = if j = i then 1 else 0 := by
        unfold besF one
        rw [getD_app, if_neg (by rw [hok.cols i hi]; omega), hok.cols i hi, show R + j - R = j by omega, tabM_at _ hj]
      rw [this, if_neg (show ¬ R + j < R by omega), if_pos rfl]
      by_cases e : i = j
      · rw [if_pos e, if_pos e.symm]; rfl
      · rw [if_neg e, if_neg (Ne.symm e)]; rfl
    · intro c hc hne
      rw [if_neg (by omega), if_neg (by omega)]; simp
  rw [e1, e2] at hk0
  obtain ⟨q, hq⟩ := hk0
  exact ⟨-q, by grind⟩

/-! ### The rows of Null -/
theorem nulK_at {p R C k : Nat} {m0 : Mx} {s : Rd} (h : Inv p R C m0 k s) (f : Nat) {a : Nat} : ∀ n, n ≤ s.lead.length → a < n → nulK p s f n (s.lead.getD a 0) = (p - s.m a f) % p
  | 0, _, ha => absurd ha (by omega)
  | n + 1, hn, ha => by
    unfold nulK
    by_cases e : a = n
    · subst e; rw [if_pos rfl]
    · rw [if_neg (fun h' => e (lead_inj h (by omega) (by omega) h'))]
      exact nulK_at h f n (by omega) (by omega)
theorem nulK_off {p : Nat} {s : Rd} {f j : Nat} : ∀ n, (∀ a, a < n → s.lead.getD a 0 ≠ j) → nulK p s f n j = if j = f then 1 else 0
  | 0, _ => rfl
  | n + 1, h => by
    unfold nulK
    rw [if_neg (Ne.symm (h n (by omega)))]
    exact nulK_off n fun a ha => h a (by omega)
theorem neg_mod_eqm {p x : Nat} (h : x ≤ p) : Eqm p (((p - x) % p : Nat) : Int) (-(x : Int)) := by
  refine (eqm_natmod p (p - x)).trans ⟨1, ?_⟩
  rw [Int.natCast_sub h]
  grind
theorem nul_ker {p R K : Nat} {m0 : Mx} {s : Rd} (h : Inv p R K m0 K s) {f : Nat} (hf : f < K) (hno : s.lead.contains f = false) : Ker p R K m0 fun j => (nulK p s f s.lead.length j : Int) := by
  refine (h.ker _).1 fun i hi => ?_
  have hnf : ∀ a, a < s.lead.length → s.lead.getD a 0 ≠ f := fun a ha e => by
    have := contains_at ha
    rw [e, hno] at this
    cases this
  unfold dotI
  by_cases hiL : i < s.lead.length
  · rw [sumI_pair (a := s.lead.getD i 0) (b := f) (hnf i hiL) (h.ltk i hiL) hf]
    · dsimp only
      rw [nulK_at h f _ (Nat.le_refl _) hiL, nulK_off _ hnf, if_pos rfl, h.unitc i hiL i hi, if_pos rfl]
      have := neg_mod_eqm (p := p) (Nat.le_of_lt (h.lt i hi f hf))
      obtain ⟨q, hq⟩ := this
      exact ⟨q, by rw [hq]; grind⟩
    · intro j hj h1 h2
      dsimp only
      by_cases e : ∃ a, a < s.lead.length ∧ s.lead.getD a 0 = j
      · obtain ⟨a, ha, rfl⟩ := e
        rw [h.unitc a ha i hi, if_neg (fun e => h1 (by rw [e]))]; simp
      · rw [nulK_off _ (fun a ha e' => e ⟨a, ha, e'⟩), if_neg h2]; simp
  · exact sumI_eqm_zero K fun j hj => Eqm.of_eq (by rw [h.zero i (by omega) hi j hj]; simp)
/-- the columns with a pivot and those without are all -/
theorem frees_count {l : List Nat} : ∀ c, (frees l c).length + ((List.range c).filter fun j => l.contains j).length = c
  | 0 => rfl
  | c + 1 => by
    have ih := frees_count (l := l) c
    rw [frees_succ, List.range_succ, List.filter_append, List.length_append, List.length_append]
    cases h : l.contains c
    · rw [List.filter_cons_of_neg (by simp at h ⊢; exact h), if_neg (by simp)]
      simp only [List.filter_nil, List.length_nil, List.length_cons]
      omega
    · rw [List.filter_cons_of_pos (by simp at h ⊢; exact h), if_pos rfl]
      simp only [List.filter_nil, List.length_nil, List.length_cons]
      omega
end Go.Proofs.Ytgoognipljknjaa.M
