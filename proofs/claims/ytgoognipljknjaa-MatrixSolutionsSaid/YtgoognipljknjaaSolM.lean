/-
  A solution, and what is added to it: the rows of Null times the numbers without a pivot.
-/
import Derived.Test.YtgoognipljknjaaKerM
import Derived.Test.YtgoognipljknjaaMr14
import Derived.Test.YtgoognipljknjaaMr16
namespace Go.Proofs.Ytgoognipljknjaa.M
set_option linter.unusedVariables false

theorem dotK_sumS (l m : List Nat) : ∀ k, ((dotK l m k : Nat) : Int) = sumI (fun c => (l.getD c 0 : Int) * (m.getD c 0 : Int)) k
  | 0 => rfl
  | k + 1 => by
    unfold dotK sumI
    rw [Int.natCast_add, Int.natCast_mul, dotK_sumS l m k]
theorem app_eqm {p R K : Nat} {m : List (List Nat)} (hm : Rows p m R K) (zs : List Nat) {i : Nat} (hi : i < R) : Eqm p (app p m zs i : Nat) (dotI (el m) K (fun j => (zs.getD j 0 : Int)) i) := by
  unfold app
  refine (eqm_natmod p _).trans (Eqm.of_eq ?_)
  rw [dotK_sumS, hm.cols i hi]
  rfl

theorem ext_getD3 {l m : List Nat} (hl : l.length = m.length) (h : ∀ i, i < l.length → l.getD i 0 = m.getD i 0) : l = m := by
  apply List.ext_getElem hl
  intro i h1 h2
  have := h i h1
  rw [List.getD_eq_getElem?_getD, List.getElem?_eq_getElem h1, List.getD_eq_getElem?_getD, List.getElem?_eq_getElem h2] at this
  exact this

/-! ### the columns without a pivot -/
theorem frees_in {l : List Nat} {K i : Nat} (h : i < (frees l K).length) : (frees l K).getD i 0 ∈ frees l K := by
  rw [List.getD_eq_getElem?_getD, List.getElem?_eq_getElem h]; exact List.getElem_mem h
theorem frees_no {l : List Nat} {K j : Nat} (h : j ∈ frees l K) : l.contains j = false := by
  unfold frees at h
  have := (List.mem_filter.1 h).2
  simpa using this
theorem frees_inj {l : List Nat} {K a b : Nat} (ha : a < (frees l K).length) (hb : b < (frees l K).length) (e : (frees l K).getD a 0 = (frees l K).getD b 0) : a = b := by
  have hp : (frees l K).Pairwise (· < ·) := List.Pairwise.filter _ List.pairwise_lt_range
  rw [List.pairwise_iff_getElem] at hp
  rw [List.getD_eq_getElem?_getD, List.getElem?_eq_getElem ha, List.getD_eq_getElem?_getD, List.getElem?_eq_getElem hb] at e
  simp only [Option.getD_some] at e
  rcases Nat.lt_trichotomy a b with h | h | h
  · have := hp a b ha hb h; omega
  · exact h
  · have := hp b a hb ha h; omega
theorem not_lead {l : List Nat} {c : Nat} (h : l.contains c = false) : ∀ a, a < l.length → l.getD a 0 ≠ c := fun a ha e => by
  have := contains_at ha
  rw [e, h] at this
  cases this

/-! ### what Solve answers -/
theorem solK_at {p R C k K : Nat} {m0 : Mx} {s : Rd} (h : Inv p R C m0 k s) {a : Nat} : ∀ n, n ≤ s.lead.length → a < n → solK s K n (s.lead.getD a 0) = s.m a K
  | 0, _, ha => absurd ha (by omega)
  | n + 1, hn, ha => by
    unfold solK
    by_cases e : a = n
    · subst e; rw [if_pos rfl]
    · rw [if_neg (fun h' => e (lead_inj h (by omega) (by omega) h'))]
      exact solK_at h n (by omega) (by omega)
theorem solK_off {K : Nat} {s : Rd} {j : Nat} : ∀ n, (∀ a, a < n → s.lead.getD a 0 ≠ j) → solK s K n j = 0
  | 0, _ => rfl
  | n + 1, h => by
    unfold solK
    rw [if_neg (Ne.symm (h n (by omega)))]
    exact solK_off n fun a ha => h a (by omega)
/-- beside -1 for the right side -/
def ext (K : Nat) (Y : Nat → Nat) : Nat → Int := fun c => if c < K then (Y c : Int) else -1
theorem dot_ext (mx : Mx) (K : Nat) (Y : Nat → Nat) (i : Nat) : dotI mx (K + 1) (ext K Y) i = dotI mx K (fun j => (Y j : Int)) i - (mx i K : Int) := by
  unfold dotI
  rw [sumI]
  have e : sumI (fun j => (mx i j : Int) * ext K Y j) K = sumI (fun j => (mx i j : Int) * (Y j : Int)) K := sumI_congr K fun j hj => by unfold ext; rw [if_pos hj]
  rw [e]
  unfold ext
  rw [if_neg (Nat.lt_irrefl K)]
  grind
section
variable {p R K : Nat} {m : List (List Nat)} {v x : List Nat}
theorem bes_el (hok : Ok p m R K) {i j : Nat} (hi : i < R) (hj : j < K) : besF m (fun i => [v.getD i 0]) i j = el m i j := by
  unfold besF el
  rw [getD_app, if_pos (by rw [hok.cols i hi]; exact hj)]
theorem bes_right (hok : Ok p m R K) {i : Nat} (hi : i < R) : besF m (fun i => [v.getD i 0]) i K = v.getD i 0 := by
  unfold besF
  rw [getD_app, if_neg (by rw [hok.cols i hi]; omega), hok.cols i hi, Nat.sub_self]
  rfl
theorem bes_inv (hok : Ok p m R K) (hvl : v.length = R) (hvw : within p v = true) : Inv p R (K + 1) (besF m fun i => [v.getD i 0]) K (rdS p m v R K) := by
  refine red_inv hok.isp (fun i hi j hj => ?_) K (by omega)
  by_cases hjK : j < K
  · rw [bes_el hok hi hjK]; exact hok.el_lt hi hjK
  · obtain rfl : j = K := by omega
    rw [bes_right hok hi]
    exact within_mem hvw (by omega)
theorem bes_agree (hok : Ok p m R K) : Agree R K (rd p m R K) (rdS p m v R K) :=
  red_congr (fun i hi j hj => (bes_el (v := v) hok hi hj).symm) K (Nat.le_refl _)
theorem bes_ker (hok : Ok p m R K) (Y : Nat → Nat) : Ker p R (K + 1) (besF m fun i => [v.getD i 0]) (ext K Y) ↔ ∀ i, i < R → Eqm p (dotI (el m) K (fun j => (Y j : Int)) i) (v.getD i 0 : Nat) := by
  have e : ∀ i, i < R → dotI (besF m fun i => [v.getD i 0]) (K + 1) (ext K Y) i = dotI (el m) K (fun j => (Y j : Int)) i - (v.getD i 0 : Nat) := fun i hi => by
    rw [dot_ext, bes_right hok hi]
    congr 1
    unfold dotI
    exact sumI_congr K fun j hj => by rw [bes_el hok hi hj]
  constructor
  · intro h i hi
    have := h i hi
    rw [e i hi] at this
    obtain ⟨k, hk⟩ := this
    exact ⟨k, by grind⟩
  · intro h i hi
    rw [e i hi]
    obtain ⟨k, hk⟩ := h i hi
    exact ⟨k, by grind⟩
/-- where x is a solution Solve isn't stuck -/
theorem not_stuck (hok : Ok p m R K) (hvl : v.length = R) (hvw : within p v = true) {X : Nat → Nat} (hx : ∀ i, i < R → Eqm p (dotI (el m) K (fun j => (X j : Int)) i) (v.getD i 0 : Nat)) : ¬ Stuck (rdS p m v R K) R K := by
  have hinv := bes_inv hok hvl hvw
  rintro ⟨i, h1, h2, h3⟩
  have hk := (hinv.ker _).2 ((bes_ker hok X).2 hx) i h2
  rw [dot_ext] at hk
  have hz : dotI (rdS p m v R K).m K (fun j => (X j : Int)) i = 0 := sumI_zero K fun j hj => by rw [hinv.zero i h1 h2 j hj]; simp
  rw [hz] at hk
  have hlt := hinv.lt i h2 K (by omega)
  refine h3 (eqm_lt (p := p) ?_ hlt (by omega))
  obtain ⟨k, hk⟩ := hk
  exact ⟨-k, by grind⟩

/-- a solution of m y = v that holds x's numbers at the first n columns without a pivot, and 0 at the others -/
structure Sol (p R K : Nat) (m : List (List Nat)) (v x : List Nat) (n : Nat) (Y : Nat → Nat) : Prop where
  lt : ∀ j, j < K → Y j < p
  ker : ∀ i, i < R → Eqm p (dotI (el m) K (fun j => (Y j : Int)) i) (v.getD i 0 : Nat)
  free : ∀ i, i < (frees (rd p m R K).lead K).length → Y ((frees (rd p m R K).lead K).getD i 0) = if i < n then x.getD ((frees (rd p m R K).lead K).getD i 0) 0 else 0

theorem Sol.start (hok : Ok p m R K) (hvl : v.length = R) (hvw : within p v = true) (hs : ¬ Stuck (rdS p m v R K) R K) : Sol p R K m v x 0 (solK (rdS p m v R K) K (rdS p m v R K).lead.length) := by
  have hinv := bes_inv hok hvl hvw
  have hag := (bes_agree (v := v) hok).1
  have h3 := (pos_of hok.isp).1
  refine ⟨fun j _ => solK_lt (p := p) (by omega) _ (fun i hi => hinv.lt i (by have := hinv.len; omega) K (by omega)) j, (bes_ker hok _).1 ((hinv.ker _).1 fun i hi => ?_), fun i hi => ?_⟩
  · rw [dot_ext]
    obtain ⟨s, es⟩ : ∃ s, rdS p m v R K = s := ⟨_, rfl⟩
    rw [es] at hinv hs ⊢
    by_cases hiL : i < s.lead.length
    · unfold dotI
      rw [sumI_one (a := s.lead.getD i 0) K (hinv.ltk i hiL)]
      · dsimp only
        rw [hinv.unitc i hiL i hi, if_pos rfl, solK_at hinv _ (Nat.le_refl _) hiL]
        exact Eqm.of_eq (by grind)
      · intro c hc hne
        dsimp only
        by_cases e : ∃ b, b < s.lead.length ∧ s.lead.getD b 0 = c
        · obtain ⟨b, hb, rfl⟩ := e
          rw [hinv.unitc b hb i hi, if_neg (fun e => hne (by rw [e]))]; simp
        · rw [solK_off _ (fun a ha e' => e ⟨a, ha, e'⟩)]; simp
    · have hz : dotI s.m K (fun j => (solK s K s.lead.length j : Int)) i = 0 := sumI_zero K fun j hj => by rw [hinv.zero i (by omega) hi j hj]; simp
      rw [hz]
      have h0 : s.m i K = 0 := Decidable.byContradiction fun h => hs ⟨i, by omega, hi, h⟩
      rw [h0]
      exact Eqm.of_eq (by simp)
  · rw [if_neg (by omega)]
    refine solK_off _ ?_
    rw [← hag]
    exact not_lead (frees_no (frees_in hi))
theorem Sol.step (hok : Ok p m R K) {n : Nat} {Y : Nat → Nat} (h : Sol p R K m v x n Y) (hn : n < (frees (rd p m R K).lead K).length) (hx : x.getD ((frees (rd p m R K).lead K).getD n 0) 0 < p) :
    Sol p R K m v x (n + 1) fun j => (Y j + x.getD ((frees (rd p m R K).lead K).getD n 0) 0 * nulK p (rd p m R K) ((frees (rd p m R K).lead K).getD n 0) (rd p m R K).lead.length j % p) % p := by
  have hinv := red_inv hok.isp (m := el m) (fun i hi j hj => hok.el_lt hi hj) K (Nat.le_refl _)
  have hs : red p R (el m) K = rd p m R K := rfl
  rw [hs] at hinv
  obtain ⟨f, ef⟩ : ∃ f, f = (frees (rd p m R K).lead K).getD n 0 := ⟨_, rfl⟩
  rw [← ef] at hx ⊢
  have hfK : f < K := by rw [ef]; exact frees_mem (frees_in hn)
  have hfn : (rd p m R K).lead.contains f = false := by rw [ef]; exact frees_no (frees_in hn)
  have h3 := (pos_of hok.isp).1
  obtain ⟨a, ea⟩ : ∃ a, a = x.getD f 0 := ⟨_, rfl⟩
  rw [← ea] at hx ⊢
  refine ⟨fun j _ => Nat.mod_lt _ (by omega), fun i hi => ?_, fun i hi => ?_⟩
  · have hk := nul_ker hinv hfK hfn i hi
    have hy := h.ker i hi
    unfold dotI at hk hy ⊢
    have e1 : Eqm p (sumI (fun j => (el m i j : Int) * (((Y j + a * nulK p (rd p m R K) f (rd p m R K).lead.length j % p) % p : Nat) : Int)) K) (sumI (fun j => (el m i j : Int) * (Y j : Int) + (a : Int) * ((el m i j : Int) * (nulK p (rd p m R K) f (rd p m R K).lead.length j : Int))) K) := sumI_eqm K fun j _ => by
      obtain ⟨k1, h1⟩ := eqm_natmod p (Y j + a * nulK p (rd p m R K) f (rd p m R K).lead.length j % p)
      obtain ⟨k2, h2⟩ := eqm_natmod p (a * nulK p (rd p m R K) f (rd p m R K).lead.length j)
      rw [Int.natCast_add] at h1
      rw [h2, Int.natCast_mul] at h1
      exact ⟨(el m i j : Int) * (k1 + k2), by rw [h1]; grind⟩
    rw [sumI_add, sumI_mul] at e1
    refine e1.trans ?_
    have e2 := hy.add (hk.mulL (a : Int))
    simpa using e2
  · obtain ⟨fi, efi⟩ : ∃ fi, fi = (frees (rd p m R K).lead K).getD i 0 := ⟨_, rfl⟩
    have hF := h.free i hi
    rw [← efi] at hF ⊢
    have hno : (rd p m R K).lead.contains fi = false := by rw [efi]; exact frees_no (frees_in hi)
    have hfiK : fi < K := by rw [efi]; exact frees_mem (frees_in hi)
    rw [nulK_off _ (not_lead hno)]
    by_cases e : i = n
    · subst e
      have e3 : fi = f := by rw [efi, ef]
      subst e3
      rw [if_neg (Nat.lt_irrefl i)] at hF
      rw [if_pos rfl, if_pos (Nat.lt_succ_self i), hF, Nat.mul_one, Nat.zero_add, Nat.mod_mod, Nat.mod_eq_of_lt hx, ea]
    · have hne : fi ≠ f := fun e' => e (frees_inj hi hn (by rw [← efi, ← ef, e']))
      rw [if_neg hne, Nat.mul_zero, Nat.zero_mod, Nat.add_zero, Nat.mod_eq_of_lt (h.lt fi hfiK), hF]
      by_cases h1 : i < n
      · rw [if_pos h1, if_pos (by omega)]
      · rw [if_neg h1, if_neg (by omega)]
theorem Sol.done (hok : Ok p m R K) {Y : Nat → Nat} (h : Sol p R K m v x (frees (rd p m R K).lead K).length Y) (hxw : ∀ j, j < K → x.getD j 0 < p) (hx : ∀ i, i < R → Eqm p (dotI (el m) K (fun j => (x.getD j 0 : Int)) i) (v.getD i 0 : Nat)) : ∀ j, j < K → Y j = x.getD j 0 := by
  have hinv := red_inv hok.isp (m := el m) (fun i hi j hj => hok.el_lt hi hj) K (Nat.le_refl _)
  have hs : red p R (el m) K = rd p m R K := rfl
  rw [hs] at hinv
  have hfree : ∀ j, j < K → (rd p m R K).lead.contains j = false → Y j = x.getD j 0 := fun j hj hno => by
    have hm : j ∈ frees (rd p m R K).lead K := by unfold frees; rw [List.mem_filter]; exact ⟨List.mem_range.2 hj, by rw [hno]; rfl⟩
    obtain ⟨i, hi, e⟩ := List.getElem_of_mem hm
    have := h.free i hi
    rw [if_pos hi, List.getD_eq_getElem?_getD, List.getElem?_eq_getElem hi, e] at this
    exact this
  have hk0 : Ker p R K (el m) fun j => (Y j : Int) - (x.getD j 0 : Int) := fun i hi => by
    have e1 : dotI (el m) K (fun j => (Y j : Int) - (x.getD j 0 : Int)) i = dotI (el m) K (fun j => (Y j : Int)) i - dotI (el m) K (fun j => (x.getD j 0 : Int)) i := by
      unfold dotI
      have := sumI_add (fun j => (el m i j : Int) * (Y j : Int)) (fun j => (-1 : Int) * ((el m i j : Int) * (x.getD j 0 : Int))) K
      rw [sumI_mul] at this
      rw [show sumI (fun j => (el m i j : Int) * (Y j : Int)) K - sumI (fun j => (el m i j : Int) * (x.getD j 0 : Int)) K = sumI (fun j => (el m i j : Int) * (Y j : Int)) K + -1 * sumI (fun j => (el m i j : Int) * (x.getD j 0 : Int)) K by grind, ← this]
      exact sumI_congr K fun j _ => by grind
    rw [e1]
    have := (h.ker i hi).sub (hx i hi)
    rwa [Int.sub_self] at this
  have hk := (hinv.ker _).2 hk0
  intro j hj
  by_cases e : ∃ a, a < (rd p m R K).lead.length ∧ (rd p m R K).lead.getD a 0 = j
  · obtain ⟨a, ha, rfl⟩ := e
    have haR : a < R := by have := hinv.len; omega
    have h1 := hk a haR
    unfold dotI at h1
    rw [sumI_one (a := (rd p m R K).lead.getD a 0) K hj] at h1
    · dsimp only at h1
      rw [hinv.unitc a ha a haR, if_pos rfl] at h1
      refine eqm_lt ?_ (h.lt _ hj) (hxw _ hj)
      obtain ⟨k, hk⟩ := h1
      exact ⟨k, by grind⟩
    · intro c hc hne
      dsimp only
      by_cases e2 : ∃ b, b < (rd p m R K).lead.length ∧ (rd p m R K).lead.getD b 0 = c
      · obtain ⟨b, hb, rfl⟩ := e2
        rw [hinv.unitc b hb a haR, if_neg (fun e => hne (by rw [e]))]; simp
      · rw [hfree c hc (contains_no fun b hb e' => e2 ⟨b, hb, e'⟩)]; simp
  · exact hfree j hj (contains_no fun b hb e' => e ⟨b, hb, e'⟩)

/-- the solution after i rounds -/
def solY (p R K : Nat) (m : List (List Nat)) (v x : List Nat) : Nat → Nat → Nat
  | 0 => solK (rdS p m v R K) K (rdS p m v R K).lead.length
  | i + 1 => fun j => (solY p R K m v x i j + x.getD ((frees (rd p m R K).lead K).getD i 0) 0 * nulK p (rd p m R K) ((frees (rd p m R K).lead K).getD i 0) (rd p m R K).lead.length j % p) % p
theorem solY_sol (hok : Ok p m R K) (hvl : v.length = R) (hvw : within p v = true) (hs : ¬ Stuck (rdS p m v R K) R K) (hxl : x.length = K) (hxw : within p x = true) : ∀ i, i ≤ (frees (rd p m R K).lead K).length → Sol p R K m v x i (solY p R K m v x i)
  | 0, _ => Sol.start hok hvl hvw hs
  | i + 1, hi => (solY_sol hok hvl hvw hs hxl hxw i (by omega)).step hok (by omega) (within_mem hxw (by rw [hxl]; exact frees_mem (frees_in (by omega))))
/-- all that the law's loops meet -/
theorem sol_facts (hok : Ok p m R K) (hxl : x.length = K) (hxw : within p x = true) (hv : v = tabM R (app p m x)) :
    v.length = R ∧ within p v = true ∧ ¬ Stuck (rdS p m v R K) R K ∧ tabM R (app p m (tabM K (solY p R K m v x 0))) = v ∧ within p (tabM K (solY p R K m v x 0)) = true ∧
      (∀ i, i ≤ (frees (rd p m R K).lead K).length → ∀ j, j < K → solY p R K m v x i j < p) ∧
      (∀ i, i < (frees (rd p m R K).lead K).length → solY p R K m v x i ((frees (rd p m R K).lead K).getD i 0) = 0) ∧
      tabM K (solY p R K m v x (frees (rd p m R K).lead K).length) = x := by
  have h3 := (pos_of hok.isp).1
  have hvl : v.length = R := by rw [hv, tabM_len]
  have hal : ∀ z i, app p m z i < p := fun z i => Nat.mod_lt _ (by omega)
  have hvw : within p v = true := by rw [hv]; exact within_tabM fun j _ => hal _ _
  have hvg : ∀ i, i < R → v.getD i 0 = app p m x i := fun i hi => by rw [hv, tabM_at _ hi]
  have hX : ∀ i, i < R → Eqm p (dotI (el m) K (fun j => (x.getD j 0 : Int)) i) (v.getD i 0 : Nat) := fun i hi => by
    rw [hvg i hi]; exact (app_eqm hok.all x hi).symm
  have hns := not_stuck hok hvl hvw (X := fun j => x.getD j 0) hX
  have hsol := solY_sol hok hvl hvw hns hxl hxw
  refine ⟨hvl, hvw, hns, ?_, within_tabM fun j hj => (hsol 0 (by omega)).lt j hj, fun i hi j hj => (hsol i hi).lt j hj, fun i hi => ?_, ?_⟩
  · refine ext_getD3 (by rw [tabM_len, hvl]) fun i hi => ?_
    rw [tabM_len] at hi
    rw [tabM_at _ hi]
    refine eqm_lt (p := p) ?_ (hal _ _) (by rw [hvg i hi]; exact hal _ _)
    refine (app_eqm hok.all _ hi).trans (Eqm.trans (Eqm.of_eq ?_) ((hsol 0 (by omega)).ker i hi))
    unfold dotI
    exact sumI_congr K fun j hj => by dsimp only; rw [tabM_at _ hj]
  · rw [(hsol i (by omega)).free i hi, if_neg (Nat.lt_irrefl i)]
  · refine ext_getD3 (by rw [tabM_len, hxl]) fun j hj => ?_
    rw [tabM_len] at hj
    rw [tabM_at _ hj]
    exact (hsol _ (Nat.le_refl _)).done hok (fun j hj => within_mem hxw (by omega)) hX j hj
end
end Go.Proofs.Ytgoognipljknjaa.M
