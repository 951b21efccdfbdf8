/-
  Determinants of products; rank and the number of Null's rows.
-/
import Derived.Test.YtaaipcdipdkooaaKerM
import Derived.Test.YtaaipcdipdkooaaMr18
namespace Go.Proofs.Ytaaipcdipdkooaa.M
set_option linter.unusedVariables false

theorem eqm_mod_eq' {p a b : Nat} (h : Eqm p (a : Int) (b : Int)) : a % p = b % p := by
  obtain ⟨k, hk⟩ := h
  have : ((a : Int) % (p : Int)) = ((b : Int) % (p : Int)) := by rw [hk, Int.add_mul_emod_self_left]
  exact_mod_cast this
theorem dotK_sum' (l m : List Nat) : ∀ k, ((dotK l m k : Nat) : Int) = sumI (fun c => (l.getD c 0 : Int) * (m.getD c 0 : Int)) k
  | 0 => rfl
  | k + 1 => by
    show ((dotK l m k + l.getD k 0 * m.getD k 0 : Nat) : Int) = sumI _ k + _
    rw [Int.natCast_add, dotK_sum' l m k, Int.natCast_mul]

def mulI (a b : MI) (n : Nat) : MI := fun i j => sumI (fun c => a i c * b c j) n
theorem mulI_upd (m b : MI) (n r : Nat) (u : Nat → Int) : mulI (upd m r u) b n = upd (mulI m b n) r fun j => sumI (fun c => u c * b c j) n := by
  funext i j
  unfold mulI
  by_cases e : i = r
  · subst e; rw [upd_same, upd_same]
  · rw [upd_other _ _ e, upd_other _ _ e]
theorem alt_mul (p : Int) (n : Nat) (b : MI) : Alt p n fun a => lap n (mulI a b n) := by
  refine ⟨fun m m' h => lap_congr n _ _ fun i hi j hj => ?_, fun m r u v x y h => ?_, fun m r s hrs hs e => ?_⟩
  · exact sumI_eqm n fun c hc => (h i hi c hc).mul (Eqm.refl _ _)
  · rw [mulI_upd, mulI_upd, mulI_upd]
    refine Eqm.trans (Eqm.of_eq ?_) ((lap_is p n).lin (mulI m b n) r _ _ x y h)
    congr 2
    funext j
    rw [← sumI_mul, ← sumI_mul, ← sumI_add]
    refine sumI_congr n fun c _ => ?_
    grind
  · refine (lap_is p n).alt _ r s hrs hs ?_
    funext j
    unfold mulI
    rw [e]
def idI : MI := fun i j => if i = j then 1 else 0
theorem lap_id : ∀ n, lap n idI = 1
  | 0 => rfl
  | n + 1 => by
    rw [lap, sumI_one (a := 0) (n + 1) (by omega)]
    · have : minor 0 idI = idI := by
        funext a b
        unfold minor idI skp
        simp
      rw [this, lap_id n]
      simp [idI, sgn]
    · intro i hi hne
      simp [idI, hne]
theorem red_id {p R : Nat} {m0 : Mx} {s : Rd} (h : Inv p R R m0 R s) (hL : s.lead.length = R) {i j : Nat} (hi : i < R) (hj : j < R) : cI s.m i j = idI i j := by
  have := h.unitc j (by omega) i hi
  rw [lead_full h hL hj] at this
  unfold cI idI
  rw [this]
  split <;> rfl
/-- Det is the determinant -/
theorem det_lap {p R : Nat} {m : List (List Nat)} (hok : Ok p m R R) : Eqm p (lap R (cI (el m))) (det p m R : Nat) := by
  have hlt : ∀ i, i < R → ∀ j, j < R → el m i j < p := fun i hi j hj => hok.el_lt hi hj
  have h1 := red_alt hok.isp (lap_is p R) hlt (Nat.le_refl _) R (Nat.le_refl _)
  have hinv := red_inv hok.isp hlt R (Nat.le_refl _)
  unfold det rd
  obtain ⟨s, es⟩ : ∃ s, red p R (el m) R = s := ⟨_, rfl⟩
  rw [es] at h1 hinv ⊢
  refine h1.trans ?_
  split
  · rename_i hL
    have hz := (lap_is p R).zero (m := cI s.m) hL fun j hj => Eqm.of_eq (by unfold cI; rw [hinv.zero _ (Nat.le_refl _) hL j hj]; rfl)
    have := hz.mulL (s.d : Int)
    simpa using this
  · rename_i hL
    have hL' : s.lead.length = R := by have := hinv.len; omega
    have hc := (lap_is p R).congr (cI s.m) idI fun i hi j hj => Eqm.of_eq (red_id hinv hL' hi hj)
    rw [lap_id] at hc
    have := hc.mulL (s.d : Int)
    simpa using this
theorem mul_isOk {p R : Nat} {a b : List (List Nat)} (hok : Ok p a R R) : Ok p (mul p a b R R R) R R := by
  have h3 := (pos_of hok.isp).1
  unfold mul
  exact ⟨hok.isp, tabMM_len _ _ _, hok.R1, hok.R64, hok.R1, hok.R64, fun i hi => by rw [tabMM_at _ _ hi, tabM_len], fun i hi => by
    rw [tabMM_at _ _ hi]
    exact within_tabM fun j hj => Nat.mod_lt _ (by omega)⟩
theorem mul_lap {p R : Nat} {a b : List (List Nat)} : Eqm p (lap R (cI (el (mul p a b R R R)))) (lap R (mulI (cI (el a)) (cI (el b)) R)) := by
  refine lap_congr R _ _ fun i hi j hj => ?_
  unfold cI mulI
  unfold mul
  rw [tabMM_el _ hi hj]
  unfold mulF
  refine (eqm_natmod p _).trans (Eqm.of_eq ?_)
  rw [dotK_sum']
  refine sumI_congr R fun c hc => ?_
  unfold col
  rw [tabM_at _ hc]
  rfl
theorem det_lt {p R : Nat} {m : List (List Nat)} (hok : Ok p m R R) : det p m R < p := by
  have hinv := red_inv hok.isp (m := el m) (fun i hi j hj => hok.el_lt hi hj) R (Nat.le_refl _)
  have h3 := (pos_of hok.isp).1
  unfold det rd
  split
  · omega
  · exact hinv.dlt
/-- the determinant of a product -/
theorem det_mul {p R : Nat} {a b : List (List Nat)} (ha : Ok p a R R) (hb : Ok p b R R) : det p (mul p a b R R R) R = det p a R * det p b R % p := by
  have hlt : ∀ i, i < R → ∀ j, j < R → el a i j < p := fun i hi j hj => ha.el_lt hi hj
  have h0 := det_lap (mul_isOk (b := b) ha)
  have h1 := red_alt ha.isp (alt_mul p R (cI (el b))) hlt (Nat.le_refl _) R (Nat.le_refl _)
  have hinv := red_inv ha.isp hlt R (Nat.le_refl _)
  have hbl := det_lap hb
  have hmain : Eqm p (lap R (mulI (cI (el a)) (cI (el b)) R)) ((det p a R * det p b R : Nat) : Int) := by
    unfold det at hbl ⊢
    unfold rd at hbl ⊢
    rw [Int.natCast_mul]
    obtain ⟨s, es⟩ : ∃ s, red p R (el a) R = s := ⟨_, rfl⟩
    rw [es] at h1 hinv ⊢
    refine h1.trans ?_
    by_cases hL : s.lead.length < R
    · rw [if_pos hL]
      have hz := (alt_mul p R (cI (el b))).zero (m := cI s.m) hL fun j hj => Eqm.of_eq (by unfold cI; rw [hinv.zero _ (Nat.le_refl _) hL j hj]; rfl)
      have := hz.mulL (s.d : Int)
      simpa using this
    · rw [if_neg hL]
      have hL' : s.lead.length = R := by have := hinv.len; omega
      have hc := (alt_mul p R (cI (el b))).congr (cI s.m) idI fun i hi j hj => Eqm.of_eq (red_id hinv hL' hi hj)
      have hid : Eqm p (lap R (mulI idI (cI (el b)) R)) (lap R (cI (el b))) := lap_congr R _ _ fun i hi j hj => Eqm.of_eq (by
        unfold mulI
        rw [sumI_one (a := i) R hi]
        · simp [idI]
        · intro c hc hne
          simp [idI, Ne.symm hne])
      exact ((hc.trans hid).trans hbl).mulL (s.d : Int)
  have hall := (h0.symm.trans mul_lap).trans hmain
  have := eqm_mod_eq' hall
  rw [Nat.mod_eq_of_lt (det_lt (mul_isOk ha))] at this
  exact this
/-- as many columns as pivots and columns without -/
theorem rank_null {p R K : Nat} {m0 : Mx} {s : Rd} (h : Inv p R K m0 K s) : s.lead.length + (frees s.lead K).length = K := by
  have key : ∀ c, ∃ a, a ≤ s.lead.length ∧ a + (frees s.lead c).length = c ∧ (∀ i, i < a → s.lead.getD i 0 < c) ∧ (∀ i, a ≤ i → i < s.lead.length → c ≤ s.lead.getD i 0) := by
    intro c
    induction c with
    | zero => exact ⟨0, by omega, rfl, fun i hi => absurd hi (by omega), fun i _ _ => Nat.zero_le _⟩
    | succ c ih =>
      obtain ⟨a, ha, hs, hlo, hhi⟩ := ih
      rw [frees_succ]
      by_cases e : a < s.lead.length ∧ s.lead.getD a 0 = c
      · refine ⟨a + 1, by omega, ?_, fun i hi => ?_, fun i h1 h2 => ?_⟩
        · rw [show s.lead.contains c = true by rw [← e.2]; exact contains_at e.1, if_pos rfl, List.append_nil]; omega
        · by_cases e2 : i = a
          · rw [e2, e.2]; omega
          · have := hlo i (by omega); omega
        · have := h.sorted a i (by omega) h2
          rw [e.2] at this; omega
      · have hgt : ∀ i, a ≤ i → i < s.lead.length → c < s.lead.getD i 0 := fun i h1 h2 => by
          have h3 := hhi i h1 h2
          by_cases e2 : i = a
          · subst e2
            have : s.lead.getD i 0 ≠ c := fun h => e ⟨h2, h⟩
            omega
          · have h4 := h.sorted a i (by omega) h2
            have h5 := hhi a (Nat.le_refl _) (by omega)
            omega
        refine ⟨a, ha, ?_, fun i hi => ?_, fun i h1 h2 => hgt i h1 h2⟩
        · rw [contains_no (l := s.lead) (c := c) (fun i hi => by
            by_cases e2 : i < a
            · have := hlo i e2; omega
            · have := hgt i (by omega) hi; omega), if_neg (by simp), List.length_append]
          simp; omega
        · have := hlo i hi; omega
  obtain ⟨a, ha, hs, hlo, hhi⟩ := key K
  by_cases e : a < s.lead.length
  · have h1 := hhi a (Nat.le_refl _) e
    have h2 := h.ltk a e
    omega
  · omega
end Go.Proofs.Ytaaipcdipdkooaa.M
