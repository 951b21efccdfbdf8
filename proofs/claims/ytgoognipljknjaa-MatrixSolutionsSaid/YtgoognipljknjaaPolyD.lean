/-
  Polynomials modulo a prime: division and its uniqueness, common divisors, interpolation and its uniqueness. No program.
-/
import Derived.Test.YtgoognipljknjaaPolyM
namespace Go.Proofs.Ytgoognipljknjaa.M
set_option linter.unusedVariables false

/-! ### Differences, as integers -/
def subZ : List Nat → List Nat → List Int
  | [], [] => []
  | a :: s, [] => (a : Int) :: subZ s []
  | [], b :: t => -(b : Int) :: subZ [] t
  | a :: s, b :: t => ((a : Int) - b) :: subZ s t
theorem subZ_len : ∀ l m : List Nat, (subZ l m).length = max l.length m.length
  | [], [] => by simp [subZ]
  | a :: s, [] => by simp [subZ, subZ_len s []]
  | [], b :: t => by simp [subZ, subZ_len [] t]
  | a :: s, b :: t => by simp only [subZ, List.length_cons, subZ_len s t]; omega
theorem subZ_ev (x : Nat) : ∀ l m : List Nat, ev (x : Int) (subZ l m) = (evN x l : Int) - evN x m
  | [], [] => by simp [subZ, ev, evN]
  | a :: s, [] => by
    have := subZ_ev x s []
    simp only [subZ, ev, evN, this, Int.natCast_add, Int.natCast_mul, Int.mul_sub]; omega
  | [], b :: t => by
    have := subZ_ev x [] t
    simp only [subZ, ev, evN, this, Int.natCast_add, Int.natCast_mul, Int.mul_sub]; omega
  | a :: s, b :: t => by
    have := subZ_ev x s t
    simp only [subZ, ev, evN, this, Int.natCast_add, Int.natCast_mul, Int.mul_sub]; omega
theorem subZ_mem {p : Int} : ∀ l m : List Nat, (∀ x ∈ subZ l m, p ∣ x) → ∀ i, p ∣ (l.getD i 0 : Int) - (m.getD i 0 : Nat)
  | [], [], _, i => by simp
  | a :: s, [], h, 0 => by simpa using h a (by simp [subZ])
  | a :: s, [], h, i + 1 => by simpa using subZ_mem s [] (fun x hx => h x (by simp [subZ, hx])) i
  | [], b :: t, h, 0 => by simpa using h (-(b : Int)) (by simp [subZ])
  | [], b :: t, h, i + 1 => by simpa using subZ_mem [] t (fun x hx => h x (by simp [subZ, hx])) i
  | a :: s, b :: t, h, 0 => by simpa using h ((a : Int) - b) (by simp [subZ])
  | a :: s, b :: t, h, i + 1 => by simpa using subZ_mem s t (fun x hx => h x (by simp [subZ, hx])) i
theorem nat_eq_of_dvd {p a b : Nat} (ha : a < p) (hb : b < p) (h : (p : Int) ∣ (a : Int) - b) : a = b := by
  have := mod_eq_int.2 h
  rwa [Nat.mod_eq_of_lt ha, Nat.mod_eq_of_lt hb] at this
def mulZ : List Int → (Nat → Int) → Nat → Int
  | [], _, _ => 0
  | a :: _, g, 0 => a * g 0
  | a :: t, g, k + 1 => a * g (k + 1) + mulZ t g k
theorem subZ_mulZ (g : Nat → Nat) : ∀ (l m : List Nat) (k : Nat), mulZ (subZ l m) (fun i => (g i : Int)) k = (mulAt l g k : Int) - mulAt m g k
  | [], [], k => by simp [subZ, mulZ, mulAt]
  | a :: s, [], 0 => by simp [subZ, mulZ, mulAt]
  | a :: s, [], k + 1 => by
    have := subZ_mulZ g s [] k
    simp only [subZ, mulZ, mulAt, this, Int.natCast_add, Int.natCast_mul]; omega
  | [], b :: t, 0 => by simp only [subZ, mulZ, mulAt, Int.natCast_mul, Int.neg_mul]; omega
  | [], b :: t, k + 1 => by
    have := subZ_mulZ g [] t k
    simp only [subZ, mulZ, mulAt, this, Int.natCast_add, Int.natCast_mul, Int.neg_mul]; omega
  | a :: s, b :: t, 0 => by simp only [subZ, mulZ, mulAt, Int.natCast_mul, Int.sub_mul]
  | a :: s, b :: t, k + 1 => by
    have := subZ_mulZ g s t k
    simp only [subZ, mulZ, mulAt, this, Int.natCast_add, Int.natCast_mul, Int.sub_mul]; omega
theorem mulZ_dvd {p : Int} (g : Nat → Int) : ∀ (c : List Int), (∀ x ∈ c, p ∣ x) → ∀ k, p ∣ mulZ c g k
  | [], _, k => by simp [mulZ]
  | a :: t, h, 0 => by simp only [mulZ]; exact Int.dvd_mul_of_dvd_left (h a (by simp))
  | a :: t, h, k + 1 => by
    simp only [mulZ]
    exact Int.dvd_add (Int.dvd_mul_of_dvd_left (h a (by simp))) (mulZ_dvd g t (fun x hx => h x (by simp [hx])) k)
/-- a multiple of g whose coefficients vanish from g's degree on is zero -/
theorem mulZ_lead {p : Nat} (hi : isP p = true) (g : Nat → Int) (m : Nat) (hg : ∀ i, m < i → g i = 0) (hm : ¬ (p : Int) ∣ g m) : ∀ (c : List Int), (∀ i, m ≤ i → (p : Int) ∣ mulZ c g i) → ∀ x ∈ c, (p : Int) ∣ x
  | [], _ => by simp
  | a :: t, h => by
    have ht := mulZ_lead hi g m hg hm t (fun i hi => by
      have := h (i + 1) (by omega)
      simp only [mulZ, hg (i + 1) (by omega)] at this
      simpa using this)
    have ha : (p : Int) ∣ a := by
      have h0 := h m (Nat.le_refl _)
      have h1 : (p : Int) ∣ a * g m := by
        cases m with
        | zero => simpa [mulZ] using h0
        | succ m =>
          simp only [mulZ] at h0
          exact (Int.dvd_iff_dvd_of_dvd_add h0).2 (mulZ_dvd g t ht m)
      rcases prime_mul_int hi h1 with h2 | h2
      · exact h2
      · exact absurd h2 hm
    intro x hx
    rcases List.mem_cons.1 hx with rfl | hx
    · exact ha
    · exact ht x hx

/-! ### Division with remainder -/
/-- f is q times g plus r, modulo p, and r is shorter than g -/
def IsDiv (p : Nat) (f g q r : List Nat) : Prop :=
  within p q = true ∧ trim q = q ∧ within p r = true ∧ trim r = r ∧ r.length < g.length ∧ ∀ i, f.getD i 0 % p = (mulAt q (at_ g) i + r.getD i 0) % p
/-- a list whose last number is not zero, all below p -/
def Lead (p : Nat) (g : List Nat) : Prop := within p g = true ∧ 0 < g.length ∧ g.getD (g.length - 1) 0 ≠ 0
theorem lead_of {p : Nat} {g : List Nat} (h : within p g = true) (hg : trim g = g) (h0 : 0 < g.length) : Lead p g := ⟨h, h0, trim_self_last hg h0⟩
theorem Lead.not_dvd {p : Nat} {g : List Nat} (h : Lead p g) : ¬ (p : Int) ∣ (at_ g (g.length - 1) : Int) := by
  obtain ⟨h1, h2, h3⟩ := h
  intro hd
  have h4 := within_mem h1 (k := g.length - 1) (by omega)
  have h5 : p ∣ at_ g (g.length - 1) := Int.ofNat_dvd.1 hd
  have := Nat.eq_zero_of_dvd_of_lt h5 h4
  exact h3 this
theorem ext_red {p : Nat} (hp : 0 < p) {l m : List Nat} (hl : within p l = true) (hm : within p m = true) (tl : trim l = l) (tm : trim m = m) (h : ∀ i, l.getD i 0 % p = m.getD i 0 % p) : l = m := by
  rw [← tl, ← tm]
  apply trim_congr
  intro i
  have := h i
  rwa [Nat.mod_eq_of_lt (within_getD hp hl i), Nat.mod_eq_of_lt (within_getD hp hm i)] at this
theorem isDiv_unique {p : Nat} (hi : isP p = true) {f f' g q r q' r' : List Nat} (hg : Lead p g) (hf : ∀ i, f.getD i 0 % p = f'.getD i 0 % p) (h : IsDiv p f g q r) (h' : IsDiv p f' g q' r') : q = q' ∧ r = r' := by
  obtain ⟨a1, a2, a3, a4, a5, a6⟩ := h
  obtain ⟨b1, b2, b3, b4, b5, b6⟩ := h'
  have hp : 0 < p := by have := pos_of hi; omega
  have hz := mulZ_lead hi (fun i => (at_ g i : Int)) (g.length - 1) (fun i hi => by rw [show at_ g i = 0 from getD_ge (by omega)]; rfl) hg.not_dvd (subZ q q') (fun i hi => by
    have e := a6 i
    rw [hf, b6, getD_ge (l := r) (by omega), getD_ge (l := r') (by omega)] at e
    have := mod_eq_int.1 e.symm
    rw [subZ_mulZ]
    simpa using this)
  have hq : q = q' := ext_red hp a1 b1 a2 b2 fun i => mod_eq_int.2 (subZ_mem q q' hz i)
  subst hq
  refine ⟨rfl, ext_red hp a3 b3 a4 b4 fun i => ?_⟩
  have e := a6 i
  rw [hf, b6] at e
  have h1 := mod_eq_int.1 e
  apply mod_eq_int.2
  have h2 : ((mulAt q (at_ g) i + r'.getD i 0 : Nat) : Int) - ((mulAt q (at_ g) i + r.getD i 0 : Nat) : Int) = (r'.getD i 0 : Int) - (r.getD i 0 : Nat) := by
    rw [Int.natCast_add, Int.natCast_add]; omega
  rw [h2] at h1
  have := Int.dvd_neg.2 h1
  rwa [Int.neg_sub] at this

/-! ### Divisors -/
/-- h is a multiple of d, modulo p -/
def Dv (p : Nat) (d : List Nat) (h : Nat → Nat) : Prop := ∃ c : List Nat, ∀ i, h i % p = mulAt c (at_ d) i % p
theorem Dv.congr {p : Nat} {d : List Nat} {h k : Nat → Nat} (hh : Dv p d h) (e : ∀ i, k i % p = h i % p) : Dv p d k := by
  obtain ⟨c, hc⟩ := hh
  exact ⟨c, fun i => (e i).trans (hc i)⟩
theorem Dv.zero (p : Nat) (d : List Nat) : Dv p d (fun _ => 0) := ⟨[], fun i => by simp [mulAt]⟩
theorem Dv.add {p : Nat} {d : List Nat} {h k : Nat → Nat} (hh : Dv p d h) (hk : Dv p d k) : Dv p d (fun i => h i + k i) := by
  obtain ⟨c, hc⟩ := hh
  obtain ⟨e, he⟩ := hk
  exact ⟨addL c e, fun i => by rw [addL_mulAt, Nat.add_mod, hc, he, ← Nat.add_mod]⟩
theorem Dv.smul {p : Nat} {d : List Nat} {h : Nat → Nat} (a : Nat) (hh : Dv p d h) : Dv p d (fun i => a * h i) := by
  obtain ⟨c, hc⟩ := hh
  exact ⟨c.map (a * ·), fun i => by rw [smul_mulAt, Nat.mul_mod, hc, ← Nat.mul_mod]⟩
def sh (h : Nat → Nat) : Nat → Nat
  | 0 => 0
  | i + 1 => h i
theorem Dv.sh {p : Nat} {d : List Nat} {h : Nat → Nat} (hh : Dv p d h) : Dv p d (sh h) := by
  obtain ⟨c, hc⟩ := hh
  refine ⟨0 :: c, fun i => ?_⟩
  cases i with
  | zero => simp [mulAt, M.sh]
  | succ i => simp only [mulAt, M.sh, Nat.zero_mul, Nat.zero_add]; exact hc i
theorem mulAt_cons (a : Nat) (t : List Nat) (g : Nat → Nat) (i : Nat) : mulAt (a :: t) g i = a * g i + sh (mulAt t g) i := by
  cases i with
  | zero => simp [mulAt, sh]
  | succ i => simp [mulAt, sh]
theorem Dv.mul {p : Nat} {d : List Nat} {h : Nat → Nat} (hh : Dv p d h) : ∀ q : List Nat, Dv p d (mulAt q h)
  | [] => Dv.zero p d
  | a :: t => ((hh.smul a).add (Dv.mul hh t).sh).congr fun i => by rw [mulAt_cons]
theorem Dv.self (p : Nat) (d : List Nat) : Dv p d (at_ d) := ⟨[1], fun i => by cases i <;> simp [mulAt]⟩
theorem Dv.trans {p : Nat} {d e : List Nat} {h : Nat → Nat} (h1 : Dv p d (at_ e)) (h2 : Dv p e h) : Dv p d h := by
  obtain ⟨c, hc⟩ := h2
  exact (h1.mul c).congr hc
theorem within_mod {p : Nat} (hp : 0 < p) (l : List Nat) : within p (l.map (· % p)) = true := by
  apply within_of
  intro i hi
  rw [List.getD_eq_getElem?_getD]
  simp only [List.getElem?_map]
  have : i < l.length := by simpa using hi
  simp [this, Nat.mod_lt _ hp]
theorem map_mod_get (p : Nat) (l : List Nat) (i : Nat) : (l.map (· % p)).getD i 0 = l.getD i 0 % p := by
  simp only [List.getD_eq_getElem?_getD, List.getElem?_map]
  cases l[i]? <;> simp
/-- what divides leaves nothing -/
theorem isDiv_of_dv {p : Nat} (hi : isP p = true) {f d q r : List Nat} (hd : Lead p d) (h : Dv p d (at_ f)) (hq : IsDiv p f d q r) : r = [] := by
  have hp : 0 < p := by have := pos_of hi; omega
  obtain ⟨c, hc⟩ := h
  have h' : IsDiv p f d (trim (c.map (· % p))) [] := by
    refine ⟨within_trim (within_mod hp c), trim_trim _, rfl, rfl, hd.2.1, fun i => ?_⟩
    have e : mulAt (trim (c.map (· % p))) (at_ d) i % p = mulAt c (at_ d) i % p := mulAt_mod _ _ _ _ (fun i => by rw [trim_get, map_mod_get, Nat.mod_mod]) (fun _ => rfl) i
    have := hc i
    unfold at_ at this e ⊢
    rw [this]; simpa using e.symm
  exact (isDiv_unique hi hd (fun _ => rfl) hq h').2

/-! ### The algorithm of Euclid -/
/-- from f and g the divisions lead to d -/
inductive Euc (p : Nat) : List Nat → List Nat → List Nat → Prop
  | done (f : List Nat) : Euc p f [] f
  | step {f g q r d : List Nat} (hg : Lead p g) (h : IsDiv p f g q r) (hd : Euc p g r d) : Euc p f g d
theorem Euc.unique {p : Nat} (hi : isP p = true) {f g d d' : List Nat} (h : Euc p f g d) : Euc p f g d' → d = d' := by
  induction h with
  | done f => intro h'; cases h' with
    | done => rfl
    | step hg _ _ => exact absurd hg.2.1 (by simp)
  | step hg h hd ih => intro h'; cases h' with
    | done => exact absurd hg.2.1 (by simp)
    | step hg' h2 hd' =>
      obtain ⟨rfl, rfl⟩ := isDiv_unique hi hg (fun _ => rfl) h h2
      exact ih hd'
theorem Euc.dv {p : Nat} {f g d : List Nat} (h : Euc p f g d) : Dv p d (at_ f) ∧ Dv p d (at_ g) := by
  induction h with
  | done f => exact ⟨Dv.self _ _, (Dv.zero _ _).congr fun i => by simp [at_]⟩
  | @step f g q r d hg h hd ih =>
    obtain ⟨i1, i2⟩ := ih
    exact ⟨((i1.mul q).add i2).congr fun i => h.2.2.2.2.2 i, i1⟩
/-- the greatest common divisor with leading coefficient 1 -/
def monic (p : Nat) (d : List Nat) : List Nat := pscale p d (pw p (d.getD (d.length - 1) 0) (p - 2))
theorem monic_dv {p : Nat} (hi : isP p = true) {d : List Nat} (hd : Lead p d) : Dv p (monic p d) (at_ d) := by
  obtain ⟨k, hk⟩ : ∃ k, k = d.getD (d.length - 1) 0 := ⟨_, rfl⟩
  have hp : 0 < p := by have := pos_of hi; omega
  refine ⟨[k], fun i => ?_⟩
  have e : mulAt [k] (at_ (monic p d)) i = k * (monic p d).getD i 0 := by cases i <;> simp [mulAt, at_]
  have h1 := within_mem hd.1 (k := d.length - 1) (by have := hd.2.1; omega)
  have h2 := hd.2.2
  rw [← hk] at h1 h2
  have hinv : pw p k (p - 2) * k % p = 1 := by
    unfold pw; rw [Nat.mod_mul_mod]; exact inv_mul hi (by rw [Nat.mod_eq_of_lt h1]; exact h2)
  rw [e, Nat.mul_mod, show (monic p d).getD i 0 % p = d.getD i 0 * pw p k (p - 2) % p by unfold monic; rw [pscale_get, hk], ← Nat.mul_mod, ← Nat.mul_assoc, Nat.mul_comm k, Nat.mul_assoc, Nat.mul_comm k, Nat.mul_mod, hinv, Nat.mul_one, Nat.mod_mod]
  rfl
theorem monic_lead {p : Nat} (hi : isP p = true) {d : List Nat} (hd : Lead p d) : Lead p (monic p d) ∧ (monic p d).length = d.length := by
  obtain ⟨k, hk⟩ : ∃ k, k = d.getD (d.length - 1) 0 := ⟨_, rfl⟩
  have hp : 3 ≤ p := by have := pos_of hi; omega
  have h0 := hd.2.1
  have h1 := within_mem hd.1 (k := d.length - 1) (by omega)
  have h2 := hd.2.2
  rw [← hk] at h1 h2
  have hinv : k * pw p k (p - 2) % p = 1 := by
    rw [Nat.mul_comm]; unfold pw; rw [Nat.mod_mul_mod]; exact inv_mul hi (by rw [Nat.mod_eq_of_lt h1]; exact h2)
  have hl : (rowOf p d.length fun i => d.getD i 0 * pw p k (p - 2)).getD (d.length - 1) 0 = 1 := by
    rw [row_get, if_pos (by omega), ← hk]; exact hinv
  have ht : monic p d = rowOf p d.length fun i => d.getD i 0 * pw p k (p - 2) := by
    unfold monic pscale poly
    rw [← hk]
    exact trim_of_last (.inr (by rw [row_len, hl]; omega))
  refine ⟨⟨poly_within (by omega) _ _, ?_, ?_⟩, ?_⟩
  · rw [ht, row_len]; exact h0
  · rw [ht, row_len, hl]; omega
  · rw [ht, row_len]

/-! ### Few roots -/
theorem evN_int (x : Nat) : ∀ l : List Nat, (evN x l : Int) = ev x (l.map fun (a : Nat) => (a : Int))
  | [] => rfl
  | a :: t => by simp only [evN, List.map_cons, ev, ← evN_int x t, Int.natCast_add, Int.natCast_mul]
theorem not_dvd_of_ne {p x y : Nat} (hx : x < p) (hy : y < p) (h : x ≠ y) : ¬ (p : Int) ∣ (y : Int) - x := fun hd => h (nat_eq_of_dvd hy hx hd).symm
/-- two polynomials that agree at as many places as they have coefficients are equal -/
theorem agree {p : Nat} (hi : isP p = true) {f g xs : List Nat} (hf : within p f = true) (hg : within p g = true) (tf : trim f = f) (tg : trim g = g) (hd : xs.Nodup) (hx : within p xs = true)
    (hlf : f.length ≤ xs.length) (hlg : g.length ≤ xs.length) (h : ∀ x ∈ xs, pev p f x = pev p g x) : f = g := by
  have hp : 0 < p := by have := pos_of hi; omega
  have hw : ∀ x ∈ xs, x < p := by
    intro x hx'
    unfold within at hx
    simpa using List.all_eq_true.1 hx x hx'
  have hr := few_roots hi (xs.map fun (a : Nat) => (a : Int)) (subZ f g) (by
    rw [List.pairwise_map]
    exact List.Pairwise.imp_of_mem (fun {a b} ha hb hab => not_dvd_of_ne (hw a ha) (hw b hb) hab) hd) (by
    intro y hy
    obtain ⟨x, hx', rfl⟩ := List.mem_map.1 hy
    rw [subZ_ev]
    exact mod_eq_int.1 (h x hx')) (by rw [subZ_len, List.length_map]; omega)
  exact ext_red hp hf hg tf tg fun i => mod_eq_int.2 (subZ_mem f g hr i)
theorem pev_nil (p x : Nat) : pev p [] x = 0 := by simp [pev, evN]
/-- a polynomial that is zero at as many places as it has coefficients is the zero polynomial -/
theorem no_more_roots {p : Nat} (hi : isP p = true) {f xs : List Nat} (hf : within p f = true) (tf : trim f = f) (hd : xs.Nodup) (hx : within p xs = true) (hl : f.length ≤ xs.length) (h : ∀ x ∈ xs, pev p f x = 0) : f = [] :=
  agree hi hf rfl tf rfl hd hx hl (by simp) fun x hx' => by rw [h x hx', pev_nil]

/-! ### Interpolation -/
/-- f goes through the points (xs[i], ys[i]) and is shorter than they are many, or as long -/
def Thru (p : Nat) (xs ys : List Nat) (f : List Nat) : Prop :=
  within p f = true ∧ trim f = f ∧ f.length ≤ xs.length ∧ ∀ i, i < xs.length → pev p f (xs.getD i 0) = ys.getD i 0
theorem Thru.unique {p : Nat} (hi : isP p = true) {xs ys f g : List Nat} (hd : xs.Nodup) (hx : within p xs = true) (h : Thru p xs ys f) (h' : Thru p xs ys g) : f = g := by
  obtain ⟨a1, a2, a3, a4⟩ := h
  obtain ⟨b1, b2, b3, b4⟩ := h'
  refine agree hi a1 b1 a2 b2 hd hx a3 b3 fun x hx' => ?_
  obtain ⟨i, hi, rfl⟩ := List.getElem_of_mem hx'
  have e1 := a4 i hi
  have e2 := b4 i hi
  rw [getD_lt hi] at e1 e2
  rw [e1, e2]
end Go.Proofs.Ytgoognipljknjaa.M
