/-
  Plain mathematics for layer 1: primes, Fermat's theorem, few roots, Euler's criterion. No Go in sight.
-/
namespace Go.Proofs.Ytgoognipljknjaa.M

/-- no divisor from 2 up to the root, tested below 300 -/
def noDiv (p : Nat) : Bool := (List.range 300).all (fun d => decide (d < 2) || decide (p < d * d) || !(p % d == 0))
def isP (p : Nat) : Bool := decide (3 ≤ p) && decide (p ≤ 65537) && noDiv p

theorem noDiv_iff (p : Nat) (hp : p ≤ 65537) : noDiv p = true ↔ ∀ d, 2 ≤ d → d * d ≤ p → p % d ≠ 0 := by
  unfold noDiv
  rw [List.all_eq_true]
  constructor
  · intro h d h2 hd
    have hlt : d < 300 := by
      by_cases hc : d < 300
      · exact hc
      · have : 300 * 300 ≤ d * d := Nat.mul_le_mul (by omega) (by omega)
        omega
    have := h d (List.mem_range.2 hlt)
    simp at this
    omega
  · intro h d _
    by_cases h2 : d < 2
    · simp [h2]
    · by_cases hd : p < d * d
      · simp [hd]
      · have := h d (by omega) (by omega)
        simp [this]

theorem isP_iff (p : Nat) : isP p = true ↔ 3 ≤ p ∧ p ≤ 65537 ∧ ∀ d, 2 ≤ d → d * d ≤ p → p % d ≠ 0 := by
  unfold isP
  by_cases h3 : 3 ≤ p
  · by_cases hp : p ≤ 65537
    · simp only [h3, hp, decide_true, Bool.true_and, true_and]
      exact noDiv_iff p hp
    · simp [hp]
  · simp [h3]

/-- a prime: every proper divisor is 1 -/
theorem prime_dvd {p : Nat} (h : isP p = true) {d : Nat} (hd : d ∣ p) (h1 : d ≠ 1) : d = p := by
  obtain ⟨h3, hp, hall⟩ := (isP_iff p).1 h
  obtain ⟨m, hm⟩ := hd
  have hd0 : d ≠ 0 := by rintro rfl; simp at hm; omega
  have hm0 : m ≠ 0 := by rintro rfl; simp at hm; omega
  by_cases hm1 : m = 1
  · subst hm1; omega
  · exfalso
    by_cases hle : d * d ≤ p
    · exact hall d (by omega) hle (by rw [hm]; exact Nat.mul_mod_right d m)
    · have hmd : m < d := by
        apply Nat.lt_of_not_le
        intro hc
        have := Nat.mul_le_mul_left d hc
        omega
      have hmm : m * m ≤ p := by
        have := Nat.mul_le_mul_right m (Nat.le_of_lt hmd)
        omega
      exact hall m (by omega) hmm (by rw [hm]; exact Nat.mul_mod_left d m)

theorem prime_coprime {p : Nat} (h : isP p = true) {a : Nat} (ha : a % p ≠ 0) : Nat.Coprime p a := by
  have hg : Nat.gcd p a ∣ p := Nat.gcd_dvd_left p a
  by_cases h1 : Nat.gcd p a = 1
  · exact h1
  · exfalso
    have := prime_dvd h hg h1
    have h2 : Nat.gcd p a ∣ a := Nat.gcd_dvd_right p a
    rw [this] at h2
    exact ha (Nat.mod_eq_zero_of_dvd h2)

theorem prime_mul {p : Nat} (h : isP p = true) {a b : Nat} (hab : a * b % p = 0) : a % p = 0 ∨ b % p = 0 := by
  by_cases ha : a % p = 0
  · exact .inl ha
  · right
    have := (prime_coprime h ha).dvd_of_dvd_mul_left (Nat.dvd_of_mod_eq_zero hab)
    exact Nat.mod_eq_zero_of_dvd this

theorem pos_of {p : Nat} (h : isP p = true) : 3 ≤ p ∧ p ≤ 65537 := by
  have := (isP_iff p).1 h; exact ⟨this.1, this.2.1⟩

theorem odd_of {p : Nat} (h : isP p = true) : p % 2 = 1 := by
  obtain ⟨h3, hp, hall⟩ := (isP_iff p).1 h
  by_cases h4 : 4 ≤ p
  · have := hall 2 (by omega) (by omega); omega
  · obtain rfl : p = 3 := by omega
    rfl

/-- cancelling -/
theorem cancel {p : Nat} (h : isP p = true) {a x y : Nat} (ha : a % p ≠ 0) (hxy : a * x % p = a * y % p) : x % p = y % p := by
  have main : ∀ x y : Nat, x ≤ y → a * x % p = a * y % p → x % p = y % p := by
    intro x y hle he
    have h1 : a * (y - x) % p = 0 := by
      rw [Nat.mul_sub]
      exact Nat.sub_mod_eq_zero_of_mod_eq he.symm
    rcases prime_mul h h1 with h2 | h2
    · exact absurd h2 ha
    · have : y = x + (y - x) := by omega
      rw [this, Nat.add_mod, h2]; simp
  rcases Nat.le_total x y with hle | hle
  · exact main x y hle hxy
  · exact (main y x hle hxy.symm).symm

/-! ### Fermat, by the list of all multiples -/

theorem perm_of_sub {α : Type} [DecidableEq α] : ∀ (l m : List α), l.Nodup → (∀ x ∈ l, x ∈ m) → m.length ≤ l.length → l.Perm m := by
  intro l
  induction l with
  | nil => intro m _ _ hl; have : m = [] := List.eq_nil_of_length_eq_zero (by simpa using hl); subst this; exact .nil
  | cons a l ih =>
    intro m hn hs hl
    have ham : a ∈ m := hs a (by simp)
    have hp : m.Perm (a :: m.erase a) := List.perm_cons_erase ham
    have hn' := List.nodup_cons.1 hn
    refine List.Perm.trans (List.Perm.cons a (ih (m.erase a) hn'.2 ?_ ?_)) hp.symm
    · intro x hx
      have hxa : x ≠ a := by rintro rfl; exact hn'.1 hx
      exact (List.mem_erase_of_ne hxa).2 (hs x (by simp [hx]))
    · have := hp.length_eq; simp at this hl; omega

def prod : List Nat → Nat
  | [] => 1
  | a :: l => a * prod l

theorem prod_perm {l m : List Nat} (h : l.Perm m) : prod l = prod m := by
  induction h with
  | nil => rfl
  | cons a _ ih => simp [prod, ih]
  | swap a b l => simp [prod, Nat.mul_left_comm]
  | trans _ _ ih1 ih2 => exact ih1.trans ih2

theorem prod_map_mul (p a : Nat) : ∀ l : List Nat, prod (l.map fun x => a * x % p) % p = a ^ l.length * prod l % p
  | [] => by simp [prod]
  | x :: l => by
    simp only [List.map_cons, prod, List.length_cons]
    rw [Nat.mul_mod, Nat.mod_mod, prod_map_mul p a l, ← Nat.mul_mod]
    congr 1
    rw [Nat.pow_succ]
    simp only [Nat.mul_assoc, Nat.mul_comm, Nat.mul_left_comm]

theorem prod_ne {p : Nat} (h : isP p = true) : ∀ l : List Nat, (∀ x ∈ l, x % p ≠ 0) → prod l % p ≠ 0
  | [], _ => by
    have := pos_of h
    simp [prod]
    omega
  | x :: l, hl => by
    intro hc
    simp only [prod] at hc
    rcases prime_mul h hc with h1 | h1
    · exact hl x (by simp) h1
    · exact prod_ne h l (fun y hy => hl y (by simp [hy])) h1

def units (p : Nat) : List Nat := (List.range p).tail

theorem mem_units (p x : Nat) : x ∈ units p ↔ 1 ≤ x ∧ x < p := by
  unfold units
  cases p with
  | zero => simp
  | succ n =>
    rw [List.range_succ_eq_map]
    simp
    constructor
    · rintro ⟨a, ha, rfl⟩; omega
    · intro hx; exact ⟨x - 1, by omega, by omega⟩

theorem nodup_map {α β : Type} (f : α → β) : ∀ l : List α, l.Nodup → (∀ x ∈ l, ∀ y ∈ l, f x = f y → x = y) → (l.map f).Nodup
  | [], _, _ => by simp
  | a :: l, hn, hi => by
    have hn' := List.nodup_cons.1 hn
    rw [List.map_cons, List.nodup_cons]
    refine ⟨?_, nodup_map f l hn'.2 (fun x hx y hy => hi x (by simp [hx]) y (by simp [hy]))⟩
    intro hm
    obtain ⟨x, hx, he⟩ := List.mem_map.1 hm
    have := hi x (by simp [hx]) a (by simp) he
    subst this
    exact hn'.1 hx

theorem fermat {p : Nat} (h : isP p = true) {a : Nat} (ha : a % p ≠ 0) : a ^ (p - 1) % p = 1 := by
  have hp := pos_of h
  have hlen : (units p).length = p - 1 := by simp [units]
  have hnod : (units p).Nodup := by unfold units; exact (List.nodup_range (n := p)).sublist (List.tail_sublist _)
  have hne : ∀ x ∈ units p, x % p ≠ 0 := by
    intro x hx
    have := (mem_units p x).1 hx
    rw [Nat.mod_eq_of_lt this.2]; omega
  have hperm : ((units p).map fun x => a * x % p).Perm (units p) := by
    refine perm_of_sub _ _ (nodup_map _ _ hnod ?_) ?_ (by simp)
    · intro x hx y hy he
      have hx' := (mem_units p x).1 hx
      have hy' := (mem_units p y).1 hy
      have := cancel h ha he
      rwa [Nat.mod_eq_of_lt hx'.2, Nat.mod_eq_of_lt hy'.2] at this
    · intro x hx
      obtain ⟨y, hy, rfl⟩ := List.mem_map.1 hx
      refine (mem_units p _).2 ⟨?_, Nat.mod_lt _ (by omega)⟩
      have hy' := hne y hy
      apply Nat.pos_of_ne_zero
      intro hc
      rcases prime_mul h hc with h1 | h1
      · exact ha h1
      · exact hy' h1
  have h1 := prod_map_mul p a (units p)
  rw [prod_perm hperm, hlen] at h1
  have h2 : prod (units p) * a ^ (p - 1) % p = prod (units p) * 1 % p := by
    rw [Nat.mul_one, Nat.mul_comm]; exact h1.symm
  have := cancel h (prod_ne h _ hne) h2
  rw [this, Nat.mod_eq_of_lt (by omega)]

theorem fermat_all {p : Nat} (h : isP p = true) (a : Nat) : a ^ p % p = a % p := by
  have hp := pos_of h
  have hs : a ^ p = a ^ (p - 1) * a := by rw [← Nat.pow_succ]; congr 1; omega
  by_cases ha : a % p = 0
  · rw [hs, Nat.mul_mod, ha]; simp
  · rw [hs, Nat.mul_mod, fermat h ha]; simp

/-- the inverse by Fermat -/
theorem inv_mul {p : Nat} (h : isP p = true) {a : Nat} (ha : a % p ≠ 0) : a ^ (p - 2) * a % p = 1 := by
  have hp := pos_of h
  rw [← Nat.pow_succ, show (p - 2).succ = p - 1 by omega]
  exact fermat h ha


/-! ### A polynomial has no more roots than its degree -/
def ev (x : Int) : List Int → Int
  | [] => 0
  | a :: l => a + x * ev x l

def sufs (r : Int) : List Int → List Int
  | [] => []
  | b :: t => ev r (b :: t) :: sufs r t

theorem sufs_len (r : Int) : ∀ t, (sufs r t).length = t.length
  | [] => rfl
  | _ :: t => by simp [sufs, sufs_len r t]

theorem sufs_ev (r x : Int) : ∀ t, x * ev x t - r * ev r t = (x - r) * ev x (sufs r t)
  | [] => by simp [ev, sufs]
  | b :: t => by
    have ih := sufs_ev r x t
    simp only [ev, sufs]
    generalize ev x t = A at *
    generalize ev r t = B at *
    generalize ev x (sufs r t) = C at *
    have e : (x - r) * (x * C) = x * (x * A - r * B) := by rw [ih]; simp only [Int.mul_left_comm]
    simp only [Int.mul_add, Int.sub_mul, Int.mul_sub] at e ⊢
    simp only [Int.mul_left_comm] at e ⊢
    omega

theorem prime_mul_int {p : Nat} (h : isP p = true) {a b : Int} (hab : (p : Int) ∣ a * b) : (p : Int) ∣ a ∨ (p : Int) ∣ b := by
  have h1 : p ∣ a.natAbs * b.natAbs := by
    rw [← Int.natAbs_mul]; exact Int.ofNat_dvd_left.1 hab
  rcases prime_mul h (Nat.mod_eq_zero_of_dvd h1) with h2 | h2
  · exact .inl (Int.ofNat_dvd_left.2 (Nat.dvd_of_mod_eq_zero h2))
  · exact .inr (Int.ofNat_dvd_left.2 (Nat.dvd_of_mod_eq_zero h2))

/-- from the values at the suffixes back to the coefficients -/
theorem coef_of_sufs (p r : Int) : ∀ t, (∀ y ∈ sufs r t, p ∣ y) → (∀ y ∈ t, p ∣ y) ∧ p ∣ ev r t
  | [], _ => by simp [ev]
  | b :: t, h => by
    obtain ⟨i1, i2⟩ := coef_of_sufs p r t (fun y hy => h y (by simp [sufs, hy]))
    have h0 : p ∣ ev r (b :: t) := h _ (by simp [sufs])
    refine ⟨?_, h0⟩
    intro y hy
    rcases List.mem_cons.1 hy with rfl | hy
    · have h1 : p ∣ r * ev r t := Int.dvd_mul_of_dvd_right i2
      have h2 := Int.dvd_sub h0 h1
      simp only [ev] at h2
      simpa using h2
    · exact i1 y hy

theorem few_roots {p : Nat} (h : isP p = true) : ∀ (l : List Int) (c : List Int), l.Pairwise (fun x y => ¬ (p : Int) ∣ y - x) → (∀ x ∈ l, (p : Int) ∣ ev x c) → c.length ≤ l.length → ∀ a ∈ c, (p : Int) ∣ a
  | _, [], _, _, _ => by simp
  | [], _ :: _, _, _, hl => by simp at hl
  | r :: l, a :: t, hd, hr, hl => by
    have hd' := List.pairwise_cons.1 hd
    have h0 : (p : Int) ∣ ev r (a :: t) := hr r (by simp)
    have hs := few_roots h l (sufs r t) hd'.2 (by
      intro x hx
      have h1 : (p : Int) ∣ ev x (a :: t) := hr x (by simp [hx])
      have h2 := Int.dvd_sub h1 h0
      have e : ev x (a :: t) - ev r (a :: t) = (x - r) * ev x (sufs r t) := by
        have := sufs_ev r x t
        simp only [ev]; omega
      rw [e] at h2
      rcases prime_mul_int h h2 with h3 | h3
      · exact absurd h3 (hd'.1 x hx)
      · exact h3) (by rw [sufs_len]; simpa using hl)
    obtain ⟨i1, i2⟩ := coef_of_sufs p r t hs
    intro y hy
    rcases List.mem_cons.1 hy with rfl | hy
    · have h1 : (p : Int) ∣ r * ev r t := Int.dvd_mul_of_dvd_right i2
      have h2 := Int.dvd_sub h0 h1
      simp only [ev] at h2
      simpa using h2
    · exact i1 y hy

/-! ### Euler's criterion -/
theorem ev_zeros (x : Int) : ∀ k, ev x (List.replicate k 0 ++ [1]) = x ^ k
  | 0 => by simp [ev]
  | k + 1 => by
    simp only [List.replicate_succ, List.cons_append, ev]
    rw [ev_zeros x k, Int.pow_succ, Int.mul_comm]; omega

theorem emod_eq_iff {p a b : Int} : a % p = b % p ↔ p ∣ a - b := by
  rw [Int.dvd_iff_emod_eq_zero, Int.sub_emod]
  constructor
  · intro h; rw [h]; simp
  · intro h
    have h1 : p ∣ a % p - b % p := Int.dvd_of_emod_eq_zero h
    obtain ⟨k, hk⟩ := h1
    have e : a % p = b % p + p * k := by omega
    rw [← Int.emod_emod_of_dvd a (Int.dvd_refl p), e, Int.add_mul_emod_self_left, Int.emod_emod_of_dvd _ (Int.dvd_refl p)]

theorem mod_eq_int {p a b : Nat} : a % p = b % p ↔ (p : Int) ∣ (a : Int) - b := by
  rw [← emod_eq_iff]; omega

theorem sq_inj {p : Nat} (h : isP p = true) {x y : Nat} (hx : 2 * x < p) (hy : 2 * y < p) (he : x * x % p = y * y % p) : x = y := by
  have hp := pos_of h
  have h1 := mod_eq_int.1 he
  have e : ((x * x : Nat) : Int) - ((y * y : Nat) : Int) = ((x : Int) - y) * ((x : Int) + y) := by
    simp only [Int.natCast_mul, Int.sub_mul, Int.mul_add]; rw [Int.mul_comm (y : Int) x]; omega
  rw [e] at h1
  rcases prime_mul_int h h1 with h2 | h2
  · have h3 := Int.ofNat_dvd_left.1 h2
    by_cases hz : ((x : Int) - y).natAbs = 0
    · omega
    · have := Nat.le_of_dvd (Nat.pos_of_ne_zero hz) h3; omega
  · have h3 := Int.ofNat_dvd_left.1 h2
    by_cases hz : ((x : Int) + y).natAbs = 0
    · omega
    · have := Nat.le_of_dvd (Nat.pos_of_ne_zero hz) h3; omega

/-- for a number other than 0: a root exists exactly where the power (p - 1) / 2 is 1 -/
theorem euler {p : Nat} (h : isP p = true) {a : Nat} (ha : a % p ≠ 0) : a ^ ((p - 1) / 2) % p = 1 ↔ ∃ r, 2 * r < p ∧ r * r % p = a % p := by
  have hp := pos_of h
  have ho := odd_of h
  have hk : (p - 1) / 2 + (p - 1) / 2 = p - 1 := by omega
  have sqpow : ∀ r : Nat, r % p ≠ 0 → (r * r) ^ ((p - 1) / 2) % p = 1 := by
    intro r hr
    rw [Nat.mul_pow, ← Nat.pow_add, hk]
    exact fermat h hr
  constructor
  · intro h1
    apply Classical.byContradiction
    intro hno
    have hno' : ∀ r, 2 * r < p → r * r % p ≠ a % p := fun r h1 h2 => hno ⟨r, h1, h2⟩
    -- the roots of x^k - 1: all squares, and a
    let k := (p - 1) / 2
    have hkp : 1 ≤ k := by show 1 ≤ (p - 1) / 2; omega
    let sq : List Int := (List.range k).map fun i => (((i + 1) * (i + 1) : Nat) : Int)
    have hroot : ∀ b : Nat, b ^ k % p = 1 → (p : Int) ∣ ev (b : Int) (-1 :: (List.replicate (k - 1) 0 ++ [1])) := by
      intro b hb
      simp only [ev]
      rw [ev_zeros]
      have e : (b : Int) * (b : Int) ^ (k - 1) = ((b ^ k : Nat) : Int) := by
        rw [← Int.pow_succ', show k - 1 + 1 = k by omega, Int.natCast_pow]
      rw [e]
      have h1' : b ^ k % p = 1 % p := by rw [hb, Nat.mod_eq_of_lt (by omega)]
      have := mod_eq_int.1 h1'
      have e2 : -1 + ((b ^ k : Nat) : Int) = ((b ^ k : Nat) : Int) - ((1 : Nat) : Int) := by omega
      rw [e2]; exact this
    have hall := few_roots h ((a : Int) :: sq) (-1 :: (List.replicate (k - 1) 0 ++ [1])) (by
        rw [List.pairwise_cons]
        refine ⟨?_, ?_⟩
        · intro y hy hd
          obtain ⟨i, hi, rfl⟩ := List.mem_map.1 hy
          have hi' := List.mem_range.1 hi
          exact hno' (i + 1) (by have : k = (p - 1) / 2 := rfl; omega) (mod_eq_int.2 hd)
        · refine List.pairwise_map.2 ?_
          refine List.Pairwise.imp_of_mem ?_ (List.nodup_range (n := k))
          intro x y hx hy hne hd
          have hx' := List.mem_range.1 hx
          have hy' := List.mem_range.1 hy
          have hkd : k = (p - 1) / 2 := rfl
          have := sq_inj h (x := y + 1) (y := x + 1) (by omega) (by omega) (mod_eq_int.2 hd)
          omega)
      (by
        intro x hx
        rcases List.mem_cons.1 hx with rfl | hx
        · exact hroot a h1
        · obtain ⟨i, hi, rfl⟩ := List.mem_map.1 hx
          have hi' := List.mem_range.1 hi
          have hkd : k = (p - 1) / 2 := rfl
          exact hroot _ (sqpow (i + 1) (by rw [Nat.mod_eq_of_lt (by omega)]; omega)))
      (by simp [sq]; omega) 1 (by simp)
    have := Int.ofNat_dvd_left.1 hall
    have := Nat.le_of_dvd (by decide) this
    simp at this
    omega
  · rintro ⟨r, hr, he⟩
    have hr0 : r % p ≠ 0 := by
      intro hc
      rw [Nat.mul_mod, hc] at he
      simp at he; omega
    have := sqpow r hr0
    rw [Nat.pow_mod, ← he, ← Nat.pow_mod]; exact this

/-- the power (p - 1) / 2 is 0 or 1 exactly where a root exists -/
theorem square_iff {p : Nat} (h : isP p = true) {a : Nat} (ha : a < p) : a ^ ((p - 1) / 2) % p ≤ 1 ↔ ∃ r, 2 * r < p ∧ r * r % p = a := by
  have hp := pos_of h
  by_cases h0 : a = 0
  · subst h0
    constructor
    · intro _; exact ⟨0, by omega, by simp⟩
    · intro _; rw [Nat.zero_pow (by omega)]; simp
  · have ha' : a % p ≠ 0 := by rw [Nat.mod_eq_of_lt ha]; exact h0
    have hne : a ^ ((p - 1) / 2) % p ≠ 0 := by
      intro hc
      have := fermat h ha'
      have ho := odd_of h
      rw [show p - 1 = (p - 1) / 2 + (p - 1) / 2 by omega, Nat.pow_add, Nat.mul_mod, hc] at this
      simp at this
    have e := euler h ha'
    rw [Nat.mod_eq_of_lt ha] at e
    rw [← e]; omega


/-- every number from 2 to d - 1 was tried: none divides p -/
def Tried (p d : Nat) : Prop := ∀ e, 2 ≤ e → e < d → p % e ≠ 0
theorem tried_two (p : Nat) : Tried p 2 := fun e h1 h2 => by omega
theorem tried_step {p d : Nat} (h : Tried p d) (hd : p % d ≠ 0) : Tried p (d + 1) := by
  intro e h1 h2
  by_cases he : e = d
  · subst he; exact hd
  · exact h e h1 (by omega)
theorem isP_of_tried {p d : Nat} (h3 : 3 ≤ p) (hp : p ≤ 65537) (h : Tried p d) (hd : p < d * d) : isP p = true := by
  refine (isP_iff p).2 ⟨h3, hp, fun e h1 h2 => h e h1 ?_⟩
  apply Nat.lt_of_not_le
  intro hc
  have := Nat.mul_le_mul hc hc
  omega
theorem isP_not {p d : Nat} (h2 : 2 ≤ d) (hd : d * d ≤ p) (h : p % d = 0) : isP p = false := by
  cases hc : isP p with
  | false => rfl
  | true => exact absurd h (((isP_iff p).1 hc).2.2 d h2 hd)
theorem isP_small {p : Nat} (h : p < 3) : isP p = false := by unfold isP; simp; omega
theorem isP_large {p : Nat} (h : 65537 < p) : isP p = false := by unfold isP; simp; omega

/-! ### The test by the odd primes below 256 -/
def smallPrimes : List Nat := [3, 5, 7, 11, 13, 17, 19, 23, 29, 31, 37, 41, 43, 47, 53, 59, 61, 67, 71, 73, 79, 83, 89, 97, 101, 103, 107, 109, 113, 127, 131, 137, 139, 149, 151, 157, 163, 167, 173, 179, 181, 191, 193, 197, 199, 211, 223, 227, 229, 233, 239, 241, 251]
/-- the answer after the tests by the numbers of l -/
def anyOf (p : Nat) (b : Bool) : List Nat → Bool
  | [] => b
  | q :: l => anyOf p (b || ((p % q : Nat) : Int) == 0) l
theorem anyOf_iff (p : Nat) : ∀ (l : List Nat) (b : Bool), anyOf p b l = true ↔ (b = true ∨ ∃ q ∈ l, p % q = 0)
  | [], b => by simp [anyOf]
  | q :: l, b => by
    rw [anyOf, anyOf_iff p l]
    simp
    constructor
    · rintro ((h | h) | h)
      · exact .inl h
      · exact .inr (.inl (by omega))
      · exact .inr (.inr h)
    · rintro (h | h | h)
      · exact .inl (.inl h)
      · exact .inl (.inr (by omega))
      · exact .inr h
theorem small_covers : (List.range 257).all (fun d => decide (d < 2) || d % 2 == 0 || smallPrimes.any (fun q => d % q == 0)) = true := by decide +kernel
theorem small_range : smallPrimes.all (fun q => decide (2 ≤ q) && decide (q < 256)) = true := by decide +kernel
theorem isP_even {p : Nat} (h3 : 3 ≤ p) (h : p % 2 = 0) : isP p = false := isP_not (d := 2) (by omega) (by omega) h
theorem anyOf_isP {p : Nat} (h : 256 ≤ p) (hp : p ≤ 65537) (ho : p % 2 = 1) : (!anyOf p false smallPrimes) = isP p := by
  cases hc : anyOf p false smallPrimes with
  | true =>
    rcases (anyOf_iff p _ _).1 hc with h1 | ⟨q, hq, h1⟩
    · cases h1
    · have hr := List.all_eq_true.1 small_range q hq
      simp at hr
      cases hi : isP p with
      | false => rfl
      | true =>
        have := prime_dvd hi (Nat.dvd_of_mod_eq_zero h1) (by omega)
        omega
  | false =>
    have hno : ∀ q ∈ smallPrimes, p % q ≠ 0 := by
      intro q hq h1
      have := (anyOf_iff p smallPrimes false).2 (.inr ⟨q, hq, h1⟩)
      rw [hc] at this; cases this
    symm
    refine (isP_iff p).2 ⟨by omega, hp, ?_⟩
    intro d h2 hd h0
    have hlt : d < 257 := by
      apply Nat.lt_of_not_le; intro hge
      have := Nat.mul_le_mul hge hge; omega
    have hcov := List.all_eq_true.1 small_covers d (List.mem_range.2 hlt)
    simp at hcov
    have hdp := Nat.dvd_of_mod_eq_zero h0
    rcases hcov with (h1 | h1) | ⟨q, hq, h1⟩
    · omega
    · have : 2 ∣ p := Nat.dvd_trans (Nat.dvd_of_mod_eq_zero h1) hdp
      omega
    · exact hno q hq (Nat.mod_eq_zero_of_dvd (Nat.dvd_trans (Nat.dvd_of_mod_eq_zero h1) hdp))

/-! ### What the argument checks answer -/
def within (p : Nat) (l : List Nat) : Bool := l.all (fun x => decide (x < p))
def validB (p : Nat) (l : List Nat) : Bool := isP p && within p l
theorem within_take {p k : Nat} {l : List Nat} (hk : k < l.length) (h : within p (l.take k) = true) (hx : l.getD k 0 < p) : within p (l.take (k + 1)) = true := by
  unfold within at *
  rw [List.take_succ_eq_append_getElem hk, List.all_append, h]
  simp [List.getD_eq_getElem?_getD, hk] at hx
  simp [hx]
theorem within_not {p k : Nat} {l : List Nat} (hk : k < l.length) (hx : p ≤ l.getD k 0) : within p l = false := by
  cases hc : within p l with
  | false => rfl
  | true =>
    unfold within at hc
    simp [List.getD_eq_getElem?_getD, hk] at hx
    have := List.all_eq_true.1 hc _ (List.getElem_mem hk)
    simp at this; omega
theorem within_mem {p : Nat} {l : List Nat} (h : within p l = true) {k : Nat} (hk : k < l.length) : l.getD k 0 < p := by
  unfold within at h
  have := List.all_eq_true.1 h _ (List.getElem_mem hk)
  simp [List.getD_eq_getElem?_getD, hk]
  simpa using this

theorem validB_isP {p : Nat} {l : List Nat} (h : validB p l = true) : isP p = true := by unfold validB at h; simp at h; exact h.1
theorem validB_within {p : Nat} {l : List Nat} (h : validB p l = true) : within p l = true := by unfold validB at h; simp at h; exact h.2
theorem valid1_iff {p a : Nat} : validB p [a] = true ↔ isP p = true ∧ a < p := by unfold validB within; simp
theorem valid2_iff {p a b : Nat} : validB p [a, b] = true ↔ isP p = true ∧ a < p ∧ b < p := by unfold validB within; simp
theorem valid3_iff {p a b c : Nat} : validB p [a, b, c] = true ↔ isP p = true ∧ a < p ∧ b < p ∧ c < p := by unfold validB within; simp

/-! ### Powers -/
def pw (p a e : Nat) : Nat := a ^ e % p
def PowInv (p a e r x n : Nat) : Prop := r * x ^ n % p = a ^ e % p
theorem powInv_odd {p a e r x n : Nat} (h : PowInv p a e r x n) (ho : n % 2 = 1) : PowInv p a e (r * x % p) (x * x % p) (n / 2) := by
  unfold PowInv at *
  rw [← h, Nat.mul_mod, Nat.mod_mod, ← Nat.pow_mod, ← Nat.mul_mod]
  have e : n = n / 2 + n / 2 + 1 := by omega
  rw [Nat.mul_pow]
  conv => rhs; rw [e, Nat.pow_succ, Nat.pow_add]
  congr 1
  rw [Nat.mul_comm (x ^ (n / 2) * x ^ (n / 2)) x, Nat.mul_assoc]
theorem powInv_even {p a e r x n : Nat} (h : PowInv p a e r x n) (ho : n % 2 = 0) : PowInv p a e r (x * x % p) (n / 2) := by
  unfold PowInv at *
  rw [← h, Nat.mul_mod, ← Nat.pow_mod, ← Nat.mul_mod]
  have e : n = n / 2 + n / 2 := by omega
  rw [Nat.mul_pow]
  conv => rhs; rw [e, Nat.pow_add]
theorem pw_of_inv {p a e r x : Nat} (h : PowInv p a e r x 0) (hr : r < p) : r = pw p a e := by
  unfold PowInv at h; unfold pw
  rw [Nat.pow_zero, Nat.mul_one, Nat.mod_eq_of_lt hr] at h; exact h
theorem pw_lt {p : Nat} (a e : Nat) (h : 0 < p) : pw p a e < p := Nat.mod_lt _ h
theorem pw_zero {p : Nat} (a : Nat) (h : 2 ≤ p) : pw p a 0 = 1 := by unfold pw; rw [Nat.pow_zero, Nat.mod_eq_of_lt h]
theorem pw_even (p a e : Nat) (ho : e % 2 = 0) : pw p a e = pw p a (e / 2) * pw p a (e / 2) % p := by
  unfold pw
  rw [← Nat.mul_mod, ← Nat.pow_add]; congr 2; omega
theorem pw_odd (p a e : Nat) (ho : e % 2 = 1) : pw p a e = pw p a (e / 2) * pw p a (e / 2) % p * a % p := by
  unfold pw
  rw [← Nat.mul_mod, ← Nat.pow_add, Nat.mul_mod, Nat.mod_mod, ← Nat.mul_mod, ← Nat.pow_succ]; congr 2; omega

end Go.Proofs.Ytgoognipljknjaa.M
