/-
  Math, PolyM, PolyD, ThruM, RootsM, LagM (joined).
-/

namespace Go.Proofs.Ytfkepkdfpjaniaa.M

/-- no divisor from 2 up to the root, tested below 300 -/
def noDiv (p : Nat) : Bool := (List.range 300).all (fun d => decide (d < 2) || decide (p < d * d) || !(p % d == 0))
def isP (p : Nat) : Bool := decide (3 ≤ p) && decide (p ≤ 65537) && noDiv p

theorem noDiv_iff (p : Nat) (hp : p ≤ 65537) : noDiv p = true ↔ ∀ d, 2 ≤ d → d * d ≤ p → p % d ≠ 0 := by
  unfold noDiv
  rw [List.all_eq_true]
  constructor
  · intro h d h2 hd
    have hlt : d < 300 := by
      by_cases hc : d < 300
      · exact hc
      · have : 300 * 300 ≤ d * d := Nat.mul_le_mul (by omega) (by omega)
        omega
    have := h d (List.mem_range.2 hlt)
    simp at this
    omega
  · intro h d _
    by_cases h2 : d < 2
    · simp [h2]
    · by_cases hd : p < d * d
      · simp [hd]
      · have := h d (by omega) (by omega)
        simp [this]

theorem isP_iff (p : Nat) : isP p = true ↔ 3 ≤ p ∧ p ≤ 65537 ∧ ∀ d, 2 ≤ d → d * d ≤ p → p % d ≠ 0 := by
  unfold isP
  by_cases h3 : 3 ≤ p
  · by_cases hp : p ≤ 65537
    · simp only [h3, hp, decide_true, Bool.true_and, true_and]
      exact noDiv_iff p hp
    · simp [hp]
  · simp [h3]

/-- a prime: every proper divisor is 1 -/
theorem prime_dvd {p : Nat} (h : isP p = true) {d : Nat} (hd : d ∣ p) (h1 : d ≠ 1) : d = p := by
  obtain ⟨h3, hp, hall⟩ := (isP_iff p).1 h
  obtain ⟨m, hm⟩ := hd
  have hd0 : d ≠ 0 := by rintro rfl; simp at hm; omega
  have hm0 : m ≠ 0 := by rintro rfl; simp at hm; omega
  by_cases hm1 : m = 1
  · subst hm1; omega
  · exfalso
    by_cases hle : d * d ≤ p
    · exact hall d (by omega) hle (by rw [hm]; exact Nat.mul_mod_right d m)
    · have hmd : m < d := by
        apply Nat.lt_of_not_le
        intro hc
        have := Nat.mul_le_mul_left d hc
        omega
      have hmm : m * m ≤ p := by
        have := Nat.mul_le_mul_right m (Nat.le_of_lt hmd)
        omega
      exact hall m (by omega) hmm (by rw [hm]; exact Nat.mul_mod_left d m)

theorem prime_coprime {p : Nat} (h : isP p = true) {a : Nat} (ha : a % p ≠ 0) : Nat.Coprime p a := by
  have hg : Nat.gcd p a ∣ p := Nat.gcd_dvd_left p a
  by_cases h1 : Nat.gcd p a = 1
  · exact h1
  · exfalso
    have := prime_dvd h hg h1
    have h2 : Nat.gcd p a ∣ a := Nat.gcd_dvd_right p a
    rw [this] at h2
    exact ha (Nat.mod_eq_zero_of_dvd h2)

theorem prime_mul {p : Nat} (h : isP p = true) {a b : Nat} (hab : a * b % p = 0) : a % p = 0 ∨ b % p = 0 := by
  by_cases ha : a % p = 0
  · exact .inl ha
  · right
    have := (prime_coprime h ha).dvd_of_dvd_mul_left (Nat.dvd_of_mod_eq_zero hab)
    exact Nat.mod_eq_zero_of_dvd this

theorem pos_of {p : Nat} (h : isP p = true) : 3 ≤ p ∧ p ≤ 65537 := by
  have := (isP_iff p).1 h; exact ⟨this.1, this.2.1⟩

theorem odd_of {p : Nat} (h : isP p = true) : p % 2 = 1 := by
  obtain ⟨h3, hp, hall⟩ := (isP_iff p).1 h
  by_cases h4 : 4 ≤ p
  · have := hall 2 (by omega) (by omega); omega
  · obtain rfl : p = 3 := by omega
    rfl

/-- cancelling -/
theorem cancel {p : Nat} (h : isP p = true) {a x y : Nat} (ha : a % p ≠ 0) (hxy : a * x % p = a * y % p) : x % p = y % p := by
  have main : ∀ x y : Nat, x ≤ y → a * x % p = a * y % p → x % p = y % p := by
    intro x y hle he
    have h1 : a * (y - x) % p = 0 := by
      rw [Nat.mul_sub]
      exact Nat.sub_mod_eq_zero_of_mod_eq he.symm
    rcases prime_mul h h1 with h2 | h2
    · exact absurd h2 ha
    · have : y = x + (y - x) := by omega
      rw [this, Nat.add_mod, h2]; simp
  rcases Nat.le_total x y with hle | hle
  · exact main x y hle hxy
  · exact (main y x hle hxy.symm).symm

/-! ### Fermat, by the list of all multiples -/

theorem perm_of_sub {α : Type} [DecidableEq α] : ∀ (l m : List α), l.Nodup → (∀ x ∈ l, x ∈ m) → m.length ≤ l.length → l.Perm m := by
  intro l
  induction l with
  | nil => intro m _ _ hl; have : m = [] := List.eq_nil_of_length_eq_zero (by simpa using hl); subst this; exact .nil
  | cons a l ih =>
    intro m hn hs hl
    have ham : a ∈ m := hs a (by simp)
    have hp : m.Perm (a :: m.erase a) := List.perm_cons_erase ham
    have hn' := List.nodup_cons.1 hn
    refine List.Perm.trans (List.Perm.cons a (ih (m.erase a) hn'.2 ?_ ?_)) hp.symm
    · intro x hx
      have hxa : x ≠ a := by rintro rfl; exact hn'.1 hx
      exact (List.mem_erase_of_ne hxa).2 (hs x (by simp [hx]))
    · have := hp.length_eq; simp at this hl; omega

def prod : List Nat → Nat
  | [] => 1
  | a :: l => a * prod l

theorem prod_perm {l m : List Nat} (h : l.Perm m) : prod l = prod m := by
  induction h with
  | nil => rfl
  | cons a _ ih => simp [prod, ih]
  | swap a b l => simp [prod, Nat.mul_left_comm]
  | trans _ _ ih1 ih2 => exact ih1.trans ih2

theorem prod_map_mul (p a : Nat) : ∀ l : List Nat, prod (l.map fun x => a * x % p) % p = a ^ l.length * prod l % p
  | [] => by simp [prod]
  | x :: l => by
    simp only [List.map_cons, prod, List.length_cons]
    rw [Nat.mul_mod, Nat.mod_mod, prod_map_mul p a l, ← Nat.mul_mod]
    congr 1
    rw [Nat.pow_succ]
    simp only [Nat.mul_assoc, Nat.mul_comm, Nat.mul_left_comm]

theorem prod_ne {p : Nat} (h : isP p = true) : ∀ l : List Nat, (∀ x ∈ l, x % p ≠ 0) → prod l % p ≠ 0
  | [], _ => by
    have := pos_of h
    simp [prod]
    omega
  | x :: l, hl => by
    intro hc
    simp only [prod] at hc
    rcases prime_mul h hc with h1 | h1
    · exact hl x (by simp) h1
    · exact prod_ne h l (fun y hy => hl y (by simp [hy])) h1

def units (p : Nat) : List Nat := (List.range p).tail

theorem mem_units (p x : Nat) : x ∈ units p ↔ 1 ≤ x ∧ x < p := by
  unfold units
  cases p with
  | zero => simp
  | succ n =>
    rw [List.range_succ_eq_map]
    simp
    constructor
    · rintro ⟨a, ha, rfl⟩; omega
    · intro hx; exact ⟨x - 1, by omega, by omega⟩

theorem nodup_map {α β : Type} (f : α → β) : ∀ l : List α, l.Nodup → (∀ x ∈ l, ∀ y ∈ l, f x = f y → x = y) → (l.map f).Nodup
  | [], _, _ => by simp
  | a :: l, hn, hi => by
    have hn' := List.nodup_cons.1 hn
    rw [List.map_cons, List.nodup_cons]
    refine ⟨?_, nodup_map f l hn'.2 (fun x hx y hy => hi x (by simp [hx]) y (by simp [hy]))⟩
    intro hm
    obtain ⟨x, hx, he⟩ := List.mem_map.1 hm
    have := hi x (by simp [hx]) a (by simp) he
    subst this
    exact hn'.1 hx

theorem fermat {p : Nat} (h : isP p = true) {a : Nat} (ha : a % p ≠ 0) : a ^ (p - 1) % p = 1 := by
  have hp := pos_of h
  have hlen : (units p).length = p - 1 := by simp [units]
  have hnod : (units p).Nodup := by unfold units; exact (List.nodup_range (n := p)).sublist (List.tail_sublist _)
  have hne : ∀ x ∈ units p, x % p ≠ 0 := by
    intro x hx
    have := (mem_units p x).1 hx
    rw [Nat.mod_eq_of_lt this.2]; omega
  have hperm : ((units p).map fun x => a * x % p).Perm (units p) := by
    refine perm_of_sub _ _ (nodup_map _ _ hnod ?_) ?_ (by simp)
    · intro x hx y hy he
      have hx' := (mem_units p x).1 hx
      have hy' := (mem_units p y).1 hy
      have := cancel h ha he
      rwa [Nat.mod_eq_of_lt hx'.2, Nat.mod_eq_of_lt hy'.2] at this
    · intro x hx
      obtain ⟨y, hy, rfl⟩ := List.mem_map.1 hx
      refine (mem_units p _).2 ⟨?_, Nat.mod_lt _ (by omega)⟩
      have hy' := hne y hy
      apply Nat.pos_of_ne_zero
      intro hc
      rcases prime_mul h hc with h1 | h1
      · exact ha h1
      · exact hy' h1
  have h1 := prod_map_mul p a (units p)
  rw [prod_perm hperm, hlen] at h1
  have h2 : prod (units p) * a ^ (p - 1) % p = prod (units p) * 1 % p := by
    rw [Nat.mul_one, Nat.mul_comm]; exact h1.symm
  have := cancel h (prod_ne h _ hne) h2
  rw [this, Nat.mod_eq_of_lt (by omega)]

theorem fermat_all {p : Nat} (h : isP p = true) (a : Nat) : a ^ p % p = a % p := by
  have hp := pos_of h
  have hs : a ^ p = a ^ (p - 1) * a := by rw [← Nat.pow_succ]; congr 1; omega
  by_cases ha : a % p = 0
  · rw [hs, Nat.mul_mod, ha]; simp
  · rw [hs, Nat.mul_mod, fermat h ha]; simp

/-- the inverse by Fermat -/
theorem inv_mul {p : Nat} (h : isP p = true) {a : Nat} (ha : a % p ≠ 0) : a ^ (p - 2) * a % p = 1 := by
  have hp := pos_of h
  rw [← Nat.pow_succ, show (p - 2).succ = p - 1 by omega]
  exact fermat h ha


/-! ### A polynomial has no more roots than its degree -/
def ev (x : Int) : List Int → Int
  | [] => 0
  | a :: l => a + x * ev x l

def sufs (r : Int) : List Int → List Int
  | [] => []
  | b :: t => ev r (b :: t) :: sufs r t

theorem sufs_len (r : Int) : ∀ t, (sufs r t).length = t.length
  | [] => rfl
  | _ :: t => by simp [sufs, sufs_len r t]

theorem sufs_ev (r x : Int) : ∀ t, x * ev x t - r * ev r t = (x - r) * ev x (sufs r t)
  | [] => by simp [ev, sufs]
  | b :: t => by
    have ih := sufs_ev r x t
    simp only [ev, sufs]
    generalize ev x t = A at *
    generalize ev r t = B at *
    generalize ev x (sufs r t) = C at *
    have e : (x - r) * (x * C) = x * (x * A - r * B) := by rw [ih]; simp only [Int.mul_left_comm]
    simp only [Int.mul_add, Int.sub_mul, Int.mul_sub] at e ⊢
    simp only [Int.mul_left_comm] at e ⊢
    omega

theorem prime_mul_int {p : Nat} (h : isP p = true) {a b : Int} (hab : (p : Int) ∣ a * b) : (p : Int) ∣ a ∨ (p : Int) ∣ b := by
  have h1 : p ∣ a.natAbs * b.natAbs := by
    rw [← Int.natAbs_mul]; exact Int.ofNat_dvd_left.1 hab
  rcases prime_mul h (Nat.mod_eq_zero_of_dvd h1) with h2 | h2
  · exact .inl (Int.ofNat_dvd_left.2 (Nat.dvd_of_mod_eq_zero h2))
  · exact .inr (Int.ofNat_dvd_left.2 (Nat.dvd_of_mod_eq_zero h2))

/-- from the values at the suffixes back to the coefficients -/
theorem coef_of_sufs (p r : Int) : ∀ t, (∀ y ∈ sufs r t, p ∣ y) → (∀ y ∈ t, p ∣ y) ∧ p ∣ ev r t
  | [], _ => by simp [ev]
  | b :: t, h => by
    obtain ⟨i1, i2⟩ := coef_of_sufs p r t (fun y hy => h y (by simp [sufs, hy]))
    have h0 : p ∣ ev r (b :: t) := h _ (by simp [sufs])
    refine ⟨?_, h0⟩
    intro y hy
    rcases List.mem_cons.1 hy with rfl | hy
    · have h1 : p ∣ r * ev r t := Int.dvd_mul_of_dvd_right i2
      have h2 := Int.dvd_sub h0 h1
      simp only [ev] at h2
      simpa using h2
    · exact i1 y hy

theorem few_roots {p : Nat} (h : isP p = true) : ∀ (l : List Int) (c : List Int), l.Pairwise (fun x y => ¬ (p : Int) ∣ y - x) → (∀ x ∈ l, (p : Int) ∣ ev x c) → c.length ≤ l.length → ∀ a ∈ c, (p : Int) ∣ a
  | _, [], _, _, _ => by simp
  | [], _ :: _, _, _, hl => by simp at hl
  | r :: l, a :: t, hd, hr, hl => by
    have hd' := List.pairwise_cons.1 hd
    have h0 : (p : Int) ∣ ev r (a :: t) := hr r (by simp)
    have hs := few_roots h l (sufs r t) hd'.2 (by
      intro x hx
      have h1 : (p : Int) ∣ ev x (a :: t) := hr x (by simp [hx])
      have h2 := Int.dvd_sub h1 h0
      have e : ev x (a :: t) - ev r (a :: t) = (x - r) * ev x (sufs r t) := by
        have := sufs_ev r x t
        simp only [ev]; omega
      rw [e] at h2
      rcases prime_mul_int h h2 with h3 | h3
      · exact absurd h3 (hd'.1 x hx)
      · exact h3) (by rw [sufs_len]; simpa using hl)
    obtain ⟨i1, i2⟩ := coef_of_sufs p r t hs
    intro y hy
    rcases List.mem_cons.1 hy with rfl | hy
    · have h1 : (p : Int) ∣ r * ev r t := Int.dvd_mul_of_dvd_right i2
      have h2 := Int.dvd_sub h0 h1
      simp only [ev] at h2
      simpa using h2
    · exact i1 y hy

/-! ### Euler's criterion -/
theorem ev_zeros (x : Int) : ∀ k, ev x (List.replicate k 0 ++ [1]) = x ^ k
  | 0 => by simp [ev]
  | k + 1 => by
    simp only [List.replicate_succ, List.cons_append, ev]
    rw [ev_zeros x k, Int.pow_succ, Int.mul_comm]; omega

theorem emod_eq_iff {p a b : Int} : a % p = b % p ↔ p ∣ a - b := by
  rw [Int.dvd_iff_emod_eq_zero, Int.sub_emod]
  constructor
  · intro h; rw [h]; simp
  · intro h
    have h1 : p ∣ a % p - b % p := Int.dvd_of_emod_eq_zero h
    obtain ⟨k, hk⟩ := h1
    have e : a % p = b % p + p * k := by omega
    rw [← Int.emod_emod_of_dvd a (Int.dvd_refl p), e, Int.add_mul_emod_self_left, Int.emod_emod_of_dvd _ (Int.dvd_refl p)]

theorem mod_eq_int {p a b : Nat} : a % p = b % p ↔ (p : Int) ∣ (a : Int) - b := by
  rw [← emod_eq_iff]; omega

theorem sq_inj {p : Nat} (h : isP p = true) {x y : Nat} (hx : 2 * x < p) (hy : 2 * y < p) (he : x * x % p = y * y % p) : x = y := by
  have hp := pos_of h
  have h1 := mod_eq_int.1 he
  have e : ((x * x : Nat) : Int) - ((y * y : Nat) : Int) = ((x : Int) - y) * ((x : Int) + y) := by
    simp only [Int.natCast_mul, Int.sub_mul, Int.mul_add]; rw [Int.mul_comm (y : Int) x]; omega
  rw [e] at h1
  rcases prime_mul_int h h1 with h2 | h2
  · have h3 := Int.ofNat_dvd_left.1 h2
    by_cases hz : ((x : Int) - y).natAbs = 0
    · omega
    · have := Nat.le_of_dvd (Nat.pos_of_ne_zero hz) h3; omega
  · have h3 := Int.ofNat_dvd_left.1 h2
    by_cases hz : ((x : Int) + y).natAbs = 0
    · omega
    · have := Nat.le_of_dvd (Nat.pos_of_ne_zero hz) h3; omega

/-- for a number other than 0: a root exists exactly where the power (p - 1) / 2 is 1 -/
theorem euler {p : Nat} (h : isP p = true) {a : Nat} (ha : a % p ≠ 0) : a ^ ((p - 1) / 2) % p = 1 ↔ ∃ r, 2 * r < p ∧ r * r % p = a % p := by
  have hp := pos_of h
  have ho := odd_of h
  have hk : (p - 1) / 2 + (p - 1) / 2 = p - 1 := by omega
  have sqpow : ∀ r : Nat, r % p ≠ 0 → (r * r) ^ ((p - 1) / 2) % p = 1 := by
    intro r hr
    rw [Nat.mul_pow, ← Nat.pow_add, hk]
    exact fermat h hr
  constructor
  · intro h1
    apply Classical.byContradiction
    intro hno
    have hno' : ∀ r, 2 * r < p → r * r % p ≠ a % p := fun r h1 h2 => hno ⟨r, h1, h2⟩
    -- the roots of x^k - 1: all squares, and a
    let k := (p - 1) / 2
    have hkp : 1 ≤ k := by show 1 ≤ (p - 1) / 2; omega
    let sq : List Int := (List.range k).map fun i => (((i + 1) * (i + 1) : Nat) : Int)
    have hroot : ∀ b : Nat, b ^ k % p = 1 → (p : Int) ∣ ev (b : Int) (-1 :: (List.replicate (k - 1) 0 ++ [1])) := by
      intro b hb
      simp only [ev]
      rw [ev_zeros]
      have e : (b : Int) * (b : Int) ^ (k - 1) = ((b ^ k : Nat) : Int) := by
        rw [← Int.pow_succ', show k - 1 + 1 = k by omega, Int.natCast_pow]
      rw [e]
      have h1' : b ^ k % p = 1 % p := by rw [hb, Nat.mod_eq_of_lt (by omega)]
      have := mod_eq_int.1 h1'
      have e2 : -1 + ((b ^ k : Nat) : Int) = ((b ^ k : Nat) : Int) - ((1 : Nat) : Int) := by omega
      rw [e2]; exact this
    have hall := few_roots h ((a : Int) :: sq) (-1 :: (List.replicate (k - 1) 0 ++ [1])) (by
        rw [List.pairwise_cons]
        refine ⟨?_, ?_⟩
        · intro y hy hd
          obtain ⟨i, hi, rfl⟩ := List.mem_map.1 hy
          have hi' := List.mem_range.1 hi
          exact hno' (i + 1) (by have : k = (p - 1) / 2 := rfl; omega) (mod_eq_int.2 hd)
        · refine List.pairwise_map.2 ?_
          refine List.Pairwise.imp_of_mem ?_ (List.nodup_range (n := k))
          intro x y hx hy hne hd
          have hx' := List.mem_range.1 hx
          have hy' := List.mem_range.1 hy
          have hkd : k = (p - 1) / 2 := rfl
          have := sq_inj h (x := y + 1) (y := x + 1) (by omega) (by omega) (mod_eq_int.2 hd)
          omega)
      (by
        intro x hx
        rcases List.mem_cons.1 hx with rfl | hx
        · exact hroot a h1
        · obtain ⟨i, hi, rfl⟩ := List.mem_map.1 hx
          have hi' := List.mem_range.1 hi
          have hkd : k = (p - 1) / 2 := rfl
          exact hroot _ (sqpow (i + 1) (by rw [Nat.mod_eq_of_lt (by omega)]; omega)))
      (by simp [sq]; omega) 1 (by simp)
    have := Int.ofNat_dvd_left.1 hall
    have := Nat.le_of_dvd (by decide) this
    simp at this
    omega
  · rintro ⟨r, hr, he⟩
    have hr0 : r % p ≠ 0 := by
      intro hc
      rw [Nat.mul_mod, hc] at he
      simp at he; omega
    have := sqpow r hr0
    rw [Nat.pow_mod, ← he, ← Nat.pow_mod]; exact this

/-- the power (p - 1) / 2 is 0 or 1 exactly where a root exists -/
theorem square_iff {p : Nat} (h : isP p = true) {a : Nat} (ha : a < p) : a ^ ((p - 1) / 2) % p ≤ 1 ↔ ∃ r, 2 * r < p ∧ r * r % p = a := by
  have hp := pos_of h
  by_cases h0 : a = 0
  · subst h0
    constructor
    · intro _; exact ⟨0, by omega, by simp⟩
    · intro _; rw [Nat.zero_pow (by omega)]; simp
  · have ha' : a % p ≠ 0 := by rw [Nat.mod_eq_of_lt ha]; exact h0
    have hne : a ^ ((p - 1) / 2) % p ≠ 0 := by
      intro hc
      have := fermat h ha'
      have ho := odd_of h
      rw [show p - 1 = (p - 1) / 2 + (p - 1) / 2 by omega, Nat.pow_add, Nat.mul_mod, hc] at this
      simp at this
    have e := euler h ha'
    rw [Nat.mod_eq_of_lt ha] at e
    rw [← e]; omega


/-- every number from 2 to d - 1 was tried: none divides p -/
def Tried (p d : Nat) : Prop := ∀ e, 2 ≤ e → e < d → p % e ≠ 0
theorem tried_two (p : Nat) : Tried p 2 := fun e h1 h2 => by omega
theorem tried_step {p d : Nat} (h : Tried p d) (hd : p % d ≠ 0) : Tried p (d + 1) := by
  intro e h1 h2
  by_cases he : e = d
  · subst he; exact hd
  · exact h e h1 (by omega)
theorem isP_of_tried {p d : Nat} (h3 : 3 ≤ p) (hp : p ≤ 65537) (h : Tried p d) (hd : p < d * d) : isP p = true := by
  refine (isP_iff p).2 ⟨h3, hp, fun e h1 h2 => h e h1 ?_⟩
  apply Nat.lt_of_not_le
  intro hc
  have := Nat.mul_le_mul hc hc
  omega
theorem isP_not {p d : Nat} (h2 : 2 ≤ d) (hd : d * d ≤ p) (h : p % d = 0) : isP p = false := by
  cases hc : isP p with
  | false => rfl
  | true => exact absurd h (((isP_iff p).1 hc).2.2 d h2 hd)
theorem isP_small {p : Nat} (h : p < 3) : isP p = false := by unfold isP; simp; omega
theorem isP_large {p : Nat} (h : 65537 < p) : isP p = false := by unfold isP; simp; omega

/-! ### The test by the odd primes below 256 -/
def smallPrimes : List Nat := [3, 5, 7, 11, 13, 17, 19, 23, 29, 31, 37, 41, 43, 47, 53, 59, 61, 67, 71, 73, 79, 83, 89, 97, 101, 103, 107, 109, 113, 127, 131, 137, 139, 149, 151, 157, 163, 167, 173, 179, 181, 191, 193, 197, 199, 211, 223, 227, 229, 233, 239, 241, 251]
/-- the answer after the tests by the numbers of l -/
def anyOf (p : Nat) (b : Bool) : List Nat → Bool
  | [] => b
  | q :: l => anyOf p (b || ((p % q : Nat) : Int) == 0) l
theorem anyOf_iff (p : Nat) : ∀ (l : List Nat) (b : Bool), anyOf p b l = true ↔ (b = true ∨ ∃ q ∈ l, p % q = 0)
  | [], b => by simp [anyOf]
  | q :: l, b => by
    rw [anyOf, anyOf_iff p l]
    simp
    constructor
    · rintro ((h | h) | h)
      · exact .inl h
      · exact .inr (.inl (by omega))
      · exact .inr (.inr h)
    · rintro (h | h | h)
      · exact .inl (.inl h)
      · exact .inl (.inr (by omega))
      · exact .inr h
theorem small_covers : (List.range 257).all (fun d => decide (d < 2) || d % 2 == 0 || smallPrimes.any (fun q => d % q == 0)) = true := by decide +kernel
theorem small_range : smallPrimes.all (fun q => decide (2 ≤ q) && decide (q < 256)) = true := by decide +kernel
theorem isP_even {p : Nat} (h3 : 3 ≤ p) (h : p % 2 = 0) : isP p = false := isP_not (d := 2) (by omega) (by omega) h
theorem anyOf_isP {p : Nat} (h : 256 ≤ p) (hp : p ≤ 65537) (ho : p % 2 = 1) : (!anyOf p false smallPrimes) = isP p := by
  cases hc : anyOf p false smallPrimes with
  | true =>
    rcases (anyOf_iff p _ _).1 hc with h1 | ⟨q, hq, h1⟩
    · cases h1
    · have hr := List.all_eq_true.1 small_range q hq
      simp at hr
      cases hi : isP p with
      | false => rfl
      | true =>
        have := prime_dvd hi (Nat.dvd_of_mod_eq_zero h1) (by omega)
        omega
  | false =>
    have hno : ∀ q ∈ smallPrimes, p % q ≠ 0 := by
      intro q hq h1
      have := (anyOf_iff p smallPrimes false).2 (.inr ⟨q, hq, h1⟩)
      rw [hc] at this; cases this
    symm
    refine (isP_iff p).2 ⟨by omega, hp, ?_⟩
    intro d h2 hd h0
    have hlt : d < 257 := by
      apply Nat.lt_of_not_le; intro hge
      have := Nat.mul_le_mul hge hge; omega
    have hcov := List.all_eq_true.1 small_covers d (List.mem_range.2 hlt)
    simp at hcov
    have hdp := Nat.dvd_of_mod_eq_zero h0
    rcases hcov with (h1 | h1) | ⟨q, hq, h1⟩
    · omega
    · have : 2 ∣ p := Nat.dvd_trans (Nat.dvd_of_mod_eq_zero h1) hdp
      omega
    · exact hno q hq (Nat.mod_eq_zero_of_dvd (Nat.dvd_trans (Nat.dvd_of_mod_eq_zero h1) hdp))

/-! ### What the argument checks answer -/
def within (p : Nat) (l : List Nat) : Bool := l.all (fun x => decide (x < p))
def validB (p : Nat) (l : List Nat) : Bool := isP p && within p l
theorem within_take {p k : Nat} {l : List Nat} (hk : k < l.length) (h : within p (l.take k) = true) (hx : l.getD k 0 < p) : within p (l.take (k + 1)) = true := by
  unfold within at *
  rw [List.take_succ_eq_append_getElem hk, List.all_append, h]
  simp [List.getD_eq_getElem?_getD, hk] at hx
  simp [hx]
theorem within_not {p k : Nat} {l : List Nat} (hk : k < l.length) (hx : p ≤ l.getD k 0) : within p l = false := by
  cases hc : within p l with
  | false => rfl
  | true =>
    unfold within at hc
    simp [List.getD_eq_getElem?_getD, hk] at hx
    have := List.all_eq_true.1 hc _ (List.getElem_mem hk)
    simp at this; omega
theorem within_mem {p : Nat} {l : List Nat} (h : within p l = true) {k : Nat} (hk : k < l.length) : l.getD k 0 < p := by
  unfold within at h
  have := List.all_eq_true.1 h _ (List.getElem_mem hk)
  simp [List.getD_eq_getElem?_getD, hk]
  simpa using this

theorem validB_isP {p : Nat} {l : List Nat} (h : validB p l = true) : isP p = true := by unfold validB at h; simp at h; exact h.1
theorem validB_within {p : Nat} {l : List Nat} (h : validB p l = true) : within p l = true := by unfold validB at h; simp at h; exact h.2
theorem valid1_iff {p a : Nat} : validB p [a] = true ↔ isP p = true ∧ a < p := by unfold validB within; simp
theorem valid2_iff {p a b : Nat} : validB p [a, b] = true ↔ isP p = true ∧ a < p ∧ b < p := by unfold validB within; simp
theorem valid3_iff {p a b c : Nat} : validB p [a, b, c] = true ↔ isP p = true ∧ a < p ∧ b < p ∧ c < p := by unfold validB within; simp

/-! ### Powers -/
def pw (p a e : Nat) : Nat := a ^ e % p
def PowInv (p a e r x n : Nat) : Prop := r * x ^ n % p = a ^ e % p
theorem powInv_odd {p a e r x n : Nat} (h : PowInv p a e r x n) (ho : n % 2 = 1) : PowInv p a e (r * x % p) (x * x % p) (n / 2) := by
  unfold PowInv at *
  rw [← h, Nat.mul_mod, Nat.mod_mod, ← Nat.pow_mod, ← Nat.mul_mod]
  have e : n = n / 2 + n / 2 + 1 := by omega
  rw [Nat.mul_pow]
  conv => rhs; rw [e, Nat.pow_succ, Nat.pow_add]
  congr 1
  rw [Nat.mul_comm (x ^ (n / 2) * x ^ (n / 2)) x, Nat.mul_assoc]
theorem powInv_even {p a e r x n : Nat} (h : PowInv p a e r x n) (ho : n % 2 = 0) : PowInv p a e r (x * x % p) (n / 2) := by
  unfold PowInv at *
  rw [← h, Nat.mul_mod, ← Nat.pow_mod, ← Nat.mul_mod]
  have e : n = n / 2 + n / 2 := by omega
  rw [Nat.mul_pow]
  conv => rhs; rw [e, Nat.pow_add]
theorem pw_of_inv {p a e r x : Nat} (h : PowInv p a e r x 0) (hr : r < p) : r = pw p a e := by
  unfold PowInv at h; unfold pw
  rw [Nat.pow_zero, Nat.mul_one, Nat.mod_eq_of_lt hr] at h; exact h
theorem pw_lt {p : Nat} (a e : Nat) (h : 0 < p) : pw p a e < p := Nat.mod_lt _ h
theorem pw_zero {p : Nat} (a : Nat) (h : 2 ≤ p) : pw p a 0 = 1 := by unfold pw; rw [Nat.pow_zero, Nat.mod_eq_of_lt h]
theorem pw_even (p a e : Nat) (ho : e % 2 = 0) : pw p a e = pw p a (e / 2) * pw p a (e / 2) % p := by
  unfold pw
  rw [← Nat.mul_mod, ← Nat.pow_add]; congr 2; omega
theorem pw_odd (p a e : Nat) (ho : e % 2 = 1) : pw p a e = pw p a (e / 2) * pw p a (e / 2) % p * a % p := by
  unfold pw
  rw [← Nat.mul_mod, ← Nat.pow_add, Nat.mul_mod, Nat.mod_mod, ← Nat.mul_mod, ← Nat.pow_succ]; congr 2; omega

end Go.Proofs.Ytfkepkdfpjaniaa.M
namespace Go.Proofs.Ytfkepkdfpjaniaa.M
set_option linter.unusedVariables false

/-! ### Trimmed lists -/
/-- the length without trailing zeros -/
def tlen : List Nat → Nat
  | [] => 0
  | a :: t => if tlen t = 0 then (if a = 0 then 0 else 1) else tlen t + 1
def trim (l : List Nat) : List Nat := l.take (tlen l)
theorem tlen_le : ∀ l, tlen l ≤ l.length
  | [] => by simp [tlen]
  | a :: t => by
    have := tlen_le t
    unfold tlen; split
    · split <;> simp
    · simp; omega
theorem tlen_after : ∀ (l : List Nat) (i : Nat), tlen l ≤ i → l.getD i 0 = 0
  | [], i, _ => by simp
  | a :: t, i, h => by
    unfold tlen at h
    split at h
    · rename_i h0
      cases i with
      | zero => split at h
                · rename_i ha; simpa using ha
                · omega
      | succ i => have := tlen_after t i (by omega); simpa using this
    · cases i with
      | zero => omega
      | succ i => have := tlen_after t i (by omega); simpa using this
theorem tlen_last : ∀ (l : List Nat), 0 < tlen l → l.getD (tlen l - 1) 0 ≠ 0
  | [], h => by simp [tlen] at h
  | a :: t, h => by
    unfold tlen at h ⊢
    split at h
    · rename_i h0
      split at h
      · omega
      · rename_i ha; simp [h0, ha]
    · rename_i h0
      rw [if_neg h0]
      have := tlen_last t (by omega)
      obtain ⟨m, hm⟩ : ∃ m, tlen t = m + 1 := ⟨tlen t - 1, by omega⟩
      rw [hm] at this ⊢
      simpa using this
theorem tlen_unique {l : List Nat} {n : Nat} (h1 : ∀ i, n ≤ i → l.getD i 0 = 0) (h2 : n = 0 ∨ l.getD (n - 1) 0 ≠ 0) : tlen l = n := by
  rcases Nat.lt_trichotomy (tlen l) n with h | h | h
  · rcases h2 with h2 | h2
    · omega
    · exact absurd (tlen_after l (n - 1) (by omega)) h2
  · exact h
  · exact absurd (h1 (tlen l - 1) (by omega)) (tlen_last l (by omega))
theorem getD_take (l : List Nat) (n i : Nat) : (l.take n).getD i 0 = if i < n then l.getD i 0 else 0 := by
  simp only [List.getD_eq_getElem?_getD, List.getElem?_take]
  by_cases h : i < n
  · rw [if_pos h, if_pos h]
  · rw [if_neg h, if_neg h]; rfl
theorem trim_get (l : List Nat) (i : Nat) : (trim l).getD i 0 = l.getD i 0 := by
  unfold trim
  rw [getD_take]
  by_cases h : i < tlen l
  · rw [if_pos h]
  · rw [if_neg h, tlen_after l i (by omega)]
theorem trim_len (l : List Nat) : (trim l).length = tlen l := by
  unfold trim; rw [List.length_take]; have := tlen_le l; omega
theorem getD_lt {l : List Nat} {i : Nat} (h : i < l.length) : l.getD i 0 = l[i] := by simp [List.getD_eq_getElem?_getD, h]
theorem ext_getD {l m : List Nat} (hl : l.length = m.length) (h : ∀ i, l.getD i 0 = m.getD i 0) : l = m := by
  apply List.ext_getElem hl
  intro i h1 h2
  have := h i
  rw [getD_lt h1, getD_lt h2] at this
  exact this
theorem tlen_congr {l m : List Nat} (h : ∀ i, l.getD i 0 = m.getD i 0) : tlen l = tlen m := by
  apply tlen_unique
  · intro i hi; rw [h]; exact tlen_after m i hi
  · by_cases h0 : tlen m = 0
    · exact .inl h0
    · right; rw [h]; exact tlen_last m (by omega)
theorem trim_congr {l m : List Nat} (h : ∀ i, l.getD i 0 = m.getD i 0) : trim l = trim m := by
  apply ext_getD
  · rw [trim_len, trim_len, tlen_congr h]
  · intro i; rw [trim_get, trim_get, h]
theorem trim_trim (l : List Nat) : trim (trim l) = trim l := trim_congr (trim_get l)
theorem trim_nil : trim [] = [] := rfl
theorem trim_len_le (l : List Nat) : (trim l).length ≤ l.length := by rw [trim_len]; exact tlen_le l
theorem trim_last {l : List Nat} (h : 0 < (trim l).length) : (trim l).getD ((trim l).length - 1) 0 ≠ 0 := by
  rw [trim_get, trim_len]; exact tlen_last l (by rwa [trim_len] at h)
/-- a list that ends in no zero -/
theorem trim_of_last {l : List Nat} (h : l.length = 0 ∨ l.getD (l.length - 1) 0 ≠ 0) : trim l = l := by
  have : tlen l = l.length := tlen_unique (fun i hi => by rw [List.getD_eq_getElem?_getD, List.getElem?_eq_none hi]; rfl) h
  unfold trim; rw [this, List.take_length]
theorem trim_eq_of {l m : List Nat} (hm : trim m = m) (h : ∀ i, l.getD i 0 = m.getD i 0) : trim l = m := by rw [← hm]; exact trim_congr h
theorem trim_self_last {l : List Nat} (h : trim l = l) (h0 : 0 < l.length) : l.getD (l.length - 1) 0 ≠ 0 := by
  have := @trim_last l (by rw [h]; exact h0)
  rw [h] at this; exact this
theorem getD_ge {l : List Nat} {i : Nat} (h : l.length ≤ i) : l.getD i 0 = 0 := by rw [List.getD_eq_getElem?_getD, List.getElem?_eq_none h]; rfl
theorem trim_nil_iff {l : List Nat} : trim l = [] ↔ ∀ i, l.getD i 0 = 0 := by
  constructor
  · intro h i; rw [← trim_get, h]; simp
  · intro h
    have : trim l = trim [] := trim_congr (fun i => by rw [h]; simp)
    rw [this, trim_nil]
theorem within_getD {p : Nat} {l : List Nat} (hp : 0 < p) (h : within p l = true) (i : Nat) : l.getD i 0 < p := by
  by_cases hi : i < l.length
  · exact within_mem h hi
  · rw [getD_ge (by omega)]; exact hp
theorem within_of {p : Nat} {l : List Nat} (h : ∀ i, i < l.length → l.getD i 0 < p) : within p l = true := by
  unfold within
  rw [List.all_eq_true]
  intro x hx
  obtain ⟨i, hi, rfl⟩ := List.getElem_of_mem hx
  have := h i hi
  rw [getD_lt hi] at this
  simpa using this
theorem within_trim {p : Nat} {l : List Nat} (h : within p l = true) : within p (trim l) = true :=
  within_of fun i hi => by rw [trim_get]; exact within_mem h (by have := trim_len_le l; omega)

/-! ### The polynomial with given coefficients -/
def rowOf (p n : Nat) (c : Nat → Nat) : List Nat := (List.range n).map fun i => c i % p
def poly (p n : Nat) (c : Nat → Nat) : List Nat := trim (rowOf p n c)
theorem row_len (p n : Nat) (c : Nat → Nat) : (rowOf p n c).length = n := by simp [rowOf]
theorem row_get (p n : Nat) (c : Nat → Nat) (i : Nat) : (rowOf p n c).getD i 0 = if i < n then c i % p else 0 := by
  unfold rowOf
  rw [List.getD_eq_getElem?_getD]
  by_cases h : i < n
  · simp [h]
  · simp [h]
theorem poly_get (p n : Nat) (c : Nat → Nat) (i : Nat) : (poly p n c).getD i 0 = if i < n then c i % p else 0 := by
  unfold poly; rw [trim_get, row_get]
theorem poly_trim (p n : Nat) (c : Nat → Nat) : trim (poly p n c) = poly p n c := trim_trim _
theorem poly_len (p n : Nat) (c : Nat → Nat) : (poly p n c).length ≤ n := by have := trim_len_le (rowOf p n c); rw [row_len] at this; exact this
theorem poly_within {p : Nat} (hp : 0 < p) (n : Nat) (c : Nat → Nat) : within p (poly p n c) = true :=
  within_trim (within_of fun i hi => by rw [row_get]; split; exact Nat.mod_lt _ hp; exact hp)
theorem poly_eq {p n m : Nat} {c d : Nat → Nat} (h : ∀ i, (if i < n then c i % p else 0) = if i < m then d i % p else 0) : poly p n c = poly p m d :=
  trim_congr fun i => by rw [row_get, row_get, h]
theorem poly_congr {p n : Nat} {c d : Nat → Nat} (h : ∀ i, i < n → c i % p = d i % p) : poly p n c = poly p n d :=
  poly_eq fun i => by split <;> simp_all

def padd (p : Nat) (f g : List Nat) : List Nat := poly p (max f.length g.length) fun i => f.getD i 0 + g.getD i 0
def psub (p : Nat) (f g : List Nat) : List Nat := poly p (max f.length g.length) fun i => f.getD i 0 + p - g.getD i 0
def pscale (p : Nat) (f : List Nat) (k : Nat) : List Nat := poly p f.length fun i => f.getD i 0 * k
def pslope (p : Nat) (f : List Nat) : List Nat := poly p (f.length - 1) fun i => (i + 1) % p * f.getD (i + 1) 0

theorem padd_trim (p : Nat) (f g : List Nat) (hp : 0 < p) : padd p (trim f) (trim g) = padd p f g := by
  apply poly_eq
  intro i
  have h1 := trim_len_le f
  have h2 := trim_len_le g
  rw [trim_get, trim_get]
  by_cases h : i < max f.length g.length
  · rw [if_pos h]
    by_cases h' : i < max (trim f).length (trim g).length
    · rw [if_pos h']
    · rw [if_neg h', ← trim_get f, ← trim_get g, getD_ge (l := trim f) (by omega), getD_ge (l := trim g) (by omega)]; simp
  · rw [if_neg h, if_neg (by omega)]
theorem psub_trim (p : Nat) (f g : List Nat) (hp : 0 < p) : psub p (trim f) (trim g) = psub p f g := by
  apply poly_eq
  intro i
  have h1 := trim_len_le f
  have h2 := trim_len_le g
  rw [trim_get, trim_get]
  by_cases h : i < max f.length g.length
  · rw [if_pos h]
    by_cases h' : i < max (trim f).length (trim g).length
    · rw [if_pos h']
    · rw [if_neg h', ← trim_get f, ← trim_get g, getD_ge (l := trim f) (by omega), getD_ge (l := trim g) (by omega)]; simp
  · rw [if_neg h, if_neg (by omega)]
theorem pscale_trim (p : Nat) (f : List Nat) (k : Nat) : pscale p (trim f) k = pscale p f k := by
  apply poly_eq
  intro i
  have h1 := trim_len_le f
  rw [trim_get]
  by_cases h : i < f.length
  · rw [if_pos h]
    by_cases h' : i < (trim f).length
    · rw [if_pos h']
    · rw [if_neg h', ← trim_get f, getD_ge (l := trim f) (by omega)]; simp
  · rw [if_neg h, if_neg (by omega)]
theorem pslope_trim (p : Nat) (f : List Nat) : pslope p (trim f) = pslope p f := by
  apply poly_eq
  intro i
  have h1 := trim_len_le f
  rw [trim_get]
  by_cases h : i < f.length - 1
  · rw [if_pos h]
    by_cases h' : i < (trim f).length - 1
    · rw [if_pos h']
    · rw [if_neg h', ← trim_get f, getD_ge (l := trim f) (by omega)]; simp
  · rw [if_neg h, if_neg (by omega)]

/-! ### Products -/
/-- the coefficient k of the product of the list f with the coefficients g -/
def mulAt : List Nat → (Nat → Nat) → Nat → Nat
  | [], _, _ => 0
  | a :: t, g, 0 => a * g 0
  | a :: t, g, k + 1 => a * g (k + 1) + mulAt t g k
def at_ (l : List Nat) (i : Nat) : Nat := l.getD i 0
def pmul (p : Nat) (f g : List Nat) : List Nat := poly p (f.length + g.length) (mulAt f (at_ g))
theorem mulAt_snoc (a : Nat) (g : Nat → Nat) : ∀ (l : List Nat) (k : Nat), mulAt (l ++ [a]) g k = mulAt l g k + if l.length ≤ k then a * g (k - l.length) else 0
  | [], 0 => by simp [mulAt]
  | [], k + 1 => by simp [mulAt]
  | b :: t, 0 => by simp [mulAt]
  | b :: t, k + 1 => by
    simp only [List.cons_append, mulAt, mulAt_snoc a g t k, List.length_cons, Nat.add_le_add_iff_right, Nat.add_sub_add_right]
    omega
theorem mulAt_zero (g : Nat → Nat) (m : Nat) (hg : ∀ i, m ≤ i → g i = 0) : ∀ (l : List Nat) (k : Nat), l.length + m ≤ k + 1 → mulAt l g k = 0
  | [], _, _ => rfl
  | a :: t, 0, h => by
    simp only [List.length_cons] at h
    simp [mulAt, hg 0 (by omega)]
  | a :: t, k + 1, h => by
    simp only [List.length_cons] at h
    simp [mulAt, hg (k + 1) (by omega), mulAt_zero g m hg t k (by omega)]
theorem mulAt_congr {g h : Nat → Nat} (e : ∀ i, g i = h i) (l : List Nat) (k : Nat) : mulAt l g k = mulAt l h k := by rw [show g = h from funext e]
theorem mulAt_mod {p : Nat} : ∀ (l m : List Nat) (g h : Nat → Nat), (∀ i, l.getD i 0 % p = m.getD i 0 % p) → (∀ i, g i % p = h i % p) → ∀ k, mulAt l g k % p = mulAt m h k % p
  | [], [], _, _, _, _, _ => rfl
  | [], b :: t, g, h, e, eg, k => by
    have h0 : b % p = 0 := by simpa using (e 0).symm
    have ht := mulAt_mod [] t g h (fun i => by simpa using e (i + 1)) eg
    cases k with
    | zero => simp [mulAt, Nat.mul_mod b, h0]
    | succ k =>
      have := ht k
      simp only [mulAt] at this ⊢
      rw [Nat.add_mod, Nat.mul_mod, h0, ← this]; simp
  | a :: s, [], g, h, e, eg, k => by
    have h0 : a % p = 0 := by simpa using e 0
    have ht := mulAt_mod s [] g h (fun i => by simpa using e (i + 1)) eg
    cases k with
    | zero => simp [mulAt, Nat.mul_mod a, h0]
    | succ k =>
      have := ht k
      simp only [mulAt] at this ⊢
      rw [Nat.add_mod, Nat.mul_mod, h0, this]; simp
  | a :: s, b :: t, g, h, e, eg, k => by
    have h0 : a % p = b % p := by simpa using e 0
    have ht := mulAt_mod s t g h (fun i => by simpa using e (i + 1)) eg
    cases k with
    | zero => simp only [mulAt]; rw [Nat.mul_mod, h0, eg 0, ← Nat.mul_mod]
    | succ k => simp only [mulAt]; rw [Nat.add_mod, Nat.mul_mod, h0, eg (k + 1), ← Nat.mul_mod, ht k, ← Nat.add_mod]
/-- products of trimmed lists -/
theorem pmul_trim (p : Nat) (f g : List Nat) : pmul p (trim f) (trim g) = pmul p f g := by
  apply poly_eq
  intro i
  have h1 := trim_len_le f
  have h2 := trim_len_le g
  have e : mulAt (trim f) (at_ (trim g)) i % p = mulAt f (at_ g) i % p := mulAt_mod _ _ _ _ (fun i => by rw [trim_get]) (fun i => by unfold at_; rw [trim_get]) i
  rw [e]
  by_cases h : i < f.length + g.length
  · rw [if_pos h]
    by_cases h' : i < (trim f).length + (trim g).length
    · rw [if_pos h']
    · rw [if_neg h', ← e, mulAt_zero (at_ (trim g)) (trim g).length (fun j hj => getD_ge hj) _ _ (by omega)]; simp
  · rw [if_neg h, if_neg (by omega)]

/-! ### Values -/
def evN (x : Nat) : List Nat → Nat
  | [] => 0
  | a :: t => a + x * evN x t
def pev (p : Nat) (f : List Nat) (x : Nat) : Nat := evN x f % p
theorem evN_snoc (x a : Nat) : ∀ l, evN x (l ++ [a]) = evN x l + x ^ l.length * a
  | [] => by simp [evN]
  | b :: t => by
    simp only [List.cons_append, evN, evN_snoc x a t, List.length_cons, Nat.mul_add, Nat.pow_succ]
    rw [← Nat.mul_assoc, Nat.mul_comm x (x ^ t.length)]
    omega
theorem evN_mod {p : Nat} (x : Nat) : ∀ l m : List Nat, (∀ i, l.getD i 0 % p = m.getD i 0 % p) → evN x l % p = evN x m % p
  | [], [], _ => rfl
  | [], b :: t, e => by
    have h0 : b % p = 0 := by simpa using (e 0).symm
    have ht := evN_mod x [] t (fun i => by simpa using e (i + 1))
    simp only [evN] at ht ⊢
    rw [Nat.add_mod, h0, Nat.mul_mod, ← ht]; simp
  | a :: s, [], e => by
    have h0 : a % p = 0 := by simpa using e 0
    have ht := evN_mod x s [] (fun i => by simpa using e (i + 1))
    simp only [evN] at ht ⊢
    rw [Nat.add_mod, h0, Nat.mul_mod, ht]; simp
  | a :: s, b :: t, e => by
    have h0 : a % p = b % p := by simpa using e 0
    have ht := evN_mod x s t (fun i => by simpa using e (i + 1))
    simp only [evN]
    rw [Nat.add_mod, h0, Nat.mul_mod, ht, ← Nat.mul_mod, ← Nat.add_mod]
theorem pev_trim (p : Nat) (f : List Nat) (x : Nat) : pev p (trim f) x = pev p f x := evN_mod x _ _ fun i => by rw [trim_get]

/-- sums of lists, the shorter one continued with zeros -/
def addL : List Nat → List Nat → List Nat
  | [], m => m
  | a :: s, [] => a :: s
  | a :: s, b :: t => (a + b) :: addL s t
theorem addL_get : ∀ (l m : List Nat) (i : Nat), (addL l m).getD i 0 = l.getD i 0 + m.getD i 0
  | [], m, i => by simp [addL]
  | a :: s, [], i => by simp [addL]
  | a :: s, b :: t, 0 => by simp [addL]
  | a :: s, b :: t, i + 1 => by simpa [addL] using addL_get s t i
theorem addL_ev (x : Nat) : ∀ l m : List Nat, evN x (addL l m) = evN x l + evN x m
  | [], m => by simp [addL, evN]
  | a :: s, [] => by simp [addL, evN]
  | a :: s, b :: t => by simp only [addL, evN, addL_ev x s t, Nat.mul_add]; omega
theorem addL_mulAt (g : Nat → Nat) : ∀ (l m : List Nat) (k : Nat), mulAt (addL l m) g k = mulAt l g k + mulAt m g k
  | [], m, k => by simp [addL, mulAt]
  | a :: s, [], k => by simp [addL, mulAt]
  | a :: s, b :: t, 0 => by simp [addL, mulAt, Nat.add_mul]
  | a :: s, b :: t, k + 1 => by simp only [addL, mulAt, addL_mulAt g s t k, Nat.add_mul]; omega
theorem smul_get (a : Nat) (l : List Nat) (i : Nat) : (l.map (a * ·)).getD i 0 = a * l.getD i 0 := by
  simp only [List.getD_eq_getElem?_getD, List.getElem?_map]
  cases l[i]? <;> simp
theorem smul_ev (x a : Nat) : ∀ l : List Nat, evN x (l.map (a * ·)) = a * evN x l
  | [] => by simp [evN]
  | b :: t => by simp only [List.map_cons, evN, smul_ev x a t, Nat.mul_add, Nat.mul_left_comm]
theorem smul_mulAt (a : Nat) (g : Nat → Nat) : ∀ (l : List Nat) (k : Nat), mulAt (l.map (a * ·)) g k = a * mulAt l g k
  | [], k => by simp [mulAt]
  | b :: t, 0 => by simp [mulAt, Nat.mul_assoc]
  | b :: t, k + 1 => by simp only [List.map_cons, mulAt, smul_mulAt a g t k, Nat.mul_add, Nat.mul_assoc]
def mulL : List Nat → List Nat → List Nat
  | [], _ => []
  | a :: t, g => addL (g.map (a * ·)) (0 :: mulL t g)
theorem mulL_get (g : List Nat) : ∀ (f : List Nat) (k : Nat), (mulL f g).getD k 0 = mulAt f (at_ g) k
  | [], k => by simp [mulL, mulAt]
  | a :: t, 0 => by simp only [mulL, mulAt, addL_get, smul_get]; simp [at_]
  | a :: t, k + 1 => by
    have := mulL_get g t k
    simp only [mulL, mulAt, addL_get, smul_get, List.getD_cons_succ, this]; rfl
theorem mulL_ev (x : Nat) (g : List Nat) : ∀ f : List Nat, evN x (mulL f g) = evN x f * evN x g
  | [] => by simp [mulL, evN]
  | a :: t => by simp only [mulL, addL_ev, smul_ev, evN, mulL_ev x g t, Nat.add_mul, Nat.mul_assoc]; omega
theorem poly_mod_get {p n : Nat} {c : Nat → Nat} (h : ∀ i, n ≤ i → c i % p = 0) (i : Nat) : (poly p n c).getD i 0 % p = c i % p := by
  rw [poly_get]
  by_cases hi : i < n
  · rw [if_pos hi, Nat.mod_mod]
  · rw [if_neg hi, h i (by omega), Nat.zero_mod]
theorem pmul_get (p : Nat) (f g : List Nat) (i : Nat) : (pmul p f g).getD i 0 % p = mulAt f (at_ g) i % p :=
  poly_mod_get (fun i hi => by rw [mulAt_zero (at_ g) g.length (fun j hj => getD_ge hj) _ _ (by omega)]; simp) i
theorem padd_get (p : Nat) (f g : List Nat) (i : Nat) : (padd p f g).getD i 0 % p = (f.getD i 0 + g.getD i 0) % p :=
  poly_mod_get (fun i hi => by rw [getD_ge (l := f) (by omega), getD_ge (l := g) (by omega)]; simp) i
theorem psub_get (p : Nat) (f g : List Nat) (i : Nat) : (psub p f g).getD i 0 % p = (f.getD i 0 + p - g.getD i 0) % p :=
  poly_mod_get (fun i hi => by rw [getD_ge (l := f) (by omega), getD_ge (l := g) (by omega)]; simp) i
theorem pscale_get (p : Nat) (f : List Nat) (k i : Nat) : (pscale p f k).getD i 0 % p = (f.getD i 0 * k) % p :=
  poly_mod_get (fun i hi => by rw [getD_ge (l := f) (by omega)]; simp) i

/-! ### P2.9: the values of sums and products -/
theorem pev_add (p : Nat) (f g : List Nat) (x : Nat) : pev p (padd p f g) x = (pev p f x + pev p g x) % p := by
  unfold pev
  rw [evN_mod x (padd p f g) (addL f g) (fun i => by rw [padd_get, addL_get]), addL_ev, ← Nat.add_mod]
theorem pev_mul (p : Nat) (f g : List Nat) (x : Nat) : pev p (pmul p f g) x = pev p f x * pev p g x % p := by
  unfold pev
  rw [evN_mod x (pmul p f g) (mulL f g) (fun i => by rw [pmul_get, mulL_get]), mulL_ev, ← Nat.mul_mod]
theorem pev_scale (p : Nat) (f : List Nat) (k x : Nat) : pev p (pscale p f k) x = pev p f x * k % p := by
  unfold pev
  rw [evN_mod x (pscale p f k) (f.map (k * ·)) (fun i => by rw [pscale_get, smul_get, Nat.mul_comm]), smul_ev, Nat.mul_comm k, Nat.mod_mul_mod]
theorem pev_sub {p : Nat} (f g : List Nat) (x : Nat) (hp : 0 < p) (hg : within p g = true) : pev p (psub p f g) x = (pev p f x + p - pev p g x) % p := by
  have h1 : (evN x (psub p f g) + evN x g) % p = evN x f % p := by
    rw [← addL_ev]
    apply evN_mod
    intro i
    have hgi := within_getD hp hg i
    rw [addL_get, Nat.add_mod, psub_get, ← Nat.add_mod, show f.getD i 0 + p - g.getD i 0 + g.getD i 0 = f.getD i 0 + p by omega, Nat.add_mod_right]
  unfold pev
  have hb : evN x g % p < p := Nat.mod_lt _ hp
  have ha : evN x f % p < p := Nat.mod_lt _ hp
  have hd : evN x (psub p f g) % p < p := Nat.mod_lt _ hp
  rw [Nat.add_mod] at h1
  generalize evN x (psub p f g) % p = d at *
  generalize evN x g % p = b at *
  generalize evN x f % p = a at *
  by_cases hs : d + b < p
  · rw [Nat.mod_eq_of_lt hs] at h1
    rw [show a + p - b = d + p by omega, Nat.add_mod_right, Nat.mod_eq_of_lt hd]
  · rw [Nat.mod_eq_sub_mod (by omega), Nat.mod_eq_of_lt (by omega)] at h1
    rw [show a + p - b = d by omega, Nat.mod_eq_of_lt hd]
theorem pev_lt {p : Nat} (f : List Nat) (x : Nat) (hp : 0 < p) : pev p f x < p := Nat.mod_lt _ hp
end Go.Proofs.Ytfkepkdfpjaniaa.M
namespace Go.Proofs.Ytfkepkdfpjaniaa.M
set_option linter.unusedVariables false

/-! ### Differences, as integers -/
def subZ : List Nat → List Nat → List Int
  | [], [] => []
  | a :: s, [] => (a : Int) :: subZ s []
  | [], b :: t => -(b : Int) :: subZ [] t
  | a :: s, b :: t => ((a : Int) - b) :: subZ s t
theorem subZ_len : ∀ l m : List Nat, (subZ l m).length = max l.length m.length
  | [], [] => by simp [subZ]
  | a :: s, [] => by simp [subZ, subZ_len s []]
  | [], b :: t => by simp [subZ, subZ_len [] t]
  | a :: s, b :: t => by simp only [subZ, List.length_cons, subZ_len s t]; omega
theorem subZ_ev (x : Nat) : ∀ l m : List Nat, ev (x : Int) (subZ l m) = (evN x l : Int) - evN x m
  | [], [] => by simp [subZ, ev, evN]
  | a :: s, [] => by
    have := subZ_ev x s []
    simp only [subZ, ev, evN, this, Int.natCast_add, Int.natCast_mul, Int.mul_sub]; omega
  | [], b :: t => by
    have := subZ_ev x [] t
    simp only [subZ, ev, evN, this, Int.natCast_add, Int.natCast_mul, Int.mul_sub]; omega
  | a :: s, b :: t => by
    have := subZ_ev x s t
    simp only [subZ, ev, evN, this, Int.natCast_add, Int.natCast_mul, Int.mul_sub]; omega
theorem subZ_mem {p : Int} : ∀ l m : List Nat, (∀ x ∈ subZ l m, p ∣ x) → ∀ i, p ∣ (l.getD i 0 : Int) - (m.getD i 0 : Nat)
  | [], [], _, i => by simp
  | a :: s, [], h, 0 => by simpa using h a (by simp [subZ])
  | a :: s, [], h, i + 1 => by simpa using subZ_mem s [] (fun x hx => h x (by simp [subZ, hx])) i
  | [], b :: t, h, 0 => by simpa using h (-(b : Int)) (by simp [subZ])
  | [], b :: t, h, i + 1 => by simpa using subZ_mem [] t (fun x hx => h x (by simp [subZ, hx])) i
  | a :: s, b :: t, h, 0 => by simpa using h ((a : Int) - b) (by simp [subZ])
  | a :: s, b :: t, h, i + 1 => by simpa using subZ_mem s t (fun x hx => h x (by simp [subZ, hx])) i
theorem nat_eq_of_dvd {p a b : Nat} (ha : a < p) (hb : b < p) (h : (p : Int) ∣ (a : Int) - b) : a = b := by
  have := mod_eq_int.2 h
  rwa [Nat.mod_eq_of_lt ha, Nat.mod_eq_of_lt hb] at this
def mulZ : List Int → (Nat → Int) → Nat → Int
  | [], _, _ => 0
  | a :: _, g, 0 => a * g 0
  | a :: t, g, k + 1 => a * g (k + 1) + mulZ t g k
theorem subZ_mulZ (g : Nat → Nat) : ∀ (l m : List Nat) (k : Nat), mulZ (subZ l m) (fun i => (g i : Int)) k = (mulAt l g k : Int) - mulAt m g k
  | [], [], k => by simp [subZ, mulZ, mulAt]
  | a :: s, [], 0 => by simp [subZ, mulZ, mulAt]
  | a :: s, [], k + 1 => by
    have := subZ_mulZ g s [] k
    simp only [subZ, mulZ, mulAt, this, Int.natCast_add, Int.natCast_mul]; omega
  | [], b :: t, 0 => by simp only [subZ, mulZ, mulAt, Int.natCast_mul, Int.neg_mul]; omega
  | [], b :: t, k + 1 => by
    have := subZ_mulZ g [] t k
    simp only [subZ, mulZ, mulAt, this, Int.natCast_add, Int.natCast_mul, Int.neg_mul]; omega
  | a :: s, b :: t, 0 => by simp only [subZ, mulZ, mulAt, Int.natCast_mul, Int.sub_mul]
  | a :: s, b :: t, k + 1 => by
    have := subZ_mulZ g s t k
    simp only [subZ, mulZ, mulAt, this, Int.natCast_add, Int.natCast_mul, Int.sub_mul]; omega
theorem mulZ_dvd {p : Int} (g : Nat → Int) : ∀ (c : List Int), (∀ x ∈ c, p ∣ x) → ∀ k, p ∣ mulZ c g k
  | [], _, k => by simp [mulZ]
  | a :: t, h, 0 => by simp only [mulZ]; exact Int.dvd_mul_of_dvd_left (h a (by simp))
  | a :: t, h, k + 1 => by
    simp only [mulZ]
    exact Int.dvd_add (Int.dvd_mul_of_dvd_left (h a (by simp))) (mulZ_dvd g t (fun x hx => h x (by simp [hx])) k)
/-- a multiple of g whose coefficients vanish from g's degree on is zero -/
theorem mulZ_lead {p : Nat} (hi : isP p = true) (g : Nat → Int) (m : Nat) (hg : ∀ i, m < i → g i = 0) (hm : ¬ (p : Int) ∣ g m) : ∀ (c : List Int), (∀ i, m ≤ i → (p : Int) ∣ mulZ c g i) → ∀ x ∈ c, (p : Int) ∣ x
  | [], _ => by simp
  | a :: t, h => by
    have ht := mulZ_lead hi g m hg hm t (fun i hi => by
      have := h (i + 1) (by omega)
      simp only [mulZ, hg (i + 1) (by omega)] at this
      simpa using this)
    have ha : (p : Int) ∣ a := by
      have h0 := h m (Nat.le_refl _)
      have h1 : (p : Int) ∣ a * g m := by
        cases m with
        | zero => simpa [mulZ] using h0
        | succ m =>
          simp only [mulZ] at h0
          exact (Int.dvd_iff_dvd_of_dvd_add h0).2 (mulZ_dvd g t ht m)
      rcases prime_mul_int hi h1 with h2 | h2
      · exact h2
      · exact absurd h2 hm
    intro x hx
    rcases List.mem_cons.1 hx with rfl | hx
    · exact ha
    · exact ht x hx

/-! ### Division with remainder -/
/-- f is q times g plus r, modulo p, and r is shorter than g -/
def IsDiv (p : Nat) (f g q r : List Nat) : Prop :=
  within p q = true ∧ trim q = q ∧ within p r = true ∧ trim r = r ∧ r.length < g.length ∧ ∀ i, f.getD i 0 % p = (mulAt q (at_ g) i + r.getD i 0) % p
/-- a list whose last number is not zero, all below p -/
def Lead (p : Nat) (g : List Nat) : Prop := within p g = true ∧ 0 < g.length ∧ g.getD (g.length - 1) 0 ≠ 0
theorem lead_of {p : Nat} {g : List Nat} (h : within p g = true) (hg : trim g = g) (h0 : 0 < g.length) : Lead p g := ⟨h, h0, trim_self_last hg h0⟩
theorem Lead.not_dvd {p : Nat} {g : List Nat} (h : Lead p g) : ¬ (p : Int) ∣ (at_ g (g.length - 1) : Int) := by
  obtain ⟨h1, h2, h3⟩ := h
  intro hd
  have h4 := within_mem h1 (k := g.length - 1) (by omega)
  have h5 : p ∣ at_ g (g.length - 1) := Int.ofNat_dvd.1 hd
  have := Nat.eq_zero_of_dvd_of_lt h5 h4
  exact h3 this
theorem ext_red {p : Nat} (hp : 0 < p) {l m : List Nat} (hl : within p l = true) (hm : within p m = true) (tl : trim l = l) (tm : trim m = m) (h : ∀ i, l.getD i 0 % p = m.getD i 0 % p) : l = m := by
  rw [← tl, ← tm]
  apply trim_congr
  intro i
  have := h i
  rwa [Nat.mod_eq_of_lt (within_getD hp hl i), Nat.mod_eq_of_lt (within_getD hp hm i)] at this
theorem isDiv_unique {p : Nat} (hi : isP p = true) {f f' g q r q' r' : List Nat} (hg : Lead p g) (hf : ∀ i, f.getD i 0 % p = f'.getD i 0 % p) (h : IsDiv p f g q r) (h' : IsDiv p f' g q' r') : q = q' ∧ r = r' := by
  obtain ⟨a1, a2, a3, a4, a5, a6⟩ := h
  obtain ⟨b1, b2, b3, b4, b5, b6⟩ := h'
  have hp : 0 < p := by have := pos_of hi; omega
  have hz := mulZ_lead hi (fun i => (at_ g i : Int)) (g.length - 1) (fun i hi => by rw [show at_ g i = 0 from getD_ge (by omega)]; rfl) hg.not_dvd (subZ q q') (fun i hi => by
    have e := a6 i
    rw [hf, b6, getD_ge (l := r) (by omega), getD_ge (l := r') (by omega)] at e
    have := mod_eq_int.1 e.symm
    rw [subZ_mulZ]
    simpa using this)
  have hq : q = q' := ext_red hp a1 b1 a2 b2 fun i => mod_eq_int.2 (subZ_mem q q' hz i)
  subst hq
  refine ⟨rfl, ext_red hp a3 b3 a4 b4 fun i => ?_⟩
  have e := a6 i
  rw [hf, b6] at e
  have h1 := mod_eq_int.1 e
  apply mod_eq_int.2
  have h2 : ((mulAt q (at_ g) i + r'.getD i 0 : Nat) : Int) - ((mulAt q (at_ g) i + r.getD i 0 : Nat) : Int) = (r'.getD i 0 : Int) - (r.getD i 0 : Nat) := by
    rw [Int.natCast_add, Int.natCast_add]; omega
  rw [h2] at h1
  have := Int.dvd_neg.2 h1
  rwa [Int.neg_sub] at this

/-! ### Divisors -/
/-- h is a multiple of d, modulo p -/
def Dv (p : Nat) (d : List Nat) (h : Nat → Nat) : Prop := ∃ c : List Nat, ∀ i, h i % p = mulAt c (at_ d) i % p
theorem Dv.congr {p : Nat} {d : List Nat} {h k : Nat → Nat} (hh : Dv p d h) (e : ∀ i, k i % p = h i % p) : Dv p d k := by
  obtain ⟨c, hc⟩ := hh
  exact ⟨c, fun i => (e i).trans (hc i)⟩
theorem Dv.zero (p : Nat) (d : List Nat) : Dv p d (fun _ => 0) := ⟨[], fun i => by simp [mulAt]⟩
theorem Dv.add {p : Nat} {d : List Nat} {h k : Nat → Nat} (hh : Dv p d h) (hk : Dv p d k) : Dv p d (fun i => h i + k i) := by
  obtain ⟨c, hc⟩ := hh
  obtain ⟨e, he⟩ := hk
  exact ⟨addL c e, fun i => by rw [addL_mulAt, Nat.add_mod, hc, he, ← Nat.add_mod]⟩
theorem Dv.smul {p : Nat} {d : List Nat} {h : Nat → Nat} (a : Nat) (hh : Dv p d h) : Dv p d (fun i => a * h i) := by
  obtain ⟨c, hc⟩ := hh
  exact ⟨c.map (a * ·), fun i => by rw [smul_mulAt, Nat.mul_mod, hc, ← Nat.mul_mod]⟩
def sh (h : Nat → Nat) : Nat → Nat
  | 0 => 0
  | i + 1 => h i
theorem Dv.sh {p : Nat} {d : List Nat} {h : Nat → Nat} (hh : Dv p d h) : Dv p d (sh h) := by
  obtain ⟨c, hc⟩ := hh
  refine ⟨0 :: c, fun i => ?_⟩
  cases i with
  | zero => simp [mulAt, M.sh]
  | succ i => simp only [mulAt, M.sh, Nat.zero_mul, Nat.zero_add]; exact hc i
theorem mulAt_cons (a : Nat) (t : List Nat) (g : Nat → Nat) (i : Nat) : mulAt (a :: t) g i = a * g i + sh (mulAt t g) i := by
  cases i with
  | zero => simp [mulAt, sh]
  | succ i => simp [mulAt, sh]
theorem Dv.mul {p : Nat} {d : List Nat} {h : Nat → Nat} (hh : Dv p d h) : ∀ q : List Nat, Dv p d (mulAt q h)
  | [] => Dv.zero p d
  | a :: t => ((hh.smul a).add (Dv.mul hh t).sh).congr fun i => by rw [mulAt_cons]
theorem Dv.self (p : Nat) (d : List Nat) : Dv p d (at_ d) := ⟨[1], fun i => by cases i <;> simp [mulAt]⟩
theorem Dv.trans {p : Nat} {d e : List Nat} {h : Nat → Nat} (h1 : Dv p d (at_ e)) (h2 : Dv p e h) : Dv p d h := by
  obtain ⟨c, hc⟩ := h2
  exact (h1.mul c).congr hc
theorem within_mod {p : Nat} (hp : 0 < p) (l : List Nat) : within p (l.map (· % p)) = true := by
  apply within_of
  intro i hi
  rw [List.getD_eq_getElem?_getD]
  simp only [List.getElem?_map]
  have : i < l.length := by simpa using hi
  simp [this, Nat.mod_lt _ hp]
theorem map_mod_get (p : Nat) (l : List Nat) (i : Nat) : (l.map (· % p)).getD i 0 = l.getD i 0 % p := by
  simp only [List.getD_eq_getElem?_getD, List.getElem?_map]
  cases l[i]? <;> simp
/-- what divides leaves nothing -/
theorem isDiv_of_dv {p : Nat} (hi : isP p = true) {f d q r : List Nat} (hd : Lead p d) (h : Dv p d (at_ f)) (hq : IsDiv p f d q r) : r = [] := by
  have hp : 0 < p := by have := pos_of hi; omega
  obtain ⟨c, hc⟩ := h
  have h' : IsDiv p f d (trim (c.map (· % p))) [] := by
    refine ⟨within_trim (within_mod hp c), trim_trim _, rfl, rfl, hd.2.1, fun i => ?_⟩
    have e : mulAt (trim (c.map (· % p))) (at_ d) i % p = mulAt c (at_ d) i % p := mulAt_mod _ _ _ _ (fun i => by rw [trim_get, map_mod_get, Nat.mod_mod]) (fun _ => rfl) i
    have := hc i
    unfold at_ at this e ⊢
    rw [this]; simpa using e.symm
  exact (isDiv_unique hi hd (fun _ => rfl) hq h').2

/-! ### The algorithm of Euclid -/
/-- from f and g the divisions lead to d -/
inductive Euc (p : Nat) : List Nat → List Nat → List Nat → Prop
  | done (f : List Nat) : Euc p f [] f
  | step {f g q r d : List Nat} (hg : Lead p g) (h : IsDiv p f g q r) (hd : Euc p g r d) : Euc p f g d
theorem Euc.unique {p : Nat} (hi : isP p = true) {f g d d' : List Nat} (h : Euc p f g d) : Euc p f g d' → d = d' := by
  induction h with
  | done f => intro h'; cases h' with
    | done => rfl
    | step hg _ _ => exact absurd hg.2.1 (by simp)
  | step hg h hd ih => intro h'; cases h' with
    | done => exact absurd hg.2.1 (by simp)
    | step hg' h2 hd' =>
      obtain ⟨rfl, rfl⟩ := isDiv_unique hi hg (fun _ => rfl) h h2
      exact ih hd'
theorem Euc.dv {p : Nat} {f g d : List Nat} (h : Euc p f g d) : Dv p d (at_ f) ∧ Dv p d (at_ g) := by
  induction h with
  | done f => exact ⟨Dv.self _ _, (Dv.zero _ _).congr fun i => by simp [at_]⟩
  | @step f g q r d hg h hd ih =>
    obtain ⟨i1, i2⟩ := ih
    exact ⟨((i1.mul q).add i2).congr fun i => h.2.2.2.2.2 i, i1⟩
/-- the greatest common divisor with leading coefficient 1 -/
def monic (p : Nat) (d : List Nat) : List Nat := pscale p d (pw p (d.getD (d.length - 1) 0) (p - 2))
theorem monic_dv {p : Nat} (hi : isP p = true) {d : List Nat} (hd : Lead p d) : Dv p (monic p d) (at_ d) := by
  obtain ⟨k, hk⟩ : ∃ k, k = d.getD (d.length - 1) 0 := ⟨_, rfl⟩
  have hp : 0 < p := by have := pos_of hi; omega
  refine ⟨[k], fun i => ?_⟩
  have e : mulAt [k] (at_ (monic p d)) i = k * (monic p d).getD i 0 := by cases i <;> simp [mulAt, at_]
  have h1 := within_mem hd.1 (k := d.length - 1) (by have := hd.2.1; omega)
  have h2 := hd.2.2
  rw [← hk] at h1 h2
  have hinv : pw p k (p - 2) * k % p = 1 := by
    unfold pw; rw [Nat.mod_mul_mod]; exact inv_mul hi (by rw [Nat.mod_eq_of_lt h1]; exact h2)
  rw [e, Nat.mul_mod, show (monic p d).getD i 0 % p = d.getD i 0 * pw p k (p - 2) % p by unfold monic; rw [pscale_get, hk], ← Nat.mul_mod, ← Nat.mul_assoc, Nat.mul_comm k, Nat.mul_assoc, Nat.mul_comm k, Nat.mul_mod, hinv, Nat.mul_one, Nat.mod_mod]
  rfl
theorem monic_lead {p : Nat} (hi : isP p = true) {d : List Nat} (hd : Lead p d) : Lead p (monic p d) ∧ (monic p d).length = d.length := by
  obtain ⟨k, hk⟩ : ∃ k, k = d.getD (d.length - 1) 0 := ⟨_, rfl⟩
  have hp : 3 ≤ p := by have := pos_of hi; omega
  have h0 := hd.2.1
  have h1 := within_mem hd.1 (k := d.length - 1) (by omega)
  have h2 := hd.2.2
  rw [← hk] at h1 h2
  have hinv : k * pw p k (p - 2) % p = 1 := by
    rw [Nat.mul_comm]; unfold pw; rw [Nat.mod_mul_mod]; exact inv_mul hi (by rw [Nat.mod_eq_of_lt h1]; exact h2)
  have hl : (rowOf p d.length fun i => d.getD i 0 * pw p k (p - 2)).getD (d.length - 1) 0 = 1 := by
    rw [row_get, if_pos (by omega), ← hk]; exact hinv
  have ht : monic p d = rowOf p d.length fun i => d.getD i 0 * pw p k (p - 2) := by
    unfold monic pscale poly
    rw [← hk]
    exact trim_of_last (.inr (by rw [row_len, hl]; omega))
  refine ⟨⟨poly_within (by omega) _ _, ?_, ?_⟩, ?_⟩
  · rw [ht, row_len]; exact h0
  · rw [ht, row_len, hl]; omega
  · rw [ht, row_len]

/-! ### Few roots -/
theorem evN_int (x : Nat) : ∀ l : List Nat, (evN x l : Int) = ev x (l.map fun (a : Nat) => (a : Int))
  | [] => rfl
  | a :: t => by simp only [evN, List.map_cons, ev, ← evN_int x t, Int.natCast_add, Int.natCast_mul]
theorem not_dvd_of_ne {p x y : Nat} (hx : x < p) (hy : y < p) (h : x ≠ y) : ¬ (p : Int) ∣ (y : Int) - x := fun hd => h (nat_eq_of_dvd hy hx hd).symm
/-- two polynomials that agree at as many places as they have coefficients are equal -/
theorem agree {p : Nat} (hi : isP p = true) {f g xs : List Nat} (hf : within p f = true) (hg : within p g = true) (tf : trim f = f) (tg : trim g = g) (hd : xs.Nodup) (hx : within p xs = true)
    (hlf : f.length ≤ xs.length) (hlg : g.length ≤ xs.length) (h : ∀ x ∈ xs, pev p f x = pev p g x) : f = g := by
  have hp : 0 < p := by have := pos_of hi; omega
  have hw : ∀ x ∈ xs, x < p := by
    intro x hx'
    unfold within at hx
    simpa using List.all_eq_true.1 hx x hx'
  have hr := few_roots hi (xs.map fun (a : Nat) => (a : Int)) (subZ f g) (by
    rw [List.pairwise_map]
    exact List.Pairwise.imp_of_mem (fun {a b} ha hb hab => not_dvd_of_ne (hw a ha) (hw b hb) hab) hd) (by
    intro y hy
    obtain ⟨x, hx', rfl⟩ := List.mem_map.1 hy
    rw [subZ_ev]
    exact mod_eq_int.1 (h x hx')) (by rw [subZ_len, List.length_map]; omega)
  exact ext_red hp hf hg tf tg fun i => mod_eq_int.2 (subZ_mem f g hr i)
theorem pev_nil (p x : Nat) : pev p [] x = 0 := by simp [pev, evN]
/-- a polynomial that is zero at as many places as it has coefficients is the zero polynomial -/
theorem no_more_roots {p : Nat} (hi : isP p = true) {f xs : List Nat} (hf : within p f = true) (tf : trim f = f) (hd : xs.Nodup) (hx : within p xs = true) (hl : f.length ≤ xs.length) (h : ∀ x ∈ xs, pev p f x = 0) : f = [] :=
  agree hi hf rfl tf rfl hd hx hl (by simp) fun x hx' => by rw [h x hx', pev_nil]

/-! ### Interpolation -/
/-- f goes through the points (xs[i], ys[i]) and is shorter than they are many, or as long -/
def Thru (p : Nat) (xs ys : List Nat) (f : List Nat) : Prop :=
  within p f = true ∧ trim f = f ∧ f.length ≤ xs.length ∧ ∀ i, i < xs.length → pev p f (xs.getD i 0) = ys.getD i 0
theorem Thru.unique {p : Nat} (hi : isP p = true) {xs ys f g : List Nat} (hd : xs.Nodup) (hx : within p xs = true) (h : Thru p xs ys f) (h' : Thru p xs ys g) : f = g := by
  obtain ⟨a1, a2, a3, a4⟩ := h
  obtain ⟨b1, b2, b3, b4⟩ := h'
  refine agree hi a1 b1 a2 b2 hd hx a3 b3 fun x hx' => ?_
  obtain ⟨i, hi, rfl⟩ := List.getElem_of_mem hx'
  have e1 := a4 i hi
  have e2 := b4 i hi
  rw [getD_lt hi] at e1 e2
  rw [e1, e2]
end Go.Proofs.Ytfkepkdfpjaniaa.M
namespace Go.Proofs.Ytfkepkdfpjaniaa.M
set_option linter.unusedVariables false

/-- the product of the differences of x and the first k of xs, without the one at place i -/
def distK (p x : Nat) (xs : List Nat) (i : Nat) : Nat → Nat
  | 0 => 1
  | k + 1 => if k = i then distK p x xs i k else distK p x xs i k * (x + p - xs.getD k 0) % p
theorem distK_lt {p x : Nat} (hp : 1 < p) (xs : List Nat) (i : Nat) : ∀ k, distK p x xs i k < p
  | 0 => hp
  | k + 1 => by
    unfold distK; split
    · exact distK_lt hp xs i k
    · exact Nat.mod_lt _ (by omega)
theorem sub_zero_iff {p x y : Nat} (hx : x < p) (hy : y < p) : (x + p - y) % p = 0 ↔ x = y := by
  constructor
  · intro h
    by_cases hxy : y ≤ x
    · rw [show x + p - y = (x - y) + p by omega, Nat.add_mod_right, Nat.mod_eq_of_lt (by omega)] at h; omega
    · rw [Nat.mod_eq_of_lt (by omega)] at h; omega
  · rintro rfl; rw [Nat.add_sub_cancel_left, Nat.mod_self]
/-- such a product is 0 just where a factor is -/
theorem distK_zero {p : Nat} (hi : isP p = true) {x : Nat} (hx : x < p) {xs : List Nat} (hw : within p xs = true) (i : Nat) : ∀ k, k ≤ xs.length → (distK p x xs i k = 0 ↔ ∃ j, j < k ∧ j ≠ i ∧ xs.getD j 0 = x)
  | 0, _ => by simp [distK]
  | k + 1, hk => by
    have ih := distK_zero hi hx hw i k (by omega)
    have hp := pos_of hi
    have hl := distK_lt (x := x) (show 1 < p by omega) xs i k
    unfold distK
    by_cases h : k = i
    · rw [if_pos h, ih]
      constructor
      · rintro ⟨j, h1, h2, h3⟩; exact ⟨j, by omega, h2, h3⟩
      · rintro ⟨j, h1, h2, h3⟩; exact ⟨j, by omega, h2, h3⟩
    · rw [if_neg h]
      have hy := within_mem hw (show k < xs.length by omega)
      constructor
      · intro h0
        rcases prime_mul hi h0 with h1 | h1
        · rw [Nat.mod_eq_of_lt hl] at h1
          obtain ⟨j, g1, g2, g3⟩ := ih.1 h1
          exact ⟨j, by omega, g2, g3⟩
        · exact ⟨k, by omega, h, ((sub_zero_iff hx hy).1 h1).symm⟩
      · rintro ⟨j, g1, g2, g3⟩
        by_cases hj : j = k
        · subst hj
          rw [Nat.mul_mod, (sub_zero_iff hx hy).2 g3.symm]; simp
        · rw [ih.2 ⟨j, by omega, g2, g3⟩]; simp

def pplus (p : Nat) (f : List Nat) (k : Nat) (g : List Nat) : List Nat := poly p (max f.length g.length) fun i => f.getD i 0 + k * g.getD i 0
theorem pplus_get (p : Nat) (f : List Nat) (k : Nat) (g : List Nat) (i : Nat) : (pplus p f k g).getD i 0 % p = (f.getD i 0 + k * g.getD i 0) % p :=
  poly_mod_get (fun i hi => by rw [getD_ge (l := f) (by omega), getD_ge (l := g) (by omega)]; simp) i
theorem pev_plus (p : Nat) (f : List Nat) (k : Nat) (g : List Nat) (x : Nat) : pev p (pplus p f k g) x = (pev p f x + k * pev p g x) % p := by
  unfold pev
  rw [evN_mod x (pplus p f k g) (addL f (g.map (k * ·))) (fun i => by rw [pplus_get, addL_get, smul_get]), addL_ev, smul_ev, Nat.add_mod (evN x f % p), Nat.mod_mod, Nat.mul_mod k (evN x g % p), Nat.mod_mod, ← Nat.mul_mod, ← Nat.add_mod]
theorem pplus_nil (p : Nat) (k : Nat) (g : List Nat) : pplus p [] k g = pscale p g k := by
  unfold pplus pscale
  apply poly_eq
  intro i
  simp only [List.length_nil, Nat.zero_max, List.getD_nil, Nat.zero_add]
  rw [Nat.mul_comm]

def tabM (n : Nat) (F : Nat → Nat) : List Nat := (List.range n).map F
theorem tabM_get {n : Nat} (F : Nat → Nat) (i : Nat) : (tabM n F).getD i 0 = if i < n then F i else 0 := by
  unfold tabM
  by_cases h : i < n
  · simp [List.getD_eq_getElem?_getD, h]
  · simp [List.getD_eq_getElem?_getD, h]
/-- what the function product hands back -/
def prodL (p : Nat) (f g : List Nat) : List Nat := if f.length = 0 ∨ g.length = 0 then [] else tabM (f.length + g.length - 1) fun i => mulAt f (at_ g) i % p
theorem prodL_get (p : Nat) (f g : List Nat) (i : Nat) : (prodL p f g).getD i 0 % p = mulAt f (at_ g) i % p := by
  unfold prodL
  by_cases h : f.length = 0 ∨ g.length = 0
  · rw [if_pos h]
    rcases h with h | h
    · obtain rfl := List.eq_nil_of_length_eq_zero h; simp [mulAt]
    · rw [mulAt_congr (g := at_ g) (h := fun _ => 0) (fun j => getD_ge (l := g) (by omega))]
      have : ∀ (l : List Nat) (k : Nat), mulAt l (fun _ => 0) k = 0 := fun l => by
        induction l with
        | nil => intro k; rfl
        | cons a t ih => intro k; cases k <;> simp [mulAt, ih]
      rw [this]; simp
  · rw [if_neg h, tabM_get]
    by_cases hi : i < f.length + g.length - 1
    · rw [if_pos hi, Nat.mod_mod]
    · rw [if_neg hi, mulAt_zero (at_ g) g.length (fun j hj => getD_ge hj) _ _ (by omega)]
theorem prodL_within {p : Nat} (hp : 0 < p) (f g : List Nat) : within p (prodL p f g) = true := by
  unfold prodL
  split
  · rfl
  · apply within_of
    intro i _
    rw [tabM_get]; split
    · exact Nat.mod_lt _ hp
    · exact hp
theorem prodL_len {p : Nat} {f g : List Nat} (hf : 0 < f.length) (hg : 0 < g.length) : (prodL p f g).length = f.length + g.length - 1 := by
  unfold prodL; rw [if_neg (by omega)]; simp [tabM]
theorem pev_prod (p : Nat) (f g : List Nat) (x : Nat) : pev p (prodL p f g) x = pev p f x * pev p g x % p := by
  unfold pev
  rw [evN_mod x (prodL p f g) (mulL f g) (fun i => by rw [prodL_get, mulL_get]), mulL_ev, ← Nat.mul_mod]
/-- the product of polynomials, trimmed -/
theorem prodL_trim (p : Nat) (f g : List Nat) : trim (prodL p f g) = pmul p f g := by
  unfold pmul poly
  apply trim_congr
  intro i
  rw [row_get]
  unfold prodL
  by_cases h : f.length = 0 ∨ g.length = 0
  · rw [if_pos h]
    have e : mulAt f (at_ g) i % p = 0 := by
      have := prodL_get p f g i
      unfold prodL at this
      rw [if_pos h] at this
      rw [← this]; simp
    rw [e]; simp
  · rw [if_neg h, tabM_get]
    by_cases hi : i < f.length + g.length - 1
    · rw [if_pos hi, if_pos (by omega)]
    · rw [if_neg hi]
      split
      · rw [mulAt_zero (at_ g) g.length (fun j hj => getD_ge hj) _ _ (by omega)]; simp
      · rfl
/-- the product of two polynomials that are not zero ends in no zero -/
theorem prodL_self {p : Nat} (hi : isP p = true) {f g : List Nat} (hf : Lead p f) (hg : Lead p g) : trim (prodL p f g) = prodL p f g := by
  have hl := prodL_len (p := p) hf.2.1 hg.2.1
  apply trim_of_last
  right
  rw [hl]
  have hf1 := hf.2.1
  have hg1 := hg.2.1
  intro h0
  have h1 := prodL_get p f g (f.length + g.length - 1 - 1)
  rw [h0, Nat.zero_mod] at h1
  have hsp : f = f.take (f.length - 1) ++ [f.getD (f.length - 1) 0] := by
    have := List.take_succ_eq_append_getElem (l := f) (i := f.length - 1) (by omega)
    rw [show f.length - 1 + 1 = f.length by omega, List.take_length] at this
    rw [getD_lt (by omega)]; exact this
  have hz : mulAt (f.take (f.length - 1)) (at_ g) (f.length + g.length - 1 - 1) = 0 := mulAt_zero (at_ g) g.length (fun j hj => getD_ge hj) _ _ (by rw [List.length_take]; omega)
  rw [hsp, mulAt_snoc, ← hsp] at h1
  have hlen : (f.take (f.length - 1)).length = f.length - 1 := by rw [List.length_take]; omega
  rw [hlen, hz, if_pos (by omega), Nat.zero_add, show f.length + g.length - 1 - 1 - (f.length - 1) = g.length - 1 by omega] at h1
  have a1 := within_mem hf.1 (k := f.length - 1) (by omega)
  have a2 := within_mem hg.1 (k := g.length - 1) (by omega)
  rcases prime_mul hi h1.symm with h2 | h2
  · rw [Nat.mod_eq_of_lt a1] at h2; exact hf.2.2 h2
  · have : at_ g (g.length - 1) = g.getD (g.length - 1) 0 := rfl
    rw [this, Nat.mod_eq_of_lt a2] at h2; exact hg.2.2 h2
theorem pev_linear {p : Nat} (r t : Nat) (hr : r ≤ p) : pev p [(p - r) % p, 1] t = (t + p - r) % p := by
  unfold pev
  simp only [evN, Nat.mul_zero, Nat.add_zero, Nat.mul_one]
  rw [Nat.mod_add_mod, show p - r + t = t + p - r by omega]

/-! ### One step of Newton -/
/-- z is zero at the first k of xs and nowhere else -/
def Node (p : Nat) (xs : List Nat) (k : Nat) (z : List Nat) : Prop := within p z = true ∧ z.length = k + 1 ∧ ∀ t, t < p → pev p z t = distK p t xs xs.length k
theorem Node.start {p : Nat} (hp : 1 < p) (xs : List Nat) : Node p xs 0 [1] :=
  ⟨within_of (fun i hi => by simp at hi; subst hi; simpa using hp), rfl, fun t ht => by simp [pev, evN, distK, Nat.mod_eq_of_lt hp]⟩
theorem Node.step {p : Nat} (hp : 1 < p) {xs : List Nat} (hw : within p xs = true) {k : Nat} (hk : k < xs.length) {z : List Nat} (h : Node p xs k z) : Node p xs (k + 1) (prodL p z [(p - xs.getD k 0) % p, 1]) := by
  obtain ⟨h1, h2, h3⟩ := h
  have hx := within_mem hw hk
  refine ⟨prodL_within (by omega) _ _, by rw [prodL_len (by omega) (by simp), h2]; simp, fun t ht => ?_⟩
  rw [pev_prod, h3 t ht, pev_linear _ _ (by omega)]
  show _ = if k = xs.length then _ else _
  rw [if_neg (by omega), Nat.mul_mod, Nat.mod_mod, ← Nat.mul_mod]
/-- what the loop of Through holds after k rounds -/
def Newt (p : Nat) (xs ys : List Nat) (k : Nat) (f : List Nat) : Prop := within p f = true ∧ trim f = f ∧ f.length ≤ k ∧ ∀ i, i < k → pev p f (xs.getD i 0) = ys.getD i 0
theorem Newt.start (p : Nat) (xs ys : List Nat) : Newt p xs ys 0 [] := ⟨rfl, rfl, Nat.le_refl _, fun i hi => by omega⟩
theorem Newt.done {p : Nat} {xs ys f : List Nat} (h : Newt p xs ys xs.length f) : Thru p xs ys f := h
theorem Newt.step {p : Nat} (hi : isP p = true) {xs ys : List Nat} (hw : within p xs = true) (hy : within p ys = true) (hl : ys.length = xs.length) {k : Nat} (hk : k < xs.length) {f z : List Nat} (h : Newt p xs ys k f) (hz : Node p xs k z)
    (h0 : pev p z (xs.getD k 0) ≠ 0) : Newt p xs ys (k + 1) (pplus p f ((ys.getD k 0 + p - pev p f (xs.getD k 0)) % p * pw p (pev p z (xs.getD k 0)) (p - 2) % p) z) := by
  obtain ⟨a1, a2, a3, a4⟩ := h
  obtain ⟨b1, b2, b3⟩ := hz
  have hp : 0 < p := by have := pos_of hi; omega
  have hx := within_mem hw hk
  have hyk := within_mem hy (show k < ys.length by omega)
  refine ⟨poly_within hp _ _, poly_trim _ _ _, ?_, fun i hi' => ?_⟩
  · have := poly_len p (max f.length z.length) (fun i => f.getD i 0 + ((ys.getD k 0 + p - pev p f (xs.getD k 0)) % p * pw p (pev p z (xs.getD k 0)) (p - 2) % p) * z.getD i 0)
    unfold pplus; omega
  · rw [pev_plus]
    by_cases he : i = k
    · subst he
      have hfl := pev_lt f (xs.getD i 0) hp
      have hzl := pev_lt z (xs.getD i 0) hp
      have hinv : pw p (pev p z (xs.getD i 0)) (p - 2) * pev p z (xs.getD i 0) % p = 1 := by
        unfold pw; rw [Nat.mod_mul_mod]; exact inv_mul hi (by rw [Nat.mod_eq_of_lt hzl]; exact h0)
      generalize pev p z (xs.getD i 0) = a at *
      generalize pev p f (xs.getD i 0) = b at *
      generalize pw p a (p - 2) = q at *
      generalize ys.getD i 0 = y at *
      rw [Nat.add_mod, Nat.mod_mul_mod, Nat.mul_assoc, Nat.mul_mod, hinv, Nat.mul_one, Nat.mod_mod, Nat.mod_mod, ← Nat.add_mod, show b + (y + p - b) = y + p by omega, Nat.add_mod_right, Nat.mod_eq_of_lt hyk]
    · have hxi := within_mem hw (show i < xs.length by omega)
      have hz0 : pev p z (xs.getD i 0) = 0 := by
        rw [b3 _ hxi, distK_zero hi hxi hw _ _ (by omega)]
        exact ⟨i, by omega, by omega, rfl⟩
      rw [hz0, Nat.mul_zero, Nat.add_zero, Nat.mod_eq_of_lt (pev_lt f _ hp), a4 i (by omega)]
theorem getD_inj_of_nodup {l : List Nat} (h : l.Nodup) {i j : Nat} (hi : i < l.length) (hj : j < l.length) (e : l.getD i 0 = l.getD j 0) : i = j := by
  rw [getD_lt hi, getD_lt hj] at e
  unfold List.Nodup at h
  rw [List.pairwise_iff_getElem] at h
  rcases Nat.lt_trichotomy i j with h1 | h1 | h1
  · exact absurd e (h i j hi hj h1)
  · exact h1
  · exact absurd e.symm (h j i hj hi h1)
theorem node_zero {p : Nat} (hi : isP p = true) {xs : List Nat} (hw : within p xs = true) {k : Nat} (hk : k < xs.length) {z : List Nat} (hz : Node p xs k z) (h0 : pev p z (xs.getD k 0) = 0) : ¬ xs.Nodup := by
  have hx := within_mem hw hk
  rw [hz.2.2 _ hx, distK_zero hi hx hw _ _ (by omega)] at h0
  obtain ⟨j, h1, _, h3⟩ := h0
  intro hn
  have := getD_inj_of_nodup hn (by omega) hk h3
  omega
/-- the first k of xs differ from each other -/
def Diff (xs : List Nat) (k : Nat) : Prop := ∀ i j, i < j → j < k → xs.getD i 0 ≠ xs.getD j 0
theorem Diff.step {p : Nat} (hi : isP p = true) {xs : List Nat} (hw : within p xs = true) {k : Nat} (hk : k < xs.length) {z : List Nat} (hz : Node p xs k z) (h0 : pev p z (xs.getD k 0) ≠ 0) (h : Diff xs k) : Diff xs (k + 1) := by
  have hx := within_mem hw hk
  intro i j hij hj
  by_cases he : j = k
  · subst he
    intro e
    apply h0
    rw [hz.2.2 _ hx, distK_zero hi hx hw _ _ (by omega)]
    exact ⟨i, hij, by omega, e⟩
  · exact h i j hij (by omega)
theorem Diff.nodup {xs : List Nat} (h : Diff xs xs.length) : xs.Nodup := by
  unfold List.Nodup
  rw [List.pairwise_iff_getElem]
  intro i j hi hj hij
  have := h i j hij hj
  rwa [getD_lt hi, getD_lt hj] at this
theorem Diff.of_nodup {xs : List Nat} (h : xs.Nodup) : Diff xs xs.length := fun i j hij hj e => by
  have := getD_inj_of_nodup h (by omega) hj e
  omega
end Go.Proofs.Ytfkepkdfpjaniaa.M
namespace Go.Proofs.Ytfkepkdfpjaniaa.M
set_option linter.unusedVariables false

/-- the roots below k -/
def rootsTo (p : Nat) (f : List Nat) (k : Nat) : List Nat := (List.range k).filter fun x => pev p f x == 0
theorem rootsTo_succ (p : Nat) (f : List Nat) (k : Nat) : rootsTo p f (k + 1) = rootsTo p f k ++ if pev p f k = 0 then [k] else [] := by
  unfold rootsTo
  rw [List.range_succ, List.filter_append]
  by_cases h : pev p f k = 0
  · simp [h]
  · simp [h]
theorem rootsTo_mem {p : Nat} {f : List Nat} {k x : Nat} : x ∈ rootsTo p f k ↔ x < k ∧ pev p f x = 0 := by
  unfold rootsTo; simp
theorem rootsTo_nodup (p : Nat) (f : List Nat) (k : Nat) : (rootsTo p f k).Nodup := by
  unfold rootsTo List.Nodup
  exact List.Pairwise.filter _ List.nodup_range
theorem rootsTo_sorted (p : Nat) (f : List Nat) (k : Nat) : (rootsTo p f k).Pairwise (· < ·) := by
  unfold rootsTo
  exact List.Pairwise.filter _ List.pairwise_lt_range
theorem rootsTo_within {p : Nat} (f : List Nat) : within p (rootsTo p f p) = true := by
  unfold within
  rw [List.all_eq_true]
  intro x hx
  have := (rootsTo_mem.1 hx).1
  simpa using this
/-- no more roots than the degree -/
theorem rootsTo_len {p : Nat} (hi : isP p = true) {f : List Nat} (hf : within p f = true) (tf : trim f = f) (h0 : f ≠ []) : (rootsTo p f p).length < f.length := by
  apply Nat.lt_of_not_le
  intro hc
  exact h0 (no_more_roots hi hf tf (rootsTo_nodup p f p) (rootsTo_within f) hc (fun x hx => (rootsTo_mem.1 hx).2))
theorem rootsTo_split (p : Nat) (f : List Nat) {k n : Nat} (h : k ≤ n) : ∃ t, rootsTo p f n = rootsTo p f k ++ t := by
  induction n with
  | zero => obtain rfl : k = 0 := by omega
            exact ⟨[], by simp⟩
  | succ n ih =>
    by_cases hk : k = n + 1
    · subst hk; exact ⟨[], by simp⟩
    · obtain ⟨t, ht⟩ := ih (by omega)
      exact ⟨_, by rw [rootsTo_succ, ht, List.append_assoc]⟩
/-- once as many are found as the degree says, all are found -/
theorem rootsTo_full {p : Nat} (hi : isP p = true) {f : List Nat} (hf : within p f = true) (tf : trim f = f) (h0 : f ≠ []) {k : Nat} (hk : k ≤ p) (hl : f.length - 1 ≤ (rootsTo p f k).length) : rootsTo p f k = rootsTo p f p := by
  obtain ⟨t, ht⟩ := rootsTo_split p f hk
  have h1 := rootsTo_len hi hf tf h0
  rw [ht, List.length_append] at h1
  have : t = [] := List.eq_nil_of_length_eq_zero (by omega)
  rw [ht, this, List.append_nil]
theorem rootsTo_trim (p : Nat) (f : List Nat) (k : Nat) : rootsTo p (trim f) k = rootsTo p f k := by
  unfold rootsTo
  congr 1
  funext x
  rw [pev_trim]

/-! ### lengths of products -/
theorem lead_trim {p : Nat} {f : List Nat} (h : within p f = true) (h0 : 0 < (trim f).length) : Lead p (trim f) := lead_of (within_trim h) (trim_trim f) h0
theorem prodL_trims {p : Nat} (hi : isP p = true) {f g : List Nat} (hf : within p f = true) (hg : within p g = true) : prodL p (trim f) (trim g) = pmul p f g := by
  rw [← pmul_trim, ← prodL_trim]
  by_cases h : (trim f).length = 0 ∨ (trim g).length = 0
  · unfold prodL; rw [if_pos h]; rfl
  · exact (prodL_self hi (lead_trim hf (by omega)) (lead_trim hg (by omega))).symm
theorem pmul_len {p : Nat} (hi : isP p = true) {f g : List Nat} (hf : within p f = true) (hg : within p g = true) (h1 : 0 < (trim f).length) (h2 : 0 < (trim g).length) : (pmul p f g).length = (trim f).length + (trim g).length - 1 := by
  rw [← prodL_trims hi hf hg, prodL_len h1 h2]
theorem pmul_len_zero {p : Nat} (hi : isP p = true) {f g : List Nat} (hf : within p f = true) (hg : within p g = true) (h : (trim f).length = 0 ∨ (trim g).length = 0) : pmul p f g = [] := by
  rw [← prodL_trims hi hf hg]; unfold prodL; rw [if_pos h]

/-! ### slopes -/
theorem slope_eq {p : Nat} (f : List Nat) : trim ((tabM f.length fun i => f.getD i 0 * (i % p) % p).drop 1) = pslope p f := by
  unfold pslope poly
  apply trim_congr
  intro i
  rw [row_get]
  have e : ((tabM f.length fun i => f.getD i 0 * (i % p) % p).drop 1).getD i 0 = (tabM f.length fun i => f.getD i 0 * (i % p) % p).getD (i + 1) 0 := by
    simp only [List.getD_eq_getElem?_getD, List.getElem?_drop, Nat.add_comm 1 i]
  rw [e, tabM_get]
  by_cases h : i + 1 < f.length
  · rw [if_pos h, if_pos (by omega), Nat.mul_comm]
  · rw [if_neg h, if_neg (by omega)]
end Go.Proofs.Ytfkepkdfpjaniaa.M
namespace Go.Proofs.Ytfkepkdfpjaniaa.M
set_option linter.unusedVariables false

/-- the value at t of the reference's basis polynomial for place i, after k rounds -/
def unitAt (p t : Nat) (xs : List Nat) (i : Nat) : Nat → Nat
  | 0 => 1
  | k + 1 => if k = i then unitAt p t xs i k else unitAt p t xs i k * ((t + p - xs.getD k 0) % p) % p * pw p ((xs.getD i 0 + p - xs.getD k 0) % p) (p - 2) % p
theorem unitAt_lt {p t : Nat} (hp : 1 < p) (xs : List Nat) (i : Nat) : ∀ k, unitAt p t xs i k < p
  | 0 => hp
  | k + 1 => by
    unfold unitAt; split
    · exact unitAt_lt hp xs i k
    · exact Nat.mod_lt _ (by omega)
theorem pw_mul (p a b e : Nat) : pw p (a * b % p) e = pw p a e * pw p b e % p := by
  unfold pw
  rw [← Nat.mul_mod, ← Nat.mul_pow, ← Nat.pow_mod]
theorem pw_one {p : Nat} (hp : 1 < p) (e : Nat) : pw p 1 e = 1 := by unfold pw; rw [Nat.one_pow, Nat.mod_eq_of_lt hp]
theorem pw_mod (p a e : Nat) : pw p (a % p) e = pw p a e := by unfold pw; rw [← Nat.pow_mod]
theorem unitAt_dist {p t : Nat} (hp : 1 < p) (xs : List Nat) (i : Nat) : ∀ k, unitAt p t xs i k = distK p t xs i k * pw p (distK p (xs.getD i 0) xs i k) (p - 2) % p
  | 0 => by simp only [unitAt, distK]; rw [pw_one hp, Nat.mul_one, Nat.mod_eq_of_lt hp]
  | k + 1 => by
    have ih := unitAt_dist (t := t) hp xs i k
    unfold unitAt distK
    by_cases h : k = i
    · rw [if_pos h, if_pos h, if_pos h]; exact ih
    · rw [if_neg h, if_neg h, if_neg h, ih, pw_mul, pw_mod]
      generalize distK p t xs i k = a
      generalize pw p (distK p (xs.getD i 0) xs i k) (p - 2) = b
      generalize t + p - xs.getD k 0 = c
      generalize pw p (xs.getD i 0 + p - xs.getD k 0) (p - 2) = d
      have e1 : a * b % p * (c % p) % p * d % p = a * c * (b * d) % p := by
        rw [Nat.mod_mul_mod, Nat.mul_mod (a * b % p * (c % p)) d, Nat.mul_mod (a * b % p) (c % p), Nat.mod_mod, Nat.mod_mod, ← Nat.mul_mod (a * b) c, ← Nat.mul_mod (a * b * c) d]
        congr 1
        rw [Nat.mul_assoc a b c, Nat.mul_comm b c, ← Nat.mul_assoc a c b, Nat.mul_assoc (a * c)]
      have e2 : a * c % p * (b * d % p) % p = a * c * (b * d) % p := by rw [← Nat.mul_mod]
      rw [e1, e2]
/-- the number of rounds before k that multiply -/
def cnt (i k : Nat) : Nat := if i < k then k - 1 else k
/-- what the loop of unit holds -/
def UnitK (p : Nat) (xs : List Nat) (i k : Nat) (u : List Nat) : Prop := within p u = true ∧ u.length ≤ cnt i k + 1 ∧ ∀ t, t < p → pev p u t = unitAt p t xs i k
theorem UnitK.start {p : Nat} (hp : 1 < p) (xs : List Nat) (i : Nat) : UnitK p xs i 0 [1] :=
  ⟨within_of (fun j hj => by simp at hj; subst hj; simpa using hp), by simp, fun t ht => by simp [pev, evN, unitAt, Nat.mod_eq_of_lt hp]⟩
theorem UnitK.skip {p : Nat} {xs : List Nat} {i : Nat} {u : List Nat} (h : UnitK p xs i i u) : UnitK p xs i (i + 1) u := by
  obtain ⟨h1, h2, h3⟩ := h
  refine ⟨h1, by unfold cnt at h2 ⊢; simp at h2 ⊢; omega, fun t ht => ?_⟩
  rw [h3 t ht]
  show _ = if i = i then _ else _
  rw [if_pos rfl]
theorem sub_zero_left {p x : Nat} (hx : x < p) : (0 + p - x) % p = (p - x) % p := by rw [Nat.zero_add]
theorem pev_lin1 {p : Nat} (x t : Nat) (hx : x < p) : pev p [(0 + p - x) % p, 1] t = (t + p - x) % p := by
  rw [Nat.zero_add]; exact pev_linear x t (by omega)
theorem UnitK.step {p : Nat} (hp : 1 < p) {xs : List Nat} (hw : within p xs = true) {i k : Nat} (hk : k < xs.length) (hki : k ≠ i) {u : List Nat} (h : UnitK p xs i k u) :
    UnitK p xs i (k + 1) (pscale p (pmul p u [(0 + p - xs.getD k 0) % p, 1]) (pw p ((xs.getD i 0 + p - xs.getD k 0) % p) (p - 2))) := by
  obtain ⟨h1, h2, h3⟩ := h
  have hx := within_mem hw hk
  refine ⟨poly_within (by omega) _ _, ?_, fun t ht => ?_⟩
  · have l1 := poly_len p (pmul p u [(0 + p - xs.getD k 0) % p, 1]).length (fun j => (pmul p u [(0 + p - xs.getD k 0) % p, 1]).getD j 0 * pw p ((xs.getD i 0 + p - xs.getD k 0) % p) (p - 2))
    have l2 : (pmul p u [(0 + p - xs.getD k 0) % p, 1]).length ≤ u.length + 1 := by
      rw [← prodL_trim]
      refine Nat.le_trans (trim_len_le _) ?_
      unfold prodL
      split
      · simp
      · simp [tabM]
    unfold pscale
    unfold cnt at h2 ⊢
    split at h2 <;> split <;> omega
  · rw [pev_scale, pev_mul, h3 t ht, pev_lin1 _ _ hx]
    show _ = if k = i then _ else _
    rw [if_neg hki]
theorem inv_mod {p : Nat} (hi : isP p = true) {a : Nat} (ha : a % p ≠ 0) : a % p * pw p a (p - 2) % p = 1 := by
  unfold pw; rw [Nat.mod_mul_mod, Nat.mul_mod, Nat.mod_mod, ← Nat.mul_mod, Nat.mul_comm]; exact inv_mul hi ha
/-- a basis polynomial is 1 at its own place and 0 at the others -/
theorem unitAt_own {p : Nat} (hi : isP p = true) {xs : List Nat} (hw : within p xs = true) (hn : xs.Nodup) {i : Nat} (hil : i < xs.length) : unitAt p (xs.getD i 0) xs i xs.length = 1 := by
  have hp := pos_of hi
  rw [unitAt_dist (by omega)]
  have hx := within_mem hw hil
  have h0 : distK p (xs.getD i 0) xs i xs.length ≠ 0 := fun h => by
    obtain ⟨j, h1, h2, h3⟩ := (distK_zero hi hx hw i _ (Nat.le_refl _)).1 h
    exact h2 (getD_inj_of_nodup hn h1 hil h3)
  have hl := distK_lt (x := xs.getD i 0) (show 1 < p by omega) xs i xs.length
  have := inv_mod hi (a := distK p (xs.getD i 0) xs i xs.length) (by rw [Nat.mod_eq_of_lt hl]; exact h0)
  rwa [Nat.mod_eq_of_lt hl] at this
theorem unitAt_other {p : Nat} (hi : isP p = true) {xs : List Nat} (hw : within p xs = true) {i j : Nat} (hil : i < xs.length) (hjl : j < xs.length) (hij : j ≠ i) : unitAt p (xs.getD j 0) xs i xs.length = 0 := by
  have hp := pos_of hi
  rw [unitAt_dist (by omega), (distK_zero hi (within_mem hw hjl) hw i _ (Nat.le_refl _)).2 ⟨j, hjl, hij, rfl⟩]
  simp

/-! ### the sum of Lagrange -/
/-- what the reference's loop of Through holds after k rounds -/
def LagK (p : Nat) (xs ys : List Nat) (k : Nat) (f : List Nat) : Prop := within p f = true ∧ trim f = f ∧ f.length ≤ xs.length ∧ ∀ j, j < xs.length → pev p f (xs.getD j 0) = if j < k then ys.getD j 0 else 0
theorem LagK.start (p : Nat) (xs ys : List Nat) : LagK p xs ys 0 [] := ⟨rfl, rfl, by simp, fun j hj => by simp [pev_nil]⟩
theorem LagK.done {p : Nat} {xs ys f : List Nat} (h : LagK p xs ys xs.length f) : Thru p xs ys f := ⟨h.1, h.2.1, h.2.2.1, fun j hj => by rw [h.2.2.2 j hj, if_pos hj]⟩
theorem LagK.step {p : Nat} (hi : isP p = true) {xs ys : List Nat} (hw : within p xs = true) (hy : within p ys = true) (hl : ys.length = xs.length) (hn : xs.Nodup) {k : Nat} (hk : k < xs.length) {f u : List Nat} (h : LagK p xs ys k f) (hu : UnitK p xs k xs.length u) :
    LagK p xs ys (k + 1) (padd p f (pscale p u (ys.getD k 0))) := by
  obtain ⟨a1, a2, a3, a4⟩ := h
  obtain ⟨b1, b2, b3⟩ := hu
  have hp : 0 < p := by have := pos_of hi; omega
  refine ⟨poly_within hp _ _, poly_trim _ _ _, ?_, fun j hj => ?_⟩
  · have l1 := poly_len p (max f.length (pscale p u (ys.getD k 0)).length) (fun i => f.getD i 0 + (pscale p u (ys.getD k 0)).getD i 0)
    have l2 : (pscale p u (ys.getD k 0)).length ≤ u.length := poly_len p u.length (fun i => u.getD i 0 * ys.getD k 0)
    unfold padd
    unfold cnt at b2
    rw [if_pos hk] at b2
    omega
  · have hxj := within_mem hw hj
    have hyj := within_mem hy (show j < ys.length by omega)
    rw [pev_add, pev_scale, a4 j hj, b3 _ hxj]
    by_cases he : j = k
    · subst he
      rw [unitAt_own hi hw hn hj, if_neg (by omega), if_pos (by omega), Nat.one_mul, Nat.zero_add, Nat.mod_mod, Nat.mod_eq_of_lt hyj]
    · rw [unitAt_other hi hw hk hj he, Nat.zero_mul, Nat.zero_mod, Nat.add_zero]
      by_cases h1 : j < k
      · rw [if_pos h1, if_pos (by omega), Nat.mod_eq_of_lt hyj]
      · rw [if_neg h1, if_neg (by omega), Nat.zero_mod]

/-! ### the reference's Away -/
/-- what its loop holds after k rounds -/
def AwayK (p : Nat) (xs : List Nat) (k : Nat) (f : List Nat) : Prop := within p f = true ∧ trim f = f ∧ f.length ≤ k + 1 ∧ pev p f 0 = 1 ∧ ∀ j, j < k → pev p f (xs.getD j 0) = 0
theorem AwayK.start {p : Nat} (hp : 1 < p) (xs : List Nat) : AwayK p xs 0 [1] :=
  ⟨within_of (fun j hj => by simp at hj; subst hj; simpa using hp), rfl, by simp, by simp [pev, evN, Nat.mod_eq_of_lt hp], fun j hj => by omega⟩
theorem AwayK.step {p : Nat} (hi : isP p = true) {xs : List Nat} (hw : within p xs = true) {k : Nat} (hk : k < xs.length) (h0 : xs.getD k 0 ≠ 0) {f : List Nat} (h : AwayK p xs k f) :
    AwayK p xs (k + 1) (pmul p f [1, (0 + p - pw p (xs.getD k 0) (p - 2)) % p]) := by
  obtain ⟨a1, a2, a3, a4, a5⟩ := h
  have hp := pos_of hi
  refine ⟨poly_within (by omega) _ _, poly_trim _ _ _, ?_, ?_, fun j hj => ?_⟩
  · rw [← prodL_trim]
    refine Nat.le_trans (trim_len_le _) ?_
    unfold prodL
    split
    · simp
    · simp [tabM]; omega
  · rw [pev_mul, a4]
    simp only [pev, evN, Nat.zero_mul, Nat.add_zero, Nat.one_mul]
    rw [Nat.mod_mod, Nat.mod_eq_of_lt (by omega)]
  · rw [pev_mul]
    by_cases he : j = k
    · subst he
      have hx := within_mem hw hk
      have hz : pev p [1, (0 + p - pw p (xs.getD j 0) (p - 2)) % p] (xs.getD j 0) = 0 := by
        have hin := inv_mod hi (a := xs.getD j 0) (by rw [Nat.mod_eq_of_lt hx]; exact h0)
        rw [Nat.mod_eq_of_lt hx] at hin
        have hql := pw_lt (p := p) (xs.getD j 0) (p - 2) (by omega)
        simp only [pev, evN, Nat.mul_zero, Nat.add_zero]
        generalize pw p (xs.getD j 0) (p - 2) = q at *
        generalize xs.getD j 0 = x at *
        have e : (1 + x * ((0 + p - q) % p)) % p = (x * q % p + x * (p - q)) % p := by
          rw [hin, Nat.zero_add, Nat.add_mod, Nat.mul_mod x ((p - q) % p), Nat.mod_mod, ← Nat.mul_mod, ← Nat.add_mod]
        rw [e, Nat.mod_add_mod, ← Nat.mul_add, show q + (p - q) = p by omega, Nat.mul_mod_left]
      rw [hz, Nat.mul_zero, Nat.zero_mod]
    · rw [a5 j (by omega), Nat.zero_mul, Nat.zero_mod]
theorem AwayK.done {p : Nat} {xs f : List Nat} (h : AwayK p xs xs.length f) : Thru p (xs ++ [0]) (List.replicate xs.length 0 ++ [1]) f := by
  obtain ⟨a1, a2, a3, a4, a5⟩ := h
  refine ⟨a1, a2, by simpa using a3, fun i hi => ?_⟩
  by_cases h1 : i < xs.length
  · have e1 : (xs ++ [0]).getD i 0 = xs.getD i 0 := by rw [List.getD_eq_getElem?_getD, List.getD_eq_getElem?_getD, List.getElem?_append_left h1]
    have e2 : (List.replicate xs.length 0 ++ [1]).getD i 0 = 0 := by rw [List.getD_eq_getElem?_getD, List.getElem?_append_left (by simpa using h1)]; simp [h1]
    rw [e1, e2]; exact a5 i h1
  · obtain rfl : i = xs.length := by simp at hi; omega
    have e1 : (xs ++ [0]).getD xs.length 0 = 0 := by rw [List.getD_eq_getElem?_getD, List.getElem?_append_right (Nat.le_refl _), Nat.sub_self]; rfl
    have e2 : (List.replicate xs.length 0 ++ [1]).getD xs.length 0 = 1 := by rw [List.getD_eq_getElem?_getD, List.getElem?_append_right (by simp), List.length_replicate, Nat.sub_self]; rfl
    rw [e1, e2]; exact a4
end Go.Proofs.Ytfkepkdfpjaniaa.M
