/-
  Polynomials modulo a prime as lists of numbers: trimmed lists, sums, products, values. No program.
-/
import Derived.Test.YtgoognipljknjaaMath
namespace Go.Proofs.Ytgoognipljknjaa.M
set_option linter.unusedVariables false

/-! ### Trimmed lists -/
/-- the length without trailing zeros -/
def tlen : List Nat → Nat
  | [] => 0
  | a :: t => if tlen t = 0 then (if a = 0 then 0 else 1) else tlen t + 1
def trim (l : List Nat) : List Nat := l.take (tlen l)
theorem tlen_le : ∀ l, tlen l ≤ l.length
  | [] => by simp [tlen]
  | a :: t => by
    have := tlen_le t
    unfold tlen; split
    · split <;> simp
    · simp; omega
theorem tlen_after : ∀ (l : List Nat) (i : Nat), tlen l ≤ i → l.getD i 0 = 0
  | [], i, _ => by simp
  | a :: t, i, h => by
    unfold tlen at h
    split at h
    · rename_i h0
      cases i with
      | zero => split at h
                · rename_i ha; simpa using ha
                · omega
      | succ i => have := tlen_after t i (by omega); simpa using this
    · cases i with
      | zero => omega
      | succ i => have := tlen_after t i (by omega); simpa using this
theorem tlen_last : ∀ (l : List Nat), 0 < tlen l → l.getD (tlen l - 1) 0 ≠ 0
  | [], h => by simp [tlen] at h
  | a :: t, h => by
    unfold tlen at h ⊢
    split at h
    · rename_i h0
      split at h
      · omega
      · rename_i ha; simp [h0, ha]
    · rename_i h0
      rw [if_neg h0]
      have := tlen_last t (by omega)
      obtain ⟨m, hm⟩ : ∃ m, tlen t = m + 1 := ⟨tlen t - 1, by omega⟩
      rw [hm] at this ⊢
      simpa using this
theorem tlen_unique {l : List Nat} {n : Nat} (h1 : ∀ i, n ≤ i → l.getD i 0 = 0) (h2 : n = 0 ∨ l.getD (n - 1) 0 ≠ 0) : tlen l = n := by
  rcases Nat.lt_trichotomy (tlen l) n with h | h | h
  · rcases h2 with h2 | h2
    · omega
    · exact absurd (tlen_after l (n - 1) (by omega)) h2
  · exact h
  · exact absurd (h1 (tlen l - 1) (by omega)) (tlen_last l (by omega))
theorem getD_take (l : List Nat) (n i : Nat) : (l.take n).getD i 0 = if i < n then l.getD i 0 else 0 := by
  simp only [List.getD_eq_getElem?_getD, List.getElem?_take]
  by_cases h : i < n
  · rw [if_pos h, if_pos h]
  · rw [if_neg h, if_neg h]; rfl
theorem trim_get (l : List Nat) (i : Nat) : (trim l).getD i 0 = l.getD i 0 := by
  unfold trim
  rw [getD_take]
  by_cases h : i < tlen l
  · rw [if_pos h]
  · rw [if_neg h, tlen_after l i (by omega)]
theorem trim_len (l : List Nat) : (trim l).length = tlen l := by
  unfold trim; rw [List.length_take]; have := tlen_le l; omega
theorem getD_lt {l : List Nat} {i : Nat} (h : i < l.length) : l.getD i 0 = l[i] := by simp [List.getD_eq_getElem?_getD, h]
theorem ext_getD {l m : List Nat} (hl : l.length = m.length) (h : ∀ i, l.getD i 0 = m.getD i 0) : l = m := by
  apply List.ext_getElem hl
  intro i h1 h2
  have := h i
  rw [getD_lt h1, getD_lt h2] at this
  exact this
theorem tlen_congr {l m : List Nat} (h : ∀ i, l.getD i 0 = m.getD i 0) : tlen l = tlen m := by
  apply tlen_unique
  · intro i hi; rw [h]; exact tlen_after m i hi
  · by_cases h0 : tlen m = 0
    · exact .inl h0
    · right; rw [h]; exact tlen_last m (by omega)
theorem trim_congr {l m : List Nat} (h : ∀ i, l.getD i 0 = m.getD i 0) : trim l = trim m := by
  apply ext_getD
  · rw [trim_len, trim_len, tlen_congr h]
  · intro i; rw [trim_get, trim_get, h]
theorem trim_trim (l : List Nat) : trim (trim l) = trim l := trim_congr (trim_get l)
theorem trim_nil : trim [] = [] := rfl
theorem trim_len_le (l : List Nat) : (trim l).length ≤ l.length := by rw [trim_len]; exact tlen_le l
theorem trim_last {l : List Nat} (h : 0 < (trim l).length) : (trim l).getD ((trim l).length - 1) 0 ≠ 0 := by
  rw [trim_get, trim_len]; exact tlen_last l (by rwa [trim_len] at h)
/-- a list that ends in no zero -/
theorem trim_of_last {l : List Nat} (h : l.length = 0 ∨ l.getD (l.length - 1) 0 ≠ 0) : trim l = l := by
  have : tlen l = l.length := tlen_unique (fun i hi => by rw [List.getD_eq_getElem?_getD, List.getElem?_eq_none hi]; rfl) h
  unfold trim; rw [this, List.take_length]
theorem trim_eq_of {l m : List Nat} (hm : trim m = m) (h : ∀ i, l.getD i 0 = m.getD i 0) : trim l = m := by rw [← hm]; exact trim_congr h
theorem trim_self_last {l : List Nat} (h : trim l = l) (h0 : 0 < l.length) : l.getD (l.length - 1) 0 ≠ 0 := by
  have := @trim_last l (by rw [h]; exact h0)
  rw [h] at this; exact this
theorem getD_ge {l : List Nat} {i : Nat} (h : l.length ≤ i) : l.getD i 0 = 0 := by rw [List.getD_eq_getElem?_getD, List.getElem?_eq_none h]; rfl
theorem trim_nil_iff {l : List Nat} : trim l = [] ↔ ∀ i, l.getD i 0 = 0 := by
  constructor
  · intro h i; rw [← trim_get, h]; simp
  · intro h
    have : trim l = trim [] := trim_congr (fun i => by rw [h]; simp)
    rw [this, trim_nil]
theorem within_getD {p : Nat} {l : List Nat} (hp : 0 < p) (h : within p l = true) (i : Nat) : l.getD i 0 < p := by
  by_cases hi : i < l.length
  · exact within_mem h hi
  · rw [getD_ge (by omega)]; exact hp
theorem within_of {p : Nat} {l : List Nat} (h : ∀ i, i < l.length → l.getD i 0 < p) : within p l = true := by
  unfold within
  rw [List.all_eq_true]
  intro x hx
  obtain ⟨i, hi, rfl⟩ := List.getElem_of_mem hx
  have := h i hi
  rw [getD_lt hi] at this
  simpa using this
theorem within_trim {p : Nat} {l : List Nat} (h : within p l = true) : within p (trim l) = true :=
  within_of fun i hi => by rw [trim_get]; exact within_mem h (by have := trim_len_le l; omega)

/-! ### The polynomial with given coefficients -/
def rowOf (p n : Nat) (c : Nat → Nat) : List Nat := (List.range n).map fun i => c i % p
def poly (p n : Nat) (c : Nat → Nat) : List Nat := trim (rowOf p n c)
theorem row_len (p n : Nat) (c : Nat → Nat) : (rowOf p n c).length = n := by simp [rowOf]
theorem row_get (p n : Nat) (c : Nat → Nat) (i : Nat) : (rowOf p n c).getD i 0 = if i < n then c i % p else 0 := by
  unfold rowOf
  rw [List.getD_eq_getElem?_getD]
  by_cases h : i < n
  · simp [h]
  · simp [h]
theorem poly_get (p n : Nat) (c : Nat → Nat) (i : Nat) : (poly p n c).getD i 0 = if i < n then c i % p else 0 := by
  unfold poly; rw [trim_get, row_get]
theorem poly_trim (p n : Nat) (c : Nat → Nat) : trim (poly p n c) = poly p n c := trim_trim _
theorem poly_len (p n : Nat) (c : Nat → Nat) : (poly p n c).length ≤ n := by have := trim_len_le (rowOf p n c); rw [row_len] at this; exact this
theorem poly_within {p : Nat} (hp : 0 < p) (n : Nat) (c : Nat → Nat) : within p (poly p n c) = true :=
  within_trim (within_of fun i hi => by rw [row_get]; split; exact Nat.mod_lt _ hp; exact hp)
theorem poly_eq {p n m : Nat} {c d : Nat → Nat} (h : ∀ i, (if i < n then c i % p else 0) = if i < m then d i % p else 0) : poly p n c = poly p m d :=
  trim_congr fun i => by rw [row_get, row_get, h]
theorem poly_congr {p n : Nat} {c d : Nat → Nat} (h : ∀ i, i < n → c i % p = d i % p) : poly p n c = poly p n d :=
  poly_eq fun i => by split <;> simp_all

def padd (p : Nat) (f g : List Nat) : List Nat := poly p (max f.length g.length) fun i => f.getD i 0 + g.getD i 0
def psub (p : Nat) (f g : List Nat) : List Nat := poly p (max f.length g.length) fun i => f.getD i 0 + p - g.getD i 0
def pscale (p : Nat) (f : List Nat) (k : Nat) : List Nat := poly p f.length fun i => f.getD i 0 * k
def pslope (p : Nat) (f : List Nat) : List Nat := poly p (f.length - 1) fun i => (i + 1) % p * f.getD (i + 1) 0

theorem padd_trim (p : Nat) (f g : List Nat) (hp : 0 < p) : padd p (trim f) (trim g) = padd p f g := by
  apply poly_eq
  intro i
  have h1 := trim_len_le f
  have h2 := trim_len_le g
  rw [trim_get, trim_get]
  by_cases h : i < max f.length g.length
  · rw [if_pos h]
    by_cases h' : i < max (trim f).length (trim g).length
    · rw [if_pos h']
    · rw [if_neg h', ← trim_get f, ← trim_get g, getD_ge (l := trim f) (by omega), getD_ge (l := trim g) (by omega)]; simp
  · rw [if_neg h, if_neg (by omega)]
theorem psub_trim (p : Nat) (f g : List Nat) (hp : 0 < p) : psub p (trim f) (trim g) = psub p f g := by
  apply poly_eq
  intro i
  have h1 := trim_len_le f
  have h2 := trim_len_le g
  rw [trim_get, trim_get]
  by_cases h : i < max f.length g.length
  · rw [if_pos h]
    by_cases h' : i < max (trim f).length (trim g).length
    · rw [if_pos h']
    · rw [if_neg h', ← trim_get f, ← trim_get g, getD_ge (l := trim f) (by omega), getD_ge (l := trim g) (by omega)]; simp
  · rw [if_neg h, if_neg (by omega)]
theorem pscale_trim (p : Nat) (f : List Nat) (k : Nat) : pscale p (trim f) k = pscale p f k := by
  apply poly_eq
  intro i
  have h1 := trim_len_le f
  rw [trim_get]
  by_cases h : i < f.length
  · rw [if_pos h]
    by_cases h' : i < (trim f).length
    · rw [if_pos h']
    · rw [if_neg h', ← trim_get f, getD_ge (l := trim f) (by omega)]; simp
  · rw [if_neg h, if_neg (by omega)]
theorem pslope_trim (p : Nat) (f : List Nat) : pslope p (trim f) = pslope p f := by
  apply poly_eq
  intro i
  have h1 := trim_len_le f
  rw [trim_get]
  by_cases h : i < f.length - 1
  · rw [if_pos h]
    by_cases h' : i < (trim f).length - 1
    · rw [if_pos h']
    · rw [if_neg h', ← trim_get f, getD_ge (l := trim f) (by omega)]; simp
  · rw [if_neg h, if_neg (by omega)]

/-! ### Products -/
/-- the coefficient k of the product of the list f with the coefficients g -/
def mulAt : List Nat → (Nat → Nat) → Nat → Nat
  | [], _, _ => 0
  | a :: t, g, 0 => a * g 0
  | a :: t, g, k + 1 => a * g (k + 1) + mulAt t g k
def at_ (l : List Nat) (i : Nat) : Nat := l.getD i 0
def pmul (p : Nat) (f g : List Nat) : List Nat := poly p (f.length + g.length) (mulAt f (at_ g))
theorem mulAt_snoc (a : Nat) (g : Nat → Nat) : ∀ (l : List Nat) (k : Nat), mulAt (l ++ [a]) g k = mulAt l g k + if l.length ≤ k then a * g (k - l.length) else 0
  | [], 0 => by simp [mulAt]
  | [], k + 1 => by simp [mulAt]
  | b :: t, 0 => by simp [mulAt]
  | b :: t, k + 1 => by
    simp only [List.cons_append, mulAt, mulAt_snoc a g t k, List.length_cons, Nat.add_le_add_iff_right, Nat.add_sub_add_right]
    omega
theorem mulAt_zero (g : Nat → Nat) (m : Nat) (hg : ∀ i, m ≤ i → g i = 0) : ∀ (l : List Nat) (k : Nat), l.length + m ≤ k + 1 → mulAt l g k = 0
  | [], _, _ => rfl
  | a :: t, 0, h => by
    simp only [List.length_cons] at h
    simp [mulAt, hg 0 (by omega)]
  | a :: t, k + 1, h => by
    simp only [List.length_cons] at h
    simp [mulAt, hg (k + 1) (by omega), mulAt_zero g m hg t k (by omega)]
theorem mulAt_congr {g h : Nat → Nat} (e : ∀ i, g i = h i) (l : List Nat) (k : Nat) : mulAt l g k = mulAt l h k := by rw [show g = h from funext e]
theorem mulAt_mod {p : Nat} : ∀ (l m : List Nat) (g h : Nat → Nat), (∀ i, l.getD i 0 % p = m.getD i 0 % p) → (∀ i, g i % p = h i % p) → ∀ k, mulAt l g k % p = mulAt m h k % p
  | [], [], _, _, _, _, _ => rfl
  | [], b :: t, g, h, e, eg, k => by
    have h0 : b % p = 0 := by simpa using (e 0).symm
    have ht := mulAt_mod [] t g h (fun i => by simpa using e (i + 1)) eg
    cases k with
    | zero => simp [mulAt, Nat.mul_mod b, h0]
    | succ k =>
      have := ht k
      simp only [mulAt] at this ⊢
      rw [Nat.add_mod, Nat.mul_mod, h0, ← this]; simp
  | a :: s, [], g, h, e, eg, k => by
    have h0 : a % p = 0 := by simpa using e 0
    have ht := mulAt_mod s [] g h (fun i => by simpa using e (i + 1)) eg
    cases k with
    | zero => simp [mulAt, Nat.mul_mod a, h0]
    | succ k =>
      have := ht k
      simp only [mulAt] at this ⊢
      rw [Nat.add_mod, Nat.mul_mod, h0, this]; simp
  | a :: s, b :: t, g, h, e, eg, k => by
    have h0 : a % p = b % p := by simpa using e 0
    have ht := mulAt_mod s t g h (fun i => by simpa using e (i + 1)) eg
    cases k with
    | zero => simp only [mulAt]; rw [Nat.mul_mod, h0, eg 0, ← Nat.mul_mod]
    | succ k => simp only [mulAt]; rw [Nat.add_mod, Nat.mul_mod, h0, eg (k + 1), ← Nat.mul_mod, ht k, ← Nat.add_mod]
/-- products of trimmed lists -/
theorem pmul_trim (p : Nat) (f g : List Nat) : pmul p (trim f) (trim g) = pmul p f g := by
  apply poly_eq
  intro i
  have h1 := trim_len_le f
  have h2 := trim_len_le g
  have e : mulAt (trim f) (at_ (trim g)) i % p = mulAt f (at_ g) i % p := mulAt_mod _ _ _ _ (fun i => by rw [trim_get]) (fun i => by unfold at_; rw [trim_get]) i
  rw [e]
  by_cases h : i < f.length + g.length
  · rw [if_pos h]
    by_cases h' : i < (trim f).length + (trim g).length
    · rw [if_pos h']
    · rw [if_neg h', ← e, mulAt_zero (at_ (trim g)) (trim g).length (fun j hj => getD_ge hj) _ _ (by omega)]; simp
  · rw [if_neg h, if_neg (by omega)]

/-! ### Values -/
def evN (x : Nat) : List Nat → Nat
  | [] => 0
  | a :: t => a + x * evN x t
def pev (p : Nat) (f : List Nat) (x : Nat) : Nat := evN x f % p
theorem evN_snoc (x a : Nat) : ∀ l, evN x (l ++ [a]) = evN x l + x ^ l.length * a
  | [] => by simp [evN]
  | b :: t => by
    simp only [List.cons_append, evN, evN_snoc x a t, List.length_cons, Nat.mul_add, Nat.pow_succ]
    rw [← Nat.mul_assoc, Nat.mul_comm x (x ^ t.length)]
    omega
theorem evN_mod {p : Nat} (x : Nat) : ∀ l m : List Nat, (∀ i, l.getD i 0 % p = m.getD i 0 % p) → evN x l % p = evN x m % p
  | [], [], _ => rfl
  | [], b :: t, e => by
    have h0 : b % p = 0 := by simpa using (e 0).symm
    have ht := evN_mod x [] t (fun i => by simpa using e (i + 1))
    simp only [evN] at ht ⊢
    rw [Nat.add_mod, h0, Nat.mul_mod, ← ht]; simp
  | a :: s, [], e => by
    have h0 : a % p = 0 := by simpa using e 0
    have ht := evN_mod x s [] (fun i => by simpa using e (i + 1))
    simp only [evN] at ht ⊢
    rw [Nat.add_mod, h0, Nat.mul_mod, ht]; simp
  | a :: s, b :: t, e => by
    have h0 : a % p = b % p := by simpa using e 0
    have ht := evN_mod x s t (fun i => by simpa using e (i + 1))
    simp only [evN]
    rw [Nat.add_mod, h0, Nat.mul_mod, ht, ← Nat.mul_mod, ← Nat.add_mod]
theorem pev_trim (p : Nat) (f : List Nat) (x : Nat) : pev p (trim f) x = pev p f x := evN_mod x _ _ fun i => by rw [trim_get]

/-- sums of lists, the shorter one continued with zeros -/
def addL : List Nat → List Nat → List Nat
  | [], m => m
  | a :: s, [] => a :: s
  | a :: s, b :: t => (a + b) :: addL s t
theorem addL_get : ∀ (l m : List Nat) (i : Nat), (addL l m).getD i 0 = l.getD i 0 + m.getD i 0
  | [], m, i => by simp [addL]
  | a :: s, [], i => by simp [addL]
  | a :: s, b :: t, 0 => by simp [addL]
  | a :: s, b :: t, i + 1 => by simpa [addL] using addL_get s t i
theorem addL_ev (x : Nat) : ∀ l m : List Nat, evN x (addL l m) = evN x l + evN x m
  | [], m => by simp [addL, evN]
  | a :: s, [] => by simp [addL, evN]
  | a :: s, b :: t => by simp only [addL, evN, addL_ev x s t, Nat.mul_add]; omega
theorem addL_mulAt (g : Nat → Nat) : ∀ (l m : List Nat) (k : Nat), mulAt (addL l m) g k = mulAt l g k + mulAt m g k
  | [], m, k => by simp [addL, mulAt]
  | a :: s, [], k => by simp [addL, mulAt]
  | a :: s, b :: t, 0 => by simp [addL, mulAt, Nat.add_mul]
  | a :: s, b :: t, k + 1 => by simp only [addL, mulAt, addL_mulAt g s t k, Nat.add_mul]; omega
theorem smul_get (a : Nat) (l : List Nat) (i : Nat) : (l.map (a * ·)).getD i 0 = a * l.getD i 0 := by
  simp only [List.getD_eq_getElem?_getD, List.getElem?_map]
  cases l[i]? <;> simp
theorem smul_ev (x a : Nat) : ∀ l : List Nat, evN x (l.map (a * ·)) = a * evN x l
  | [] => by simp [evN]
  | b :: t => by simp only [List.map_cons, evN, smul_ev x a t, Nat.mul_add, Nat.mul_left_comm]
theorem smul_mulAt (a : Nat) (g : Nat → Nat) : ∀ (l : List Nat) (k : Nat), mulAt (l.map (a * ·)) g k = a * mulAt l g k
  | [], k => by simp [mulAt]
  | b :: t, 0 => by simp [mulAt, Nat.mul_assoc]
  | b :: t, k + 1 => by simp only [List.map_cons, mulAt, smul_mulAt a g t k, Nat.mul_add, Nat.mul_assoc]
def mulL : List Nat → List Nat → List Nat
  | [], _ => []
  | a :: t, g => addL (g.map (a * ·)) (0 :: mulL t g)
theorem mulL_get (g : List Nat) : ∀ (f : List Nat) (k : Nat), (mulL f g).getD k 0 = mulAt f (at_ g) k
  | [], k => by simp [mulL, mulAt]
  | a :: t, 0 => by simp only [mulL, mulAt, addL_get, smul_get]; simp [at_]
  | a :: t, k + 1 => by
    have := mulL_get g t k
    simp only [mulL, mulAt, addL_get, smul_get, List.getD_cons_succ, this]; rfl
theorem mulL_ev (x : Nat) (g : List Nat) : ∀ f : List Nat, evN x (mulL f g) = evN x f * evN x g
  | [] => by simp [mulL, evN]
  | a :: t => by simp only [mulL, addL_ev, smul_ev, evN, mulL_ev x g t, Nat.add_mul, Nat.mul_assoc]; omega
theorem poly_mod_get {p n : Nat} {c : Nat → Nat} (h : ∀ i, n ≤ i → c i % p = 0) (i : Nat) : (poly p n c).getD i 0 % p = c i % p := by
  rw [poly_get]
  by_cases hi : i < n
  · rw [if_pos hi, Nat.mod_mod]
  · rw [if_neg hi, h i (by omega), Nat.zero_mod]
theorem pmul_get (p : Nat) (f g : List Nat) (i : Nat) : (pmul p f g).getD i 0 % p = mulAt f (at_ g) i % p :=
  poly_mod_get (fun i hi => by rw [mulAt_zero (at_ g) g.length (fun j hj => getD_ge hj) _ _ (by omega)]; simp) i
theorem padd_get (p : Nat) (f g : List Nat) (i : Nat) : (padd p f g).getD i 0 % p = (f.getD i 0 + g.getD i 0) % p :=
  poly_mod_get (fun i hi => by rw [getD_ge (l := f) (by omega), getD_ge (l := g) (by omega)]; simp) i
theorem psub_get (p : Nat) (f g : List Nat) (i : Nat) : (psub p f g).getD i 0 % p = (f.getD i 0 + p - g.getD i 0) % p :=
  poly_mod_get (fun i hi => by rw [getD_ge (l := f) (by omega), getD_ge (l := g) (by omega)]; simp) i
theorem pscale_get (p : Nat) (f : List Nat) (k i : Nat) : (pscale p f k).getD i 0 % p = (f.getD i 0 * k) % p :=
  poly_mod_get (fun i hi => by rw [getD_ge (l := f) (by omega)]; simp) i

/-! ### P2.9: the values of sums and products -/
theorem pev_add (p : Nat) (f g : List Nat) (x : Nat) : pev p (padd p f g) x = (pev p f x + pev p g x) % p := by
  unfold pev
  rw [evN_mod x (padd p f g) (addL f g) (fun i => by rw [padd_get, addL_get]), addL_ev, ← Nat.add_mod]
theorem pev_mul (p : Nat) (f g : List Nat) (x : Nat) : pev p (pmul p f g) x = pev p f x * pev p g x % p := by
  unfold pev
  rw [evN_mod x (pmul p f g) (mulL f g) (fun i => by rw [pmul_get, mulL_get]), mulL_ev, ← Nat.mul_mod]
theorem pev_scale (p : Nat) (f : List Nat) (k x : Nat) : pev p (pscale p f k) x = pev p f x * k % p := by
  unfold pev
  rw [evN_mod x (pscale p f k) (f.map (k * ·)) (fun i => by rw [pscale_get, smul_get, Nat.mul_comm]), smul_ev, Nat.mul_comm k, Nat.mod_mul_mod]
theorem pev_sub {p : Nat} (f g : List Nat) (x : Nat) (hp : 0 < p) (hg : within p g = true) : pev p (psub p f g) x = (pev p f x + p - pev p g x) % p := by
  have h1 : (evN x (psub p f g) + evN x g) % p = evN x f % p := by
    rw [← addL_ev]
    apply evN_mod
    intro i
    have hgi := within_getD hp hg i
    rw [addL_get, Nat.add_mod, psub_get, ← Nat.add_mod, show f.getD i 0 + p - g.getD i 0 + g.getD i 0 = f.getD i 0 + p by omega, Nat.add_mod_right]
  unfold pev
  have hb : evN x g % p < p := Nat.mod_lt _ hp
  have ha : evN x f % p < p := Nat.mod_lt _ hp
  have hd : evN x (psub p f g) % p < p := Nat.mod_lt _ hp
  rw [Nat.add_mod] at h1
  generalize evN x (psub p f g) % p = d at *
  generalize evN x g % p = b at *
  generalize evN x f % p = a at *
  by_cases hs : d + b < p
  · rw [Nat.mod_eq_of_lt hs] at h1
    rw [show a + p - b = d + p by omega, Nat.add_mod_right, Nat.mod_eq_of_lt hd]
  · rw [Nat.mod_eq_sub_mod (by omega), Nat.mod_eq_of_lt (by omega)] at h1
    rw [show a + p - b = d by omega, Nat.mod_eq_of_lt hd]
theorem pev_lt {p : Nat} (f : List Nat) (x : Nat) (hp : 0 < p) : pev p f x < p := Nat.mod_lt _ hp
end Go.Proofs.Ytgoognipljknjaa.M
