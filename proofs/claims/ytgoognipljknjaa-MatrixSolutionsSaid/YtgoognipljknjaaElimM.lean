/-
  Row reduction as a function: what it keeps (the kernel, the determinant), and the form that it reaches.
-/
import Derived.Test.YtgoognipljknjaaDetM
import Derived.Test.YtgoognipljknjaaLagM
namespace Go.Proofs.Ytgoognipljknjaa.M
set_option linter.unusedVariables false

theorem sumI_pair {f : Nat → Int} {a b : Nat} (hab : a ≠ b) {n : Nat} (ha : a < n) (hb : b < n) (h : ∀ i, i < n → i ≠ a → i ≠ b → f i = 0) : sumI f n = f a + f b := by
  rcases Nat.lt_or_ge a b with h1 | h1
  · exact sumI_two h1 n hb h
  · rw [sumI_two (a := b) (b := a) (by omega) n ha (fun i hi h2 h3 => h i hi h3 h2)]; grind
theorem sumI_split (f : Nat → Int) (n : Nat) : ∀ m, sumI f (n + m) = sumI f n + sumI (fun i => f (n + i)) m
  | 0 => by simp [sumI]
  | m + 1 => by rw [← Nat.add_assoc, sumI, sumI, sumI_split f n m]; grind
theorem sumI_eqm_zero {p : Int} {f : Nat → Int} (n : Nat) (h : ∀ i, i < n → Eqm p (f i) 0) : Eqm p (sumI f n) 0 := by
  have := sumI_eqm (g := fun _ => 0) n h
  rwa [sumI_zero n (fun _ _ => rfl)] at this

abbrev Mx := Nat → Nat → Nat
def cI (m : Mx) : MI := fun i j => (m i j : Int)
def swp (m : Mx) (top r : Nat) : Mx := fun i => if i = top then m r else if i = r then m top else m i
def elimF (p : Nat) (m : Mx) (top r col : Nat) : Mx := fun i j =>
  if i = top then m r j * pw p (m r col) (p - 2) % p
  else (swp m top r i j + p - swp m top r i col * (m r j * pw p (m r col) (p - 2) % p) % p) % p

def firstR (m : Mx) (col : Nat) : Nat → Nat → Nat
  | 0, t => t
  | n + 1, t => if m t col ≠ 0 then t else firstR m col n (t + 1)
def First (m : Mx) (col top R r : Nat) : Prop := top ≤ r ∧ r ≤ R ∧ (∀ i, top ≤ i → i < r → m i col = 0) ∧ (r < R → m r col ≠ 0)
theorem firstR_first (m : Mx) (col : Nat) : ∀ n t, First m col t (t + n) (firstR m col n t)
  | 0, t => ⟨by simp [firstR], by simp [firstR], fun i h1 h2 => by simp [firstR] at h2; omega, fun h => by simp [firstR] at h⟩
  | n + 1, t => by
    unfold firstR
    by_cases h : m t col ≠ 0
    · rw [if_pos h]; exact ⟨Nat.le_refl _, by omega, fun i h1 h2 => by omega, fun _ => h⟩
    · rw [if_neg h]
      obtain ⟨h1, h2, h3, h4⟩ := firstR_first m col n (t + 1)
      refine ⟨by omega, by omega, fun i hi hi2 => ?_, fun hr => h4 (by omega)⟩
      by_cases e : i = t
      · subst e; simpa using h
      · exact h3 i (by omega) hi2
theorem First.unique {m : Mx} {col top R r r' : Nat} (h : First m col top R r) (h' : First m col top R r') : r = r' := by
  obtain ⟨a1, a2, a3, a4⟩ := h
  obtain ⟨b1, b2, b3, b4⟩ := h'
  rcases Nat.lt_trichotomy r r' with h | h | h
  · exact absurd (b3 r a1 h) (a4 (by omega))
  · exact h
  · exact absurd (a3 r' b1 h) (b4 (by omega))

structure Rd where
  m : Mx
  lead : List Nat
  d : Nat
def Rd.at_ (s : Rd) (R col : Nat) : Nat := firstR s.m col (R - s.lead.length) s.lead.length
def rstep (p R : Nat) (s : Rd) (col : Nat) : Rd :=
  if s.at_ R col < R then ⟨elimF p s.m s.lead.length (s.at_ R col) col, s.lead ++ [col], (if s.at_ R col = s.lead.length then s.d else p - s.d) * s.m (s.at_ R col) col % p⟩ else s
def red (p R : Nat) (m : Mx) : Nat → Rd
  | 0 => ⟨m, [], 1⟩
  | k + 1 => rstep p R (red p R m k) k
theorem Rd.at_first (s : Rd) {R : Nat} (h : s.lead.length ≤ R) (col : Nat) : First s.m col s.lead.length R (s.at_ R col) := by
  have := firstR_first s.m col (R - s.lead.length) s.lead.length
  rwa [Nat.add_sub_cancel' h] at this
theorem rstep_none {p R : Nat} {s : Rd} {col : Nat} (h : ¬ s.at_ R col < R) : rstep p R s col = s := by unfold rstep; rw [if_neg h]
theorem rstep_some {p R : Nat} {s : Rd} {col : Nat} (h : s.at_ R col < R) : rstep p R s col = ⟨elimF p s.m s.lead.length (s.at_ R col) col, s.lead ++ [col], (if s.at_ R col = s.lead.length then s.d else p - s.d) * s.m (s.at_ R col) col % p⟩ := by unfold rstep; rw [if_pos h]

theorem swp_le (m : Mx) {top r R : Nat} (ht : top < R) (hr : r < R) {P : Nat → (Nat → Nat) → Prop} (h : ∀ i, i < R → ∀ i', i' < R → P i (m i')) : ∀ i, i < R → P i (swp m top r i) := fun i hi => by
  unfold swp
  split
  · exact h i hi r hr
  · split
    · exact h i hi top ht
    · exact h i hi i hi
theorem swp_lt {p : Nat} {m : Mx} {top r R C : Nat} (ht : top < R) (hr : r < R) (h : ∀ i, i < R → ∀ j, j < C → m i j < p) : ∀ i, i < R → ∀ j, j < C → swp m top r i j < p :=
  swp_le m ht hr (P := fun _ f => ∀ j, j < C → f j < p) (fun _ _ i' hi' => h i' hi')
theorem swp_top (m : Mx) (top r : Nat) : swp m top r top = m r := by simp [swp]
theorem swp_self (m : Mx) (top : Nat) : swp m top top = m := by
  funext i
  unfold swp
  by_cases h : i = top <;> simp [h]

theorem sub_mod_eqm {p x y : Nat} (h : 0 < p) : Eqm p (((x + p - y % p) % p : Nat) : Int) ((x : Int) - y) := by
  have h1 := eqm_natmod p (x + p - y % p)
  have h2 := eqm_natmod p y
  have h3 := Nat.mod_lt y h
  have e : ((x + p - y % p : Nat) : Int) = (x : Int) + p - ((y % p : Nat) : Int) := by omega
  rw [e] at h1
  refine h1.trans ?_
  have h4 := (Eqm.add (Eqm.refl p (x : Int)) (eqm_self p)).sub h2
  simpa using h4
theorem mul_mod_eqm {p x y : Nat} : Eqm p ((x * y % p : Nat) : Int) ((x : Int) * y) := by
  have := eqm_natmod p (x * y)
  simpa using this

/-! ### one step -/
theorem elim_top (p : Nat) (m : Mx) (top r col j : Nat) : elimF p m top r col top j = m r j * pw p (m r col) (p - 2) % p := by simp [elimF]
theorem elim_other (p : Nat) (m : Mx) {top r col i : Nat} (h : i ≠ top) (j : Nat) : elimF p m top r col i j = (swp m top r i j + p - swp m top r i col * elimF p m top r col top j % p) % p := by simp [elimF, h]
theorem elim_lt {p : Nat} (hp : 0 < p) (m : Mx) (top r col i j : Nat) : elimF p m top r col i j < p := by unfold elimF; split <;> exact Nat.mod_lt _ hp
theorem elim_pivot {p : Nat} (hi : isP p = true) {m : Mx} {r col : Nat} (top : Nat) (hl : m r col < p) (h0 : m r col ≠ 0) : elimF p m top r col top col = 1 := by
  rw [elim_top]
  have := inv_mod hi (a := m r col) (by rw [Nat.mod_eq_of_lt hl]; exact h0)
  rwa [Nat.mod_eq_of_lt hl] at this
theorem elim_column {p : Nat} (hi : isP p = true) {m : Mx} {top r col i : Nat} (hl : m r col < p) (h0 : m r col ≠ 0) (h : i ≠ top) (hs : swp m top r i col < p) : elimF p m top r col i col = 0 := by
  have h3 := (pos_of hi).1
  rw [elim_other p m h, elim_pivot hi top hl h0, Nat.mul_one, Nat.mod_eq_of_lt hs, Nat.add_sub_cancel_left, Nat.mod_self]
theorem elim_zero {p : Nat} (hp : 0 < p) {m : Mx} {top r col i j : Nat} (h : m r j = 0) (hs : swp m top r i j < p) (hi : i ≠ top) : elimF p m top r col i j = swp m top r i j := by
  rw [elim_other p m hi, elim_top, h, Nat.zero_mul, Nat.zero_mod, Nat.mul_zero, Nat.zero_mod, Nat.sub_zero, Nat.add_mod_right, Nat.mod_eq_of_lt hs]
theorem elim_eqm {p : Nat} (hp : 0 < p) (m : Mx) {top r col i : Nat} (h : i ≠ top) (j : Nat) : Eqm p (elimF p m top r col i j) ((swp m top r i j : Int) - swp m top r i col * elimF p m top r col top j) := by
  rw [elim_other p m h]
  have := sub_mod_eqm (p := p) (x := swp m top r i j) (y := swp m top r i col * elimF p m top r col top j) hp
  simpa using this

/-- the sum of the products of a row and y -/
def dotI (m : Mx) (C : Nat) (y : Nat → Int) (i : Nat) : Int := sumI (fun j => (m i j : Int) * y j) C
def Ker (p R C : Nat) (m : Mx) (y : Nat → Int) : Prop := ∀ i, i < R → Eqm p (dotI m C y i) 0

theorem dot_top (p : Nat) (m : Mx) (top r col C : Nat) (y : Nat → Int) : Eqm p (dotI (elimF p m top r col) C y top) ((pw p (m r col) (p - 2) : Nat) * dotI m C y r) := by
  unfold dotI
  rw [← sumI_mul]
  refine sumI_eqm C fun j _ => ?_
  rw [elim_top]
  have := (mul_mod_eqm (p := p) (x := m r j) (y := pw p (m r col) (p - 2))).mul (Eqm.refl p (y j))
  refine this.trans (Eqm.of_eq (by grind))
theorem dot_other {p : Nat} (hp : 0 < p) (m : Mx) {top r col i : Nat} (C : Nat) (y : Nat → Int) (h : i ≠ top) : Eqm p (dotI (elimF p m top r col) C y i) (dotI (swp m top r) C y i - swp m top r i col * dotI (elimF p m top r col) C y top) := by
  have e : dotI (swp m top r) C y i - swp m top r i col * dotI (elimF p m top r col) C y top = sumI (fun j => ((swp m top r i j : Int) * y j) + (-(swp m top r i col : Int)) * ((elimF p m top r col top j : Int) * y j)) C := by
    unfold dotI
    rw [sumI_add, sumI_mul]
    grind
  rw [e]
  refine sumI_eqm C fun j _ => ?_
  have := (elim_eqm hp m (top := top) (r := r) (col := col) h j).mul (Eqm.refl p (y j))
  refine this.trans (Eqm.of_eq (by grind))
theorem ker_swp {p R C : Nat} {m : Mx} {top r : Nat} (ht : top < R) (hr : r < R) (y : Nat → Int) : Ker p R C (swp m top r) y ↔ Ker p R C m y := by
  have hd : ∀ i, dotI (swp m top r) C y i = if i = top then dotI m C y r else if i = r then dotI m C y top else dotI m C y i := fun i => by
    unfold dotI swp
    by_cases h1 : i = top
    · simp [h1]
    · by_cases h2 : i = r
      · subst h2; simp [h1]
      · simp [h1, h2]
  constructor
  · intro h i hi
    by_cases h1 : i = r
    · have := h top ht; rw [hd, if_pos rfl] at this; rw [h1]; exact this
    · by_cases h2 : i = top
      · have := h r hr
        rw [hd] at this
        by_cases h3 : r = top
        · omega
        · rw [if_neg h3, if_pos rfl] at this; rw [h2]; exact this
      · have := h i hi; rw [hd, if_neg h2, if_neg h1] at this; exact this
  · intro h i hi
    rw [hd]
    split
    · exact h r hr
    · split
      · exact h top ht
      · exact h i hi
theorem ker_elim {p R C : Nat} (hi : isP p = true) {m : Mx} {top r col : Nat} (ht : top < R) (hr : r < R) (hl : m r col < p) (h0 : m r col ≠ 0) (y : Nat → Int) : Ker p R C (elimF p m top r col) y ↔ Ker p R C m y := by
  have hp : 0 < p := by have := (pos_of hi).1; omega
  refine Iff.trans ?_ (ker_swp (top := top) (r := r) ht hr y)
  have etop : dotI (swp m top r) C y top = dotI m C y r := by unfold dotI; rw [swp_top]
  have hinv : Eqm p ((m r col : Int) * (pw p (m r col) (p - 2) : Nat)) 1 := by
    have := elim_pivot hi top hl h0
    rw [elim_top] at this
    have h2 := mul_mod_eqm (p := p) (x := m r col) (y := pw p (m r col) (p - 2))
    rw [this] at h2
    exact h2.symm
  constructor
  · intro h i hi'
    have h1 := h top ht
    by_cases e : i = top
    · subst e
      rw [etop]
      have h2 := (dot_top p m i r col C y).symm.trans h1
      have h3 := h2.mulL (m r col : Int)
      have h4 := hinv.mul (Eqm.refl p (dotI m C y r))
      rw [Int.mul_zero] at h3
      have h5 := (h4.symm.trans (Eqm.of_eq (by grind))).trans h3
      simpa using h5
    · have h2 := (dot_other hp m (top := top) (r := r) (col := col) C y e).symm.trans (h i hi')
      have h3 := h2.add (h1.mulL (swp m top r i col : Int))
      have h4 : dotI (swp m top r) C y i - swp m top r i col * dotI (elimF p m top r col) C y top + swp m top r i col * dotI (elimF p m top r col) C y top = dotI (swp m top r) C y i := by grind
      rw [h4] at h3
      simpa using h3
  · intro h
    have h1 : Eqm p (dotI (elimF p m top r col) C y top) 0 := by
      have := h top ht
      rw [etop] at this
      have h2 := this.mulL ((pw p (m r col) (p - 2) : Nat) : Int)
      rw [Int.mul_zero] at h2
      exact (dot_top p m top r col C y).trans h2
    intro i hi'
    by_cases e : i = top
    · rw [e]; exact h1
    · refine (dot_other hp m C y e).trans ?_
      have := (h i hi').sub (h1.mulL (swp m top r i col : Int))
      simpa using this

/-! ### what the reduction keeps -/
structure Inv (p R C : Nat) (m0 : Mx) (k : Nat) (s : Rd) : Prop where
  lt : ∀ i, i < R → ∀ j, j < C → s.m i j < p
  len : s.lead.length ≤ R
  lenk : s.lead.length ≤ k
  dpos : 0 < s.d
  dlt : s.d < p
  sorted : ∀ a b, a < b → b < s.lead.length → s.lead.getD a 0 < s.lead.getD b 0
  ltk : ∀ a, a < s.lead.length → s.lead.getD a 0 < k
  zero : ∀ i, s.lead.length ≤ i → i < R → ∀ j, j < k → s.m i j = 0
  unitc : ∀ a, a < s.lead.length → ∀ i, i < R → s.m i (s.lead.getD a 0) = if i = a then 1 else 0
  ker : ∀ y, Ker p R C s.m y ↔ Ker p R C m0 y

theorem getD_snoc (l : List Nat) (x i : Nat) : (l ++ [x]).getD i 0 = if i < l.length then l.getD i 0 else if i = l.length then x else 0 := by
  rw [List.getD_eq_getElem?_getD]
  by_cases h : i < l.length
  · rw [List.getElem?_append_left h, if_pos h, ← List.getD_eq_getElem?_getD]
  · rw [if_neg h, List.getElem?_append_right (by omega)]
    by_cases e : i = l.length
    · subst e; simp
    · rw [if_neg e, List.getElem?_eq_none (by simp; omega)]; rfl

theorem Inv.start {p R C : Nat} (hp : 1 < p) {m : Mx} (h : ∀ i, i < R → ∀ j, j < C → m i j < p) : Inv p R C m 0 ⟨m, [], 1⟩ :=
  ⟨h, by simp, by simp, by simp, by simpa using hp, fun a b _ hb => by simp at hb, fun a ha => by simp at ha, fun i _ _ j hj => by omega, fun a ha => by simp at ha, fun y => Iff.rfl⟩

theorem Inv.step {p R C : Nat} (hi : isP p = true) {m0 : Mx} {k : Nat} (hk : k < C) {s : Rd} (h : Inv p R C m0 k s) : Inv p R C m0 (k + 1) (rstep p R s k) := by
  have h3 := (pos_of hi).1
  have hp : 0 < p := by omega
  by_cases hr : s.at_ R k < R
  case neg =>
    rw [rstep_none hr]
    obtain ⟨f1, f2, f3, f4⟩ := s.at_first h.len k
    have er : s.at_ R k = R := by omega
    rw [er] at f3
    refine ⟨h.lt, h.len, by have := h.lenk; omega, h.dpos, h.dlt, h.sorted, fun a ha => by have := h.ltk a ha; omega, fun i h1 h2 j hj => ?_, h.unitc, h.ker⟩
    by_cases e : j = k
    · subst e; exact f3 i h1 h2
    · exact h.zero i h1 h2 j (by omega)
  rw [rstep_some hr]
  obtain ⟨f1, f2, f3, f4⟩ := s.at_first h.len k
  obtain ⟨r, er⟩ : ∃ r, s.at_ R k = r := ⟨_, rfl⟩
  rw [er] at hr f1 f2 f3 f4 ⊢
  have h0 := f4 hr
  have ht : s.lead.length < R := by omega
  have hl := h.lt r hr k hk
  have hsl := swp_lt ht hr h.lt
  have hrz : ∀ j, j < k → s.m r j = 0 := h.zero r f1 hr
  refine ⟨?_, ?_, ?_, ?_, ?_, ?_, ?_, ?_, ?_, ?_⟩
  · intro i _ j _; exact elim_lt hp _ _ _ _ _ _
  · simp; omega
  · have := h.lenk; simp; omega
  · dsimp only
    have hd : (if r = s.lead.length then s.d else p - s.d) < p ∧ 0 < (if r = s.lead.length then s.d else p - s.d) := by have := h.dpos; have := h.dlt; split <;> omega
    rcases Nat.eq_zero_or_pos ((if r = s.lead.length then s.d else p - s.d) * s.m r k % p) with e | e
    · rcases prime_mul hi e with e | e
      · rw [Nat.mod_eq_of_lt hd.1] at e; omega
      · rw [Nat.mod_eq_of_lt hl] at e; omega
    · exact e
  · exact Nat.mod_lt _ hp
  · intro a b hab hb
    dsimp only at hb ⊢
    rw [List.length_append, List.length_singleton] at hb
    rw [getD_snoc, getD_snoc, if_pos (by omega)]
    by_cases e : b < s.lead.length
    · rw [if_pos e]; exact h.sorted a b hab e
    · rw [if_neg e, if_pos (by omega)]; exact h.ltk a (by omega)
  · intro a ha
    dsimp only at ha ⊢
    rw [List.length_append, List.length_singleton] at ha
    rw [getD_snoc]
    by_cases e : a < s.lead.length
    · rw [if_pos e]; have := h.ltk a e; omega
    · rw [if_neg e, if_pos (by omega)]; omega
  · intro i h1 h2 j hj
    dsimp only at h1 ⊢
    rw [List.length_append, List.length_singleton] at h1
    by_cases e : j = k
    · subst e; exact elim_column hi hl h0 (by omega) (hsl i h2 j hk)
    · have hj' : j < k := by omega
      rw [elim_zero hp (hrz j hj') (hsl i h2 j (by omega)) (by omega)]
      unfold swp
      rw [if_neg (by omega)]
      split
      · exact h.zero _ (Nat.le_refl _) ht j hj'
      · exact h.zero i (by omega) h2 j hj'
  · intro a ha i hiR
    dsimp only at ha ⊢
    rw [List.length_append, List.length_singleton] at ha
    rw [getD_snoc]
    by_cases e : a < s.lead.length
    · rw [if_pos e]
      have hc := h.ltk a e
      by_cases e2 : i = s.lead.length
      · rw [e2, elim_top, hrz _ hc, Nat.zero_mul, Nat.zero_mod, if_neg (by omega)]
      · rw [elim_zero hp (hrz _ hc) (hsl i hiR _ (by omega)) e2]
        unfold swp
        rw [if_neg e2]
        split
        · next e3 => rw [h.unitc a e _ ht, if_neg (by omega), if_neg (by omega)]
        · exact h.unitc a e i hiR
    · have ea : a = s.lead.length := by omega
      rw [if_neg e, if_pos ea]
      by_cases e2 : i = s.lead.length
      · rw [e2, elim_pivot hi _ hl h0, if_pos ea.symm]
      · rw [elim_column hi hl h0 e2 (hsl i hiR k hk), if_neg (by omega)]
  · intro y
    exact (ker_elim hi ht hr hl h0 y).trans (h.ker y)

theorem red_inv {p R C : Nat} (hi : isP p = true) {m : Mx} (h : ∀ i, i < R → ∀ j, j < C → m i j < p) : ∀ k, k ≤ C → Inv p R C m k (red p R m k)
  | 0, _ => Inv.start (by have := (pos_of hi).1; omega) h
  | k + 1, hk => Inv.step hi (by omega) (red_inv hi h k (by omega))

/-! ### columns that are not looked at -/
theorem firstR_congr {m m' : Mx} {col : Nat} : ∀ n t, (∀ i, t ≤ i → i < t + n → m i col = m' i col) → firstR m col n t = firstR m' col n t
  | 0, _, _ => rfl
  | n + 1, t, h => by
    unfold firstR
    rw [h t (Nat.le_refl _) (by omega), firstR_congr n (t + 1) (fun i h1 h2 => h i (by omega) (by omega))]
def Agree (R K : Nat) (s s' : Rd) : Prop := s.lead = s'.lead ∧ s.d = s'.d ∧ s.lead.length ≤ R ∧ ∀ i, i < R → ∀ j, j < K → s.m i j = s'.m i j
theorem Agree.step {p R K : Nat} {s s' : Rd} (h : Agree R K s s') {k : Nat} (hk : k < K) : Agree R K (rstep p R s k) (rstep p R s' k) := by
  obtain ⟨h1, h2, h3, h4⟩ := h
  have er : s.at_ R k = s'.at_ R k := by
    unfold Rd.at_
    rw [← h1]
    exact firstR_congr _ _ fun i _ hi => h4 i (by omega) k hk
  obtain ⟨f1, f2, f3, f4⟩ := s.at_first h3 k
  by_cases hr : s.at_ R k < R
  · rw [rstep_some hr, rstep_some (er ▸ hr), ← er, ← h1, ← h2]
    obtain ⟨r, e⟩ : ∃ r, s.at_ R k = r := ⟨_, rfl⟩
    rw [e] at hr f1 f2 f3 f4 ⊢
    refine ⟨rfl, by dsimp only; rw [h4 r hr k hk], by simp; omega, fun i hi j hj => ?_⟩
    dsimp only
    have ht : s.lead.length < R := by omega
    have hs : ∀ i, i < R → ∀ j, j < K → swp s.m s.lead.length r i j = swp s'.m s.lead.length r i j := fun i hi j hj => by
      unfold swp
      split
      · exact h4 r hr j hj
      · split
        · exact h4 _ ht j hj
        · exact h4 i hi j hj
    unfold elimF
    rw [hs i hi j hj, hs i hi k hk, h4 r hr j hj, h4 r hr k hk]
  · rw [rstep_none hr, rstep_none (er ▸ hr)]
    exact ⟨h1, h2, h3, h4⟩
theorem red_congr {p R K : Nat} {m m' : Mx} (h : ∀ i, i < R → ∀ j, j < K → m i j = m' i j) : ∀ k, k ≤ K → Agree R K (red p R m k) (red p R m' k)
  | 0, _ => ⟨rfl, rfl, by simp [red], h⟩
  | k + 1, hk => (red_congr h k (by omega)).step (by omega)

/-! ### the determinant -/
theorem swp_alt {p : Int} {n : Nat} {F : MI → Int} (hF : Alt p n F) (m : Mx) {top r : Nat} (ht : top < n) (hr : r < n) (h : r ≠ top) : Eqm p (F (cI (swp m top r))) (-F (cI m)) := by
  have h1 := hF.swap (cI m) ht hr (Ne.symm h) (cI m r) (cI m top)
  rw [upd_both (cI m) (Ne.symm h)] at h1
  have e : upd (upd (cI m) top (cI m r)) r (cI m top) = cI (swp m top r) := by
    funext i
    unfold upd cI swp
    by_cases e1 : i = r
    · subst e1; simp [h]
    · by_cases e2 : i = top
      · subst e2; simp [Ne.symm h]
      · simp [e1, e2]
  rwa [e] at h1
theorem elim_alt {p n : Nat} (hp : 0 < p) {F : MI → Int} (hF : Alt p n F) (m : Mx) {top r : Nat} (ht : top < n) (hr : r < n) (col : Nat) :
    Eqm p (F (cI (elimF p m top r col))) ((pw p (m r col) (p - 2) : Nat) * F (cI (swp m top r))) := by
  obtain ⟨s, hs⟩ : ∃ s, s = swp m top r := ⟨_, rfl⟩
  have hst : s top = m r := by rw [hs, swp_top]
  have h1 := hF.scale (cI s) ht ((pw p (m r col) (p - 2) : Nat) : Int) (cI s top)
  rw [upd_self] at h1
  obtain ⟨t, et⟩ : ∃ t, t = upd (cI s) top (fun j => ((pw p (m r col) (p - 2) : Nat) : Int) * cI s top j) := ⟨_, rfl⟩
  rw [← et] at h1
  have h2 := hF.addall t ht (fun i => -(s i col : Int)) n (Nat.le_refl _)
  rw [← hs]
  refine Eqm.trans (hF.congr _ _ fun i hi j hj => ?_) (h2.trans h1)
  have htt : t top j = ((pw p (m r col) (p - 2) : Nat) : Int) * (m r j : Int) := by rw [et, upd_same]; unfold cI; rw [hst]
  by_cases e : i = top
  · rw [if_neg (by omega), e, htt]
    unfold cI
    rw [elim_top]
    exact mul_mod_eqm.trans (Eqm.of_eq (by grind))
  · rw [if_pos ⟨hi, e⟩]
    have h3 := elim_eqm hp m (top := top) (r := r) (col := col) e j
    have h4 : Eqm p (elimF p m top r col top j) (t top j) := by
      rw [htt, elim_top]; exact mul_mod_eqm.trans (Eqm.of_eq (by grind))
    have h5 := (Eqm.refl p (s i j : Int)).sub (h4.mulL (s i col : Int))
    rw [← hs] at h3
    refine (show Eqm p (cI (elimF p m top r col) i j) _ from h3).trans (h5.trans (Eqm.of_eq ?_))
    have h6 : t i j = (s i j : Int) := by rw [et, upd_other _ _ e]; rfl
    rw [h6]
    grind

theorem red_alt {p n C : Nat} (hi : isP p = true) {F : MI → Int} (hF : Alt p n F) {m : Mx} (h : ∀ i, i < n → ∀ j, j < C → m i j < p) (hC : n ≤ C) :
    ∀ k, k ≤ C → Eqm p (F (cI m)) (((red p n m k).d : Int) * F (cI (red p n m k).m))
  | 0, _ => Eqm.of_eq (by simp [red])
  | k + 1, hk => by
    have ih := red_alt hi hF h hC k (by omega)
    have hv := red_inv hi h k (by omega)
    have hp : 0 < p := by have := (pos_of hi).1; omega
    rw [red]
    obtain ⟨s, es⟩ : ∃ s, red p n m k = s := ⟨_, rfl⟩
    rw [es] at ih hv ⊢
    by_cases hr : s.at_ n k < n
    case neg => rw [rstep_none hr]; exact ih
    rw [rstep_some hr]
    obtain ⟨f1, f2, f3, f4⟩ := s.at_first hv.len k
    obtain ⟨r, er⟩ : ∃ r, s.at_ n k = r := ⟨_, rfl⟩
    rw [er] at hr f1 f2 f3 f4 ⊢
    dsimp only
    have hl := hv.lt r hr k (by omega)
    have h0 := f4 hr
    have ht : s.lead.length < n := by omega
    have h1 := elim_alt hp hF s.m ht hr k
    have hinv : Eqm p ((s.m r k : Int) * (pw p (s.m r k) (p - 2) : Nat)) 1 := by
      have := elim_pivot hi 0 hl h0
      rw [elim_top] at this
      have h2 := mul_mod_eqm (p := p) (x := s.m r k) (y := pw p (s.m r k) (p - 2))
      rw [this] at h2
      exact h2.symm
    have h2 : Eqm p (((if r = s.lead.length then s.d else p - s.d : Nat) : Int) * F (cI (swp s.m s.lead.length r))) ((s.d : Int) * F (cI s.m)) := by
      by_cases e : r = s.lead.length
      · rw [if_pos e, e, swp_self]; exact Eqm.refl _ _
      · rw [if_neg e]
        have h3 := swp_alt hF s.m ht hr e
        have h4 : ((p - s.d : Nat) : Int) = (p : Int) - s.d := by have := hv.dlt; omega
        rw [h4]
        have h5 := ((eqm_self p).sub (Eqm.refl p (s.d : Int))).mul h3
        exact h5.trans (Eqm.of_eq (by grind))
    have h6 := (mul_mod_eqm (p := p) (x := (if r = s.lead.length then s.d else p - s.d)) (y := s.m r k)).mul h1
    refine Eqm.trans ?_ h6.symm
    refine ih.trans (h2.symm.trans ?_)
    have h7 := hinv.mul (Eqm.refl p ((((if r = s.lead.length then s.d else p - s.d : Nat) : Int) * F (cI (swp s.m s.lead.length r)))))
    exact (Eqm.of_eq (by grind)).trans (h7.symm.trans (Eqm.of_eq (by grind)))
end Go.Proofs.Ytgoognipljknjaa.M
