/-
  Decoding: at most one polynomial misses few points; the equations of Berlekamp and Welch.
-/
import Derived.Test.YtfkepkdfpjaniaaMA
import Derived.Test.YtfkepkdfpjaniaaMC
namespace Go.Proofs.Ytfkepkdfpjaniaa.M
set_option linter.unusedVariables false

/-- the places of the points that f misses -/
def offI (p : Nat) (f xs ys : List Nat) : List Nat := (List.range xs.length).filter fun i => !(pev p f (xs.getD i 0) == ys.getD i 0)
/-- f has at most d + 1 coefficients and misses at most w points -/
structure Good (p d w : Nat) (xs ys f : List Nat) : Prop where
  lt : within p f = true
  tr : trim f = f
  len : f.length ≤ d + 1
  few : (offI p f xs ys).length ≤ w

theorem Good.mono {p d w w' : Nat} {xs ys f : List Nat} (h : Good p d w xs ys f) (hw : w ≤ w') : Good p d w' xs ys f := ⟨h.lt, h.tr, h.len, Nat.le_trans h.few hw⟩
theorem offI_mem {p : Nat} {f xs ys : List Nat} {i : Nat} : i ∈ offI p f xs ys ↔ i < xs.length ∧ pev p f (xs.getD i 0) ≠ ys.getD i 0 := by
  unfold offI
  simp
theorem offI_nodup (p : Nat) (f xs ys : List Nat) : (offI p f xs ys).Nodup := List.Pairwise.filter _ List.nodup_range
theorem offI_trim (p : Nat) (f xs ys : List Nat) : offI p (trim f) xs ys = offI p f xs ys := by
  unfold offI
  simp only [pev_trim]

theorem filt3 (a b : Nat → Bool) : ∀ l : List Nat, l.length ≤ (l.filter fun i => a i && b i).length + (l.filter fun i => !a i).length + (l.filter fun i => !b i).length
  | [] => by simp
  | x :: t => by
    have := filt3 a b t
    cases ha : a x <;> cases hb : b x <;> simp [ha, hb] <;> omega
theorem filt2 (a : Nat → Bool) : ∀ l : List Nat, l.length ≤ (l.filter a).length + (l.filter fun i => !a i).length
  | [] => by simp
  | x :: t => by
    have := filt2 a t
    cases ha : a x <;> simp [ha] <;> omega

theorem getD_mem {xs : List Nat} {i : Nat} (h : i < xs.length) : xs.getD i 0 ∈ xs := by rw [getD_lt h]; exact List.getElem_mem h
theorem mem_getD {xs : List Nat} {x : Nat} (h : x ∈ xs) : ∃ i, i < xs.length ∧ xs.getD i 0 = x := by
  obtain ⟨i, hi, rfl⟩ := List.getElem_of_mem h
  exact ⟨i, hi, getD_lt hi⟩
theorem getD_inj {xs : List Nat} (hd : xs.Nodup) {i j : Nat} (hi : i < xs.length) (hj : j < xs.length) (e : xs.getD i 0 = xs.getD j 0) : i = j := by
  apply Classical.byContradiction
  intro hne
  have hD := Diff.of_nodup hd
  rcases Nat.lt_or_gt_of_ne hne with h | h
  · exact hD i j h hj e
  · exact hD j i h hi e.symm
/-- the coordinates at some places -/
def pick (xs l : List Nat) : List Nat := l.map fun i => xs.getD i 0
theorem pick_len (xs l : List Nat) : (pick xs l).length = l.length := by simp [pick]
theorem pick_nodup {xs l : List Nat} (hd : xs.Nodup) (hl : l.Nodup) (h : ∀ i ∈ l, i < xs.length) : (pick xs l).Nodup :=
  nodup_map _ l hl fun x hx y hy e => getD_inj hd (h x hx) (h y hy) e
theorem pick_within {p : Nat} {xs l : List Nat} (hx : within p xs = true) (h : ∀ i ∈ l, i < xs.length) : within p (pick xs l) = true := by
  unfold within pick
  rw [List.all_map, List.all_eq_true]
  intro i hi
  simpa using within_mem hx (h i hi)
theorem pick_mem {xs l : List Nat} {x : Nat} (h : x ∈ pick xs l) : ∃ i ∈ l, xs.getD i 0 = x := by
  unfold pick at h
  simpa using h

/-- the places where f is right -/
def onI (p : Nat) (f xs ys : List Nat) : List Nat := (List.range xs.length).filter fun i => pev p f (xs.getD i 0) == ys.getD i 0
theorem onI_mem {p : Nat} {f xs ys : List Nat} {i : Nat} : i ∈ onI p f xs ys ↔ i < xs.length ∧ pev p f (xs.getD i 0) = ys.getD i 0 := by
  unfold onI
  simp
theorem onI_nodup (p : Nat) (f xs ys : List Nat) : (onI p f xs ys).Nodup := List.Pairwise.filter _ List.nodup_range
theorem onI_len (p : Nat) (f xs ys : List Nat) : xs.length ≤ (onI p f xs ys).length + (offI p f xs ys).length := by
  have := filt2 (fun i => pev p f (xs.getD i 0) == ys.getD i 0) (List.range xs.length)
  rw [List.length_range] at this
  exact this

theorem Good.unique {p d w : Nat} (hi : isP p = true) {xs ys f g : List Nat} (hd : xs.Nodup) (hx : within p xs = true) (hn : d + 1 + 2 * w ≤ xs.length) (h : Good p d w xs ys f) (h' : Good p d w xs ys g) : f = g := by
  have hl := filt3 (fun i => pev p f (xs.getD i 0) == ys.getD i 0) (fun i => pev p g (xs.getD i 0) == ys.getD i 0) (List.range xs.length)
  rw [List.length_range] at hl
  have h1 := h.few
  have h2 := h'.few
  unfold offI at h1 h2
  obtain ⟨l, hle⟩ : ∃ l, l = (List.range xs.length).filter fun i => (pev p f (xs.getD i 0) == ys.getD i 0) && (pev p g (xs.getD i 0) == ys.getD i 0) := ⟨_, rfl⟩
  rw [← hle] at hl
  have hln : l.Nodup := hle ▸ List.Pairwise.filter _ List.nodup_range
  have hlm : ∀ i ∈ l, i < xs.length ∧ pev p f (xs.getD i 0) = ys.getD i 0 ∧ pev p g (xs.getD i 0) = ys.getD i 0 := by
    intro i hi
    rw [hle] at hi
    simpa using hi
  refine agree hi h.lt h'.lt h.tr h'.tr (pick_nodup hd hln fun i hi => (hlm i hi).1) (pick_within hx fun i hi => (hlm i hi).1) (by rw [pick_len]; have := h.len; omega) (by rw [pick_len]; have := h'.len; omega) ?_
  intro x hx'
  obtain ⟨i, hi, rfl⟩ := pick_mem hx'
  rw [(hlm i hi).2.1, (hlm i hi).2.2]

/-! ### The locator -/
theorem mulAt_lin (c : Nat) (E : List Nat) (i : Nat) : mulAt [c, 1] (at_ E) (i + 1) = c * at_ E (i + 1) + at_ E i := by
  rw [mulAt_cons]
  show c * at_ E (i + 1) + mulAt [1] (at_ E) i = _
  cases i <;> simp [mulAt]
/-- a list of w + 1 numbers, the last of them 1, that is zero at w given places -/
structure Locates (p : Nat) (rs E : List Nat) : Prop where
  lt : within p E = true
  len : E.length = rs.length + 1
  last : E.getD rs.length 0 = 1
  zero : ∀ r ∈ rs, pev p E r = 0
theorem locates {p : Nat} (hp : 1 < p) : ∀ rs : List Nat, within p rs = true → ∃ E, Locates p rs E
  | [], _ => ⟨[1], by simp [within, hp], rfl, rfl, by simp⟩
  | r :: t, h => by
    have hr : r < p := by unfold within at h; simp at h; exact h.1
    have ht : within p t = true := by unfold within at h ⊢; simp at h ⊢; exact h.2
    obtain ⟨E, h1, h2, h3, h4⟩ := locates hp t ht
    have hl : (prodL p [(p - r) % p, 1] E).length = t.length + 2 := by rw [prodL_len (by simp) (by omega), h2]; simp; omega
    refine ⟨prodL p [(p - r) % p, 1] E, prodL_within (by omega) _ _, by rw [hl]; simp, ?_, ?_⟩
    · have e := prodL_get p [(p - r) % p, 1] E (t.length + 1)
      rw [mulAt_lin, show at_ E (t.length + 1) = 0 from getD_ge (by omega), show at_ E t.length = 1 from h3] at e
      have hlt := within_getD (p := p) (by omega) (prodL_within (p := p) (by omega) [(p - r) % p, 1] E) (t.length + 1)
      rw [Nat.mod_eq_of_lt hlt, Nat.mul_zero, Nat.zero_add, Nat.mod_eq_of_lt hp] at e
      simpa using e
    · intro x hx
      rw [pev_prod]
      rcases List.mem_cons.1 hx with rfl | hx
      · have : pev p [(p - x) % p, 1] x = 0 := by
          unfold pev
          simp only [evN, Nat.mul_zero, Nat.add_zero, Nat.mul_one]
          rw [Nat.mod_add_mod, Nat.sub_add_cancel (by omega), Nat.mod_self]
        rw [this, Nat.zero_mul, Nat.zero_mod]
      · rw [h4 x hx, Nat.mul_zero, Nat.zero_mod]

/-! ### The equations -/
/-- the polynomial y times E agrees with Q at every point -/
def Eqs (p : Nat) (xs ys Q E : List Nat) : Prop := ∀ i, i < xs.length → pev p Q (xs.getD i 0) = ys.getD i 0 * pev p E (xs.getD i 0) % p

theorem eqs_div {p d w : Nat} (hi : isP p = true) {xs ys f Q E : List Nat} (hd : xs.Nodup) (hx : within p xs = true) (hn : d + 1 + 2 * w ≤ xs.length) (h : Good p d w xs ys f) (hQw : within p Q = true) (hQl : Q.length ≤ d + 1 + w) (hE : within p E = true) (hEl : E.length = w + 1) (hEq : Eqs p xs ys Q E) : IsDiv p Q E f [] := by
  have hp := pos_of hi
  have hfe : trim Q = pmul p f E := by
    have hl := onI_len p f xs ys
    have hf := h.few
    refine agree hi (within_trim hQw) (poly_within (by omega) _ _) (trim_trim _) (poly_trim _ _ _) (pick_nodup hd (onI_nodup p f xs ys) fun i hi => (onI_mem.1 hi).1) (pick_within hx fun i hi => (onI_mem.1 hi).1) (by rw [pick_len]; have := trim_len_le Q; omega) ?_ ?_
    · rw [pick_len, ← prodL_trim]
      have h1 := trim_len_le (prodL p f E)
      by_cases h0 : f.length = 0
      · unfold prodL at h1 ⊢; rw [if_pos (.inl h0)] at h1 ⊢; simp at h1 ⊢; rw [h1]; simp
      · rw [prodL_len (by omega) (by omega)] at h1
        have := h.len
        omega
    · intro x hx'
      obtain ⟨i, hi', rfl⟩ := pick_mem hx'
      obtain ⟨h1, h2⟩ := onI_mem.1 hi'
      rw [pev_trim, hEq i h1, pev_mul, h2]
  refine ⟨h.lt, h.tr, rfl, rfl, by simp; omega, fun i => ?_⟩
  rw [← trim_get, hfe, pmul_get]
  simp

theorem div_good {p d w : Nat} (hi : isP p = true) {xs ys f Q E : List Nat} (hd : xs.Nodup) (hx : within p xs = true) (hQw : within p Q = true) (hQl : Q.length ≤ d + 1 + w) (hE : within p E = true) (hEl : E.length = w + 1) (hE1 : E.getD w 0 = 1) (hyw : within p ys = true) (hyl : ys.length = xs.length) (hEq : Eqs p xs ys Q E) (h : IsDiv p Q E f []) : Good p d w xs ys f := by
  have hp := pos_of hi
  obtain ⟨a1, a2, _, _, _, a6⟩ := h
  have hl1 : E.getD (E.length - 1) 0 ≠ 0 := by rw [hEl, Nat.add_sub_cancel, hE1]; omega
  have hLE : Lead p E := ⟨hE, by omega, hl1⟩
  have hfe : trim Q = pmul p f E := ext_red (by omega) (within_trim hQw) (poly_within (by omega) _ _) (trim_trim _) (poly_trim _ _ _) fun i => by rw [trim_get, pmul_get, a6 i]; simp
  refine ⟨a1, a2, ?_, ?_⟩
  · by_cases h0 : f.length = 0
    · omega
    · have hs := prodL_self hi (lead_of a1 a2 (by omega)) hLE
      have hl := prodL_len (p := p) (f := f) (g := E) (by omega) (by omega)
      rw [prodL_trim, ← hfe] at hs
      rw [← hs] at hl
      have := trim_len_le Q
      omega
  · apply Nat.le_of_not_lt
    intro hlt
    have htE : trim E = E := trim_of_last (.inr hl1)
    have hnil := no_more_roots hi hE htE (pick_nodup hd (offI_nodup p f xs ys) fun i hi => (offI_mem.1 hi).1) (pick_within hx fun i hi => (offI_mem.1 hi).1) (by rw [pick_len]; omega) (by
      intro x hx'
      obtain ⟨i, hi', rfl⟩ := pick_mem hx'
      obtain ⟨h1, h2⟩ := offI_mem.1 hi'
      apply Classical.byContradiction
      intro hne
      have e := hEq i h1
      rw [← pev_trim, hfe, pev_mul, Nat.mul_comm, Nat.mul_comm (ys.getD i 0)] at e
      have hlt := pev_lt (p := p) E (xs.getD i 0) (by omega)
      have e2 := cancel hi (by rw [Nat.mod_eq_of_lt hlt]; exact hne) e
      rw [Nat.mod_eq_of_lt (pev_lt f _ (by omega)), Nat.mod_eq_of_lt (within_mem hyw (by omega))] at e2
      exact h2 e2)
    rw [hnil] at hEl
    simp at hEl

/-! ### The equations as a matrix -/
def bwF (p d w : Nat) (xs ys : List Nat) : Mx := fun i j => if j < d + 1 + w then pw p (xs.getD i 0) j else (p - ys.getD i 0) * pw p (xs.getD i 0) (j - (d + 1 + w)) % p
def bwR (p w : Nat) (xs ys : List Nat) : List Nat := tabM xs.length fun i => ys.getD i 0 * pw p (xs.getD i 0) w % p
def qOf (d w : Nat) (Y : Nat → Nat) : List Nat := tabM (d + 1 + w) Y
def eOf (d w : Nat) (Y : Nat → Nat) : List Nat := (tabM w fun j => Y (d + 1 + w + j)) ++ [1]
theorem qOf_len (d w : Nat) (Y : Nat → Nat) : (qOf d w Y).length = d + 1 + w := by simp [qOf, tabM]
theorem eOf_len (d w : Nat) (Y : Nat → Nat) : (eOf d w Y).length = w + 1 := by simp [eOf, tabM]
theorem eOf_last (d w : Nat) (Y : Nat → Nat) : (eOf d w Y).getD w 0 = 1 := by simp [eOf, tabM, List.getD_eq_getElem?_getD]

theorem evN_sum (x : Nat) (F : Nat → Nat) : ∀ n, (evN x (tabM n F) : Int) = sumI (fun j => (x : Int) ^ j * (F j : Int)) n
  | 0 => rfl
  | n + 1 => by
    have e : tabM (n + 1) F = tabM n F ++ [F n] := by simp [tabM, List.range_succ]
    rw [e, evN_snoc, show (tabM n F).length = n by simp [tabM], Int.natCast_add, Int.natCast_mul, Int.natCast_pow, evN_sum x F n]
    rfl
theorem pw_eqm (p x j : Nat) : Eqm p (pw p x j : Nat) ((x : Int) ^ j) := by
  have := eqm_natmod p (x ^ j)
  rw [Int.natCast_pow] at this
  exact this

theorem bw_row {p d w : Nat} {xs ys : List Nat} (hp : 0 < p) (hyw : within p ys = true) (hyl : ys.length = xs.length) (Y : Nat → Nat) {i : Nat} (hi : i < xs.length) :
    Eqm p (dotI (bwF p d w xs ys) (d + 1 + 2 * w) (fun j => (Y j : Int)) i) ((bwR p w xs ys).getD i 0 : Nat) ↔ pev p (qOf d w Y) (xs.getD i 0) = ys.getD i 0 * pev p (eOf d w Y) (xs.getD i 0) % p := by
  obtain ⟨x, ex⟩ : ∃ x, x = xs.getD i 0 := ⟨_, rfl⟩
  obtain ⟨y, ey⟩ : ∃ y, y = ys.getD i 0 := ⟨_, rfl⟩
  have hy : y ≤ p := by rw [ey]; exact Nat.le_of_lt (within_mem hyw (by omega))
  have hR : (bwR p w xs ys).getD i 0 = y * pw p x w % p := by unfold bwR; rw [tabM_get, if_pos hi, ex, ey]
  have h1 : Eqm p (dotI (bwF p d w xs ys) (d + 1 + 2 * w) (fun j => (Y j : Int)) i) ((evN x (qOf d w Y) : Int) - y * evN x (tabM w fun j => Y (d + 1 + w + j))) := by
    unfold dotI
    rw [show d + 1 + 2 * w = (d + 1 + w) + w by omega, sumI_split]
    rw [Int.sub_eq_add_neg]
    refine Eqm.add ?_ ?_
    · rw [qOf, evN_sum]
      refine sumI_eqm _ fun j hj => ?_
      show Eqm p (((if j < d + 1 + w then pw p (xs.getD i 0) j else _ : Nat) : Int) * _) _
      rw [if_pos hj, ← ex]
      exact (pw_eqm p x j).mul (Eqm.refl _ _)
    · rw [evN_sum, ← Int.neg_mul, ← sumI_mul]
      refine sumI_eqm _ fun j hj => ?_
      show Eqm p (((if d + 1 + w + j < d + 1 + w then _ else (p - ys.getD i 0) * pw p (xs.getD i 0) (d + 1 + w + j - (d + 1 + w)) % p : Nat) : Int) * _) _
      rw [if_neg (by omega), ← ex, ← ey, Nat.add_sub_cancel_left, ← Int.mul_assoc]
      refine Eqm.mul ((eqm_natmod _ _).trans ?_) (Eqm.refl _ _)
      rw [Int.natCast_mul, Int.ofNat_sub hy]
      refine Eqm.mul ?_ (pw_eqm p x j)
      exact ⟨1, by omega⟩
  have h2 : Eqm p ((bwR p w xs ys).getD i 0 : Nat) ((y : Int) * x ^ w) := by
    rw [hR]
    refine (eqm_natmod _ _).trans ?_
    rw [Int.natCast_mul]
    exact (Eqm.refl _ _).mul (pw_eqm p x w)
  have h3 : (evN x (eOf d w Y) : Int) = evN x (tabM w fun j => Y (d + 1 + w + j)) + (x : Int) ^ w := by
    unfold eOf
    rw [evN_snoc, show (tabM w fun j => Y (d + 1 + w + j)).length = w by simp [tabM], Int.natCast_add, Int.natCast_mul, Int.natCast_pow]
    simp
  have h4 : pev p (qOf d w Y) x = y * pev p (eOf d w Y) x % p ↔ Eqm p (evN x (qOf d w Y) : Nat) ((y : Int) * (evN x (eOf d w Y) : Nat)) := by
    unfold pev
    rw [Nat.mul_mod_mod, ← Int.natCast_mul, eqm_nat]
  rw [← ex, ← ey, h4, h3, Int.mul_add]
  constructor
  · intro h
    have h5 := (h1.symm.trans h).trans h2
    have h6 := h5.add (Eqm.refl p ((y : Int) * evN x (tabM w fun j => Y (d + 1 + w + j))))
    rw [Int.sub_add_cancel] at h6
    exact h6.trans (Eqm.of_eq (Int.add_comm _ _))
  · intro h
    refine h1.trans (Eqm.trans ?_ h2.symm)
    have h6 := h.sub (Eqm.refl p ((y : Int) * evN x (tabM w fun j => Y (d + 1 + w + j))))
    refine h6.trans (Eqm.of_eq ?_)
    omega

/-- a good polynomial gives a solution of the equations -/
theorem bw_solution {p d w : Nat} (hi : isP p = true) {xs ys f : List Nat} (hd : xs.Nodup) (hx : within p xs = true) (hyw : within p ys = true) (hyl : ys.length = xs.length) (h : Good p d w xs ys f) : ∃ Y : Nat → Nat, Eqs p xs ys (qOf d w Y) (eOf d w Y) := by
  have hp := pos_of hi
  have hfew := h.few
  obtain ⟨E, h1, h2, h3, h4⟩ := locates (p := p) (by omega) (pick xs (offI p f xs ys) ++ List.replicate (w - (offI p f xs ys).length) 0) (by
    have := pick_within hx (l := offI p f xs ys) fun i hi => (offI_mem.1 hi).1
    unfold within at this ⊢
    rw [List.all_append, this]
    simp
    omega)
  rw [List.length_append, pick_len, List.length_replicate, Nat.add_sub_cancel' hfew] at h2 h3
  have hQl : (pmul p f E).length ≤ d + 1 + w := by
    rw [← prodL_trim]
    have h1 := trim_len_le (prodL p f E)
    by_cases h0 : f.length = 0
    · unfold prodL at h1 ⊢; rw [if_pos (.inl h0)] at h1 ⊢; simp at h1 ⊢; rw [h1]; simp
    · rw [prodL_len (by omega) (by omega)] at h1
      have := h.len
      omega
  refine ⟨fun j => if j < d + 1 + w then (pmul p f E).getD j 0 else E.getD (j - (d + 1 + w)) 0, ?_⟩
  have hq : ∀ i, (qOf d w fun j => if j < d + 1 + w then (pmul p f E).getD j 0 else E.getD (j - (d + 1 + w)) 0).getD i 0 = (pmul p f E).getD i 0 := fun i => by
    unfold qOf
    rw [tabM_get]
    by_cases hi : i < d + 1 + w
    · rw [if_pos hi, if_pos hi]
    · rw [if_neg hi, getD_ge (l := pmul p f E) (by omega)]
  have he : (eOf d w fun j => if j < d + 1 + w then (pmul p f E).getD j 0 else E.getD (j - (d + 1 + w)) 0) = E := by
    refine ext_getD (by rw [eOf_len, h2]) fun i => ?_
    unfold eOf
    rw [getD_snoc, show (tabM w fun j => if d + 1 + w + j < d + 1 + w then (pmul p f E).getD (d + 1 + w + j) 0 else E.getD (d + 1 + w + j - (d + 1 + w)) 0).length = w by simp [tabM], tabM_get]
    by_cases hi : i < w
    · rw [if_pos hi, if_pos hi]
      show (if d + 1 + w + i < d + 1 + w then _ else E.getD (d + 1 + w + i - (d + 1 + w)) 0) = _
      rw [if_neg (by omega), Nat.add_sub_cancel_left]
    · rw [if_neg hi]
      by_cases hi2 : i = w
      · rw [if_pos hi2, hi2, h3]
      · rw [if_neg hi2, getD_ge (by omega)]
  intro i hin
  rw [he]
  have e1 : pev p (qOf d w fun j => if j < d + 1 + w then (pmul p f E).getD j 0 else E.getD (j - (d + 1 + w)) 0) (xs.getD i 0) = pev p (pmul p f E) (xs.getD i 0) := evN_mod _ _ _ fun j => by rw [hq]
  rw [e1, pev_mul]
  by_cases ho : pev p f (xs.getD i 0) = ys.getD i 0
  · rw [ho]
  · have : pev p E (xs.getD i 0) = 0 := h4 _ (List.mem_append_left _ (by unfold pick; exact List.mem_map.2 ⟨i, offI_mem.2 ⟨hin, ho⟩, rfl⟩))
    rw [this]
    simp
end Go.Proofs.Ytfkepkdfpjaniaa.M
