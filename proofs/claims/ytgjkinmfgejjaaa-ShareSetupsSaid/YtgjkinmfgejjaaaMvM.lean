/-
  Parties as points; the moved polynomial.
-/
import Derived.Test.YtgjkinmfgejjaaaS2
import Derived.Test.YtgjkinmfgejjaaaP10
namespace Go.Proofs.Ytgjkinmfgejjaaa.M
open Go.RowKit
set_option linter.unusedVariables false

/-- the points of parties -/
def pts (l : List Int) : List Nat := l.map Int.toNat
theorem pts_len (l : List Int) : (pts l).length = l.length := by simp [pts]
theorem pts_get (l : List Int) (i : Nat) : (pts l).getD i 0 = (l.getD i 0).toNat := by
  unfold pts
  by_cases h : i < l.length
  · simp [List.getD_eq_getElem?_getD, h]
  · rw [List.getD_eq_getElem?_getD, List.getElem?_eq_none (by simp; omega), List.getD_eq_getElem?_getD, List.getElem?_eq_none (by omega)]; rfl
theorem rises_lt {n : Int} {l : List Int} (h : RisesTo n l l.length) : ∀ j i, i < j → j < l.length → l.getD i 0 < l.getD j 0
  | 0, i, hi, _ => absurd hi (by omega)
  | j + 1, i, hi, hj => by
    have h1 := (h (j + 1) hj).1
    rw [prev_succ] at h1
    by_cases e : i = j
    · subst e; exact h1
    · have := rises_lt h j i (by omega) (by omega)
      omega
theorem rises_range {n : Int} {l : List Int} (h : RisesTo n l l.length) {i : Nat} (hi : i < l.length) : 1 ≤ l.getD i 0 ∧ l.getD i 0 ≤ n := ⟨rises_pos h i hi, (h i hi).2⟩
theorem nodup_of_getD : ∀ {l : List Nat}, (∀ i j, i < j → j < l.length → l.getD i 0 ≠ l.getD j 0) → l.Nodup
  | [], _ => by simp
  | a :: t, h => by
    rw [List.nodup_cons]
    refine ⟨fun hm => ?_, nodup_of_getD (l := t) fun i j hij hj => ?_⟩
    · obtain ⟨i, hi, e⟩ := List.getElem_of_mem hm
      have := h 0 (i + 1) (by omega) (by simp; omega)
      simp only [List.getD_cons_zero, List.getD_cons_succ] at this
      rw [getD_lt hi] at this
      exact this e.symm
    · have := h (i + 1) (j + 1) (by omega) (by simp; omega)
      simpa only [List.getD_cons_succ] using this
theorem pts_nodup {n : Int} {l : List Int} (h : RisesTo n l l.length) : (pts l).Nodup := by
  refine nodup_of_getD fun i j hij hj => ?_
  rw [pts_len] at hj
  rw [pts_get, pts_get]
  have h1 := rises_lt h j i hij hj
  have h2 := rises_range h (i := i) (by omega)
  omega
theorem pts_noz {n : Int} {l : List Int} (h : RisesTo n l l.length) : NoZ (pts l) := by
  intro x hx
  obtain ⟨i, hi, rfl⟩ := List.getElem_of_mem hx
  rw [← getD_lt hi, pts_get]
  have := rises_range h (i := i) (by rw [pts_len] at hi; exact hi)
  omega
theorem pts_within {p : Nat} {n : Int} {l : List Int} (h : RisesTo n l l.length) (hn : n < (p : Int)) : within p (pts l) = true := by
  refine within_of fun i hi => ?_
  rw [pts_len] at hi
  rw [pts_get]
  have := rises_range h hi
  omega

/-- the change of the secret, times the polynomial that is 1 at 0 -/
def mvBy (p : Nat) (f : List Nat) (s : Nat) : Nat := (s + p - pev p f 0) % p
def Moved (p : Nat) (f : List Nat) (l : List Int) (s : Nat) (g : List Nat) : Prop := ∃ A, AwayOf p (pts l) A ∧ g = padd p f (pscale p A (mvBy p f s))
theorem away_within {p : Nat} {xs A : List Nat} (h : AwayOf p xs A) : within p A = true ∧ A.length ≤ xs.length + 1 := by
  refine ⟨h.1, ?_⟩
  have := h.2.2.1
  simpa using this
theorem pscale_within {p : Nat} (hp : 0 < p) (f : List Nat) (k : Nat) : within p (pscale p f k) = true ∧ (pscale p f k).length ≤ f.length := ⟨poly_within hp _ _, poly_len _ _ _⟩
theorem Moved.unique {p : Nat} {n : Int} {f : List Nat} {l : List Int} {s : Nat} {g g' : List Nat} (hi : isP p = true) (hl : RisesTo n l l.length) (hn : n < (p : Int)) (h : Moved p f l s g) (h' : Moved p f l s g') : g = g' := by
  obtain ⟨A, hA, rfl⟩ := h
  obtain ⟨A', hA', rfl⟩ := h'
  have hz := pts_noz hl
  have hw := pts_within hl hn
  have h3 := pos_of hi
  have hw2 : within p (pts l ++ [0]) = true := by
    unfold within at hw ⊢
    rw [List.all_append, hw]
    simp; omega
  rw [Thru.unique hi ((nodup_snoc hz).2 (pts_nodup hl)) hw2 hA hA']
end Go.Proofs.Ytgjkinmfgejjaaa.M
