/-
  Determinants by elimination below the pivots: what is left is the rows and columns from c on.
-/
import Derived.Test.YtaaipcdipdkooaaRanksM
namespace Go.Proofs.Ytaaipcdipdkooaa.M
set_option linter.unusedVariables false

def restI (c : Nat) (F : Mx) : MI := fun i j => (F (c + i) (c + j) : Int)
def rest (R c : Nat) (F : Mx) : Int := lap (R - c) (restI c F)
theorem rest_start (R : Nat) (F : Mx) : rest R 0 F = lap R (cI F) := by
  unfold rest restI cI
  simp
theorem rest_end (R : Nat) (F : Mx) : rest R R F = 1 := by
  unfold rest
  rw [Nat.sub_self]; rfl
theorem rest_zero {R c : Nat} {F : Mx} (hc : c < R) (h : ∀ i, c ≤ i → i < R → F i c = 0) : rest R c F = 0 := by
  unfold rest
  rw [show R - c = (R - c - 1) + 1 by omega, lap]
  refine sumI_zero _ fun i hi => ?_
  unfold restI
  rw [Nat.add_zero, h (c + i) (by omega) (by omega)]
  simp
theorem rest_next {R c : Nat} {F : Mx} (hc : c < R) (h : ∀ i, c < i → i < R → F i c = 0) : rest R c F = (F c c : Int) * rest R (c + 1) F := by
  unfold rest
  rw [show R - c = (R - (c + 1)) + 1 by omega, lap, sumI_one (a := 0) _ (by omega)]
  · have : minor 0 (restI c F) = restI (c + 1) F := by
      funext a b
      unfold minor skp restI
      rw [if_neg (by omega), show c + (a + 1) = c + 1 + a by omega, show c + (b + 1) = c + 1 + b by omega]
    rw [this]
    unfold restI
    simp [sgn]
  · intro i hi hne
    unfold restI
    rw [Nat.add_zero, h (c + i) (by omega) (by omega)]
    simp
theorem rest_congr {p : Int} {R c : Nat} {F F' : Mx} (h : ∀ i, c ≤ i → i < R → ∀ j, c ≤ j → j < R → Eqm p (F i j) (F' i j)) : Eqm p (rest R c F) (rest R c F') :=
  lap_congr _ _ _ fun i hi j hj => h (c + i) (by omega) (by omega) (c + j) (by omega) (by omega)
theorem rest_elim {p : Int} {R c : Nat} {F F' : Mx} {y : Nat → Int} (hc : c < R) (h0 : ∀ j, c ≤ j → j < R → F' c j = F c j) (h : ∀ i, c < i → i < R → ∀ j, c ≤ j → j < R → Eqm p (F' i j) ((F i j : Int) - y i * (F c j : Int))) : Eqm p (rest R c F') (rest R c F) := by
  have ha := (lap_is p (R - c)).addall (restI c F) (top := 0) (by omega) (fun i => - y (c + i)) (R - c) (Nat.le_refl _)
  refine Eqm.trans (lap_congr (R - c) _ _ fun i hi j hj => ?_) ha
  by_cases e : i = 0
  · subst e
    rw [if_neg (by simp)]
    unfold restI
    rw [Nat.add_zero, h0 (c + j) (by omega) (by omega)]
    exact Eqm.refl _ _
  · rw [if_pos ⟨hi, e⟩]
    unfold restI
    refine (h (c + i) (by omega) (by omega) (c + j) (by omega) (by omega)).trans (Eqm.of_eq ?_)
    rw [Nat.add_zero]
    grind
theorem rest_swap {p : Int} {R c r : Nat} {F : Mx} (hc : c < r) (hr : r < R) : Eqm p (rest R c (swp F c r)) (- rest R c F) := by
  obtain ⟨n, rfl⟩ : ∃ n, r = c + n := ⟨r - c, by omega⟩
  have hs := (lap_is p (R - c)).swap (restI c F) (r := 0) (s := n) (by omega) (by omega) (by omega) (restI c F n) (restI c F 0)
  have e1 : upd (upd (restI c F) 0 (restI c F 0)) n (restI c F n) = restI c F := by rw [upd_self, upd_self]
  have e2 : restI c (swp F c (c + n)) = upd (upd (restI c F) 0 (restI c F n)) n (restI c F 0) := by
    funext i
    by_cases h1 : i = n
    · subst h1
      rw [upd_same]
      funext j
      unfold restI swp
      rw [if_neg (by omega), if_pos rfl, Nat.add_zero]
    · rw [upd_other _ _ h1]
      by_cases h2 : i = 0
      · subst h2
        rw [upd_same]
        funext j
        unfold restI swp
        rw [Nat.add_zero, if_pos rfl]
      · rw [upd_other _ _ h2]
        funext j
        unfold restI swp
        rw [if_neg (by omega), if_neg (by omega)]
  unfold rest
  rw [e2]
  rw [e1] at hs
  exact hs
end Go.Proofs.Ytaaipcdipdkooaa.M
