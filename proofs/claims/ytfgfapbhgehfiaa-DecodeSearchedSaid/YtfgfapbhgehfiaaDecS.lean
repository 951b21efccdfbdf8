/-
  The equations of Berlekamp and Welch, solved: a solution, divided, is the polynomial, or there is none.
-/
import Derived.Test.YtfgfapbhgehfiaaDecM
import Derived.Test.YtfgfapbhgehfiaaXK
namespace Go.Proofs.Ytfgfapbhgehfiaa.M
set_option linter.unusedVariables false

def bwL (p d w : Nat) (xs ys : List Nat) : List (List Nat) := tabMM xs.length (d + 1 + 2 * w) (bwF p d w xs ys)
theorem bwF_lt {p d w : Nat} (hp : 0 < p) (xs ys : List Nat) (i j : Nat) : bwF p d w xs ys i j < p := by
  unfold bwF
  split
  · exact pw_lt _ _ hp
  · exact Nat.mod_lt _ hp
theorem bwL_ok {p d w : Nat} (hi : isP p = true) {xs ys : List Nat} (hl : xs.length ≤ 64) (hn : d + 1 + 2 * w ≤ xs.length) : Ok p (bwL p d w xs ys) xs.length (d + 1 + 2 * w) where
  isp := hi
  rows := tabMM_len _ _ _
  R1 := by omega
  R64 := hl
  K1 := by omega
  K64 := by omega
  cols := fun i h => by unfold bwL; rw [tabMM_at _ _ h, tabM_len]
  lt := fun i h => by unfold bwL; rw [tabMM_at _ _ h]; exact within_tabM fun j _ => bwF_lt (by have := pos_of hi; omega) xs ys i j
theorem bwR_len (p w : Nat) (xs ys : List Nat) : (bwR p w xs ys).length = xs.length := by simp [bwR, tabM]
theorem bwR_lt {p : Nat} (hp : 0 < p) (w : Nat) (xs ys : List Nat) : within p (bwR p w xs ys) = true := within_tabM fun j _ => Nat.mod_lt _ hp
theorem bw_dot {p d w : Nat} (xs ys : List Nat) (Y : Nat → Int) {i : Nat} (hi : i < xs.length) : dotI (el (bwL p d w xs ys)) (d + 1 + 2 * w) Y i = dotI (bwF p d w xs ys) (d + 1 + 2 * w) Y i :=
  sumI_congr _ fun j hj => by unfold bwL; rw [tabMM_el _ hi hj]

/-- what Solve finds of the equations -/
def bwS (p d w : Nat) (xs ys : List Nat) : Rd := rdS p (bwL p d w xs ys) (bwR p w xs ys) xs.length (d + 1 + 2 * w)
def bwY (p d w : Nat) (xs ys : List Nat) : Nat → Nat := solK (bwS p d w xs ys) (d + 1 + 2 * w) (bwS p d w xs ys).lead.length

theorem bw_stuck {p d w : Nat} (hi : isP p = true) {xs ys : List Nat} (hl : xs.length ≤ 64) (hn : d + 1 + 2 * w ≤ xs.length) (hd : xs.Nodup) (hx : within p xs = true) (hyw : within p ys = true) (hyl : ys.length = xs.length)
    (hs : Stuck (bwS p d w xs ys) xs.length (d + 1 + 2 * w)) (f : List Nat) : ¬ Good p d w xs ys f := fun h => by
  obtain ⟨Y, hY⟩ := bw_solution hi hd hx hyw hyl h
  have hp := pos_of hi
  refine not_stuck (bwL_ok hi hl hn) (bwR_len p w xs ys) (bwR_lt (by omega) w xs ys) (X := Y) (fun i hin => ?_) hs
  rw [bw_dot xs ys _ hin]
  exact (bw_row (by omega) hyw hyl Y hin).2 (hY i hin)
theorem bw_solved {p d w : Nat} (hi : isP p = true) {xs ys : List Nat} (hl : xs.length ≤ 64) (hn : d + 1 + 2 * w ≤ xs.length) (hyw : within p ys = true) (hyl : ys.length = xs.length)
    (hs : ¬ Stuck (bwS p d w xs ys) xs.length (d + 1 + 2 * w)) : (∀ j, j < d + 1 + 2 * w → bwY p d w xs ys j < p) ∧ Eqs p xs ys (qOf d w (bwY p d w xs ys)) (eOf d w (bwY p d w xs ys)) := by
  have hp := pos_of hi
  have hS := Sol.start (x := []) (bwL_ok hi hl hn) (bwR_len p w xs ys) (bwR_lt (by omega) w xs ys) hs
  refine ⟨hS.lt, fun i hin => ?_⟩
  have h := hS.ker i hin
  rw [bw_dot xs ys _ hin] at h
  exact (bw_row (by omega) hyw hyl _ hin).1 h

/-- dividing a solution: no remainder just where there is a polynomial, which is the quotient -/
theorem bw_div {p d w : Nat} (hi : isP p = true) {xs ys : List Nat} (hn : d + 1 + 2 * w ≤ xs.length) (hd : xs.Nodup) (hx : within p xs = true) (hyw : within p ys = true) (hyl : ys.length = xs.length)
    {Y : Nat → Nat} (hlt : ∀ j, j < d + 1 + 2 * w → Y j < p) (hY : Eqs p xs ys (qOf d w Y) (eOf d w Y)) {q r : List Nat} (h : IsDiv p (trim (qOf d w Y)) (trim (eOf d w Y)) q r) :
    (r = [] → Good p d w xs ys q) ∧ (r ≠ [] → ∀ f, ¬ Good p d w xs ys f) := by
  have hp := pos_of hi
  have hQw : within p (qOf d w Y) = true := within_tabM fun j hj => hlt j (by omega)
  have hEw : within p (eOf d w Y) = true := by
    refine within_of fun i hi' => ?_
    rw [eOf_len] at hi'
    unfold eOf
    rw [getD_snoc, tabM_len, tabM_get]
    split
    · exact hlt _ (by omega)
    · split <;> omega
  have hE1 := eOf_last d w Y
  have hEl := eOf_len d w Y
  have htE : trim (eOf d w Y) = eOf d w Y := trim_of_last (.inr (by rw [hEl, Nat.add_sub_cancel, hE1]; omega))
  rw [htE] at h
  constructor
  · intro hr
    subst hr
    refine div_good hi hd hx hQw (by rw [qOf_len]; omega) hEw hEl hE1 hyw hyl hY ?_
    obtain ⟨a1, a2, a3, a4, a5, a6⟩ := h
    exact ⟨a1, a2, a3, a4, a5, fun i => by rw [← trim_get]; exact a6 i⟩
  · intro hr f hf
    have h2 := eqs_div hi hd hx hn hf hQw (by rw [qOf_len]; omega) hEw hEl hY
    have hL : Lead p (eOf d w Y) := ⟨hEw, by omega, by rw [hEl, Nat.add_sub_cancel, hE1]; omega⟩
    exact hr (isDiv_unique hi hL (fun i => by rw [trim_get]) h h2).2
end Go.Proofs.Ytfgfapbhgehfiaa.M
