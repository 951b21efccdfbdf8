/-
  Roots, products' lengths, slopes: mathematics. No program.
-/
import Derived.Test.YtgoognipljknjaaThruM
namespace Go.Proofs.Ytgoognipljknjaa.M
set_option linter.unusedVariables false

/-- the roots below k -/
def rootsTo (p : Nat) (f : List Nat) (k : Nat) : List Nat := (List.range k).filter fun x => pev p f x == 0
theorem rootsTo_succ (p : Nat) (f : List Nat) (k : Nat) : rootsTo p f (k + 1) = rootsTo p f k ++ if pev p f k = 0 then [k] else [] := by
  unfold rootsTo
  rw [List.range_succ, List.filter_append]
  by_cases h : pev p f k = 0
  · simp [h]
  · simp [h]
theorem rootsTo_mem {p : Nat} {f : List Nat} {k x : Nat} : x ∈ rootsTo p f k ↔ x < k ∧ pev p f x = 0 := by
  unfold rootsTo; simp
theorem rootsTo_nodup (p : Nat) (f : List Nat) (k : Nat) : (rootsTo p f k).Nodup := by
  unfold rootsTo List.Nodup
  exact List.Pairwise.filter _ List.nodup_range
theorem rootsTo_sorted (p : Nat) (f : List Nat) (k : Nat) : (rootsTo p f k).Pairwise (· < ·) := by
  unfold rootsTo
  exact List.Pairwise.filter _ List.pairwise_lt_range
theorem rootsTo_within {p : Nat} (f : List Nat) : within p (rootsTo p f p) = true := by
  unfold within
  rw [List.all_eq_true]
  intro x hx
  have := (rootsTo_mem.1 hx).1
  simpa using this
/-- no more roots than the degree -/
theorem rootsTo_len {p : Nat} (hi : isP p = true) {f : List Nat} (hf : within p f = true) (tf : trim f = f) (h0 : f ≠ []) : (rootsTo p f p).length < f.length := by
  apply Nat.lt_of_not_le
  intro hc
  exact h0 (no_more_roots hi hf tf (rootsTo_nodup p f p) (rootsTo_within f) hc (fun x hx => (rootsTo_mem.1 hx).2))
theorem rootsTo_split (p : Nat) (f : List Nat) {k n : Nat} (h : k ≤ n) : ∃ t, rootsTo p f n = rootsTo p f k ++ t := by
  induction n with
  | zero => obtain rfl : k = 0 := by omega
            exact ⟨[], by simp⟩
  | succ n ih =>
    by_cases hk : k = n + 1
    · subst hk; exact ⟨[], by simp⟩
    · obtain ⟨t, ht⟩ := ih (by omega)
      exact ⟨_, by rw [rootsTo_succ, ht, List.append_assoc]⟩
/-- once as many are found as the degree says, all are found -/
theorem rootsTo_full {p : Nat} (hi : isP p = true) {f : List Nat} (hf : within p f = true) (tf : trim f = f) (h0 : f ≠ []) {k : Nat} (hk : k ≤ p) (hl : f.length - 1 ≤ (rootsTo p f k).length) : rootsTo p f k = rootsTo p f p := by
  obtain ⟨t, ht⟩ := rootsTo_split p f hk
  have h1 := rootsTo_len hi hf tf h0
  rw [ht, List.length_append] at h1
  have : t = [] := List.eq_nil_of_length_eq_zero (by omega)
  rw [ht, this, List.append_nil]
theorem rootsTo_trim (p : Nat) (f : List Nat) (k : Nat) : rootsTo p (trim f) k = rootsTo p f k := by
  unfold rootsTo
  congr 1
  funext x
  rw [pev_trim]

/-! ### lengths of products -/
theorem lead_trim {p : Nat} {f : List Nat} (h : within p f = true) (h0 : 0 < (trim f).length) : Lead p (trim f) := lead_of (within_trim h) (trim_trim f) h0
theorem prodL_trims {p : Nat} (hi : isP p = true) {f g : List Nat} (hf : within p f = true) (hg : within p g = true) : prodL p (trim f) (trim g) = pmul p f g := by
  rw [← pmul_trim, ← prodL_trim]
  by_cases h : (trim f).length = 0 ∨ (trim g).length = 0
  · unfold prodL; rw [if_pos h]; rfl
  · exact (prodL_self hi (lead_trim hf (by omega)) (lead_trim hg (by omega))).symm
theorem pmul_len {p : Nat} (hi : isP p = true) {f g : List Nat} (hf : within p f = true) (hg : within p g = true) (h1 : 0 < (trim f).length) (h2 : 0 < (trim g).length) : (pmul p f g).length = (trim f).length + (trim g).length - 1 := by
  rw [← prodL_trims hi hf hg, prodL_len h1 h2]
theorem pmul_len_zero {p : Nat} (hi : isP p = true) {f g : List Nat} (hf : within p f = true) (hg : within p g = true) (h : (trim f).length = 0 ∨ (trim g).length = 0) : pmul p f g = [] := by
  rw [← prodL_trims hi hf hg]; unfold prodL; rw [if_pos h]

/-! ### slopes -/
theorem slope_eq {p : Nat} (f : List Nat) : trim ((tabM f.length fun i => f.getD i 0 * (i % p) % p).drop 1) = pslope p f := by
  unfold pslope poly
  apply trim_congr
  intro i
  rw [row_get]
  have e : ((tabM f.length fun i => f.getD i 0 * (i % p) % p).drop 1).getD i 0 = (tabM f.length fun i => f.getD i 0 * (i % p) % p).getD (i + 1) 0 := by
    simp only [List.getD_eq_getElem?_getD, List.getElem?_drop, Nat.add_comm 1 i]
  rw [e, tabM_get]
  by_cases h : i + 1 < f.length
  · rw [if_pos h, if_pos (by omega), Nat.mul_comm]
  · rw [if_neg h, if_neg (by omega)]
end Go.Proofs.Ytgoognipljknjaa.M
