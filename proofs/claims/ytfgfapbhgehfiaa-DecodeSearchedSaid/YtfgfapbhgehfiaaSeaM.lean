/-
  The search through all choices of d + 1 points: what it means that no choice fits.
-/
import Derived.Test.YtfgfapbhgehfiaaDecM
namespace Go.Proofs.Ytfgfapbhgehfiaa.M
set_option linter.unusedVariables false

/-- no choice of further places from `fr` on, which makes the places idx d + 1, belongs to a polynomial that misses at most q points -/
def NoFit (p d q : Nat) (xs ys idx : List Nat) (fr : Nat) : Prop :=
  ∀ T : List Nat, T.Pairwise (· < ·) → (∀ i ∈ T, fr ≤ i ∧ i < xs.length) → idx.length + T.length = d + 1 → ∀ f, Good p d q xs ys f → ¬ ∀ i ∈ idx ++ T, pev p f (xs.getD i 0) = ys.getD i 0

theorem pick_get {xs l : List Nat} {j : Nat} (h : j < l.length) : (pick xs l).getD j 0 = xs.getD (l.getD j 0) 0 := by
  unfold pick
  rw [getD_lt (by simpa using h), List.getElem_map, getD_lt h]

theorem base_yes {p d q : Nat} {xs ys idx f : List Nat} (hl : idx.length = d + 1) (h : Thru p (pick xs idx) (pick ys idx) f) (hq : (offI p f xs ys).length ≤ q) : Good p d q xs ys f :=
  ⟨h.1, h.2.1, by have := h.2.2.1; rw [pick_len] at this; omega, hq⟩
theorem base_no {p d q : Nat} (hi : isP p = true) {xs ys idx f : List Nat} {fr : Nat} (hd : xs.Nodup) (hx : within p xs = true) (hn : idx.Nodup) (hlt : ∀ i ∈ idx, i < xs.length) (hl : idx.length = d + 1)
    (h : Thru p (pick xs idx) (pick ys idx) f) (hq : q < (offI p f xs ys).length) : NoFit p d q xs ys idx fr := by
  intro T _ _ _ g hg hr
  have hgl := hg.len
  have e : f = g := Thru.unique hi (pick_nodup hd hn hlt) (pick_within hx hlt) h ⟨hg.lt, hg.tr, by rw [pick_len]; omega, fun j hj => by
    rw [pick_len] at hj
    rw [pick_get hj, pick_get hj]
    exact hr _ (List.mem_append_left _ (getD_mem hj))⟩
  have := hg.few
  rw [e] at hq
  omega
theorem NoFit.step {p d q : Nat} {xs ys idx : List Nat} {fr : Nat} (hl : idx.length < d + 1) (h : ∀ i, fr ≤ i → i < xs.length → NoFit p d q xs ys (idx ++ [i]) (i + 1)) : NoFit p d q xs ys idx fr := by
  intro T hT hm hs f hf hr
  cases T with
  | nil => simp at hs; omega
  | cons i t =>
    obtain ⟨h1, h2⟩ := hm i (List.mem_cons_self ..)
    rw [List.pairwise_cons] at hT
    refine h i h1 h2 t hT.2 (fun j hj => ⟨hT.1 j hj, (hm j (List.mem_cons_of_mem _ hj)).2⟩) (by simp at hs ⊢; omega) f hf fun j hj => hr j ?_
    simpa using hj
theorem NoFit.none {p d q : Nat} {xs ys : List Nat} (hn : d + 1 + q ≤ xs.length) (h : NoFit p d q xs ys [] 0) (f : List Nat) : ¬ Good p d q xs ys f := by
  intro hf
  have h1 := onI_len p f xs ys
  have h2 := hf.few
  have hs : (onI p f xs ys).Pairwise (· < ·) := List.Pairwise.filter _ List.pairwise_lt_range
  refine h ((onI p f xs ys).take (d + 1)) (hs.sublist (List.take_sublist _ _)) (fun i hi => ⟨Nat.zero_le _, (onI_mem.1 (List.mem_of_mem_take hi)).1⟩) (by simp; omega) f hf fun i hi => ?_
  exact (onI_mem.1 (List.mem_of_mem_take (by simpa using hi))).2
end Go.Proofs.Ytfgfapbhgehfiaa.M
