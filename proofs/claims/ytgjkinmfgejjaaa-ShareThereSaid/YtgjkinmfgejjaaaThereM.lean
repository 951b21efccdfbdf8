/-
  Moving there and back.
-/
import Derived.Test.YtgjkinmfgejjaaaShare4
namespace Go.Proofs.Ytgjkinmfgejjaaa.M
open Go.RowKit
set_option linter.unusedVariables false

theorem trim_within {p : Nat} {f : List Nat} (h : within p f = true) : within p (trim f) = true := within_trim h
section
variable {p : Nat} {n : Int} {f : List Nat} {l : List Int} {s : Nat} {g : List Nat}
theorem Moved.within (hp : 0 < p) (h : Moved p f l s g) : within p g = true := by
  obtain ⟨A, hA, rfl⟩ := h; exact poly_within hp _ _
theorem Moved.trim (h : Moved p f l s g) : trim g = g := by
  obtain ⟨A, hA, rfl⟩ := h; exact poly_trim _ _ _
theorem Moved.len (hp : 0 < p) (h : Moved p f l s g) : g.length ≤ max (M.trim f).length (l.length + 1) := by
  obtain ⟨A, hA, rfl⟩ := h
  rw [← padd_trim _ _ _ hp]
  refine Nat.le_trans (poly_len _ _ _) ?_
  have h1 := (away_within hA).2
  have h2 := (pscale_within hp A (mvBy p f s)).2
  have h3 := trim_len_le (pscale p A (mvBy p f s))
  rw [pts_len] at h1
  omega
theorem away_at0 {p : Nat} {xs A : List Nat} (h : AwayOf p xs A) : pev p A 0 = 1 := by
  have := h.2.2.2 xs.length (by simp)
  rw [List.getD_eq_getElem?_getD, List.getElem?_append_right (by omega), Nat.sub_self, List.getD_eq_getElem?_getD, List.getElem?_append_right (by simp)] at this
  simpa using this
theorem away_at {p : Nat} {xs A : List Nat} (h : AwayOf p xs A) {i : Nat} (hi : i < xs.length) : pev p A (xs.getD i 0) = 0 := by
  have := h.2.2.2 i (by simp; omega)
  have e1 : (xs ++ [0]).getD i 0 = xs.getD i 0 := by rw [List.getD_eq_getElem?_getD, List.getElem?_append_left hi, ← List.getD_eq_getElem?_getD]
  have e2 : (List.replicate xs.length 0 ++ [1]).getD i 0 = 0 := by rw [List.getD_eq_getElem?_getD, List.getElem?_append_left (by simpa using hi)]; simp [hi]
  rw [e1, e2] at this
  exact this
theorem sub_add_mod {p s y : Nat} (hp : 0 < p) (hs : s < p) (hy : y < p) : (y + (s + p - y) % p) % p = s := by
  rw [Nat.add_mod, Nat.mod_mod, ← Nat.add_mod]
  rw [show y + (s + p - y) = s + p by omega, Nat.add_mod_right, Nat.mod_eq_of_lt hs]
theorem Moved.at0 (hp : 0 < p) (hs : s < p) (h : Moved p f l s g) : pev p g 0 = s := by
  obtain ⟨A, hA, rfl⟩ := h
  rw [pev_add, pev_scale, away_at0 hA, Nat.one_mul, mvBy, Nat.mod_mod]
  exact sub_add_mod hp hs (pev_lt f 0 hp)
theorem Moved.at (hp : 0 < p) (h : Moved p f l s g) {i : Nat} (hi : i < l.length) : pev p g ((l.getD i 0).toNat) = pev p f ((l.getD i 0).toNat) := by
  obtain ⟨A, hA, rfl⟩ := h
  have := away_at hA (i := i) (by rw [pts_len]; exact hi)
  rw [pts_get] at this
  rw [pev_add, pev_scale, this]
  simp
  exact Nat.mod_eq_of_lt (pev_lt f _ hp)
theorem back_mod {p F A c c' : Nat} (h : (c + c') % p = 0) : ((F + A * c) % p + A * c' % p) % p = F % p := by
  rw [← Nat.add_mod, Nat.add_assoc, ← Nat.mul_add, Nat.add_mod, Nat.mul_mod, h]
  simp
theorem Moved.back (hi : isP p = true) (hl : RisesTo n l l.length) (hn : n < (p : Int)) (hs : s < p) (hf : M.within p f = true) (h : Moved p f l s g) {b : List Nat} (hb : Moved p g l (pev p f 0) b) : b = M.trim f := by
  have hp3 := pos_of hi
  have h0 := h.at0 (by omega) hs
  have hbt := hb.trim
  have hbw := hb.within (by omega)
  obtain ⟨A, hA, rfl⟩ := h
  obtain ⟨A', hA', rfl⟩ := hb
  have hz := pts_noz hl
  have hw := pts_within hl hn
  have hw2 : M.within p (pts l ++ [0]) = true := by
    unfold M.within at hw ⊢
    rw [List.all_append, hw]
    simp; omega
  obtain rfl : A = A' := Thru.unique hi ((nodup_snoc hz).2 (pts_nodup hl)) hw2 hA hA'
  refine ext_red (by omega) hbw (within_trim hf) hbt (trim_trim f) fun i => ?_
  have hy := pev_lt (p := p) f 0 (by omega)
  unfold mvBy at h0 ⊢
  rw [h0]
  have e : ((s + p - pev p f 0) % p + (pev p f 0 + p - s) % p) % p = 0 := by
    rw [← Nat.add_mod, show s + p - pev p f 0 + (pev p f 0 + p - s) = 2 * p by omega]
    simp
  have e1 : (padd p f (pscale p A ((s + p - pev p f 0) % p))).getD i 0 % p = (f.getD i 0 + A.getD i 0 * ((s + p - pev p f 0) % p)) % p := by
    rw [padd_get, Nat.add_mod, pscale_get, ← Nat.add_mod]
  rw [padd_get, Nat.add_mod, e1, pscale_get, trim_get]
  exact back_mod e
end
end Go.Proofs.Ytgjkinmfgejjaaa.M
