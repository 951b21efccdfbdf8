/-
  The tape that makes a given polynomial; rows of points; the box of a law's numbers.
-/
import Derived.Test.YtgoognipljknjaaOnlyM
import Derived.Test.YtgoognipljknjaaZero
namespace Go.Proofs.Ytgoognipljknjaa.M
open Go.RowKit
set_option linter.unusedVariables false

/-- Make's tape that gives the polynomial f: what stands behind its first coefficient, filled up to d -/
def tape (f : List Nat) (d : Nat) : List Nat := ((f ++ List.replicate (d + 1) 0).take (d + 1)).drop 1
theorem tape_len (f : List Nat) (d : Nat) : (tape f d).length = d := by simp [tape]
theorem tape_get (f : List Nat) {d i : Nat} (h : i < d) : (tape f d).getD i 0 = f.getD (i + 1) 0 := by
  unfold tape
  rw [List.getD_eq_getElem?_getD, List.getElem?_drop, List.getElem?_take, if_pos (by omega), Nat.add_comm 1 i]
  by_cases hf : i + 1 < f.length
  · rw [List.getElem?_append_left hf, List.getD_eq_getElem?_getD]
  · rw [List.getElem?_append_right (by omega), getD_ge (by omega)]
    rw [List.getElem?_replicate]
    split <;> rfl
theorem tape_within {p : Nat} (hp : 0 < p) {f : List Nat} (hf : within p f = true) (d : Nat) : within p (tape f d) = true := by
  refine within_of fun i hi => ?_
  rw [tape_len] at hi
  rw [tape_get f hi]
  by_cases h : i + 1 < f.length
  · exact within_mem hf h
  · rw [getD_ge (by omega)]; exact hp
theorem mk_tape {p s d : Nat} {f : List Nat} (hw : within p f = true) (ht : trim f = f) (hl : f.length ≤ d + 1) (h0 : pev p f 0 = s) (hs : s < p) : mk p s d (tape f d) = f :=
  mk_of hw ht hl h0 hs (tape_len f d) (tape_within (by omega) hw d) (fun i hi => tape_get f hi)
theorem tape_all {p N : Nat} (hi : isP p = true) (hN : N < p) {l : List Int} {ss f : List Nat} {s : Nat} (hr : RisesTo (N : Int) l l.length) (hs : s < p) (hne : ss.length = l.length) (hT : Thru p (0 :: pts l) (s :: ss) f) :
    within p f = true ∧ trim f = f ∧ f.length ≤ l.length + 1 ∧ mk p s l.length (tape f l.length) = f ∧ ∀ j, j < l.length → pev p f (l.getD j 0).toNat = ss.getD j 0 := by
  obtain ⟨h1, h2, h3, h4⟩ := hT
  have hl : (0 :: pts l).length = l.length + 1 := by rw [List.length_cons, pts_len]
  rw [hl] at h3 h4
  have h0 := h4 0 (by omega)
  refine ⟨h1, h2, h3, mk_tape h1 h2 h3 h0 hs, fun j hj => ?_⟩
  have := h4 (j + 1) (by omega)
  rw [List.getD_cons_succ, List.getD_cons_succ, pts_get] at this
  exact this
theorem zpts_nodup {n : Int} {l : List Int} (h : RisesTo n l l.length) : (0 :: pts l).Nodup := by
  rw [List.nodup_cons]
  exact ⟨fun hm => pts_noz h 0 hm rfl, pts_nodup h⟩
theorem cons_within {p a : Nat} {l : List Nat} (ha : a < p) (h : within p l = true) : within p (a :: l) = true := by
  unfold within at h ⊢
  rw [List.all_cons, h]
  simp [ha]
end Go.Proofs.Ytgoognipljknjaa.M
namespace Go.Proofs.Ytgoognipljknjaa
open Go.RowKit
theorem own_form {W : World} {base : Nat} {e : TypeId} {size : Nat} {v : Value} {n : Nat} {xs : List Value} (h : W.ownsRow base e size v n xs) (hn : 0 < n) : ∃ g cap, v = .slice (some ⟨g, 0, none⟩) n cap ∧ n ≤ cap := by
  rcases h.2 with ⟨_, h0⟩ | ⟨g, cap, cur, hv, _, _, hc, _⟩
  · omega
  · exact ⟨g, cap, hv, hc⟩
theorem tape_nums {W : World} {base g d c : Nat} {f : List Nat} (hf : ∀ z ∈ f, z < 18446744073709551616) (hl : f.length ≤ 1000) (hd : d ≤ 1000)
    (h : W.ownsRow base 22 1 (.slice (some ⟨g, 0, none⟩) (f.length + (d + 1)) c) (f.length + (d + 1)) (vals f ++ List.replicate (d + 1) (.int .u64 0))) :
    ∃ A', (if c = 1 then (some ⟨g, 0, none⟩ : Option Addr) else some ⟨g, 1, none⟩) = A' ∧ Nums W (.slice A' d (c - 1)) (M.tape f d) := by
  have e : vals f ++ List.replicate (d + 1) (Value.int .u64 0) = vals (f ++ List.replicate (d + 1) 0) := by simp [vals]
  rw [e] at h
  have hlen : (f ++ List.replicate (d + 1) 0).length = f.length + (d + 1) := by simp
  have hN := nums_of_owns h (fun z hz => by
    rcases List.mem_append.1 hz with hz | hz
    · exact hf z hz
    · rw [List.eq_of_mem_replicate hz]; omega) (by rw [hlen]; omega)
  rw [← hlen] at hN
  have hP := nums_prefix hN (m := d + 1) (by rw [hlen]; omega)
  have hz : ((f ++ List.replicate (d + 1) 0).take (d + 1)).length = d + 1 := by rw [List.length_take, hlen]; omega
  obtain ⟨h1, h2, h3⟩ := hP
  refine ⟨_, rfl, fun n hn => h1 n (List.mem_of_mem_drop hn), by rw [M.tape_len]; omega, ?_⟩
  rcases h3 with ⟨a, c', e, e2, hn⟩ | ⟨b, off, c', e, hc, hb, hcell⟩
  · rw [e2] at hz; simp at hz
  · rw [hz] at e hc hcell
    cases e
    by_cases hcap : c = 1
    · rw [if_pos hcap]
      left
      obtain rfl : d = 0 := by omega
      exact ⟨_, _, rfl, List.eq_nil_of_length_eq_zero (M.tape_len f 0), by simp⟩
    · rw [if_neg hcap]
      right
      refine ⟨g, 1, c - 1, by rw [M.tape_len], by rw [M.tape_len]; omega, hb, fun i hi => ?_⟩
      rw [M.tape_len] at hi
      have := hcell (1 + i) (by omega)
      rw [Nat.zero_add] at this
      rw [this, M.tape]
      simp [List.getD_eq_getElem?_getD, Nat.add_comm]
end Go.Proofs.Ytgoognipljknjaa
