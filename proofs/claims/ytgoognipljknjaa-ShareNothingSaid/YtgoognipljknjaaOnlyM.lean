/-
  Tapes that make the same shares for the same secret; the polynomial that Nothing's tape is read from.
-/
import Derived.Test.YtgoognipljknjaaShsb
namespace Go.Proofs.Ytgoognipljknjaa.M
open Go.RowKit
set_option linter.unusedVariables false

/-- what the parties l get -/
def gotL (p : Nat) (f : List Nat) (l : List Int) : List Nat := (pts l).map (pev p f)
theorem gotL_len (p : Nat) (f : List Nat) (l : List Int) : (gotL p f l).length = l.length := by simp [gotL, pts]
theorem gotL_get (p : Nat) (f : List Nat) (l : List Int) {i : Nat} (h : i < l.length) : (gotL p f l).getD i 0 = pev p f (l.getD i 0).toNat := by
  have e : (gotL p f l).getD i 0 = pev p f ((pts l).getD i 0) := by
    unfold gotL
    rw [List.getD_eq_getElem?_getD, List.getElem?_map, List.getD_eq_getElem?_getD, List.getElem?_eq_getElem (by rw [pts_len]; exact h)]
    rfl
  rw [e, pts_get]
theorem gotL_succ (p : Nat) (f : List Nat) (l : List Int) {k : Nat} (h : k < l.length) : gotL p f (l.take (k + 1)) = gotL p f (l.take k) ++ [pev p f (l.getD k 0).toNat] := by
  unfold gotL pts
  rw [List.take_succ_eq_append_getElem h, List.map_append, List.map_append, List.getD_eq_getElem?_getD, List.getElem?_eq_getElem h]
  rfl
theorem drawn_self {p d : Nat} {z : List Nat} (hw : within p z = true) (hl : z.length = d) : drawn p z d = z := by
  refine ext_getD (by rw [drawn_len, hl]) fun i => ?_
  by_cases h : i < d
  · unfold drawn
    rw [List.getD_eq_getElem?_getD, List.getElem?_map, List.getElem?_eq_getElem (by simpa using h)]
    simp only [List.getElem_range, Option.map_some, Option.getD_some]
    exact Nat.mod_eq_of_lt (within_mem hw (by omega))
  · rw [getD_ge (by rw [drawn_len]; omega), getD_ge (by omega)]
theorem mk_at0 {p a : Nat} (ha : a < p) (d : Nat) (z : List Nat) : pev p (mk p a d z) 0 = a := by
  unfold mk; rw [pev_trim]; simp [pev, evN, Nat.mod_eq_of_lt ha]
theorem mk_len (p a d : Nat) (z : List Nat) : (mk p a d z).length ≤ d + 1 := by
  unfold mk; refine Nat.le_trans (trim_len_le _) ?_; simp [drawn_len]
theorem mk_within {p a : Nat} (ha : a < p) (d : Nat) (z : List Nat) : within p (mk p a d z) = true := within_trim (mkL_within ha _ _)
theorem mk_trim (p a d : Nat) (z : List Nat) : trim (mk p a d z) = mk p a d z := trim_trim _
theorem snoc0_within {p : Nat} (hp : 0 < p) {l : List Nat} (h : within p l = true) : within p (l ++ [0]) = true := by
  unfold within at h ⊢
  rw [List.all_append, h]
  simp; omega
theorem tapes_eq {p d : Nat} {n : Int} {l : List Int} {z1 z2 : List Nat} (hi : isP p = true) (hr : RisesTo n l l.length) (hn : n < (p : Int)) (hd : l.length = d) (hw1 : within p z1 = true) (hw2 : within p z2 = true) (hl1 : z1.length = d) (hl2 : z2.length = d)
    (h : gotL p (mk p 1 d z1) l = gotL p (mk p 1 d z2) l) : z1 = z2 := by
  have h3 := (pos_of hi).1
  have e : mk p 1 d z1 = mk p 1 d z2 := by
    have hl : (pts l ++ [0]).length = d + 1 := by rw [List.length_append, pts_len, hd]; rfl
    refine agree hi (mk_within (by omega) _ _) (mk_within (by omega) _ _) (mk_trim _ _ _ _) (mk_trim _ _ _ _) ((nodup_snoc (pts_noz hr)).2 (pts_nodup hr)) (snoc0_within (by omega) (pts_within hr hn)) (by rw [hl]; exact mk_len _ _ _ _) (by rw [hl]; exact mk_len _ _ _ _) fun x hx => ?_
    rcases List.mem_append.1 hx with hx | hx
    · exact List.map_inj_left.1 h x hx
    · obtain rfl : x = 0 := by simpa using hx
      rw [mk_at0 (by omega), mk_at0 (by omega)]
  refine ext_getD (by omega) fun i => ?_
  have := congrArg (fun t => t.getD (i + 1) 0) e
  simp only [mk, trim_get, drawn_self hw1 hl1, drawn_self hw2 hl2, List.getD_cons_succ] at this
  exact this
/-- Through's polynomial, filled up to d + 1 coefficients, as secret and tape -/
theorem mk_of {p s d : Nat} {f z : List Nat} (hw : within p f = true) (ht : trim f = f) (hl : f.length ≤ d + 1) (h0 : pev p f 0 = s) (hs : s < p) (hz : z.length = d) (hzw : within p z = true) (hg : ∀ i, i < d → z.getD i 0 = f.getD (i + 1) 0) : mk p s d z = f := by
  have hp : 0 < p := by omega
  have h00 : f.getD 0 0 = s := by
    cases f with
    | nil => simpa [pev, evN] using h0
    | cons a t =>
      have ha : a < p := within_mem (k := 0) hw (by simp)
      simpa [pev, evN, Nat.mod_eq_of_lt ha] using h0
  refine ext_red hp (mk_within hs _ _) hw (mk_trim _ _ _ _) ht fun i => ?_
  simp only [mk, trim_get, drawn_self hzw hz]
  match i with
  | 0 => rw [List.getD_cons_zero, h00]
  | i + 1 =>
    rw [List.getD_cons_succ]
    by_cases hi : i < d
    · rw [hg i hi]
    · rw [getD_ge (by omega), getD_ge (by omega)]
end Go.Proofs.Ytgoognipljknjaa.M
