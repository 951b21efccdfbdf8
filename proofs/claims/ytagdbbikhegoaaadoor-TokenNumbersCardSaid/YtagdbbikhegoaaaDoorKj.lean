/-
  Tokens: the reference's word, where it begins with neither a letter nor a digit.
-/
import Derived.Test.YtagdbbikhegoaaaDoorKi
namespace Go.Proofs.YtagdbbikhegoaaaDoor
open Go.RowKit
set_option linter.unusedVariables false
set_option maxRecDepth 100000
namespace M
theorem find_at {f : ByteArray → Bool} {l : List ByteArray} {i : Nat} (hi : i < l.length) (h : f (l.getD i ByteArray.empty) = true) (hn : ∀ j, j < i → f (l.getD j ByteArray.empty) = false) : l.find? f = some (l.getD i ByteArray.empty) := by
  induction l generalizing i with
  | nil => simp at hi
  | cons x r ih =>
    cases i with
    | zero =>
      have h' : f x = true := h
      rw [List.find?_cons_of_pos h']; rfl
    | succ i =>
      have h0 : f x = false := hn 0 (by omega)
      rw [List.find?_cons_of_neg (by rw [h0]; decide)]
      exact ih (by simpa using hi) h (fun j hj => hn (j + 1) (by omega))
theorem find_none {f : ByteArray → Bool} {l : List ByteArray} (hn : ∀ j, j < l.length → f (l.getD j ByteArray.empty) = false) : l.find? f = none := by
  induction l with
  | nil => rfl
  | cons x r ih =>
    have h0 : f x = false := hn 0 (by simp)
    rw [List.find?_cons_of_neg (by rw [h0]; decide)]
    exact ih (fun j hj => hn (j + 1) (by simpa using hj))
/-- does the text at a begin with x? -/
def begB (s : ByteArray) (a : Nat) (x : ByteArray) : Bool := decide (x.size ≤ s.size - a ∧ s.extract a (a + x.size) = x)
def signOf (c : Nat) (d : Option Nat) : Int × Int × List Nat := if c = 61 ∧ d = some 61 then (0, 3, [61, 61]) else if c ∈ singles then (0, 3, [c]) else (4, 0, [])
theorem word_sign {s : ByteArray} {a : Nat} (h : a < s.size) (hl : letterB ((bs s).getD a 0) = false) (hd : digitB ((bs s).getD a 0) = false) : wordL ((bs s).drop a) = signOf ((bs s).getD a 0) ((bs s).drop (a + 1)).head? := by
  have e := drop_cons (L := bs s) (i := a) (by rw [bs_len]; exact h)
  rw [e]; unfold wordL signOf
  simp only [hl, hd]
  simp
theorem begB_iff {s : ByteArray} {a : Nat} (x : ByteArray) (h : a < s.size) : begB s a x = (bs x).isPrefixOf ((bs s).drop a) := by
  rw [Bool.eq_iff_iff]
  unfold begB
  rw [decide_eq_true_eq, List.isPrefixOf_iff_prefix, List.prefix_iff_eq_take, bs_len]
  constructor
  · rintro ⟨h1, h2⟩
    have h3 := bs_extract s a (a + x.size) (by omega)
    rw [h2, show a + x.size - a = x.size by omega] at h3
    exact h3
  · intro h2
    have hlen := congrArg List.length h2
    rw [List.length_take, List.length_drop, bs_len, bs_len] at hlen
    have hle : x.size ≤ s.size - a := by omega
    refine ⟨hle, bs_inj ?_⟩
    rw [bs_extract s a (a + x.size) (by omega), show a + x.size - a = x.size by omega]
    exact h2.symm
theorem signs_find {s : ByteArray} {a : Nat} (h : a < s.size) : signOf ((bs s).getD a 0) ((bs s).drop (a + 1)).head? = (match signs8.find? (begB s a) with | some x => (0, 3, bs x) | none => (4, 0, [])) := by
  have e := drop_cons (L := bs s) (i := a) (by rw [bs_len]; exact h)
  have hf : signs8.find? (begB s a) = signs8.find? (fun x => (bs x).isPrefixOf ((bs s).drop a)) := by
    congr 1; funext x; exact begB_iff x h
  rw [hf, e]
  obtain ⟨c, ec⟩ : ∃ c, c = (bs s).getD a 0 := ⟨_, rfl⟩
  obtain ⟨r, er⟩ : ∃ r, r = (bs s).drop (a + 1) := ⟨_, rfl⟩
  rw [← ec, ← er]
  clear e ec er hf
  unfold signOf
  by_cases h1 : c = 61 ∧ r.head? = some 61
  · rw [if_pos h1]
    obtain ⟨rfl, h2⟩ := h1
    cases r with
    | nil => cases h2
    | cons d r =>
      simp only [List.head?_cons, Option.some.injEq] at h2
      subst h2
      rfl
  · rw [if_neg h1]
    have hn : ([61, 61] : List Nat).isPrefixOf (c :: r) = false := by
      cases hh : ([61, 61] : List Nat).isPrefixOf (c :: r) with
      | false => rfl
      | true =>
        rw [List.isPrefixOf_iff_prefix] at hh
        obtain ⟨q, hq⟩ := hh
        simp only [List.cons_append, List.nil_append, List.cons.injEq] at hq
        obtain ⟨rfl, rfl⟩ := hq
        exact absurd ⟨rfl, rfl⟩ h1
    by_cases hc : c ∈ singles
    · rw [if_pos hc]
      simp only [singles, List.mem_cons, List.not_mem_nil, or_false] at hc
      unfold signs8
      rw [List.find?_cons_of_neg (by rw [show bs ⟨#[61, 61]⟩ = [61, 61] from rfl, hn]; decide)]
      rcases hc with rfl | rfl | rfl | rfl | rfl | rfl | rfl | rfl | rfl | rfl | rfl | rfl | rfl | rfl | rfl | rfl | rfl | rfl <;> rfl
    · rw [if_neg hc]
      have : signs8.find? (fun x => (bs x).isPrefixOf (c :: r)) = none := by
        rw [List.find?_eq_none]
        intro x hx hp
        have hx2 : bs x ∈ signs8.map bs := List.mem_map_of_mem hx
        have hs : signB (bs x) = true := by rw [← signB_is]; simpa using hx2
        rcases sign_cases hs with h2 | ⟨d, h2, hd⟩
        · rw [h2, hn] at hp; cases hp
        · rw [h2, List.isPrefixOf_iff_prefix] at hp
          obtain ⟨q, hq⟩ := hp
          simp only [List.cons_append, List.nil_append, List.cons.injEq] at hq
          rw [hq.1] at hd
          exact hc hd
      rw [this]
end M
end Go.Proofs.YtagdbbikhegoaaaDoor
