/-
  Tokens: the reference's word.
-/
import Derived.Test.YtagdbbikhegoaaaDoorKg
import Derived.Test.YtagdbbikhegoaaaDoorKe
namespace Go.Proofs.YtagdbbikhegoaaaDoor
open Go.RowKit
set_option linter.unusedVariables false
set_option maxRecDepth 100000
namespace M
theorem takeWhile_of {f : Nat → Bool} : ∀ {l : List Nat} {n : Nat}, (∀ i, i < n → f (l.getD i 0) = true) → n ≤ l.length → (n < l.length → f (l.getD n 0) = false) → l.takeWhile f = l.take n
  | [], n, _, h, _ => by simp at h; subst h; rfl
  | c :: r, 0, _, _, h => by
    have := h (by simp)
    simp at this
    simp [this]
  | c :: r, n + 1, h1, h2, h3 => by
    have h0 : f c = true := h1 0 (by omega)
    rw [List.takeWhile_cons_of_pos h0, List.take_succ_cons, takeWhile_of (fun i hi => h1 (i + 1) (by omega)) (by simpa using h2) (fun h => h3 (by simpa using h))]
theorem getD_drop (L : List Nat) (a i : Nat) : (L.drop a).getD i 0 = L.getD (a + i) 0 := by
  rw [List.getD_eq_getElem?_getD, List.getElem?_drop, ← List.getD_eq_getElem?_getD]
/-- the run of bytes from a to b is a token's text -/
theorem run_of {f : Nat → Bool} {s : ByteArray} {a b : Nat} (hab : a ≤ b) (hb : b ≤ s.size) (h : ∀ i, a ≤ i → i < b → f ((bs s).getD i 0) = true) (he : b < s.size → f ((bs s).getD b 0) = false) : ((bs s).drop a).takeWhile f = bs (s.extract a b) := by
  rw [bs_extract s a b hb]
  refine takeWhile_of (fun i hi => ?_) ?_ (fun hlt => ?_)
  · rw [getD_drop]; exact h _ (by omega) (by omega)
  · rw [List.length_drop, bs_len]; omega
  · rw [List.length_drop, bs_len] at hlt
    rw [getD_drop, show a + (b - a) = b by omega]
    exact he (by omega)
theorem bs_extract_len (s : ByteArray) {a b : Nat} (hab : a ≤ b) (hb : b ≤ s.size) : (bs (s.extract a b)).length = b - a := by
  rw [bs_extract s a b hb, List.length_take, List.length_drop, bs_len]; omega
theorem word_name {s : ByteArray} {a : Nat} (h : a < s.size) (hl : letterB ((bs s).getD a 0) = true) : wordL ((bs s).drop a) = (if 24 < (((bs s).drop a).takeWhile nameB).length then (3, 0, []) else (0, 1, ((bs s).drop a).takeWhile nameB)) := by
  have e := drop_cons (L := bs s) (i := a) (by rw [bs_len]; exact h)
  conv => lhs; rw [e]; unfold wordL
  simp only [hl, if_true]
  rw [← e]
theorem word_num {s : ByteArray} {a : Nat} (h : a < s.size) (hl : letterB ((bs s).getD a 0) = false) (hd : digitB ((bs s).getD a 0) = true) : wordL ((bs s).drop a) = (if numE (((bs s).drop a).takeWhile digitB) = 0 then (0, 2, ((bs s).drop a).takeWhile digitB) else (numE (((bs s).drop a).takeWhile digitB), 0, [])) := by
  have e := drop_cons (L := bs s) (i := a) (by rw [bs_len]; exact h)
  conv => lhs; rw [e]; unfold wordL
  simp only [hl, hd, if_true]
  rw [← e]
  simp
end M
/-- what word answers -/
def WordEnd (s : ByteArray) (a : Nat) (w : World) (e : Ending) (w' : World) : Prop :=
  ∃ (T : ByteArray), e = .returned (.tuple #[.agg #[.int .i64 (M.wordL ((M.bs s).drop a)).2.1, .string T, .int .i64 (if (M.wordL ((M.bs s).drop a)).1 = 0 then (a : Int) else 0)], .int .i64 (M.wordL ((M.bs s).drop a)).1]) ∧ M.bs T = (M.wordL ((M.bs s).drop a)).2.2 ∧ Below w.heap.size w w'
theorem word_end {s T : ByteArray} {a : Nat} {w w' : World} {k A E : Int} {t : List Nat} (h : M.wordL ((M.bs s).drop a) = (E, k, t)) (ht : M.bs T = t) (hA : A = if E = 0 then (a : Int) else 0) (hb : Below w.heap.size w w') : WordEnd s a w (.returned (.tuple #[.agg #[.int .i64 k, .string T, .int .i64 A], .int .i64 E])) w' := by
  unfold WordEnd
  rw [h]
  subst hA
  exact ⟨T, rfl, ht, hb⟩
end Go.Proofs.YtagdbbikhegoaaaDoor
