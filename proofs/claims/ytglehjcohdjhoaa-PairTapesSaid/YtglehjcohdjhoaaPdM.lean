/-
  Pairs: the tape that was taken makes the matrix again.
-/
import Derived.Test.YtglehjcohdjhoaaPr10
namespace Go.Proofs.Ytglehjcohdjhoaa
set_option linter.unusedVariables false
set_option maxRecDepth 100000

namespace M
theorem tail_getD (l : List Nat) (i : Nat) : l.tail.getD i 0 = l.getD (i + 1) 0 := by cases l <;> simp
/-- the tape that was taken makes the matrix again -/
theorem made_tape {p n : Nat} {m : List (List Nat)} (hn : 0 < n) (hm : POk p n m) : made p (el m 0 0) n (tapeK n (el m) n).tail = tapeK n (el m) n := by
  have hN : 0 < triR n n := by
    have h0 : triR n 1 = n := by simp [triR]
    have := triR_mono (n := n) (show 1 ≤ n from hn)
    omega
  have hl := tapeK_len n (el m) n
  have h00 : (tapeK n (el m) n).getD 0 0 = el m 0 0 := by have := tapeK_get n (el m) n 0 0 hn (by omega); simpa [triR] using this
  have hw := tapeK_lt (p := p) (F := el m) (fun i k hi hk => hm.el_lt hi hk) n (Nat.le_refl _)
  apply ext_getD
  · unfold made; simp; omega
  · intro i
    cases i with
    | zero => rw [h00]; unfold made; simp
    | succ i =>
      unfold made
      rw [List.getD_cons_succ]
      by_cases hi : i + 1 < triR n n
      · have e : ((List.range (triR n n - 1)).map fun i => (tapeK n (el m) n).tail.getD i 0 % p).getD i 0 = (tapeK n (el m) n).tail.getD i 0 % p := by
          rw [List.getD_eq_getElem?_getD, List.getElem?_map, List.getElem?_range (by omega)]; rfl
        rw [e, tail_getD, Nat.mod_eq_of_lt (within_mem hw (by omega))]
      · rw [getD_ge (by simp; omega), getD_ge (by omega)]
end M
end Go.Proofs.Ytglehjcohdjhoaa
