/-
  Package decode: Decode, whatever the arguments.
-/
import Derived.Test.YtfgfapbhgehfiaaL5
namespace Go.Proofs.Ytfgfapbhgehfiaa
open Go.RowKit
set_option linter.unusedVariables false
set_option maxRecDepth 100000

namespace M
theorem dchk_ne (p : Nat) (d : Int) (xs ys : List Nat) : dchk p d xs ys ≠ 12 := by
  unfold dchk
  repeat' split
  all_goals decide
theorem decE_ne (p : Nat) (d wr : Int) (xs ys : List Nat) : decE p d wr xs ys ≠ 12 := by
  unfold decE
  repeat' split
  · exact dchk_ne p d xs ys
  all_goals decide
end M
/-- what Decode answers to any arguments -/
def DecA (w : World) (p : Nat) (d wr : Int) (xs ys : List Nat) (e : Ending) (w' : World) : Prop :=
  Below w.heap.size w w' ∧ ((∃ (D q : Nat) (f : List Nat) (v u : Value), d = D ∧ wr = q ∧ M.DOk p D xs ys ∧ D + 1 + 2 * q ≤ xs.length ∧ M.Good p D q xs ys f ∧ e = .returned (.tuple #[v, u, .int .i64 0]) ∧ Nums w' v f ∧ Ints w' u (M.offI p f xs ys)) ∨
    (∃ c : Int, c ≠ 0 ∧ c ≠ 12 ∧ e = .returned (.tuple #[.slice none 0 0, .slice none 0 0, .int .i64 c])) ∨
    (∃ D q : Nat, d = D ∧ wr = q ∧ M.DOk p D xs ys ∧ D + 1 + 2 * q ≤ xs.length ∧ (∀ f, ¬ M.Good p D q xs ys f) ∧ e = .returned (.tuple #[.slice none 0 0, .slice none 0 0, .int .i64 12])))
theorem decode_any (p : Nat) (d wr : Int) (v : Value) (xs ys : List Nat) (w : World) (hp : p < 18446744073709551616) (hd1 : -9223372036854775808 ≤ d) (hd2 : d ≤ 9223372036854775807) (hw1 : -9223372036854775808 ≤ wr) (hw2 : wr ≤ 9223372036854775807) (hv : Pts w v xs ys) :
    Calls Try.prog 17 #[.int .u64 p, .int .i64 d, .int .i64 wr, v] w (DecA w p d wr xs ys) := by
  by_cases h : M.decE p d wr xs ys = 0
  · obtain ⟨D, q, rfl, rfl, hok, hn⟩ := M.decE_ok h
    refine (decode_ok p D q v xs ys w hok hn hv).mono ?_
    rintro e w' ⟨hb, ⟨f, v1, u, hg, he, hf, ho⟩ | ⟨hno, he⟩⟩
    · exact ⟨hb, .inl ⟨D, q, f, v1, u, rfl, rfl, hok, hn, hg, he, hf, ints_of_owns ho⟩⟩
    · exact ⟨hb, .inr (.inr ⟨D, q, rfl, rfl, hok, hn, hno, he⟩)⟩
  · refine (decode_fail p d wr v xs ys w hp hd1 hd2 hw1 hw2 hv h).mono ?_
    rintro e w' ⟨he, hb⟩
    exact ⟨hb, .inr (.inl ⟨_, h, M.decE_ne p d wr xs ys, he⟩)⟩
end Go.Proofs.Ytfgfapbhgehfiaa
