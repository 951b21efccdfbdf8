/-
  What the law of Gaps reads.
-/
import Derived.Test.YtfgfapbhgehfiaaG2
import Derived.Test.YtfgfapbhgehfiaaT5b
namespace Go.Proofs.Ytfgfapbhgehfiaa
open Go.RowKit
set_option linter.unusedVariables false
theorem Kept.c2 {a b : Addr} {x y : Value} {L : List (Addr × Value)} {W : World} (h : Kept ((a, x) :: (b, y) :: L) W) : W.cell? a = some x ∧ W.cell? b = some y := ⟨h.of (by simp), h.of (by simp)⟩
set_option maxRecDepth 100000
theorem rthere2 (v vb : Value) (xs ys l : List Nat) (bs : List Bool) (w : World) (hl : xs.length ≤ 64) (hbl : bs.length = xs.length) (el : l = M.thereK bs xs.length) (hv : Pts w v xs ys) (hb : Bools w vb bs) :
    Calls Try.prog 23 #[v, vb] w fun e w' => ∃ A1 c1 A2 c2, e = .returned (.tuple #[.slice A1 l.length c1, .slice A2 l.length c2]) ∧ Pts w' (.slice A1 l.length c1) (M.pick xs l) (M.pick ys l) ∧ Ints w' (.slice A2 l.length c2) l ∧ Below w.heap.size w w' := by
  refine (rthere_any v vb xs ys bs w hl hbl hv hb).mono ?_
  rintro e w' ⟨v1, v2, rfl, h1, h2, h3⟩
  rw [← el] at h1 h2
  obtain ⟨A1, c1, rfl, _⟩ := h1.2.2.2.2
  obtain ⟨A2, c2, rfl⟩ := ints_slice h2
  rw [M.pick_len] at h1 ⊢
  exact ⟨_, _, _, _, rfl, h1, h2, h3⟩
end Go.Proofs.Ytfgfapbhgehfiaa
