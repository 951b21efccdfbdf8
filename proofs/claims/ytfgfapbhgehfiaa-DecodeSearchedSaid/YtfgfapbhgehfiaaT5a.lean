/-
  Layer 5's law: bad, few.
-/
import Derived.Test.YtfgfapbhgehfiaaD8
import Derived.Outline
namespace Go.Proofs.Ytfgfapbhgehfiaa
open Go.RowKit
set_option linter.unusedVariables false
set_option maxRecDepth 100000

set_option maxHeartbeats 2000000 in
theorem tbad_any (c : Int) (w : World) :
    Calls Try.prog 20 #[.agg #[.slice none 0 0, .slice none 0 0, .int .i64 c], .int .i64 c] w fun e w' => e = .returned (.bool true) ∧ Below w.heap.size w w' := by
  have hud : ∀ b : Bool, undef ≠ Value.bool b := fun b h => by cases h
  have B0 := Lib.hid (balloc w (.cells #[.slice none 0 0, .slice none 0 0, .int .i64 c] 36))
  have hcc : (c == c) = true := by simp
  go_enter Try.func20, Try.ntmps20
  go_wp2
  go_ret
  exact ⟨rfl, B0.out⟩
theorem few_no (d q : Nat) (v : Value) (xs ys : List Nat) (w : World) (hd : d ≤ 63) (hl : xs.length ≤ 64) (hn : d + 1 + 2 * q ≤ xs.length) (hv : Pts w v xs ys) :
    Calls Try.prog 18 #[.int .i64 d, .int .i64 q, v] w fun e w' => e = .returned (.bool false) ∧ w = w' := by
  have hud : ∀ b : Bool, undef ≠ Value.bool b := fun b h => by cases h
  obtain ⟨A, cap, rfl, _⟩ := hv.2.2.2.2
  obtain ⟨R, eR⟩ : ∃ R, R = xs.length := ⟨_, rfl⟩
  rw [← eR] at hl hn ⊢
  have h1 : ¬ ((R : Int) < q) := by omega
  have h2 : ¬ ((R : Int) < d + 1 + 2 * q) := by omega
  have h3 : ¬ R < q := by omega
  clear hv eR
  go_enter Try.func18, Try.ntmps18
  go_wp2
  go_ret
  exact ⟨rfl, rfl⟩
theorem few_yes (d : Nat) (wr : Int) (v : Value) (xs ys : List Nat) (w : World) (hd : d ≤ 63) (hl : xs.length ≤ 64) (hw0 : 0 ≤ wr) (hw2 : wr ≤ 9223372036854775807) (hn : (xs.length : Int) < d + 1 + 2 * wr) (hv : Pts w v xs ys) :
    Calls Try.prog 18 #[.int .i64 d, .int .i64 wr, v] w fun e w' => e = .returned (.bool true) ∧ w = w' := by
  have hud : ∀ b : Bool, undef ≠ Value.bool b := fun b h => by cases h
  obtain ⟨A, cap, rfl, _⟩ := hv.2.2.2.2
  obtain ⟨R, eR⟩ : ∃ R, R = xs.length := ⟨_, rfl⟩
  rw [← eR] at hl hn ⊢
  clear hv eR
  by_cases h1 : (R : Int) < wr
  · go_enter Try.func18, Try.ntmps18
    go_wp2
    go_ret
    exact ⟨rfl, rfl⟩
  · go_enter Try.func18, Try.ntmps18
    go_wp2
    go_ret
    exact ⟨rfl, rfl⟩
end Go.Proofs.Ytfgfapbhgehfiaa
