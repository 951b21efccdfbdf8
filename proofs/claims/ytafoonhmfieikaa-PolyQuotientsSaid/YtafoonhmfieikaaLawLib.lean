/-
  For the laws' walks: the checks of the reference as the laws call them.
-/
import Derived.Test.YtafoonhmfieikaaAlive
namespace Go.Proofs.Ytafoonhmfieikaa
open Go.RowKit
set_option linter.unusedVariables false

theorem right_none (p : Nat) (w : World) (hp : p < 18446744073709551616) :
    Calls Try.prog 16 #[.int .u64 p, .slice none 0 0] w fun e w' => e = .returned (.int .i64 (M.rgt p [])) ∧ Below w.heap.size w w' :=
  (rright_any p none 0 (fun _ => undef) [] w hp rfl (by omega) (fun h => absurd h (by omega)) (fun i hi => absurd hi (by omega))).mono fun e w' ⟨h1, h2⟩ => ⟨h1, h2 ▸ Below.refl _ _⟩
theorem right_one (p : Nat) (v : Value) (f : List Nat) (w : World) (hp : p < 18446744073709551616) (hv : Nums w v f) :
    Calls Try.prog 16 #[.int .u64 p, .slice (some ⟨w.heap.size, 0, none⟩) 1 1] (w.alloc (.cells #[v] 23)) fun e w' => e = .returned (.int .i64 (M.chk p f 201)) ∧ Below w.heap.size w w' := by
  refine (rright_any p (some ⟨w.heap.size, 0, none⟩) 1 (fun _ => v) [f] _ hp rfl (by omega) (fun _ => ⟨w.heap.size, rfl, fun i hi => ?_⟩) (fun i hi => ?_)).mono ?_
  · obtain rfl : i = 0 := by omega
    simp
  · obtain rfl : i = 0 := by omega
    exact hv.below (balloc w _)
  · rintro e w' ⟨rfl, rfl⟩
    exact ⟨by rw [M.rgt_one], balloc w _⟩
theorem right_two (p : Nat) (v v2 : Value) (f g : List Nat) (w : World) (hp : p < 18446744073709551616) (hv : Nums w v f) (hv2 : Nums w v2 g) :
    Calls Try.prog 16 #[.int .u64 p, .slice (some ⟨w.heap.size, 0, none⟩) 2 2] (w.alloc (.cells #[v, v2] 23)) fun e w' => e = .returned (.int .i64 (M.rgt p [f, g])) ∧ Below w.heap.size w w' := by
  refine (rright_any p (some ⟨w.heap.size, 0, none⟩) 2 (fun i => if i = 0 then v else v2) [f, g] _ hp rfl (by omega) (fun _ => ⟨w.heap.size, rfl, fun i hi => ?_⟩) (fun i hi => ?_)).mono ?_
  · match i, hi with
    | 0, _ => simp
    | 1, _ => simp
  · match i, hi with
    | 0, _ => exact hv.below (balloc w _)
    | 1, _ => exact hv2.below (balloc w _)
  · rintro e w' ⟨rfl, rfl⟩
    exact ⟨rfl, balloc w _⟩
theorem with_one (p x : Nat) (w : World) (hx : x < 18446744073709551616) :
    Calls Try.prog 24 #[.int .u64 p, .slice (some ⟨w.heap.size, 0, none⟩) 1 1] (w.alloc (.cells #[.int .u64 x] 22)) fun e w' => e = .returned (.int .i64 (errOf (M.within p [x]))) ∧ Below w.heap.size w w' :=
  (within_any p _ [x] _ (nums1 w x hx) rfl).mono fun e w' ⟨h1, h2⟩ => ⟨h1, h2 ▸ balloc w _⟩
theorem err_in {p x : Nat} (h : x < p) : errOf (M.within p [x]) = 0 := by simp [M.within, h, errOf]
theorem err_out {p x : Nat} (h : ¬ x < p) : errOf (M.within p [x]) = 2 := by simp [M.within, h, errOf]
end Go.Proofs.Ytafoonhmfieikaa
