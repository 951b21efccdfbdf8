/-
  The walk of TwiceChecks: Check and Size against the reference's.
-/
import Derived.Test.YtfkepkdfpjaniaaSb7
namespace Go.Proofs.Ytfkepkdfpjaniaa
open Go.RowKit
set_option linter.unusedVariables false
set_option maxRecDepth 100000

namespace twiceChecksW
set_option maxHeartbeats 2000000 in
theorem walk (W : World) (P : Nat) (n t : Int) (hP : P < 18446744073709551616) (hn1 : -9223372036854775808 ≤ n) (hn2 : n ≤ 9223372036854775807) (ht1 : -9223372036854775808 ≤ t) (ht2 : t ≤ 9223372036854775807) (v1 : Value) (m : List (List Nat)) (hm : Mat W v1 m) :
    Calls Try.prog 3 #[suV P n t, v1] W fun e w' => e = .returned (.bool true) ∧ Below W.heap.size W w' := by
  have hud : ∀ b : Bool, undef ≠ Value.bool b := fun b h => by cases h
  have HC := Lib.hid fun w (b : Below W.heap.size W w) => tcheck_any P n t v1 m w hP hn1 hn2 ht1 ht2 (hm.below b)
  have HR := Lib.hid fun w (b : Below W.heap.size W w) => rtcheck_any P n t v1 m w hP hn1 hn2 ht1 ht2 (hm.below b)
  have HS := Lib.hid fun w => tsize_any t w ht1 ht2
  have HT := Lib.hid fun w => rtsize_any t w ht1 ht2
  obtain ⟨c, ec⟩ : ∃ c, c = M.tchk P n t m := ⟨_, rfl⟩
  obtain ⟨z, ez⟩ : ∃ z, z = M.tsize t := ⟨_, rfl⟩
  rw [← ec] at HC HR
  rw [← ez] at HS HT
  obtain ⟨A, cap, rfl, _⟩ := mat_view6 hm
  have e1 : (c == c) = true := by simp
  have e2 : (z == z) = true := by simp
  have S0 := SB.start W P n t
  clear ec ez hm
  unfold suV at HC HR ⊢
  obtain ⟨x0, x1, x2⟩ := (⟨S0.c0, S0.c1, S0.c2⟩ : _ ∧ _ ∧ _)
  go_enter Try.func3, Try.ntmps3
  go_wp2_with fail
  go_region_held3 (fun w' => w'.cell? ⟨W.heap.size, 0, none⟩ = some (.int .u64 (P : Nat)) ∧ w'.cell? ⟨W.heap.size, 1, none⟩ = some (.int .i64 n) ∧ w'.cell? ⟨W.heap.size, 2, none⟩ = some (.int .i64 t))
    (first | exact ⟨S0.c0, S0.c1, S0.c2⟩ | exact ⟨S3.c0, S3.c1, S3.c2⟩ | exact ⟨S2.c0, S2.c1, S2.c2⟩ | exact ⟨S1.c0, S1.c1, S1.c2⟩ | go_keep)
    (first
      | (go_at_call 12; (with_reducible refine (HC.out _ S0.drew.below).mono ?_); rintro e w1 ⟨rfl, hb1⟩; have S1 := S0.drew.next hb1)
      | (go_at_call 13; (with_reducible refine (HR.out _ S1.below).mono ?_); rintro e w2 ⟨rfl, hb2⟩; have S2 := S1.next hb2)
      | (go_at_call 14; (with_reducible refine (HS.out _).mono ?_); rintro e w3 ⟨rfl, rfl⟩)
      | (go_at_call 15; (with_reducible refine (HT.out _).mono ?_); rintro e w3 ⟨rfl, rfl⟩)
      | (go_at_call 16; (with_reducible refine (alive7_any _).mono ?_); rintro e w4 ⟨rfl, hb4⟩; have S3 := S2.next hb4))
  --PEEK
  go_wp2_with fail
  go_ret
  exact ⟨rfl, S3.below⟩
end twiceChecksW
end Go.Proofs.Ytfkepkdfpjaniaa
