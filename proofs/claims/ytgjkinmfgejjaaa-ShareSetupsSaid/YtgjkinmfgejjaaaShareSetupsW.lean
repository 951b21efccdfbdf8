/-
  The walk of the law ShareSetups.
-/
import Derived.Test.YtgjkinmfgejjaaaSu
namespace Go.Proofs.Ytgjkinmfgejjaaa.shareSetupsW
open Go.RowKit
set_option linter.unusedVariables false
set_option maxRecDepth 100000

set_option maxHeartbeats 1000000 in
theorem walk (w : World) (p : Nat) (n t : Int) (hp : p < 18446744073709551616) (hn1 : -9223372036854775808 ≤ n) (hn2 : n ≤ 9223372036854775807) (ht1 : -9223372036854775808 ≤ t) (ht2 : t ≤ 9223372036854775807) (v : Value) (l : List Int) (hv : IntsZ w v l) :
    Calls Try.prog 3 #[suV p n t, v] w fun e w' => e = .returned (.bool true) ∧ Below w.heap.size w w' := by
  have H1 := Lib.hid fun W => setup_any p n t W hp hn1 hn2 ht1 ht2
  have H2 := Lib.hid fun W => rsetup_any p n t W hp hn1 hn2 ht1 ht2
  have H3 := Lib.hid fun W (hW : IntsZ W v l) => corrupted_any p n t v l W hp hn1 hn2 ht1 ht2 hW
  have H4 := Lib.hid fun W (hW : IntsZ W v l) => rcorrupted_any p n t v l W hp hn1 hn2 ht1 ht2 hW
  have HB := Lib.hid (balloc w (Obj.cells #[Value.int IntKind.u64 p, Value.int IntKind.i64 n, Value.int IntKind.i64 t] 24))
  obtain ⟨c, ec⟩ : ∃ c, M.errS p n t = c := ⟨_, rfl⟩
  obtain ⟨d, ed⟩ : ∃ d, M.errC p n t l = d := ⟨_, rfl⟩
  rw [ec] at H1 H2
  rw [ed] at H3 H4
  have HL := Lib.hid hv
  obtain ⟨_, _, A, cap, rfl, _⟩ := hv
  unfold suV at H1 H2 H3 H4 ⊢
  clear ec ed
  go_enter Try.func3, Try.ntmps3
  have B0 := Lib.hid HB.out
  have u0 := Su.new w p n t
  obtain ⟨w0, hw0⟩ : ∃ w0, w.alloc (Obj.cells #[Value.int IntKind.u64 p, Value.int IntKind.i64 n, Value.int IntKind.i64 t] 24) = w0 := ⟨_, rfl⟩
  rw [hw0] at u0 B0
  go_wp2_with fail
  clear hw0 HB
  obtain ⟨a, ea⟩ : ∃ a, a = w.heap.size := ⟨_, rfl⟩
  rw [← ea] at u0 ⊢
  clear ea
  obtain ⟨l0, k0⟩ := u0
  go_region_held3 (fun W' => W'.cell? ⟨a, 0, none⟩ = some (.int .u64 p) ∧ W'.cell? ⟨a, 1, none⟩ = some (.int .i64 n) ∧ W'.cell? ⟨a, 2, none⟩ = some (.int .i64 t))
    (first | exact k0 | go_keep | exact u1.2 | exact u2.2 | exact u3.2 | exact u4.2 | exact u5.2)
    (first
      | (go_at_call 15; refine (H1.out _).mono ?_; rintro e w1 ⟨rfl, hb1⟩; have u1 : Su a p n t w1 := Su.below ⟨l0, k0⟩ (below_of_drew hb1); have B1 := bnext B0.out (below_of_drew hb1))
      | (go_at_call 16; refine (H2.out _).mono ?_; rintro e w2 ⟨rfl, hb2⟩; have u2 := u1.below hb2; have B2 := bnext B1 hb2)
      | (go_at_call 17; refine (H3.out _ (HL.out.below B2)).mono ?_; rintro e w3 ⟨rfl, hb3⟩; have u3 := u2.below hb3; have B3 := bnext B2 hb3)
      | (go_at_call 18; refine (H4.out _ (HL.out.below B3)).mono ?_; rintro e w4 ⟨rfl, hb4⟩; have u4 := u3.below hb4; have B4 := bnext B3 hb4)
      | (go_at_call 19; refine (alive_any _).mono ?_; rintro e w5 ⟨rfl, hb5⟩; have u5 := u4.below hb5; have B5 := bnext B4 hb5))
  all_goals
    have HB5 := Lib.hid B5
    clear B1 B2 B3 B4 B5 hb1 hb2 hb3 hb4 hb5 u1 u2 u3 u4 u5
    go_wp2_with fail
    go_ret
    exact ⟨rfl, HB5.out⟩
end Go.Proofs.Ytgjkinmfgejjaaa.shareSetupsW
