/-
  The walk of PairHeld: rows that do not quarrel belong to exactly one pair.
-/
import Derived.Test.YtglehjcohdjhoaaAl6
import Derived.Test.YtglehjcohdjhoaaPp10
import Derived.Test.YtglehjcohdjhoaaPp7q
import Derived.Test.YtglehjcohdjhoaaPfM
namespace Go.Proofs.Ytglehjcohdjhoaa
open Go.RowKit
set_option linter.unusedVariables false
set_option maxRecDepth 100000

theorem own_slice6' {w : World} {base : Nat} {e : TypeId} {size : Nat} {v : Value} {n : Nat} {xs : List Value} (h : w.ownsRow base e size v n xs) : ∃ A c, v = .slice A n c := by
  rcases h.2 with ⟨hv, h0⟩ | ⟨g, cap, cur, hv, _⟩
  · exact ⟨none, 0, by rw [hv, h0]⟩
  · exact ⟨_, _, hv⟩

namespace pairHeldW
set_option maxHeartbeats 2000000 in
theorem early1 (W : World) (p : Nat) (hp : p < 18446744073709551616) (t : Int) (v : Value) (xs : List Nat) (v2 : Value) (rows : List (List Nat)) (h1 : -9223372036854775808 ≤ t) (h2 : t ≤ 9223372036854775807) (hv : Nums W v xs) (hv2 : Mat W v2 rows) (hc : M.bnd p t ≠ 0) :
    Calls Try.prog 12 #[.int .u64 p, .agg #[.int .i64 t, v, v2]] W fun e W' => e = .returned (.bool true) ∧ Below W.heap.size W W' := by
  have hud : ∀ b : Bool, undef ≠ Value.bool b := fun b h => by cases h
  have BN := Lib.hid fun (w : World) => rbounds_any p t w hp h1 h2
  rw [M.bnd_no hc] at BN
  obtain ⟨A, cap, rfl⟩ := nums_slice' hv
  obtain ⟨A2, cap2, rfl, _⟩ := mat_view6 hv2
  clear hv hv2 hc
  go_enter Try.func12, Try.ntmps12
  go_wp2_with fail
  refine (BN.out _).mono ?_
  rintro e w2 ⟨rfl, rfl⟩
  go_wp2_with fail
  refine (alive6_any _).mono ?_
  rintro e w9 ⟨rfl, hb⟩
  have B9 := Lib.hid (bnext (balloc W _) hb)
  clear hb
  go_wp2_with fail
  go_ret
  exact ⟨rfl, B9.out⟩
set_option maxHeartbeats 2000000 in
theorem early2 (W : World) (p : Nat) (hp : p < 18446744073709551616) (T : Nat) (hT : T ≤ 3) (v : Value) (xs : List Nat) (v2 : Value) (rows : List (List Nat)) (hv : Nums W v xs) (hv2 : Mat W v2 rows) (hbn : M.bnd p T = 0) (hc : M.rowsE p xs rows ≠ 0) :
    Calls Try.prog 12 #[.int .u64 p, .agg #[.int .i64 T, v, v2]] W fun e W' => e = .returned (.bool true) ∧ Below W.heap.size W W' := by
  have hud : ∀ b : Bool, undef ≠ Value.bool b := fun b h => by cases h
  have BN := Lib.hid fun (w : World) => rbounds_any p T w hp (by omega) (by omega)
  rw [hbn] at BN
  have RW := Lib.hid fun (w : World) (b : Below W.heap.size W w) => rrows6_any p v v2 xs rows w (hv.below b) (hv2.below b)
  obtain ⟨c, ec⟩ : ∃ c, c = M.rowsE p xs rows := ⟨_, rfl⟩
  rw [← ec] at RW hc
  have hcb : (c != 0) = true := by rw [bne_iff_ne]; exact hc
  have hcb0 : ((0 : Int) != 0) = false := rfl
  obtain ⟨A, cap, rfl⟩ := nums_slice' hv
  obtain ⟨A2, cap2, rfl, _⟩ := mat_view6 hv2
  clear hv hv2 hc ec hbn
  go_enter Try.func12, Try.ntmps12
  go_wp2_with fail
  refine (BN.out _).mono ?_
  rintro e w1 ⟨rfl, rfl⟩
  go_wp2_with fail
  refine (RW.out _ (balloc W _)).mono ?_
  rintro e w2 ⟨rfl, hb⟩
  have B2 := Lib.hid (bnext (balloc W _) hb)
  clear hb
  go_wp2_with fail
  refine (alive6_any _).mono ?_
  rintro e w9 ⟨rfl, hb⟩
  have B9 := Lib.hid (bnext B2.out hb)
  clear hb
  go_wp2_with fail
  go_ret
  exact ⟨rfl, B9.out⟩
set_option maxHeartbeats 2000000 in
theorem few (W : World) (p T : Nat) (hip : M.isP p = true) (hT : T ≤ 3) (v : Value) (xs : List Nat) (v2 : Value) (rows : List (List Nat)) (hv : Nums W v xs) (hv2 : Mat W v2 rows) (hok : M.ROk p xs rows) (hl : xs.length < T + 1) :
    Calls Try.prog 12 #[.int .u64 p, .agg #[.int .i64 T, v, v2]] W fun e W' => e = .returned (.bool true) ∧ Below W.heap.size W W' := by
  have hud : ∀ b : Bool, undef ≠ Value.bool b := fun b h => by cases h
  obtain ⟨h3, hp5⟩ := M.pos_of hip
  have hbn := M.bnd_ok hip hT
  have hre := M.rowsE_ok hok
  have BN := Lib.hid fun (w : World) => rbounds_any p T w (by omega) (by omega) (by omega)
  rw [hbn] at BN
  have RW := Lib.hid fun (w : World) (b : Below W.heap.size W w) => rrows6_any p v v2 xs rows w (hv.below b) (hv2.below b)
  rw [hre] at RW
  have hw1 : IntKind.i64.wrap ((T : Int) + 1) = (T : Int) + 1 := by rw [IntKind.wrap_i64]; omega
  have hd : decide ((xs.length : Int) < (T : Int) + 1) = true := by rw [decide_eq_true_eq]; omega
  have hl2 : xs.length < T + 1 := hl
  have hl3 : (xs.length : Int) < (T : Int) + 1 := by omega
  have hcb0 : ((0 : Int) != 0) = false := rfl
  obtain ⟨A, cap, rfl⟩ := nums_slice' hv
  obtain ⟨A2, cap2, rfl, _⟩ := mat_view6 hv2
  clear hv hv2 hok hbn hre
  go_enter Try.func12, Try.ntmps12
  go_wp2_with fail
  refine (BN.out _).mono ?_
  rintro e w1 ⟨rfl, rfl⟩
  go_wp2_with fail
  refine (RW.out _ (balloc W _)).mono ?_
  rintro e w2 ⟨rfl, hb⟩
  have B2 := Lib.hid (bnext (balloc W _) hb)
  have q0 := (hb.cell (p := ⟨W.heap.size, 0, none⟩) (by simp)).trans (show _ = some (.int .i64 (T : Int)) by simp)
  have q1 := (hb.cell (p := ⟨W.heap.size, 1, none⟩) (by simp)).trans (show _ = some (.slice A xs.length cap) by simp)
  clear hb
  go_wp2_with fail
  refine (alive6_any _).mono ?_
  rintro e w9 ⟨rfl, hb⟩
  have B9 := Lib.hid (bnext B2.out hb)
  clear hb
  go_wp2_with fail
  go_ret
  exact ⟨rfl, B9.out⟩
end pairHeldW
end Go.Proofs.Ytglehjcohdjhoaa
