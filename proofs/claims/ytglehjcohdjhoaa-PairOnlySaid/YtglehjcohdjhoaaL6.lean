/-
  The laws of package pair: their helpers.
-/
import Derived.Test.YtglehjcohdjhoaaPr13
namespace Go.Proofs.Ytglehjcohdjhoaa
open Go.RowKit
set_option linter.unusedVariables false
set_option maxRecDepth 100000

set_option maxHeartbeats 400000 in
theorem is6_bad (c : Int) (v2 : Value) (w : World) (hc : c ≠ 0) (hv : ∃ A n cap, v2 = .slice A n cap) :
    Calls Try.prog 22 #[.slice none 0 0, .int .i64 c, v2, .int .i64 c] w fun e w' => e = .returned (.bool true) ∧ w = w' := by
  have hb : (c != 0) = true := by rw [bne_iff_ne]; exact hc
  have hb2 : (c == c) = true := by simp
  obtain ⟨A, n, cap, rfl⟩ := hv
  clear hc
  go_enter Try.func22, Try.ntmps22
  go_wp2_with fail
  go_ret
  exact ⟨rfl, rfl⟩
set_option maxHeartbeats 400000 in
theorem is6_good (v v2 : Value) (m : List (List Nat)) (w : World) (hl : m.length ≤ 1000) (h : Mat w v m) (h2 : Mat w v2 m) :
    Calls Try.prog 22 #[v, .int .i64 0, v2, .int .i64 0] w fun e w' => e = .returned (.bool true) ∧ Below w.heap.size w w' := by
  have HS := Lib.hid (rsame6_any v v2 m w hl h h2)
  have hb : ((0 : Int) != 0) = false := rfl
  have hb2 : ((0 : Int) == 0) = true := rfl
  obtain ⟨A, cap, rfl, _⟩ := mat_view6 h
  obtain ⟨A2, cap2, rfl, _⟩ := mat_view6 h2
  clear h h2
  go_enter Try.func22, Try.ntmps22
  go_wp2_with fail
  refine HS.out.mono ?_
  rintro e w2 ⟨rfl, hb⟩
  have HB := Lib.hid hb
  clear hb
  go_wp2_with fail
  go_ret
  exact ⟨rfl, HB.out⟩
set_option maxHeartbeats 400000 in
theorem list6_bad (c : Int) (v2 : Value) (w : World) (hc : c ≠ 0) (hv : ∃ A n cap, v2 = .slice A n cap) :
    Calls Try.prog 26 #[.slice none 0 0, .int .i64 c, v2, .int .i64 c] w fun e w' => e = .returned (.bool true) ∧ w = w' := by
  have hb : (c != 0) = true := by rw [bne_iff_ne]; exact hc
  have hb2 : (c == c) = true := by simp
  obtain ⟨A, n, cap, rfl⟩ := hv
  clear hc
  go_enter Try.func26, Try.ntmps26
  go_wp2_with fail
  go_ret
  exact ⟨rfl, rfl⟩
set_option maxHeartbeats 400000 in
theorem list6_good (v v2 : Value) (zs : List Nat) (w : World) (h : Nums w v zs) (h2 : Nums w v2 zs) :
    Calls Try.prog 26 #[v, .int .i64 0, v2, .int .i64 0] w fun e w' => e = .returned (.bool true) ∧ Below w.heap.size w w' := by
  have HS := Lib.hid (same_any v v2 zs w h h2)
  have hb : ((0 : Int) != 0) = false := rfl
  have hb2 : ((0 : Int) == 0) = true := rfl
  obtain ⟨A, cap, rfl⟩ := nums_slice' h
  obtain ⟨A2, cap2, rfl⟩ := nums_slice' h2
  clear h h2
  go_enter Try.func26, Try.ntmps26
  go_wp2_with fail
  refine HS.out.mono ?_
  rintro e w2 ⟨rfl, hb⟩
  have HB := Lib.hid hb
  clear hb
  go_wp2_with fail
  go_ret
  exact ⟨rfl, HB.out⟩

set_option maxHeartbeats 400000 in
theorem number6_good (a : Nat) (w : World) :
    Calls Try.prog 30 #[.int .u64 a, .int .i64 0, .int .u64 a, .int .i64 0] w fun e w' => e = .returned (.bool true) ∧ w = w' := by
  have h1 : ((a : Int) == a) = true := by simp
  have hud : ∀ b : Bool, undef ≠ Value.bool b := fun b h => by cases h
  go_enter Try.func30, Try.ntmps30
  go_wp2_with fail
  go_ret
  exact ⟨rfl, rfl⟩
set_option maxHeartbeats 400000 in
theorem number6_bad (c : Int) (x : Int) (w : World) (hc : c ≠ 0) :
    Calls Try.prog 30 #[.int .u64 0, .int .i64 c, .int .u64 x, .int .i64 c] w fun e w' => e = .returned (.bool true) ∧ w = w' := by
  have h1 : (c != 0) = true := by rw [bne_iff_ne]; exact hc
  have h2 : (c == c) = true := by simp
  have h3 : (c == 0) = false := by simpa using hc
  have hud : ∀ b : Bool, undef ≠ Value.bool b := fun b h => by cases h
  clear hc
  go_enter Try.func30, Try.ntmps30
  go_wp2_with fail
  go_ret
  exact ⟨rfl, rfl⟩

/-- what the law's lift answers -/
def M.liftE (p T k : Nat) (zs : List Nat) : Int := if p ≤ k then 2 else if T + 1 < zs.length then 3 else errOf (M.within p zs)
set_option maxHeartbeats 1000000 in
theorem lift6_any (p T k : Nat) (vz : Value) (zs : List Nat) (w : World) (hT : T ≤ 3) (hz : Nums w vz zs) :
    Calls Try.prog 37 #[.int .u64 p, .int .i64 T, .agg #[.int .u64 k, vz]] w fun e w' => e = .returned (.int .i64 (M.liftE p T k zs)) ∧ Below w.heap.size w w' := by
  have hud : ∀ b : Bool, undef ≠ Value.bool b := fun b h => by cases h
  have HW := Lib.hid fun (W : World) (h : Below w.heap.size w W) => within_any p vz zs W (hz.below h) rfl
  have hzl := hz.2.1
  obtain ⟨A, cap, rfl⟩ := nums_slice' hz
  obtain ⟨c, ec⟩ : ∃ c, errOf (M.within p zs) = c := ⟨_, rfl⟩
  rw [ec] at HW
  have EC := Lib.hid ec
  obtain ⟨L, eL⟩ : ∃ L, zs.length = L := ⟨_, rfl⟩
  have EL := Lib.hid eL
  rw [eL] at HW hzl ⊢
  have hw1 : IntKind.i64.wrap ((T : Int) + 1) = (T : Int) + 1 := by rw [IntKind.wrap_i64]; omega
  clear ec eL hz
  by_cases hk : p ≤ k
  · have hb : decide ((p : Int) ≤ (k : Int)) = true := by rw [decide_eq_true_eq]; omega
    have HK := Lib.hid (show (2 : Int) = M.liftE p T k zs by unfold M.liftE; rw [if_pos hk])
    go_enter Try.func37, Try.ntmps37
    go_wp2_with fail
    go_ret
    exact ⟨ret1 HK.out, balloc w _⟩
  · have hb : decide ((p : Int) ≤ (k : Int)) = false := by rw [decide_eq_false_iff_not]; omega
    by_cases hl : T + 1 < L
    · have hb2 : decide ((T : Int) + 1 < (L : Int)) = true := by rw [decide_eq_true_eq]; omega
      have HK := Lib.hid (show (3 : Int) = M.liftE p T k zs by unfold M.liftE; rw [if_neg hk, EL.out, if_pos hl])
      go_enter Try.func37, Try.ntmps37
      go_wp2_with fail
      go_ret
      exact ⟨ret1 HK.out, balloc w _⟩
    · have hb2 : decide ((T : Int) + 1 < (L : Int)) = false := by rw [decide_eq_false_iff_not]; omega
      have HK := Lib.hid (show c = M.liftE p T k zs by unfold M.liftE; rw [if_neg hk, EL.out, if_neg hl, EC.out])
      go_enter Try.func37, Try.ntmps37
      go_wp2_with fail
      (with_reducible refine (HW.out _ (balloc w _)).mono ?_)
      rintro e w1 ⟨rfl, rfl⟩

      go_wp2_with fail
      go_ret
      exact ⟨ret1 HK.out, balloc w _⟩
end Go.Proofs.Ytglehjcohdjhoaa
