/-
  Contracts of the reference's arithmetic; small words for the laws' walks.
-/
import Derived.Test.YtlcljbncegjdiaaRoot
namespace Go.Proofs.Ytlcljbncegjdiaa
open Go.RowKit
set_option linter.unusedVariables false

theorem bnext {w w1 w2 : World} (h : Below w.heap.size w w1) (h2 : Below w1.heap.size w1 w2) : Below w.heap.size w w2 := h.trans (h2.mono h.size)
theorem balloc (w : World) (o : Obj) : Below w.heap.size w (w.alloc o) := (Below.refl _ _).alloc (Nat.le_refl _) _

/-- the same at an address that is spelled otherwise -/
theorem right1n (p a : Nat) (w : World) (n : Nat) (hn : n = w.heap.size) (hp : p < 18446744073709551616) (ha : a < 18446744073709551616) {r : Bool} (hr : M.validB p [a] = r) :
    Calls Try.prog 12 #[.int .u64 p, .slice (some ⟨n, 0, none⟩) 1 1] (w.alloc (.cells #[.int .u64 a] 22)) fun e w' => e = .returned (.int .i64 (errOf r)) ∧ w.alloc (.cells #[.int .u64 a] 22) = w' := by
  subst hn; exact right1 p a w hp ha hr
theorem right2n (p a b : Nat) (w : World) (n : Nat) (hn : n = w.heap.size) (hp : p < 18446744073709551616) (ha : a < 18446744073709551616) (hb : b < 18446744073709551616) {r : Bool} (hr : M.validB p [a, b] = r) :
    Calls Try.prog 12 #[.int .u64 p, .slice (some ⟨n, 0, none⟩) 2 2] (w.alloc (.cells #[.int .u64 a, .int .u64 b] 22)) fun e w' => e = .returned (.int .i64 (errOf r)) ∧ w.alloc (.cells #[.int .u64 a, .int .u64 b] 22) = w' := by
  subst hn; exact right2 p a b w hp ha hb hr

set_option maxHeartbeats 400000 in
theorem refAdd_any (p a b : Nat) (w : World) (h1 : 1 ≤ p) (hp : p ≤ 65537) (ha : a < p) (hb : b < p) :
    Calls Try.prog 17 #[.int .u64 p, .int .u64 a, .int .u64 b] w fun e w' => e = .returned (.int .u64 ((a + b) % p : Nat)) ∧ w = w' := by
  go_enter Try.func17, Try.ntmps17
  go_wp2
  go_ret
  exact ⟨ret1 (by rw [Int.natCast_emod, Int.natCast_add]), rfl⟩
set_option maxHeartbeats 400000 in
theorem refSub_any (p a b : Nat) (w : World) (h1 : 1 ≤ p) (hp : p ≤ 65537) (ha : a < p) (hb : b < p) :
    Calls Try.prog 18 #[.int .u64 p, .int .u64 a, .int .u64 b] w fun e w' => e = .returned (.int .u64 ((a + p - b) % p : Nat)) ∧ w = w' := by
  go_enter Try.func18, Try.ntmps18
  go_wp2
  go_ret
  exact ⟨ret1 (by rw [Int.natCast_emod, Int.natCast_sub (by omega)]; rfl), rfl⟩

set_option maxHeartbeats 400000 in
theorem refPow_any (p a : Nat) (h2 : 2 ≤ p) (hp : p ≤ 65537) (ha : a < p) (k : Nat) : ∀ (e : Nat) (w : World), e ≤ k → e < 18446744073709551616 →
    Calls Try.prog 30 #[.int .u64 p, .int .u64 a, .int .u64 e] w fun e' w' => e' = .returned (.int .u64 (M.pw p a e)) ∧ w = w' := by
  induction k with
  | zero =>
    intro e w he h64
    obtain rfl : e = 0 := by omega
    go_enter Try.func30, Try.ntmps30
    go_wp2_with fail
    go_ret
    exact ⟨ret1 (by rw [M.pw_zero a h2]; rfl), rfl⟩
  | succ k ih =>
    intro e w he h64
    by_cases h0 : e = 0
    · subst h0
      have IH := Lib.hid ih
      clear ih
      go_enter Try.func30, Try.ntmps30
      go_wp2_with fail
      go_ret
      exact ⟨ret1 (by rw [M.pw_zero a h2]; rfl), rfl⟩
    · have hh := ih (e / 2) w (by omega) (by omega)
      rw [Int.natCast_ediv] at hh
      have hl := M.pw_lt (p := p) a (e / 2) (by omega)
      have hm := refMul_any p (M.pw p a (e / 2)) (M.pw p a (e / 2)) w (by omega) hp hl hl
      have hq := fun x hx => refMul_any p x a w (by omega) hp hx ha
      have hlt : M.pw p a (e / 2) * M.pw p a (e / 2) % p < p := Nat.mod_lt _ (by omega)
      have hq1 := hq _ hlt
      have hev := M.pw_even p a e
      have hod := M.pw_odd p a e
      have hz : ((e : Int) == 0) = false := by simp; omega
      obtain ⟨h, eh⟩ : ∃ h, h = M.pw p a (e / 2) := ⟨_, rfl⟩
      rw [← eh] at hh hm hq1 hev hod hl hlt
      obtain ⟨m, em⟩ : ∃ m, m = h * h % p := ⟨_, rfl⟩
      rw [← em] at hm hq1 hev hod hlt
      obtain ⟨r, er⟩ : ∃ r, r = m * a % p := ⟨_, rfl⟩
      rw [← er] at hq1 hod
      have HH := Lib.hid hh
      have HM := Lib.hid hm
      have HQ := Lib.hid hq1
      have HE := Lib.hid hev
      have HO := Lib.hid hod
      clear hh hm hq hq1 hev hod ih eh em er
      by_cases ho : e % 2 = 1
      · have hb : ((e : Int) % 2 == 1) = true := by simp; omega
        have H1 := Lib.hid ho
        clear ho hl hlt
        go_enter Try.func30, Try.ntmps30
        go_wp2_with fail
        refine HH.out.mono ?_
        rintro e' w' ⟨rfl, rfl⟩
        go_wp2_with fail
        refine HM.out.mono ?_
        rintro e' w' ⟨rfl, rfl⟩
        go_wp2_with fail
        refine HQ.out.mono ?_
        rintro e' w' ⟨rfl, rfl⟩
        go_wp2_with fail
        go_ret
        exact ⟨ret1 (by rw [HO.out H1.out]), rfl⟩
      · have hb : ((e : Int) % 2 == 1) = false := by simp; omega
        have H1 : Hid (e % 2 = 0) := Lib.hid (by omega)
        clear ho hl hlt
        go_enter Try.func30, Try.ntmps30
        go_wp2_with fail
        refine HH.out.mono ?_
        rintro e' w' ⟨rfl, rfl⟩
        go_wp2_with fail
        refine HM.out.mono ?_
        rintro e' w' ⟨rfl, rfl⟩
        go_wp2_with fail
        go_ret
        exact ⟨ret1 (by rw [HE.out H1.out]), rfl⟩

set_option maxHeartbeats 400000 in
theorem refInv_any (p a : Nat) (w : World) (h2 : 3 ≤ p) (hp : p ≤ 65537) (ha : a < p) :
    Calls Try.prog 27 #[.int .u64 p, .int .u64 a] w fun e' w' => e' = .returned (.int .u64 (M.pw p a (p - 2))) ∧ w = w' := by
  have h := refPow_any p a (by omega) hp ha (p - 2) (p - 2) w (Nat.le_refl _) (by omega)
  have e : (((p - 2 : Nat)) : Int) = (p : Int) - 2 := by omega
  rw [e] at h
  have HC := Lib.hid h
  clear h e
  go_enter Try.func27, Try.ntmps27
  go_wp2_with fail
  refine HC.out.mono ?_
  rintro e w' ⟨rfl, rfl⟩
  go_wp2_with fail
  go_ret
  exact ⟨rfl, rfl⟩
end Go.Proofs.Ytlcljbncegjdiaa
