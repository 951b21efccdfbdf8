/-
  The reference of layer 1: its checks and its arithmetic; small words for the walks.
-/
import Derived.Test.YtgoognipljknjaaSame3
namespace Go.Proofs.Ytgoognipljknjaa
open Go.RowKit
set_option linter.unusedVariables false
set_option maxRecDepth 100000

theorem bnext {w w1 w2 : World} (h : Below w.heap.size w w1) (h2 : Below w1.heap.size w1 w2) : Below w.heap.size w w2 := h.trans (h2.mono h.size)
theorem balloc (w : World) (o : Obj) : Below w.heap.size w (w.alloc o) := (Below.refl _ _).alloc (Nat.le_refl _) _

theorem nums_open {w : World} {v : Value} {zs : List Nat} (h : Nums w v zs) : ∃ a len cap, v = .slice a len cap := by
  rcases h.2.2 with ⟨a, cap, rfl, _⟩ | ⟨b, off, cap, rfl, _⟩
  · exact ⟨_, _, _, rfl⟩
  · exact ⟨_, _, _, rfl⟩

def errOf (b : Bool) : Int := if b then 0 else 2

set_option maxHeartbeats 400000 in
theorem within_cells (p : Nat) (b off cap : Nat) (zs : List Nat) (w : World) (hl : zs.length ≤ 17592186043904)
    (hcell : ∀ i, i < zs.length → w.cell? ⟨b, off + i, none⟩ = some (.int .u64 (zs.getD i 0))) :
    Calls Try.prog 16 #[.int .u64 p, .slice (some ⟨b, off, none⟩) zs.length cap] w fun e w' => e = .returned (.int .i64 (errOf (M.within p zs))) ∧ w = w' := by
  have HV := Lib.hid hcell
  clear hcell
  go_enter Try.func16, Try.ntmps16
  go_wp2
  go_loop [9] (fun t => ∃ k : Nat, k ≤ zs.length ∧ t = .int .i64 k ∧ M.within p (zs.take k) = true) (fun t => zs.length - (intOf t).toNat)
  case atStart => exact ⟨0, by omega, rfl, by simp [M.within]⟩
  case round =>
    obtain ⟨k, hk, rfl, hw⟩ := hrel
    have HW := Lib.hid hw
    clear hw
    by_cases hlt : k < zs.length
    · have hc := HV.out k hlt
      obtain ⟨x, hx⟩ : ∃ x, x = zs.getD k 0 := ⟨_, rfl⟩
      rw [← hx] at hc
      have HX := Lib.hid hx
      clear hx
      go_wp2
      · have h : p ≤ x := by omega
        go_ret
        exact ⟨ret1 (by rw [M.within_not hlt (by rw [← HX.out]; omega)]; rfl), rfl⟩
      · have h : x < p := by omega
        go_round
        case rel => exact ⟨k + 1, by omega, by go_num, M.within_take hlt HW.out (by rw [← HX.out]; omega)⟩
        case measure => simp [intOf]; omega
    · go_wp2
      go_ret
      have hk' : k = zs.length := by omega
      have h := HW.out
      rw [hk', List.take_length] at h
      exact ⟨ret1 (by rw [h]; rfl), rfl⟩

set_option maxHeartbeats 400000 in
theorem within_nil (p : Nat) (a : Option Addr) (cap : Nat) (w : World) :
    Calls Try.prog 16 #[.int .u64 p, .slice a 0 cap] w fun e w' => e = .returned (.int .i64 0) ∧ w = w' := by
  go_enter Try.func16, Try.ntmps16
  go_wp2
  go_loop [9] (fun t => t = .int .i64 0) (fun _ => 0)
  case atStart => rfl
  case round =>
    obtain rfl := hrel
    go_wp2
    go_ret
    exact ⟨rfl, rfl⟩

theorem within_any (p : Nat) (v : Value) (zs : List Nat) (w : World) (hv : Nums w v zs) {c : Int} (hc : errOf (M.within p zs) = c) :
    Calls Try.prog 16 #[.int .u64 p, v] w fun e w' => e = .returned (.int .i64 c) ∧ w = w' := by
  subst hc
  obtain ⟨_, hl, hv⟩ := hv
  rcases hv with ⟨a, cap, rfl, rfl, _⟩ | ⟨b, off, cap, rfl, _, _, hc⟩
  · exact within_nil p a cap w
  · exact within_cells p b off cap zs w hl hc

set_option maxHeartbeats 400000 in
theorem refMul_any (p a b : Nat) (w : World) (h1 : 1 ≤ p) (hp : p ≤ 65537) (ha : a < p) (hb : b < p) :
    Calls Try.prog 25 #[.int .u64 p, .int .u64 a, .int .u64 b] w fun e w' => e = .returned (.int .u64 (a * b % p : Nat)) ∧ w = w' := by
  obtain ⟨m1, m2⟩ := mul_le hp ha hb
  go_enter Try.func25, Try.ntmps25
  go_wp2
  go_ret
  exact ⟨ret1 (by rw [Int.natCast_emod, Int.natCast_mul]), rfl⟩

set_option maxHeartbeats 400000 in
theorem refAdd_any (p a b : Nat) (w : World) (h1 : 1 ≤ p) (hp : p ≤ 65537) (ha : a < p) (hb : b < p) :
    Calls Try.prog 24 #[.int .u64 p, .int .u64 a, .int .u64 b] w fun e w' => e = .returned (.int .u64 ((a + b) % p : Nat)) ∧ w = w' := by
  go_enter Try.func24, Try.ntmps24
  go_wp2
  go_ret
  exact ⟨ret1 (by rw [Int.natCast_emod, Int.natCast_add]), rfl⟩
set_option maxHeartbeats 400000 in
theorem refSub_any (p a b : Nat) (w : World) (h1 : 1 ≤ p) (hp : p ≤ 65537) (ha : a < p) (hb : b < p) :
    Calls Try.prog 87 #[.int .u64 p, .int .u64 a, .int .u64 b] w fun e w' => e = .returned (.int .u64 ((a + p - b) % p : Nat)) ∧ w = w' := by
  go_enter Try.func87, Try.ntmps87
  go_wp2
  go_ret
  exact ⟨ret1 (by rw [Int.natCast_emod, Int.natCast_sub (by omega)]; rfl), rfl⟩

set_option maxHeartbeats 400000 in
theorem refPow_any (p a : Nat) (h2 : 2 ≤ p) (hp : p ≤ 65537) (ha : a < p) (k : Nat) : ∀ (e : Nat) (w : World), e ≤ k → e < 18446744073709551616 →
    Calls Try.prog 132 #[.int .u64 p, .int .u64 a, .int .u64 e] w fun e' w' => e' = .returned (.int .u64 (M.pw p a e)) ∧ w = w' := by
  induction k with
  | zero =>
    intro e w he h64
    obtain rfl : e = 0 := by omega
    go_enter Try.func132, Try.ntmps132
    go_wp2_with fail
    go_ret
    exact ⟨ret1 (by rw [M.pw_zero a h2]; rfl), rfl⟩
  | succ k ih =>
    intro e w he h64
    by_cases h0 : e = 0
    · subst h0
      have IH := Lib.hid ih
      clear ih
      go_enter Try.func132, Try.ntmps132
      go_wp2_with fail
      go_ret
      exact ⟨ret1 (by rw [M.pw_zero a h2]; rfl), rfl⟩
    · have hh := ih (e / 2) w (by omega) (by omega)
      rw [Int.natCast_ediv] at hh
      have hl := M.pw_lt (p := p) a (e / 2) (by omega)
      have hm := refMul_any p (M.pw p a (e / 2)) (M.pw p a (e / 2)) w (by omega) hp hl hl
      have hq := fun x hx => refMul_any p x a w (by omega) hp hx ha
      have hlt : M.pw p a (e / 2) * M.pw p a (e / 2) % p < p := Nat.mod_lt _ (by omega)
      have hq1 := hq _ hlt
      have hev := M.pw_even p a e
      have hod := M.pw_odd p a e
      have hz : ((e : Int) == 0) = false := by simp; omega
      obtain ⟨h, eh⟩ : ∃ h, h = M.pw p a (e / 2) := ⟨_, rfl⟩
      rw [← eh] at hh hm hq1 hev hod hl hlt
      obtain ⟨m, em⟩ : ∃ m, m = h * h % p := ⟨_, rfl⟩
      rw [← em] at hm hq1 hev hod hlt
      obtain ⟨r, er⟩ : ∃ r, r = m * a % p := ⟨_, rfl⟩
      rw [← er] at hq1 hod
      have HH := Lib.hid hh
      have HM := Lib.hid hm
      have HQ := Lib.hid hq1
      have HE := Lib.hid hev
      have HO := Lib.hid hod
      clear hh hm hq hq1 hev hod ih eh em er
      by_cases ho : e % 2 = 1
      · have hb : ((e : Int) % 2 == 1) = true := by simp; omega
        have H1 := Lib.hid ho
        clear ho hl hlt
        go_enter Try.func132, Try.ntmps132
        go_wp2_with fail
        refine HH.out.mono ?_
        rintro e' w' ⟨rfl, rfl⟩
        go_wp2_with fail
        refine HM.out.mono ?_
        rintro e' w' ⟨rfl, rfl⟩
        go_wp2_with fail
        refine HQ.out.mono ?_
        rintro e' w' ⟨rfl, rfl⟩
        go_wp2_with fail
        go_ret
        exact ⟨ret1 (by rw [HO.out H1.out]), rfl⟩
      · have hb : ((e : Int) % 2 == 1) = false := by simp; omega
        have H1 : Hid (e % 2 = 0) := Lib.hid (by omega)
        clear ho hl hlt
        go_enter Try.func132, Try.ntmps132
        go_wp2_with fail
        refine HH.out.mono ?_
        rintro e' w' ⟨rfl, rfl⟩
        go_wp2_with fail
        refine HM.out.mono ?_
        rintro e' w' ⟨rfl, rfl⟩
        go_wp2_with fail
        go_ret
        exact ⟨ret1 (by rw [HE.out H1.out]), rfl⟩

set_option maxHeartbeats 400000 in
theorem refInv_any (p a : Nat) (w : World) (h2 : 3 ≤ p) (hp : p ≤ 65537) (ha : a < p) :
    Calls Try.prog 104 #[.int .u64 p, .int .u64 a] w fun e' w' => e' = .returned (.int .u64 (M.pw p a (p - 2))) ∧ w = w' := by
  have h := refPow_any p a (by omega) hp ha (p - 2) (p - 2) w (Nat.le_refl _) (by omega)
  have e : (((p - 2 : Nat)) : Int) = (p : Int) - 2 := by omega
  rw [e] at h
  have HC := Lib.hid h
  clear h e
  go_enter Try.func104, Try.ntmps104
  go_wp2_with fail
  refine HC.out.mono ?_
  rintro e w' ⟨rfl, rfl⟩
  go_wp2_with fail
  go_ret
  exact ⟨rfl, rfl⟩
end Go.Proofs.Ytgoognipljknjaa
