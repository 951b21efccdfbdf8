/-
  Package poly, what only reads: check, term, inverse, linear, distance. One view of a slice of numbers for nil, empty and other slices.
-/
import Derived.Test.YtgoognipljknjaaRef1
import Derived.Test.YtgoognipljknjaaThruM
namespace Go.Proofs.Ytgoognipljknjaa
open Go.RowKit
set_option linter.unusedVariables false

/-- where the numbers lie, if there are any -/
def Cells (w : World) (A : Option Addr) (zs : List Nat) : Prop :=
  0 < zs.length → ∃ b off, A = some ⟨b, off, none⟩ ∧ b < w.heap.size ∧ ∀ i, i < zs.length → w.cell? ⟨b, off + i, none⟩ = some (.int .u64 (zs.getD i 0))
theorem nums_view {w : World} {v : Value} {zs : List Nat} (h : Nums w v zs) : ∃ A cap, v = .slice A zs.length cap ∧ zs.length ≤ cap ∧ zs.length ≤ 17592186043904 ∧ Cells w A zs := by
  obtain ⟨h1, h2, h3⟩ := h
  rcases h3 with ⟨a, cap, rfl, rfl, _⟩ | ⟨b, off, cap, rfl, hc, hb, hcell⟩
  · exact ⟨_, _, rfl, Nat.zero_le _, h2, fun h => absurd h (by simp)⟩
  · exact ⟨_, _, rfl, hc, h2, fun _ => ⟨b, off, rfl, hb, hcell⟩⟩
theorem Cells.below {w w' : World} {A : Option Addr} {zs : List Nat} (h : Cells w A zs) {B : Nat} (hB : w.heap.size ≤ B) (hb : Below B w w') : Cells w' A zs := fun h0 => by
  obtain ⟨b, off, rfl, hl, hc⟩ := h h0
  exact ⟨b, off, rfl, Nat.lt_of_lt_of_le hl hb.size, fun i hi => (hb.cell (p := ⟨b, off + i, none⟩) (Nat.lt_of_lt_of_le hl hB)).trans (hc i hi)⟩

namespace M
/-- what the checks of package poly answer: 0, 2 (ErrArg) or 3 (ErrLimit) -/
def chk (p : Nat) (zs : List Nat) (limit : Nat) : Int := if isP p = false then 2 else if limit < zs.length then 3 else if within p zs = true then 0 else 2
theorem chk_ok {p : Nat} {zs : List Nat} {limit : Nat} (h : chk p zs limit = 0) : isP p = true ∧ zs.length ≤ limit ∧ within p zs = true := by
  unfold chk at h
  split at h
  · cases h
  · split at h
    · cases h
    · split at h
      · rename_i h1 h2 h3; exact ⟨by simpa using h1, by omega, h3⟩
      · cases h
theorem chk_no {p : Nat} (zs : List Nat) (limit : Nat) (h : isP p = false) : 2 = chk p zs limit := by unfold chk; rw [if_pos h]
theorem chk_long {p : Nat} {zs : List Nat} {limit : Nat} (h : isP p = true) (hl : limit < zs.length) : 3 = chk p zs limit := by unfold chk; rw [if_neg (by simp [h]), if_pos hl]
theorem chk_out {p : Nat} {zs : List Nat} {limit : Nat} (h : isP p = true) (hl : ¬ limit < zs.length) (hw : within p zs = false) : 2 = chk p zs limit := by unfold chk; rw [if_neg (by simp [h]), if_neg hl, if_neg (by simp [hw])]
theorem chk_of {p : Nat} {zs : List Nat} {limit : Nat} (h1 : isP p = true) (h2 : zs.length ≤ limit) (h3 : within p zs = true) : chk p zs limit = 0 := by
  unfold chk; rw [if_neg (by simp [h1]), if_neg (by omega), if_pos h3]
end M

set_option maxHeartbeats 400000 in
theorem check_any (p : Nat) (v : Value) (zs : List Nat) (limit : Nat) (w : World) (hp : p < 18446744073709551616) (hlim : limit ≤ 1000) (hv : Nums w v zs) :
    Calls Try.prog 112 #[.int .u64 p, v, .int .i64 limit] w fun e w' => e = .returned (.int .i64 (M.chk p zs limit)) ∧ w = w' := by
  obtain ⟨A, cap, rfl, hcap, hlen, hC⟩ := nums_view hv
  have hc := is_any p w hp
  have HV := Lib.hid hC
  clear hv hC hcap
  cases hi : M.isP p with
  | false =>
    rw [hi] at hc
    have HC := Lib.hid hc
    have HI := Lib.hid hi
    clear hi hc hp
    go_enter Try.func112, Try.ntmps112
    go_wp2_with (go_at_call 68; refine HC.out.mono ?_; rintro e w' ⟨rfl, rfl⟩)
    go_ret
    exact ⟨ret1 (M.chk_no _ _ HI.out), rfl⟩
  | true =>
    rw [hi] at hc
    have HC := Lib.hid hc
    have HI := Lib.hid hi
    clear hi hc
    by_cases hL : limit < zs.length
    · go_enter Try.func112, Try.ntmps112
      go_wp2_with (go_at_call 68; refine HC.out.mono ?_; rintro e w' ⟨rfl, rfl⟩)
      go_ret
      exact ⟨ret1 (M.chk_long HI.out hL), rfl⟩
    · go_enter Try.func112, Try.ntmps112
      go_wp2_with (go_at_call 68; refine HC.out.mono ?_; rintro e w' ⟨rfl, rfl⟩)
      go_loop [18] (fun t => ∃ k : Nat, k ≤ zs.length ∧ t = .int .i64 k ∧ M.within p (zs.take k) = true) (fun t => zs.length - (intOf t).toNat)
      case atStart => exact ⟨0, by omega, rfl, by simp [M.within]⟩
      case round =>
        obtain ⟨k, hk, rfl, hw⟩ := hrel
        have HW := Lib.hid hw
        clear hw
        by_cases hlt : k < zs.length
        · obtain ⟨b, off, rfl, hb, hcell⟩ := HV.out (by omega)
          have hc := hcell k hlt
          obtain ⟨x, hx⟩ : ∃ x, x = zs.getD k 0 := ⟨_, rfl⟩
          rw [← hx] at hc
          have HX := Lib.hid hx
          clear hx hcell
          by_cases hpx : p ≤ x
          · go_wp2
            go_ret
            exact ⟨ret1 (M.chk_out HI.out hL (M.within_not hlt (by rw [← HX.out]; exact hpx))), rfl⟩
          · have hxp : x < p := by omega
            go_wp2
            go_round
            case rel => exact ⟨k + 1, by omega, by go_num, M.within_take hlt HW.out (by rw [← HX.out]; exact hxp)⟩
            case measure => simp [intOf]; omega
        · go_wp2
          go_ret
          have hk' : k = zs.length := by omega
          have h := HW.out
          rw [hk', List.take_length] at h
          exact ⟨ret1 (M.chk_of HI.out (by omega) h).symm, rfl⟩

set_option maxHeartbeats 400000 in
theorem term_any (v : Value) (zs : List Nat) (i : Nat) (w : World) (hi : i ≤ 4294967296) (hv : Nums w v zs) :
    Calls Try.prog 134 #[v, .int .i64 i] w fun e w' => e = .returned (.int .u64 (zs.getD i 0 : Nat)) ∧ w = w' := by
  obtain ⟨A, cap, rfl, hcap, hlen, hC⟩ := nums_view hv
  clear hv hcap
  by_cases hlt : i < zs.length
  · obtain ⟨b, off, rfl, hb, hcell⟩ := hC (by omega)
    have hc := hcell i hlt
    obtain ⟨x, hx⟩ : ∃ x, x = zs.getD i 0 := ⟨_, rfl⟩
    rw [← hx] at hc ⊢
    clear hx hcell hC
    go_enter Try.func134, Try.ntmps134
    go_wp2
    go_ret
    exact ⟨rfl, rfl⟩
  · rw [M.getD_ge (by omega)]
    clear hC
    go_enter Try.func134, Try.ntmps134
    go_wp2
    go_ret
    exact ⟨rfl, rfl⟩

set_option maxHeartbeats 400000 in
theorem pinv_any (p a : Nat) (w : World) (hv : M.validB p [a] = true) (h0 : a ≠ 0) :
    Calls Try.prog 116 #[.int .u64 p, .int .u64 a] w fun e w' => e = .returned (.int .u64 (M.pw p a (p - 2))) ∧ Below w.heap.size w w' := by
  have HC := Lib.hid (inv_ok p a w hv h0)
  clear hv h0
  go_enter Try.func116, Try.ntmps116
  go_wp2_with fail
  refine HC.out.mono ?_
  rintro e w1 ⟨rfl, hb⟩
  have HB := Lib.hid hb
  clear hb
  go_wp2_with fail
  go_ret
  exact ⟨rfl, HB.out⟩

set_option maxHeartbeats 400000 in
theorem linear_any (p r : Nat) (w : World) (hp : p ≤ 65537) (hr : r < p) :
    Calls Try.prog 118 #[.int .u64 p, .int .u64 r] w fun e w' => e = .returned (.slice (some ⟨w.heap.size, 0, none⟩) 2 2) ∧ w' = w.alloc (.cells #[.int .u64 ((p - r) % p : Nat), .int .u64 (1 : Nat)] 22) := by
  go_enter Try.func118, Try.ntmps118
  go_wp2
  go_ret
  have e : (-(r : Int)) % p = (((p - r) % p : Nat) : Int) := by rw [Int.natCast_emod, Int.natCast_sub (by omega)]; simp
  exact ⟨rfl, by rw [e]; rfl⟩

end Go.Proofs.Ytgoognipljknjaa
