/-
  Slices of numbers as lists; the contracts of the argument checks (valid; Within and Right of the reference).
-/
import Derived.Test.YtgoognipljknjaaSmall
import Derived.Below
namespace Go.Proofs.Ytgoognipljknjaa
open Go.RowKit

/-- the slice value v reads as the numbers zs -/
def Nums (w : World) (v : Value) (zs : List Nat) : Prop :=
  (∀ n ∈ zs, n < 18446744073709551616) ∧ zs.length ≤ 17592186043904 ∧
  ((∃ a cap, v = .slice a 0 cap ∧ zs = [] ∧ (a = none → cap = 0)) ∨
   ∃ b off cap, v = .slice (some ⟨b, off, none⟩) zs.length cap ∧ zs.length ≤ cap ∧ b < w.heap.size ∧ ∀ i, i < zs.length → w.cell? ⟨b, off + i, none⟩ = some (.int .u64 (zs.getD i 0)))

set_option maxHeartbeats 400000 in
theorem valid_no (p : Nat) (a : Option Addr) (len cap : Nat) (w : World) (hp : p < 18446744073709551616) (hi : M.isP p = false) :
    Calls Try.prog 108 #[.int .u64 p, .slice a len cap] w fun e w' => e = .returned (.bool false) ∧ w = w' := by
  have HI : Hid (M.isP p = false) := Lib.hid hi
  have hc := is_any p w hp
  rw [hi] at hc
  have HC := Lib.hid hc
  clear hi hc hp
  go_enter Try.func108, Try.ntmps108
  go_wp2_with (go_at_call 68; refine HC.out.mono ?_; rintro e w' ⟨rfl, rfl⟩)
  go_ret
  exact ⟨rfl, rfl⟩

set_option maxHeartbeats 400000 in
theorem valid_yes (p : Nat) (b off cap : Nat) (zs : List Nat) (w : World) (hp : p < 18446744073709551616) (hl : zs.length ≤ 17592186043904) (hi : M.isP p = true)
    (hcell : ∀ i, i < zs.length → w.cell? ⟨b, off + i, none⟩ = some (.int .u64 (zs.getD i 0))) :
    Calls Try.prog 108 #[.int .u64 p, .slice (some ⟨b, off, none⟩) zs.length cap] w fun e w' => e = .returned (.bool (M.within p zs)) ∧ w = w' := by
  have hc := is_any p w hp
  rw [hi] at hc
  have HC := Lib.hid hc
  have HV := Lib.hid hcell
  clear hi hc hp hcell
  go_enter Try.func108, Try.ntmps108
  go_wp2_with (go_at_call 68; refine HC.out.mono ?_; rintro e w' ⟨rfl, rfl⟩)
  go_loop [12] (fun t => ∃ k : Nat, k ≤ zs.length ∧ t = .int .i64 k ∧ M.within p (zs.take k) = true) (fun t => zs.length - (intOf t).toNat)
  case atStart => exact ⟨0, by omega, rfl, by simp [M.within]⟩
  case round =>
    obtain ⟨k, hk, rfl, hw⟩ := hrel
    have HW := Lib.hid hw
    clear hw
    by_cases hlt : k < zs.length
    · have hc := HV.out k hlt
      obtain ⟨x, hx⟩ : ∃ x, x = zs.getD k 0 := ⟨_, rfl⟩
      rw [← hx] at hc
      have HX := Lib.hid hx
      clear hx
      go_wp2
      · have h : p ≤ x := by omega
        go_ret
        exact ⟨ret_bool (M.within_not hlt (by rw [← HX.out]; omega)).symm, rfl⟩
      · have h : x < p := by omega
        go_round
        case rel => exact ⟨k + 1, by omega, by go_num, M.within_take hlt HW.out (by rw [← HX.out]; omega)⟩
        case measure => simp [intOf]; omega
    · go_wp2
      go_ret
      have hk' : k = zs.length := by omega
      have h := HW.out
      rw [hk', List.take_length] at h
      exact ⟨ret_bool h.symm, rfl⟩

set_option maxHeartbeats 400000 in
theorem valid_nil (p : Nat) (a : Option Addr) (cap : Nat) (w : World) (hp : p < 18446744073709551616) (hi : M.isP p = true) :
    Calls Try.prog 108 #[.int .u64 p, .slice a 0 cap] w fun e w' => e = .returned (.bool true) ∧ w = w' := by
  have hc := is_any p w hp
  rw [hi] at hc
  have HC := Lib.hid hc
  clear hi hc hp
  go_enter Try.func108, Try.ntmps108
  go_wp2_with (go_at_call 68; refine HC.out.mono ?_; rintro e w' ⟨rfl, rfl⟩)
  go_loop [12] (fun t => t = .int .i64 0) (fun _ => 0)
  case atStart => rfl
  case round =>
    obtain rfl := hrel
    go_wp2
    go_ret
    exact ⟨rfl, rfl⟩

theorem valid_any (p : Nat) (v : Value) (zs : List Nat) (w : World) (hp : p < 18446744073709551616) (hv : Nums w v zs) :
    Calls Try.prog 108 #[.int .u64 p, v] w fun e w' => e = .returned (.bool (M.validB p zs)) ∧ w = w' := by
  unfold M.validB
  obtain ⟨_, hl, hv⟩ := hv
  cases hi : M.isP p with
  | false =>
    rcases hv with ⟨a, cap, rfl, rfl, _⟩ | ⟨b, off, cap, rfl, _, _, _⟩
    · exact valid_no p a 0 cap w hp hi
    · exact valid_no p _ _ cap w hp hi
  | true =>
    rcases hv with ⟨a, cap, rfl, rfl, _⟩ | ⟨b, off, cap, rfl, _, _, hc⟩
    · exact valid_nil p a cap w hp hi
    · exact valid_yes p b off cap zs w hp hl hi hc

/-- what lies below a world's end still reads as it did behind new blocks -/
theorem Nums.below {w w' : World} {v : Value} {zs : List Nat} (h : Nums w v zs) (hb : Below w.heap.size w w') : Nums w' v zs := by
  obtain ⟨h1, h2, h3⟩ := h
  refine ⟨h1, h2, ?_⟩
  rcases h3 with h3 | ⟨b, off, cap, e, hc, hl, hcell⟩
  · exact .inl h3
  · exact .inr ⟨b, off, cap, e, hc, Nat.lt_of_lt_of_le hl hb.size, fun i hi => (hb.cell (p := ⟨b, off + i, none⟩) hl).trans (hcell i hi)⟩

/-- a row of the call's own reads as its numbers -/
theorem nums_of_owns {w : World} {base : Nat} {v : Value} {n : Nat} {zs : List Nat} (h : w.ownsRow base 22 1 v n (zs.map fun (z : Nat) => Value.int .u64 z)) (hz : ∀ n ∈ zs, n < 18446744073709551616) (hl : zs.length ≤ 17592186043904) : Nums w v zs := by
  have hn : zs.length = n := by have := h.1; simpa using this
  refine ⟨hz, hl, ?_⟩
  have hlt := h.lt
  have hcells := fun g hg => h.cells (g := g) hg
  rcases h.2 with ⟨rfl, h0⟩ | ⟨g, cap, cur, rfl, hb, hg, hc, _⟩
  · left
    refine ⟨none, 0, rfl, List.eq_nil_of_length_eq_zero (by omega), fun _ => rfl⟩
  · right
    refine ⟨g, 0, cap, by rw [hn], by omega, (hlt g rfl).2, fun i hi => ?_⟩
    have := hcells g rfl i (.int .u64 ((zs.getD i 0 : Nat) : Int)) (by simp [List.getD_eq_getElem?_getD, hi])
    rw [Addr.add_lit] at this
    exact this

/-! ### The check of numbers that the caller writes out: a new block -/
theorem nums1 (w : World) (a : Nat) (ha : a < 18446744073709551616) : Nums (w.alloc (.cells #[.int .u64 a] 22)) (.slice (some ⟨w.heap.size, 0, none⟩) 1 1) [a] := by
  refine ⟨by simpa using ha, by simp, .inr ⟨_, _, _, rfl, by simp, by simp, ?_⟩⟩
  intro i hi
  match i, hi with
  | 0, _ => simp
theorem nums2 (w : World) (a b : Nat) (ha : a < 18446744073709551616) (hb : b < 18446744073709551616) :
    Nums (w.alloc (.cells #[.int .u64 a, .int .u64 b] 22)) (.slice (some ⟨w.heap.size, 0, none⟩) 2 2) [a, b] := by
  refine ⟨by simp; omega, by simp, .inr ⟨_, _, _, rfl, by simp, by simp, ?_⟩⟩
  intro i hi
  match i, hi with
  | 0, _ => simp
  | 1, _ => simp
theorem nums3 (w : World) (a b c : Nat) (ha : a < 18446744073709551616) (hb : b < 18446744073709551616) (hc : c < 18446744073709551616) :
    Nums (w.alloc (.cells #[.int .u64 a, .int .u64 b, .int .u64 c] 22)) (.slice (some ⟨w.heap.size, 0, none⟩) 3 3) [a, b, c] := by
  refine ⟨by simp; omega, by simp, .inr ⟨_, _, _, rfl, by simp, by simp, ?_⟩⟩
  intro i hi
  match i, hi with
  | 0, _ => simp
  | 1, _ => simp
  | 2, _ => simp

theorem valid0 (p : Nat) (w : World) (hp : p < 18446744073709551616) {r : Bool} (hr : M.isP p = r) :
    Calls Try.prog 108 #[.int .u64 p, .slice none 0 0] w fun e w' => e = .returned (.bool r) ∧ w = w' := by
  subst hr
  cases hi : M.isP p with
  | false => exact valid_no p none 0 0 w hp hi
  | true => exact valid_nil p none 0 w hp hi
theorem valid1 (p a : Nat) (w : World) (hp : p < 18446744073709551616) (ha : a < 18446744073709551616) {r : Bool} (hr : M.validB p [a] = r) :
    Calls Try.prog 108 #[.int .u64 p, .slice (some ⟨w.heap.size, 0, none⟩) 1 1] (w.alloc (.cells #[.int .u64 a] 22)) fun e w' => e = .returned (.bool r) ∧ w.alloc (.cells #[.int .u64 a] 22) = w' := by
  subst hr; exact valid_any p _ _ _ hp (nums1 w a ha)
theorem valid2 (p a b : Nat) (w : World) (hp : p < 18446744073709551616) (ha : a < 18446744073709551616) (hb : b < 18446744073709551616) {r : Bool} (hr : M.validB p [a, b] = r) :
    Calls Try.prog 108 #[.int .u64 p, .slice (some ⟨w.heap.size, 0, none⟩) 2 2] (w.alloc (.cells #[.int .u64 a, .int .u64 b] 22)) fun e w' => e = .returned (.bool r) ∧ w.alloc (.cells #[.int .u64 a, .int .u64 b] 22) = w' := by
  subst hr; exact valid_any p _ _ _ hp (nums2 w a b ha hb)
end Go.Proofs.Ytgoognipljknjaa
