/-
  Package matrix, row operations: scale, addTimes.
-/
import Derived.Test.YtgoognipljknjaaMem3
import Derived.LoopTactic
namespace Go.Proofs.Ytgoognipljknjaa
open Go.RowKit
set_option linter.unusedVariables false
set_option maxRecDepth 100000

theorem grown_set {w w' : World} {g j : Nat} (h : w.grownBy w' (some g)) (u : Value) : w.grownBy (w'.setCell ⟨g, j, none⟩ u) (some g) :=
  ⟨h.os, h.tape, h.output, by simpa [World.setCell] using h.size, fun k hk hne => (Below.heap_setCell _ _ _ _ (by simp at hne ⊢; omega)).trans (h.block k hk hne)⟩

set_option maxHeartbeats 1000000 in
theorem scale_any (p k g off n cap C : Nat) (F : Nat → Nat) (w : World) (hp : p ≤ 65537) (hk : k < p) (hF : ∀ j, j < C → F j < p) (hn : off + n = C) (hC : C ≤ 1000) (h : Row w g C F) :
    Calls Try.prog 130 #[.int .u64 p, .slice (some ⟨g, off, none⟩) n cap, .int .u64 k] w fun e w' => e = .returned (.tuple #[]) ∧ w.grownBy w' (some g) ∧ Row w' g C (fun j => if off ≤ j then F j * k % p else F j) := by
  have HR := Lib.hid h
  have HF := Lib.hid hF
  have HN := Lib.hid hn
  have hn1 : off + n ≤ C := by omega
  clear h hF hn
  go_enter Try.func130, Try.ntmps130
  go_wp2_with fail
  go_loopw [10] (fun ti wr => ∃ t : Nat, t ≤ n ∧ ti = .int .i64 t ∧ w.grownBy wr (some g) ∧ Row wr g C (fun j => if off ≤ j ∧ j < off + t then F j * k % p else F j)) (fun ti _ => n - (intOf ti).toNat)
  case atStart => exact ⟨0, by omega, rfl, World.grownBy.refl _ _, HR.out.congr fun j _ => by rw [if_neg (by omega)]⟩
  case round =>
    obtain ⟨t, ht, rfl, hg, hr⟩ := hrel
    have HG := Lib.hid hg
    have HRW := Lib.hid hr
    clear hg hr
    by_cases hlt : t < n
    · have hc := HRW.out.cell (j := off + t) (by omega)
      have hf := HRW.out.free (off + t)
      rw [if_neg (by omega)] at hc
      have hx := HF.out (off + t) (by omega)
      have hs := HRW.out.set (j := off + t) (by omega) (F (off + t) * k % p)
      obtain ⟨x, ex⟩ : ∃ x, x = F (off + t) := ⟨_, rfl⟩
      rw [← ex] at hc hx
      obtain ⟨m1, m2⟩ := mul_le hp hx hk
      have e1 : (x : Int) * k % p = ((x * k % p : Nat) : Int) := by rw [Int.natCast_emod, Int.natCast_mul]
      have hs2 := hs.congr (F' := fun j => if off ≤ j ∧ j < off + (t + 1) then F j * k % p else F j) (fun j hj => by
        by_cases e : j = off + t
        · subst e; rw [if_pos rfl, if_pos (by omega)]
        · rw [if_neg e]
          by_cases e2 : off ≤ j ∧ j < off + t
          · rw [if_pos e2, if_pos (by omega)]
          · rw [if_neg e2, if_neg (by omega)])
      rw [← ex] at hs2
      have HE := Lib.hid e1
      have HS := Lib.hid hs2
      clear hs hs2 ex e1
      go_wp2_with fail
      go_roundw
      case rel => exact ⟨t + 1, by omega, by go_num, by rw [HE.out]; exact grown_set HG.out _, by rw [HE.out]; exact HS.out⟩
      case measure => simp [intOf]; omega
    · obtain rfl : t = n := by omega
      go_wp2_with fail
      go_end0
      exact ⟨rfl, HG.out, HRW.out.congr fun j hj => by
        by_cases e : off ≤ j
        · rw [if_pos e, if_pos ⟨e, by have := HN.out; omega⟩]
        · rw [if_neg e, if_neg (by omega)]⟩

set_option maxHeartbeats 1000000 in
theorem addTimes_any (p k g g2 off n cap cap2 C : Nat) (F F2 : Nat → Nat) (w : World) (hp : p ≤ 65537) (hk : k ≤ p) (hF : ∀ j, j < C → F j < p) (hF2 : ∀ j, j < C → F2 j < p) (hn : off + n = C) (hC : C ≤ 1000) (hg : g ≠ g2) (h : Row w g C F) (h2 : Row w g2 C F2) :
    Calls Try.prog 131 #[.int .u64 p, .slice (some ⟨g, off, none⟩) n cap, .int .u64 k, .slice (some ⟨g2, off, none⟩) n cap2] w fun e w' => e = .returned (.tuple #[]) ∧ w.grownBy w' (some g) ∧ Row w' g C (fun j => if off ≤ j then (F j + k * F2 j) % p else F j) := by
  have HR := Lib.hid h
  have HR2 := Lib.hid h2
  have HF := Lib.hid hF
  have HF2 := Lib.hid hF2
  have HN := Lib.hid hn
  have hn1 : off + n ≤ C := by omega
  clear h h2 hF hF2 hn
  go_enter Try.func131, Try.ntmps131
  go_wp2_with fail
  go_loopw [12] (fun ti wr => ∃ t : Nat, t ≤ n ∧ ti = .int .i64 t ∧ w.grownBy wr (some g) ∧ Row wr g C (fun j => if off ≤ j ∧ j < off + t then (F j + k * F2 j) % p else F j)) (fun ti _ => n - (intOf ti).toNat)
  case atStart => exact ⟨0, by omega, rfl, World.grownBy.refl _ _, HR.out.congr fun j _ => by rw [if_neg (by omega)]⟩
  case round =>
    obtain ⟨t, ht, rfl, hg1, hr⟩ := hrel
    have HG := Lib.hid hg1
    have HRW := Lib.hid hr
    clear hg1 hr
    by_cases hlt : t < n
    · have hc := HRW.out.cell (j := off + t) (by omega)
      have hf := HRW.out.free (off + t)
      have hc2 := (HR2.out.grown HG.out (by simp; omega)).cell (j := off + t) (by omega)
      rw [if_neg (by omega)] at hc
      have hx := HF.out (off + t) (by omega)
      have hy := HF2.out (off + t) (by omega)
      have hs := HRW.out.set (j := off + t) (by omega) ((F (off + t) + k * F2 (off + t)) % p)
      obtain ⟨x, ex⟩ : ∃ x, x = F (off + t) := ⟨_, rfl⟩
      obtain ⟨y, ey⟩ : ∃ y, y = F2 (off + t) := ⟨_, rfl⟩
      rw [← ex] at hc hx
      rw [← ey] at hc2 hy
      have m1 : (k : Int) * y ≤ 4295098369 := by
        have : k * y ≤ 65537 * 65537 := Nat.mul_le_mul (by omega) (by omega)
        omega
      have m2 : (0 : Int) ≤ (k : Int) * y := Int.mul_nonneg (by omega) (by omega)
      have e1 : ((x : Int) + k * y) % p = (((x + k * y) % p : Nat) : Int) := by rw [Int.natCast_emod, Int.natCast_add, Int.natCast_mul]
      have hs2 := hs.congr (F' := fun j => if off ≤ j ∧ j < off + (t + 1) then (F j + k * F2 j) % p else F j) (fun j hj => by
        by_cases e : j = off + t
        · subst e; rw [if_pos rfl, if_pos (by omega)]
        · rw [if_neg e]
          by_cases e2 : off ≤ j ∧ j < off + t
          · rw [if_pos e2, if_pos (by omega)]
          · rw [if_neg e2, if_neg (by omega)])
      rw [← ex, ← ey] at hs2
      have HE := Lib.hid e1
      have HS := Lib.hid hs2
      clear hs hs2 ex ey e1
      go_wp2_with fail
      go_roundw
      case rel => exact ⟨t + 1, by omega, by go_num, by rw [HE.out]; exact grown_set HG.out _, by rw [HE.out]; exact HS.out⟩
      case measure => simp [intOf]; omega
    · obtain rfl : t = n := by omega
      go_wp2_with fail
      go_end0
      exact ⟨rfl, HG.out, HRW.out.congr fun j hj => by
        by_cases e : off ≤ j
        · rw [if_pos e, if_pos ⟨e, by have := HN.out; omega⟩]
        · rw [if_neg e, if_neg (by omega)]⟩
end Go.Proofs.Ytgoognipljknjaa
