/-
  Dot of package field and of the reference.
-/
import Derived.Test.YtgoognipljknjaaRef3
import Derived.Deep.QuietTactic
import Derived.BigQuiet
namespace Go.Proofs.Ytgoognipljknjaa
open Go.RowKit
set_option linter.unusedVariables false
set_option maxRecDepth 100000

namespace M


def dotK (l m : List Nat) : Nat → Nat
  | 0 => 0
  | k + 1 => dotK l m k + l.getD k 0 * m.getD k 0

theorem dotK_le {p : Nat} {l m : List Nat} (hp : p ≤ 65537) (h : within p l = true) (h2 : within p m = true) (he : l.length = m.length) : ∀ k, k ≤ l.length → dotK l m k ≤ k * 4294967296
  | 0, _ => by simp [dotK]
  | k + 1, hk => by
    have ih := dotK_le hp h h2 he k (by omega)
    have a1 := within_mem h (show k < l.length by omega)
    have a2 := within_mem h2 (show k < m.length by omega)
    have : l.getD k 0 * m.getD k 0 ≤ 65536 * 65536 := Nat.mul_le_mul (by omega) (by omega)
    simp only [dotK]; omega

end M

set_option maxHeartbeats 400000 in
theorem dot_bad1 (p : Nat) (v v2 : Value) (zs : List Nat) (w : World) (hp : p < 18446744073709551616) (hv : M.validB p zs = false) (hN : Nums w v zs) :
    Calls Try.prog 100 #[.int .u64 p, v, v2] w fun e w' => e = .returned (.tuple #[.int .u64 0, .int .i64 2]) ∧ w = w' := by
  have hV := valid_any p v zs w hp hN
  rw [hv] at hV
  have HV := Lib.hid hV
  clear hV hv hN hp
  go_enter Try.func100, Try.ntmps100
  go_wp2_with fail
  refine HV.out.mono ?_
  rintro e w' ⟨rfl, rfl⟩
  go_wp2_with fail
  go_ret2
  exact ⟨rfl, rfl⟩

set_option maxHeartbeats 400000 in
theorem dot_bad2 (p : Nat) (v v2 : Value) (zs ys : List Nat) (w : World) (hp : p < 18446744073709551616) (hv : M.validB p zs = true) (hv2 : M.validB p ys = false) (hN : Nums w v zs) (hN2 : Nums w v2 ys) :
    Calls Try.prog 100 #[.int .u64 p, v, v2] w fun e w' => e = .returned (.tuple #[.int .u64 0, .int .i64 2]) ∧ w = w' := by
  have hV := valid_any p v zs w hp hN
  rw [hv] at hV
  have hV2 := valid_any p v2 ys w hp hN2
  rw [hv2] at hV2
  have HV := Lib.hid hV
  have HV2 := Lib.hid hV2
  clear hV hV2 hv hv2 hN hN2 hp
  go_enter Try.func100, Try.ntmps100
  go_wp2_with fail
  refine HV.out.mono ?_
  rintro e w' ⟨rfl, rfl⟩
  go_wp2_with fail
  refine HV2.out.mono ?_
  rintro e w' ⟨rfl, rfl⟩
  go_wp2_with fail
  go_ret2
  exact ⟨rfl, rfl⟩

theorem nums_slice {w : World} {v : Value} {zs : List Nat} (h : Nums w v zs) : ∃ a cap, v = .slice a zs.length cap := by
  rcases h.2.2 with ⟨a, cap, rfl, rfl, _⟩ | ⟨b, off, cap, rfl, _⟩
  · exact ⟨_, _, rfl⟩
  · exact ⟨_, _, rfl⟩

set_option maxHeartbeats 400000 in
theorem dot_bad3 (p : Nat) (v v2 : Value) (zs ys : List Nat) (w : World) (hp : p < 18446744073709551616) (hv : M.validB p zs = true) (hv2 : M.validB p ys = true) (hN : Nums w v zs) (hN2 : Nums w v2 ys) (hne : zs.length ≠ ys.length) :
    Calls Try.prog 100 #[.int .u64 p, v, v2] w fun e w' => e = .returned (.tuple #[.int .u64 0, .int .i64 2]) ∧ w = w' := by
  have hV := valid_any p v zs w hp hN
  rw [hv] at hV
  have hV2 := valid_any p v2 ys w hp hN2
  rw [hv2] at hV2
  obtain ⟨a, cap, rfl⟩ := nums_slice hN
  obtain ⟨a2, cap2, rfl⟩ := nums_slice hN2
  have hb : ((zs.length : Int) != (ys.length : Int)) = true := by simp; omega
  have HV := Lib.hid hV
  have HV2 := Lib.hid hV2
  clear hV hV2 hv hv2 hN hN2 hp hne
  go_enter Try.func100, Try.ntmps100
  go_wp2_with fail
  refine HV.out.mono ?_
  rintro e w' ⟨rfl, rfl⟩
  go_wp2_with fail
  refine HV2.out.mono ?_
  rintro e w' ⟨rfl, rfl⟩
  go_wp2_with fail
  go_ret2
  exact ⟨rfl, rfl⟩

set_option maxHeartbeats 1000000 in
theorem dot_cells (p b off cap b2 off2 cap2 : Nat) (zs ys : List Nat) (w : World) (hv : M.validB p zs = true) (hv2 : M.validB p ys = true) (hl : zs.length ≤ 1048576) (he : zs.length = ys.length)
    (hN : Nums w (.slice (some ⟨b, off, none⟩) zs.length cap) zs) (hN2 : Nums w (.slice (some ⟨b2, off2, none⟩) zs.length cap2) ys)
    (hcell : ∀ i, i < zs.length → w.cell? ⟨b, off + i, none⟩ = some (.int .u64 (zs.getD i 0))) (hcell2 : ∀ i, i < zs.length → w.cell? ⟨b2, off2 + i, none⟩ = some (.int .u64 (ys.getD i 0))) :
    Calls Try.prog 100 #[.int .u64 p, .slice (some ⟨b, off, none⟩) zs.length cap, .slice (some ⟨b2, off2, none⟩) zs.length cap2] w fun e w' => e = .returned (.tuple #[.int .u64 (M.dotK zs ys zs.length % p : Nat), .int .i64 0]) ∧ w = w' := by
  obtain ⟨h3, hp⟩ := M.pos_of (M.validB_isP hv)
  have hV := valid_any p _ zs w (by omega) hN
  rw [hv] at hV
  have hV2 := valid_any p _ ys w (by omega) hN2
  rw [hv2] at hV2
  have HV := Lib.hid hV
  have HV2 := Lib.hid hV2
  have HC := Lib.hid hcell
  have HC2 := Lib.hid hcell2
  have HW := Lib.hid (M.validB_within hv)
  have HW2 := Lib.hid (M.validB_within hv2)
  have HE := Lib.hid he
  clear hV hV2 hcell hcell2 hv hv2 hN hN2 he
  go_enter Try.func100, Try.ntmps100
  go_wp2_with fail
  refine HV.out.mono ?_
  rintro e w' ⟨rfl, rfl⟩
  go_wp2_with fail
  refine HV2.out.mono ?_
  rintro e w' ⟨rfl, rfl⟩
  go_wp2_with fail
  go_loop [8, 30] (fun ts ti => ∃ k : Nat, k ≤ zs.length ∧ ti = .int .i64 k ∧ ts = .int .u64 (M.dotK zs ys k)) (fun _ ti => zs.length - (intOf ti).toNat)
  case atStart => exact ⟨0, by omega, rfl, rfl⟩
  case round =>
    obtain ⟨k, hk, rfl, rfl⟩ := hrel
    have hs := M.dotK_le hp HW.out HW2.out HE.out k hk
    by_cases hlt : k < zs.length
    · have hc1 := HC.out k hlt
      have hc2 := HC2.out k hlt
      have hx := M.within_mem HW.out hlt
      have hy := M.within_mem HW2.out (show k < ys.length by have := HE.out; omega)
      have hst : M.dotK zs ys (k + 1) = M.dotK zs ys k + zs.getD k 0 * ys.getD k 0 := rfl
      obtain ⟨x, ex⟩ : ∃ x, x = zs.getD k 0 := ⟨_, rfl⟩
      obtain ⟨y, ey⟩ : ∃ y, y = ys.getD k 0 := ⟨_, rfl⟩
      obtain ⟨s, es⟩ : ∃ s, s = M.dotK zs ys k := ⟨_, rfl⟩
      rw [← ex] at hc1 hx hst
      rw [← ey] at hc2 hy hst
      rw [← es] at hst hs ⊢
      obtain ⟨m1, m2⟩ := mul_le hp hx hy
      have HS := Lib.hid hst
      clear hst ex es ey
      go_wp2
      go_round
      case rel => exact ⟨k + 1, by omega, by go_num, by rw [HS.out, Int.natCast_add, Int.natCast_mul]⟩
      case measure => simp [intOf]; omega
    · obtain rfl : k = zs.length := by omega
      go_wp2
      go_ret2
      exact ⟨ret2 (by first | rfl | rw [Int.natCast_emod]) rfl, rfl⟩

set_option maxHeartbeats 1000000 in
theorem dot_none (p cap cap2 : Nat) (a a2 : Option Addr) (w : World) (hi : M.isP p = true) :
    Calls Try.prog 100 #[.int .u64 p, .slice a 0 cap, .slice a2 0 cap2] w fun e w' => e = .returned (.tuple #[.int .u64 (0 : Nat), .int .i64 0]) ∧ w = w' := by
  obtain ⟨h3, hp⟩ := M.pos_of hi
  have HV := Lib.hid (valid_nil p a cap w (by omega) hi)
  have HV2 := Lib.hid (valid_nil p a2 cap2 w (by omega) hi)
  clear hi
  go_enter Try.func100, Try.ntmps100
  go_wp2_with fail
  refine HV.out.mono ?_
  rintro e w' ⟨rfl, rfl⟩
  go_wp2_with fail
  refine HV2.out.mono ?_
  rintro e w' ⟨rfl, rfl⟩
  go_wp2_with fail
  go_loop [8, 30] (fun ts ti => ti = .int .i64 0 ∧ ts = .int .u64 0) (fun _ _ => 0)
  case atStart => exact ⟨rfl, rfl⟩
  case round =>
    obtain ⟨rfl, rfl⟩ := hrel
    go_wp2
    go_ret2
    exact ⟨rfl, rfl⟩

set_option maxHeartbeats 1000000 in
theorem refDot_cells (p b off cap b2 off2 cap2 : Nat) (zs ys : List Nat) (w : World) (hv : M.validB p zs = true) (hv2 : M.validB p ys = true) (hl : zs.length ≤ 1048576) (he : zs.length = ys.length) (hb : b < w.heap.size) (hb2 : b2 < w.heap.size)
    (hcell : ∀ i, i < zs.length → w.cell? ⟨b, off + i, none⟩ = some (.int .u64 (zs.getD i 0))) (hcell2 : ∀ i, i < zs.length → w.cell? ⟨b2, off2 + i, none⟩ = some (.int .u64 (ys.getD i 0))) :
    Calls Try.prog 67 #[.int .u64 p, .slice (some ⟨b, off, none⟩) zs.length cap, .slice (some ⟨b2, off2, none⟩) zs.length cap2] w fun e w' => e = .returned (.int .u64 (M.dotK zs ys zs.length % p : Nat)) ∧ Below w.heap.size w w' := by
  obtain ⟨h3, hp⟩ := M.pos_of (M.validB_isP hv)
  have HC := Lib.hid hcell
  have HC2 := Lib.hid hcell2
  have HW := Lib.hid (M.validB_within hv)
  have HW2 := Lib.hid (M.validB_within hv2)
  have HE := Lib.hid he
  have HA := Lib.hid fun x y wx hx hy => refAdd_any p x y wx (by omega) hp hx hy
  have HM := Lib.hid fun x y wx hx hy => refMul_any p x y wx (by omega) hp hx hy
  clear hcell hcell2 hv hv2 he
  go_enter Try.func67, Try.ntmps67
  go_wp2_with fail
  go_loopw [7, 11] (fun ts ti wr => ∃ k s : Nat, k ≤ zs.length ∧ ti = .int .i64 k ∧ ts = .int .u64 s ∧ s = M.dotK zs ys k % p ∧ Below w.heap.size w wr) (fun _ ti _ => zs.length - (intOf ti).toNat)
  case atStart => exact ⟨0, 0, by omega, rfl, rfl, by simp [M.dotK], Below.refl _ _⟩
  case round =>
    obtain ⟨k, s, hk, rfl, rfl, hs, hbw⟩ := hrel
    have hsl : s < p := by rw [hs]; exact Nat.mod_lt _ (by omega)
    have HSK := Lib.hid hs
    have HB := Lib.hid hbw
    clear hs hbw
    by_cases hlt : k < zs.length
    · have hc1 := (HB.out.cell (p := ⟨b, off + k, none⟩) hb).trans (HC.out k hlt)
      have hc2 := (HB.out.cell (p := ⟨b2, off2 + k, none⟩) hb2).trans (HC2.out k hlt)
      have hx := M.within_mem HW.out hlt
      have hy := M.within_mem HW2.out (show k < ys.length by have := HE.out; omega)
      have hst : (s + zs.getD k 0 * ys.getD k 0 % p) % p = M.dotK zs ys (k + 1) % p := by rw [HSK.out, Nat.mod_add_mod, Nat.add_mod_mod]; rfl
      obtain ⟨x, ex⟩ : ∃ x, x = zs.getD k 0 := ⟨_, rfl⟩
      obtain ⟨y, ey⟩ : ∃ y, y = ys.getD k 0 := ⟨_, rfl⟩
      rw [← ex] at hc1 hx hst
      rw [← ey] at hc2 hy hst
      have hM := fun wx => HM.out x y wx hx hy
      have hml : x * y % p < p := Nat.mod_lt _ (by omega)
      obtain ⟨m, em⟩ : ∃ m, m = x * y % p := ⟨_, rfl⟩
      rw [← em] at hM hst hml
      have hA := fun wx => HA.out s m wx hsl hml
      obtain ⟨z, ez⟩ : ∃ z, z = (s + m) % p := ⟨_, rfl⟩
      rw [← ez] at hA hst
      have HS := Lib.hid hst
      have HA1 := Lib.hid hA
      have HM1 := Lib.hid hM
      have hi1 : (k : Int) < (zs.length : Int) := by omega
      clear hst ex ey em ez hA hM hml hsl hx hy
      go_wp2_with fail
      go_quiet (first | (go_at_call 25; exact Calls.quiet_of_same ((HM1.out _).mono fun e w' ⟨h1, h2⟩ => ⟨h1, h2.symm⟩)) | (go_at_call 24; exact Calls.quiet_of_same ((HA1.out _).mono fun e w' ⟨h1, h2⟩ => ⟨h1, h2.symm⟩)))
      go_wp2_with fail
      go_roundw
      case rel => exact ⟨k + 1, z, by omega, by go_num, rfl, HS.out, below_drewN HB.out _⟩
      case measure => simp [intOf]; omega
    · obtain rfl : k = zs.length := by omega
      go_wp2
      go_ret
      exact ⟨ret1 (by first | rw [HSK.out] | rw [HSK.out, Int.natCast_emod]), HB.out⟩

set_option maxHeartbeats 1000000 in
theorem refDot_none (p cap cap2 : Nat) (a a2 : Option Addr) (w : World) :
    Calls Try.prog 67 #[.int .u64 p, .slice a 0 cap, .slice a2 0 cap2] w fun e w' => e = .returned (.int .u64 (0 : Nat)) ∧ Below w.heap.size w w' := by
  go_enter Try.func67, Try.ntmps67
  go_wp2_with fail
  go_loopw [7, 11] (fun ts ti wr => ti = .int .i64 0 ∧ ts = .int .u64 0 ∧ Below w.heap.size w wr) (fun _ _ _ => 0)
  case atStart => exact ⟨rfl, rfl, Below.refl _ _⟩
  case round =>
    obtain ⟨rfl, rfl, hb⟩ := hrel
    go_wp2
    go_ret
    exact ⟨rfl, hb⟩

end Go.Proofs.Ytgoognipljknjaa
