/-
  The reference's Dot, on slices of whatever length.
-/
import Derived.Test.YtafoonhmfieikaaBackM
import Derived.Test.YtafoonhmfieikaaRef2a
import Derived.Deep.QuietTactic
import Derived.BigQuiet
namespace Go.Proofs.Ytafoonhmfieikaa
open Go.RowKit
set_option linter.unusedVariables false

set_option maxHeartbeats 1000000 in
theorem rdot_any (p : Nat) (v v2 : Value) (zs ys : List Nat) (w : World) (hi : M.isP p = true) (hw : M.within p zs = true) (hw2 : M.within p ys = true) (hl : zs.length ≤ 1000) (he : zs.length = ys.length) (hv : Nums w v zs) (hv2 : Nums w v2 ys) :
    Calls Try.prog 54 #[.int .u64 p, v, v2] w fun e w' => e = .returned (.int .u64 (M.dotK zs ys zs.length % p : Nat)) ∧ Below w.heap.size w w' := by
  obtain ⟨h3, hp⟩ := M.pos_of hi
  obtain ⟨A, cap, rfl, _, _, hC⟩ := nums_view hv
  obtain ⟨A2, cap2, rfl, _, _, hC2⟩ := nums_view hv2
  have HC := Lib.hid hC
  have HC2 := Lib.hid hC2
  have HW := Lib.hid hw
  have HW2 := Lib.hid hw2
  have HE := Lib.hid he
  have HA := Lib.hid fun x y wx hx hy => refAdd_any p x y wx (by omega) hp hx hy
  have HM := Lib.hid fun x y wx hx hy => refMul_any p x y wx (by omega) hp hx hy
  clear hC hC2 hw hw2 hv hv2 he hi
  go_enter Try.func54, Try.ntmps54
  go_wp2_with fail
  go_loopw [7, 11] (fun ts ti wr => ∃ k s : Nat, k ≤ zs.length ∧ ti = .int .i64 k ∧ ts = .int .u64 s ∧ s = M.dotK zs ys k % p ∧ Below w.heap.size w wr) (fun _ ti _ => zs.length - (intOf ti).toNat)
  case atStart => exact ⟨0, 0, by omega, rfl, rfl, by simp [M.dotK], Below.refl _ _⟩
  case round =>
    obtain ⟨k, s, hk, rfl, rfl, hs, hbw⟩ := hrel
    have hsl : s < p := by rw [hs]; exact Nat.mod_lt _ (by omega)
    have HSK := Lib.hid hs
    have HB := Lib.hid hbw
    clear hs hbw
    by_cases hlt : k < zs.length
    · obtain ⟨b, off, rfl, hb, hcell⟩ := HC.out (by omega)
      obtain ⟨b2, off2, rfl, hb2, hcell2⟩ := HC2.out (by have := HE.out; omega)
      have hc1 := (HB.out.cell (p := ⟨b, off + k, none⟩) hb).trans (hcell k hlt)
      have hc2 := (HB.out.cell (p := ⟨b2, off2 + k, none⟩) hb2).trans (hcell2 k (by have := HE.out; omega))
      have hx := M.within_mem HW.out hlt
      have hy := M.within_mem HW2.out (show k < ys.length by have := HE.out; omega)
      have hst : (s + zs.getD k 0 * ys.getD k 0 % p) % p = M.dotK zs ys (k + 1) % p := by rw [HSK.out, Nat.mod_add_mod, Nat.add_mod_mod]; rfl
      obtain ⟨x, ex⟩ : ∃ x, x = zs.getD k 0 := ⟨_, rfl⟩
      obtain ⟨y, ey⟩ : ∃ y, y = ys.getD k 0 := ⟨_, rfl⟩
      rw [← ex] at hc1 hx hst
      rw [← ey] at hc2 hy hst
      have hM := fun wx => HM.out x y wx hx hy
      have hml : x * y % p < p := Nat.mod_lt _ (by omega)
      obtain ⟨m, em⟩ : ∃ m, m = x * y % p := ⟨_, rfl⟩
      rw [← em] at hM hst hml
      have hA := fun wx => HA.out s m wx hsl hml
      obtain ⟨z, ez⟩ : ∃ z, z = (s + m) % p := ⟨_, rfl⟩
      rw [← ez] at hA hst
      have HS := Lib.hid hst
      have HA1 := Lib.hid hA
      have HM1 := Lib.hid hM
      have hi1 : (k : Int) < (zs.length : Int) := by omega
      have hi2 : (k : Int) < (ys.length : Int) := by have := HE.out; omega
      clear hst ex ey em ez hA hM hml hsl hx hy hcell hcell2
      go_wp2_with fail
      go_quiet (first | (go_at_call 53; exact Calls.quiet_of_same ((HM1.out _).mono fun e w' ⟨h1, h2⟩ => ⟨h1, h2.symm⟩)) | (go_at_call 51; exact Calls.quiet_of_same ((HA1.out _).mono fun e w' ⟨h1, h2⟩ => ⟨h1, h2.symm⟩)))
      go_wp2_with fail
      go_roundw
      case rel => exact ⟨k + 1, z, by omega, by go_num, rfl, HS.out, below_drewN HB.out _⟩
      case measure => simp [intOf]; omega
    · obtain rfl : k = zs.length := by omega
      go_wp2
      go_ret
      exact ⟨ret1 (by first | rw [HSK.out] | rw [HSK.out, Int.natCast_emod]), HB.out⟩
end Go.Proofs.Ytafoonhmfieikaa
