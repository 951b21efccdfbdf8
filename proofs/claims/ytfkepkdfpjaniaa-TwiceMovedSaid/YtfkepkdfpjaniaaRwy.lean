/-
  The reference of package poly: Away.
-/
import Derived.Test.YtfkepkdfpjaniaaRB
namespace Go.Proofs.Ytfkepkdfpjaniaa
open Go.RowKit
set_option linter.unusedVariables false
set_option maxRecDepth 100000

def M.NoZ (xs : List Nat) : Prop := ∀ x ∈ xs, x ≠ 0
set_option maxHeartbeats 2000000 in
theorem raway_any (p : Nat) (v : Value) (xs : List Nat) (w : World) (hi : M.isP p = true) (hw : M.within p xs = true) (hxl : xs.length ≤ 200) (hnz : M.NoZ xs) (hv : Nums w v xs) :
    Calls Try.prog 44 #[.int .u64 p, v] w fun e w' => ∃ v' f, e = .returned v' ∧ Nums w' v' f ∧ M.AwayK p xs xs.length f ∧ Below w.heap.size w w' := by
  obtain ⟨h3, hp⟩ := M.pos_of hi
  obtain ⟨A, cap, rfl, _, _, hC⟩ := nums_view hv
  have HV := Lib.hid hC
  have HW := Lib.hid hw
  have HI := Lib.hid hi
  have HNZ := Lib.hid hnz
  clear hv hw hi hC hnz
  go_enter Try.func44, Try.ntmps44
  go_wp2_with fail
  have hz0 := Lib.hid (nums1 w 1 (by omega))
  go_loopw [5, 11] (fun t5 ti wr => ∃ (k : Nat) (f : List Nat), k ≤ xs.length ∧ ti = .int .i64 k ∧ Nums wr t5 f ∧ M.AwayK p xs k f ∧ Below w.heap.size w wr) (fun _ ti _ => xs.length - (intOf ti).toNat)
  case atStart => exact ⟨0, [1], by omega, rfl, hz0.out, M.AwayK.start (by omega) _, balloc w _⟩
  case round =>
    obtain ⟨k, f, hk, rfl, hN, hA, hB⟩ := hrel
    have HN := Lib.hid hN
    have HA := Lib.hid hA
    have HB := Lib.hid hB
    clear hN hA hB hz0
    by_cases hlt : k < xs.length
    · obtain ⟨b, off, rfl, hb, hcell⟩ := HV.out (by omega)
      have hc1 := (HB.out.cell (p := ⟨b, off + k, none⟩) hb).trans (hcell k hlt)
      have hx := M.within_mem HW.out hlt
      have hx0 : xs.getD k 0 ≠ 0 := HNZ.out _ (by rw [M.getD_lt hlt]; exact List.getElem_mem hlt)
      have hst := M.AwayK.step HI.out HW.out hlt hx0 HA.out
      have hfl := HA.out.2.2.1
      obtain ⟨x, ex⟩ : ∃ x, x = xs.getD k 0 := ⟨_, rfl⟩
      rw [← ex] at hc1 hx hst
      have s3 := fun W => refInv_any p x W h3 hp hx
      obtain ⟨q, eq⟩ : ∃ q, q = M.pw p x (p - 2) := ⟨_, rfl⟩
      have hql : q < p := by rw [eq]; exact M.pw_lt _ _ (by omega)
      rw [← eq] at s3 hst
      have s1 : ∀ W, Calls Try.prog 73 #[.int .u64 p, .int .u64 0, .int .u64 q] W fun e w' => e = .returned (.int .u64 ((0 + p - q) % p : Nat)) ∧ W = w' := fun W => refSub_any p 0 q W (by omega) hp (by omega) hql
      obtain ⟨a, ea⟩ : ∃ a, a = (0 + p - q) % p := ⟨_, rfl⟩
      have hal : a < p := by rw [ea]; exact Nat.mod_lt _ (by omega)
      rw [← ea] at s1 hst
      have hwl : M.within p [1, a] = true := by unfold M.within; simp; omega
      have m1 := fun W V V2 (h1 : Nums W V f) (h2 : Nums W V2 [1, a]) => rmul_any p V V2 f [1, a] W (by omega) hp HA.out.1 hwl (by omega) (by simp) h1 h2
      have S1 := Lib.hid s1
      have S3 := Lib.hid s3
      have M1 := Lib.hid m1
      have HST := Lib.hid hst
      clear s1 s3 m1 hst hwl ex ea eq hx0 hcell
      go_wp2_with fail
      refine (S3.out _).mono ?_
      rintro e w' ⟨rfl, rfl⟩
      go_wp2_with fail
      refine (S1.out _).mono ?_
      rintro e w' ⟨rfl, rfl⟩
      go_wp2_with fail
      refine (M1.out _ _ _ (HN.out.below (balloc wr _)) (nums2 wr 1 a (by omega) (by omega))).mono ?_
      rintro e w2 ⟨v2, rfl, hn2, hb2⟩
      have HN2 := Lib.hid hn2
      have HB2 := Lib.hid (bnext (bnext HB.out (balloc wr _)) hb2)
      clear hn2 hb2
      go_wp2_with fail
      go_roundw
      case rel => exact ⟨k + 1, _, by omega, by go_num, HN2.out, HST.out, HB2.out⟩
      case measure => simp [intOf]; omega
    · obtain rfl : k = xs.length := by omega
      go_wp2_with fail
      go_ret
      exact ⟨_, f, rfl, HN.out, HA.out, HB.out⟩
end Go.Proofs.Ytfkepkdfpjaniaa
