/-
  The walk of PairLifts: Lift against its definition.
-/
import Derived.Test.YtglehjcohdjhoaaAl6
import Derived.Test.YtglehjcohdjhoaaPp5c
import Derived.Test.YtglehjcohdjhoaaPr7
namespace Go.Proofs.Ytglehjcohdjhoaa
open Go.RowKit
set_option linter.unusedVariables false
set_option maxRecDepth 100000

namespace pairLiftsW
set_option maxHeartbeats 2000000 in
theorem walk (W : World) (p : Nat) (hp : p < 18446744073709551616) (t : Int) (v : Value) (m : List (List Nat)) (h1 : -9223372036854775808 ≤ t) (h2 : t ≤ 9223372036854775807) (hv : Mat W v m) (k : Nat) (vz : Value) (zs : List Nat) (hk : k < 18446744073709551616) (hz : Nums W vz zs) :
    Calls Try.prog 8 #[.int .u64 p, .agg #[.int .i64 t, v], .agg #[.int .u64 k, vz]] W fun e W' => e = .returned (.bool true) ∧ Below W.heap.size W W' := by
  have hud : ∀ b : Bool, undef ≠ Value.bool b := fun b h => by cases h
  have LF := Lib.hid fun (w : World) (b : Below W.heap.size W w) => plift_any p t v m k vz zs w hp h1 h2 hk (hv.below b) (hz.below b)
  have CHK := Lib.hid fun (w : World) (b : Below W.heap.size W w) => rcheck6_one p t v m w hp h1 h2 (hv.below b)
  have LE := Lib.hid fun (T : Nat) (hT : T ≤ 3) (w : World) (b : Below W.heap.size W w) => lift6_any p T k vz zs w hT (hz.below b)
  have RL := Lib.hid fun (w : World) (b : Below W.heap.size W w) (T : Nat) (h3 : 3 ≤ p) (hp : p ≤ 65537) (hT : T ≤ 3) (hm : M.POk p (T + 1) m) (he : M.liftE p T k zs = 0) => rlift6_any p (T + 1) k v vz m zs w h3 hp (by omega) (by omega) (M.liftE_zero he).1 hm (M.liftE_zero he).2.2 (M.liftE_zero he).2.1 (hv.below b) (hz.below b)
  obtain ⟨F, eF⟩ : ∃ F, M.liftF p (M.el m) k zs = F := ⟨_, rfl⟩
  rw [eF] at LF RL
  obtain ⟨A, cap, rfl, _⟩ := mat_view6 hv
  obtain ⟨A2, cap2, rfl⟩ := nums_slice' hz
  have hzl := hz.2.1
  obtain ⟨L, eL⟩ : ∃ L, zs.length = L := ⟨_, rfl⟩
  rw [eL] at LF LE RL hzl ⊢
  clear hv hz eF
  by_cases hc : M.pchk p t m = 0
  · obtain ⟨T, rfl, hT, hip, hok⟩ := M.pchk_zero hc
    obtain ⟨h3, hp5⟩ := M.pos_of hip
    have hlc : M.liftC p T m k zs = M.liftE p T k zs := by unfold M.liftC; rw [if_pos hc, Int.toNat_natCast]
    rw [hlc, Int.toNat_natCast] at LF
    rw [hc] at CHK
    have LE2 := Lib.hid (LE.out T hT)
    have RL2 := Lib.hid fun w b => RL.out w b T h3 hp5 hT hok
    obtain ⟨c, ec⟩ : ∃ c, M.liftE p T k zs = c := ⟨_, rfl⟩
    rw [ec] at LF LE2 RL2
    have h00 : ((0 : Int) == 0) = true := rfl
    have h01 : ((0 : Int) != 0) = false := rfl
    clear LE RL hlc hc hok ec
    by_cases hc0 : c = 0
    · subst hc0
      go_enter Try.func8, Try.ntmps8
      go_wp2_with fail
      refine (LF.out _ (bnext (balloc W _) (balloc _ _))).mono ?_
      rintro e w1 (⟨h, _⟩ | ⟨_, va, rfl, hm, hb⟩)
      case inl => exact absurd rfl h
      have B1 := Lib.hid (bnext (bnext (balloc W _) (balloc _ _)) hb)
      have q0 := (hb.cell (p := ⟨W.heap.size, 0, none⟩) (by simp <;> omega)).trans (show _ = some (.int .i64 (T : Int)) by simp)
      have q1 := (hb.cell (p := ⟨W.heap.size, 1, none⟩) (by simp <;> omega)).trans (show _ = some (.slice A m.length cap) by simp)
      have z0 := (hb.cell (p := ⟨W.heap.size + 1, 0, none⟩) (by simp <;> omega)).trans (show _ = some (.int .u64 (k : Nat)) by simp)
      have z1 := (hb.cell (p := ⟨W.heap.size + 1, 1, none⟩) (by simp <;> omega)).trans (show _ = some (.slice A2 L cap2) by simp)
      have hqs : W.heap.size + 1 < w1.heap.size := by have := hb.size; simp at this; omega
      have HM := Lib.hid hm
      obtain ⟨Av, cv, rfl, _⟩ := mat_view6 hm
      clear hb hm
      go_wp2_with fail
      refine (CHK.out _ B1.out).mono ?_
      rintro e w2 ⟨rfl, hb⟩
      have B2 := Lib.hid (bnext B1.out hb)
      have HM2 := Lib.hid (HM.out.below hb)
      have q0b := (hb.cell (p := ⟨W.heap.size, 0, none⟩) (by simp; omega)).trans q0
      have q1b := (hb.cell (p := ⟨W.heap.size, 1, none⟩) (by simp; omega)).trans q1
      have z0b := (hb.cell (p := ⟨W.heap.size + 1, 0, none⟩) (by simp; omega)).trans z0
      have z1b := (hb.cell (p := ⟨W.heap.size + 1, 1, none⟩) (by simp; omega)).trans z1
      have hqs2 : W.heap.size + 1 < w2.heap.size := by have := hb.size; omega
      clear hb q0 q1 z0 z1
      go_wp2_with fail
      refine (LE2.out _ B2.out).mono ?_
      rintro e w3 ⟨rfl, hb⟩
      have B3 := Lib.hid (bnext B2.out hb)
      have HM3 := Lib.hid (HM2.out.below hb)
      have q0c := (hb.cell (p := ⟨W.heap.size, 0, none⟩) (by simp; omega)).trans q0b
      have q1c := (hb.cell (p := ⟨W.heap.size, 1, none⟩) (by simp; omega)).trans q1b
      have z0c := (hb.cell (p := ⟨W.heap.size + 1, 0, none⟩) (by simp; omega)).trans z0b
      have z1c := (hb.cell (p := ⟨W.heap.size + 1, 1, none⟩) (by simp; omega)).trans z1b
      clear hb q0b q1b z0b z1b
      go_wp2_with fail
      refine (RL2.out _ B3.out trivial).mono ?_
      rintro e w4 ⟨vr, rfl, hr, hb⟩
      have B4 := Lib.hid (bnext B3.out hb)
      have IS := Lib.hid (is6_good _ _ _ _ (by rw [M.tabMM_len]; omega) (HM3.out.below hb) hr)
      obtain ⟨Ar, cr, rfl, _⟩ := mat_view6 hr
      clear hb hr q0c q1c z0c z1c
      go_wp2_with fail
      refine IS.out.mono ?_
      rintro e w5 ⟨rfl, hb⟩
      have B5 := Lib.hid (bnext B4.out hb)
      clear hb
      go_wp2_with fail
      refine (alive6_any _).mono ?_
      rintro e w9 ⟨rfl, hb⟩
      have B9 := Lib.hid (bnext B5.out hb)
      clear hb
      go_wp2_with fail
      go_ret
      exact ⟨rfl, B9.out⟩
    · have hcc : (c == 0) = false := by simpa using hc0
      have hcb : (c != 0) = true := by rw [bne_iff_ne]; exact hc0
      have IS := Lib.hid fun (w : World) => is6_bad c (.slice none 0 0) w hc0 ⟨_, _, _, rfl⟩
      have HC := Lib.hid hc0
      clear hc0
      go_enter Try.func8, Try.ntmps8
      go_wp2_with fail
      refine (LF.out _ (bnext (balloc W _) (balloc _ _))).mono ?_
      rintro e w1 (⟨_, rfl, hb⟩ | ⟨h, _⟩)
      case inr => exact absurd h HC.out
      have B1 := Lib.hid (bnext (bnext (balloc W _) (balloc _ _)) hb)
      have q0 := (hb.cell (p := ⟨W.heap.size, 0, none⟩) (by simp <;> omega)).trans (show _ = some (.int .i64 (T : Int)) by simp)
      have q1 := (hb.cell (p := ⟨W.heap.size, 1, none⟩) (by simp <;> omega)).trans (show _ = some (.slice A m.length cap) by simp)
      have z0 := (hb.cell (p := ⟨W.heap.size + 1, 0, none⟩) (by simp <;> omega)).trans (show _ = some (.int .u64 (k : Nat)) by simp)
      have z1 := (hb.cell (p := ⟨W.heap.size + 1, 1, none⟩) (by simp <;> omega)).trans (show _ = some (.slice A2 L cap2) by simp)
      have hqs : W.heap.size + 1 < w1.heap.size := by have := hb.size; simp at this; omega
      clear hb
      go_wp2_with fail
      refine (CHK.out _ B1.out).mono ?_
      rintro e w2 ⟨rfl, hb⟩
      have B2 := Lib.hid (bnext B1.out hb)
      have q0b := (hb.cell (p := ⟨W.heap.size, 0, none⟩) (by simp; omega)).trans q0
      have q1b := (hb.cell (p := ⟨W.heap.size, 1, none⟩) (by simp; omega)).trans q1
      have z0b := (hb.cell (p := ⟨W.heap.size + 1, 0, none⟩) (by simp; omega)).trans z0
      have z1b := (hb.cell (p := ⟨W.heap.size + 1, 1, none⟩) (by simp; omega)).trans z1
      clear hb q0 q1 z0 z1
      go_wp2_with fail
      refine (LE2.out _ B2.out).mono ?_
      rintro e w3 ⟨rfl, hb⟩
      have B3 := Lib.hid (bnext B2.out hb)
      clear hb q0b q1b z0b z1b
      go_wp2_with fail
      refine (IS.out _).mono ?_
      rintro e w4 ⟨rfl, rfl⟩
      go_wp2_with fail
      refine (alive6_any _).mono ?_
      rintro e w9 ⟨rfl, hb⟩
      have B9 := Lib.hid (bnext B3.out hb)
      clear hb
      go_wp2_with fail
      go_ret
      exact ⟨rfl, B9.out⟩
  · have hlc : M.liftC p t m k zs = M.pchk p t m := by unfold M.liftC; rw [if_neg hc]
    rw [hlc] at LF
    obtain ⟨c, ec⟩ : ∃ c, M.pchk p t m = c := ⟨_, rfl⟩
    rw [ec] at LF CHK hc
    have hcc : (c == 0) = false := by simpa using hc
    have hcb : (c != 0) = true := by rw [bne_iff_ne]; exact hc
    have IS := Lib.hid fun (w : World) => is6_bad c (.slice none 0 0) w hc ⟨_, _, _, rfl⟩
    have HC := Lib.hid hc
    clear hc hlc ec LE RL
    go_enter Try.func8, Try.ntmps8
    go_wp2_with fail
    refine (LF.out _ (bnext (balloc W _) (balloc _ _))).mono ?_
    rintro e w1 (⟨_, rfl, hb⟩ | ⟨h, _⟩)
    case inr => exact absurd h HC.out
    have B1 := Lib.hid (bnext (bnext (balloc W _) (balloc _ _)) hb)
    have q0 := (hb.cell (p := ⟨W.heap.size, 0, none⟩) (by simp <;> omega)).trans (show _ = some (.int .i64 t) by simp)
    have q1 := (hb.cell (p := ⟨W.heap.size, 1, none⟩) (by simp <;> omega)).trans (show _ = some (.slice A m.length cap) by simp)
    have z0 := (hb.cell (p := ⟨W.heap.size + 1, 0, none⟩) (by simp <;> omega)).trans (show _ = some (.int .u64 (k : Nat)) by simp)
    have z1 := (hb.cell (p := ⟨W.heap.size + 1, 1, none⟩) (by simp <;> omega)).trans (show _ = some (.slice A2 L cap2) by simp)
    have hqs : W.heap.size + 1 < w1.heap.size := by have := hb.size; simp at this; omega
    clear hb
    go_wp2_with fail
    refine (CHK.out _ B1.out).mono ?_
    rintro e w2 ⟨rfl, hb⟩
    have B2 := Lib.hid (bnext B1.out hb)
    clear hb q0 q1 z0 z1
    go_wp2_with fail
    refine (IS.out _).mono ?_
    rintro e w4 ⟨rfl, rfl⟩
    go_wp2_with fail
    refine (alive6_any _).mono ?_
    rintro e w9 ⟨rfl, hb⟩
    have B9 := Lib.hid (bnext B2.out hb)
    clear hb
    go_wp2_with fail
    go_ret
    exact ⟨rfl, B9.out⟩
end pairLiftsW
end Go.Proofs.Ytglehjcohdjhoaa
