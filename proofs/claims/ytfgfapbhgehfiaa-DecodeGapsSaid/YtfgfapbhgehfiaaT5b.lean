/-
  Layer 5's law: is.
-/
import Derived.Test.YtfgfapbhgehfiaaKp
import Derived.Test.YtfgfapbhgehfiaaR2
import Derived.Outline
namespace Go.Proofs.Ytfgfapbhgehfiaa
open Go.RowKit
set_option linter.unusedVariables false
set_option maxRecDepth 100000

set_option maxHeartbeats 2000000 in
theorem tis_bad (p d q : Nat) (v : Value) (xs ys : List Nat) (w : World) (hok : M.DOk p d xs ys) (hn : d + 1 + 2 * q ≤ xs.length) (hno : ∀ f, ¬ M.Good p d q xs ys f) (hv : Pts w v xs ys) :
    Calls Try.prog 19 #[.agg #[.slice none 0 0, .slice none 0 0, .int .i64 12], .int .u64 p, .int .i64 d, .int .i64 q, v] w fun e w' => e = .returned (.bool true) ∧ Below w.heap.size w w' := by
  have hud : ∀ b : Bool, undef ≠ Value.bool b := fun b h => by cases h
  have HD := Lib.hid fun (W : World) (hW : Pts W v xs ys) => rdecode_any p d q v xs ys W hok hn hW
  have HN := Lib.hid hno
  have HV := Lib.hid hv
  obtain ⟨A, cap, rfl, _⟩ := hv.2.2.2.2
  clear hv hok hn hno
  unfold RDecEnd at HD
  have hB0 := (balloc w (.cells #[.slice none 0 0, .slice none 0 0, .int .i64 12] 36))
  have hK0 := (kept3 w (w.heap.size) (by simp) (.slice none 0 0) (.slice none 0 0) (.int .i64 12) 36)
  obtain ⟨w0, hw0⟩ : ∃ w0, (w.alloc (.cells #[.slice none 0 0, .slice none 0 0, .int .i64 12] 36)) = w0 := ⟨_, rfl⟩
  rw [hw0] at hB0 hK0
  have B0 := Lib.hid hB0
  have K0 := Lib.hid hK0
  clear hB0 hK0
  obtain ⟨d0_0, d0_1, d0_2⟩ := K0.out.c3
  go_enter Try.func19, Try.ntmps19
  go_wp2_with fail
  clear hw0
  have V_0 := Lib.hid (HV.out.below B0.out)
  refine (HD.out _ V_0.out).mono ?_
  rintro e w1 ⟨hb1, ⟨f, v1, hg, _⟩ | ⟨_, rfl⟩⟩
  case inl => exact absurd hg (HN.out f)
  have B1 := Lib.hid (bnext B0.out hb1)
  have K1 := Lib.hid (K0.out.below hb1)
  have V_1 := Lib.hid (V_0.out.below hb1)
  clear hb1  d0_0 d0_1 d0_2
  obtain ⟨d1_0, d1_1, d1_2⟩ := K1.out.c3
  go_wp2_with fail
  refine (tbad_any 12 _).mono ?_
  rintro e w2 ⟨rfl, hb2⟩
  have B2 := Lib.hid (bnext B1.out hb2)
  have K2 := Lib.hid (K1.out.below hb2)
  have V_2 := Lib.hid (V_1.out.below hb2)
  clear hb2  d1_0 d1_1 d1_2
  obtain ⟨d2_0, d2_1, d2_2⟩ := K2.out.c3
  go_wp2_with fail
  go_ret
  exact ⟨rfl, B2.out⟩

set_option maxHeartbeats 4000000 in
theorem tis_ok (p d q : Nat) (v vf vu : Value) (xs ys f : List Nat) (w : World) (hok : M.DOk p d xs ys) (hn : d + 1 + 2 * q ≤ xs.length) (hg : M.Good p d q xs ys f) (hf : Nums w vf f) (hi : Ints w vu (M.offI p f xs ys)) (hv : Pts w v xs ys) :
    Calls Try.prog 19 #[.agg #[vf, vu, .int .i64 0], .int .u64 p, .int .i64 d, .int .i64 q, v] w fun e w' => e = .returned (.bool true) ∧ Below w.heap.size w w' := by
  have hud : ∀ b : Bool, undef ≠ Value.bool b := fun b h => by cases h
  have hp := M.pos_of hok.isp
  have HP := Lib.hid hp
  have HD := Lib.hid fun (W : World) (hW : Pts W v xs ys) => rdecode_any p d q v xs ys W hok hn hW
  have HU := Lib.hid fun g (h : M.Good p d q xs ys g) => M.Good.unique hok.isp hok.nod hok.wx hn hg h
  have HG := Lib.hid hg
  have HV := Lib.hid hv
  have HF := Lib.hid hf
  have HI := Lib.hid hi
  have H64 := Lib.hid hok.len
  have HWX := Lib.hid hok.wx
  have HL := Lib.hid (show (M.offI p f xs ys).length ≤ 1000 from Nat.le_trans (M.offK_len p f xs ys xs.length) (Nat.le_trans hok.len (by omega)))
  obtain ⟨A, cap, rfl, _⟩ := hv.2.2.2.2
  obtain ⟨Af, cf, rfl⟩ := nums_slice' hf
  obtain ⟨Au, cu, rfl⟩ := ints_slice hi
  clear hv hok hn hg hf hi hp
  unfold RDecEnd at HD
  have hB0 := (balloc w (.cells #[.slice Af f.length cf, .slice Au (M.offI p f xs ys).length cu, .int .i64 0] 36))
  have hK0 := (kept3 w (w.heap.size) (by simp) (.slice Af f.length cf) (.slice Au (M.offI p f xs ys).length cu) (.int .i64 0) 36)
  obtain ⟨w0, hw0⟩ : ∃ w0, (w.alloc (.cells #[.slice Af f.length cf, .slice Au (M.offI p f xs ys).length cu, .int .i64 0] 36)) = w0 := ⟨_, rfl⟩
  rw [hw0] at hB0 hK0
  have B0 := Lib.hid hB0
  have K0 := Lib.hid hK0
  clear hB0 hK0
  obtain ⟨d0_0, d0_1, d0_2⟩ := K0.out.c3
  go_enter Try.func19, Try.ntmps19
  go_wp2_with fail
  clear hw0
  have V_0 := Lib.hid (HV.out.below B0.out)
  have F_0 := Lib.hid (HF.out.below B0.out)
  have I_0 := Lib.hid (HI.out.below B0.out)
  refine (HD.out _ V_0.out).mono ?_
  rintro e w1 ⟨hb1, ⟨g, v1, hg, rfl, hG⟩ | ⟨hno, _⟩⟩
  case inr => exact absurd HG.out (hno f)
  obtain rfl := HU.out g hg
  clear hg
  have B1 := Lib.hid (bnext B0.out hb1)
  have K1 := Lib.hid (K0.out.below hb1)
  have V_1 := Lib.hid (V_0.out.below hb1)
  have F_1 := Lib.hid (F_0.out.below hb1)
  have I_1 := Lib.hid (I_0.out.below hb1)
  have G_1 := Lib.hid hG
  clear hb1 hG d0_0 d0_1 d0_2
  obtain ⟨d1_0, d1_1, d1_2⟩ := K1.out.c3
  obtain ⟨Ag, cg, rfl⟩ := nums_slice' G_1.out
  have HOFF := Lib.hid fun (W : World) (a : Nums W (.slice Ag f.length cg) f) (b : Pts W (.slice A xs.length cap) xs ys) => roff_any p _ _ f xs ys W HP.out.1 HP.out.2 HG.out.lt H64.out HWX.out a b
  go_wp2_with fail
  have hK := K1.out
  have hB := B1.out
  go_region_held3 (fun W' => W'.cell? ⟨w.heap.size, 0, none⟩ = some (.slice Af f.length cf) ∧ W'.cell? ⟨w.heap.size, 1, none⟩ = some (.slice Au (M.offI p f xs ys).length cu) ∧ W'.cell? ⟨w.heap.size, 2, none⟩ = some (.int .i64 0))
    (first | exact hK.c3 | go_keep | exact q2.c3 | exact q3.c3 | exact q4.c3)
    (first
      | (go_at_call 27; refine (ints5_any _ _ _ _ HL.out (I3) (hJ)).mono ?_; rintro e w4 ⟨rfl, hb4⟩; have q4 := Kept.below q3 hb4; have r4 := bnext r3 hb4; have V4 := (V3).below hb4; have F4 := (F3).below hb4; have I4 := (I3).below hb4; have G4 := (G3).below hb4; have J4 := (hJ).below hb4)
      | (go_at_call 25; refine (HOFF.out _ (G2) (V2)).mono ?_; rintro e w3 ⟨u3, rfl, ho, hb3⟩; have q3 := Kept.below q2 hb3; have r3 := bnext r2 hb3; have V3 := (V2).below hb3; have F3 := (F2).below hb3; have I3 := (I2).below hb3; have G3 := (G2).below hb3; have hJ := ints_of_owns ho; obtain ⟨Aw, cw, rfl⟩ := ints_slice hJ)
      | (go_at_call 26; refine (same_any _ _ _ _ ((F_1.out).below (Below.refl _ _).drew) ((G_1.out).below (Below.refl _ _).drew)).mono ?_; rintro e w2 ⟨rfl, hb2⟩; have q2 := Kept.below hK (below_of_drew hb2); have r2 := bnext hB (below_of_drew hb2); have V2 := (V_1.out).below (below_of_drew hb2); have F2 := (F_1.out).below (below_of_drew hb2); have I2 := (I_1.out).below (below_of_drew hb2); have G2 := (G_1.out).below (below_of_drew hb2)))
  all_goals
    have B4 := Lib.hid r4
    have K4 := Lib.hid q4
    have V_4 := Lib.hid (V4)
    have F_4 := Lib.hid (F4)
    have I_4 := Lib.hid (I4)
    have G_4 := Lib.hid (G4)
    have J_4 := Lib.hid (J4)
    clear hK hB d1_0 d1_1 d1_2 hb2 q2 r2 hb3 q3 r3 hb4 q4 r4
    obtain ⟨d4_0, d4_1, d4_2⟩ := K4.out.c3
    go_wp2_with fail
    go_ret
    exact ⟨rfl, B4.out⟩
end Go.Proofs.Ytfgfapbhgehfiaa
