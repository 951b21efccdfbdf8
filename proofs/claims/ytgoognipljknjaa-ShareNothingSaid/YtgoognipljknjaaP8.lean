/-
  Package poly: Through.
-/
import Derived.Test.YtgoognipljknjaaP7
import Derived.Deep.RegionHeld3
import Derived.Deep.RegionWith
namespace Go.Proofs.Ytgoognipljknjaa
open Go.RowKit
set_option linter.unusedVariables false

/-- what Through answers where the points are in order -/
def ThruEnd (w : World) (p : Nat) (xs ys : List Nat) (e : Ending) (w' : World) : Prop :=
  Below w.heap.size w w' ∧ ((xs.Nodup ∧ ∃ v f, e = .returned (.tuple #[v, .int .i64 0]) ∧ Nums w' v f ∧ M.Thru p xs ys f) ∨ (¬ xs.Nodup ∧ e = .returned (.tuple #[.slice none 0 0, .int .i64 6])))

set_option maxHeartbeats 1000000 in
theorem through_bad (p : Nat) (v : Value) (xs ys : List Nat) (w : World) (hp : p < 18446744073709551616) (hv : Pts w v xs ys) (h : M.chkP p xs ys ≠ 0) :
    Calls Try.prog 76 #[.int .u64 p, v] w fun e w' => e = .returned (.tuple #[.slice none 0 0, .int .i64 (M.chkP p xs ys)]) ∧ Below w.heap.size w w' := by
  have HC := Lib.hid (checkPoints_any p v xs ys w hp hv)
  obtain ⟨_, _, _, _, A, cap, rfl, _, _⟩ := hv
  have hb : (M.chkP p xs ys != 0) = true := by rw [bne_iff_ne]; exact h
  obtain ⟨c, ec⟩ : ∃ c, c = M.chkP p xs ys := ⟨_, rfl⟩
  rw [← ec] at HC hb ⊢
  clear ec h hp
  go_enter Try.func76, Try.ntmps76
  go_wp2_with fail
  refine HC.out.mono ?_
  rintro e w1 ⟨rfl, hb1⟩
  have B1 := Lib.hid hb1
  clear hb1
  go_wp2_with fail
  go_ret2
  exact ⟨rfl, B1.out⟩

set_option maxHeartbeats 4000000 in
theorem through_any (p : Nat) (v : Value) (xs ys : List Nat) (w : World) (hv : Pts w v xs ys) (h : M.chkP p xs ys = 0) :
    Calls Try.prog 76 #[.int .u64 p, v] w (ThruEnd w p xs ys) := by
  obtain ⟨hi, hl, hwx, hwy⟩ := M.chkP_ok h
  obtain ⟨h3, hp⟩ := M.pos_of hi
  have hck := checkPoints_any p v xs ys w (by omega) hv
  rw [h] at hck
  have HC := Lib.hid hck
  obtain ⟨hyl, _, _, _, A, cap, rfl, _, hcells⟩ := hv
  have HI := Lib.hid hi
  have HWX := Lib.hid hwx
  have HWY := Lib.hid hwy
  have HYL := Lib.hid hyl
  have HV := Lib.hid hcells
  clear h hi hwx hwy hyl hcells hck
  go_enter Try.func76, Try.ntmps76
  go_wp2_with fail
  refine HC.out.mono ?_
  rintro e w1 ⟨rfl, hb1⟩
  have B1 := Lib.hid (hb1.trans (balloc w1 (.cells #[.int .u64 (1 : Nat)] 22) |>.mono hb1.size))
  clear hb1
  go_wp2_with fail
  have hz0 := nums1 w1 1 (by omega)
  go_loopw [7, 8, 22] (fun t7 t8 t wr => ∃ (k : Nat) (f z : List Nat), k ≤ xs.length ∧ t = .int .i64 k ∧ Nums wr t7 f ∧ Nums wr t8 z ∧ M.Newt p xs ys k f ∧ M.Node p xs k z ∧ M.Diff xs k ∧ Below w.heap.size w wr) (fun _ _ t _ => xs.length - (intOf t).toNat)
  case atStart => exact ⟨0, [], [1], by omega, rfl, ⟨by simp, by simp, .inl ⟨none, 0, rfl, rfl, fun _ => rfl⟩⟩, hz0, M.Newt.start _ _ _, M.Node.start (by omega) _, fun i j _ hj => by omega, B1.out⟩
  case round =>
    obtain ⟨k, f, z, hk, rfl, hf, hz, hN, hZ, hD, hB⟩ := hrel
    have HF := Lib.hid hf
    have HZ := Lib.hid hz
    have HN := Lib.hid hN
    have HZN := Lib.hid hZ
    have HD := Lib.hid hD
    have HB := Lib.hid hB
    clear hf hz hN hZ hD hB hz0
    by_cases hlt : k < xs.length
    · obtain ⟨b, off, rfl, hb, hcell⟩ := HV.out (by omega)
      have hc1 := (HB.out.cell (p := ⟨b, off + k * 2, none⟩) hb).trans (hcell k hlt).1
      have hc2 := (HB.out.cell (p := ⟨b, off + k * 2 + 1, none⟩) hb).trans (hcell k hlt).2
      have hx := M.within_mem HWX.out hlt
      have hy := M.within_mem HWY.out (show k < ys.length by have := HYL.out; omega)
      have hnext := fun h0 => M.Newt.step HI.out HWX.out HWY.out HYL.out hlt HN.out HZN.out h0
      have hznext := M.Node.step (by omega) HWX.out hlt HZN.out
      have hdnext := fun h0 => M.Diff.step HI.out HWX.out hlt HZN.out h0 HD.out
      have hdup := fun h0 => M.node_zero HI.out HWX.out hlt HZN.out h0
      obtain ⟨x, ex⟩ : ∃ x, x = xs.getD k 0 := ⟨_, rfl⟩
      obtain ⟨y, ey⟩ : ∃ y, y = ys.getD k 0 := ⟨_, rfl⟩
      rw [← ex] at hc1 hx hnext hznext hdnext hdup
      rw [← ey] at hc2 hy hnext
      have HNX := Lib.hid hnext
      have HZX := Lib.hid hznext
      have HDX := Lib.hid hdnext
      have HDU := Lib.hid hdup
      have hb1 : wr.heap.size ≠ b := by have := HB.out.size; omega
      have hhl := M.pev_lt z x (show 0 < p by omega)
      have hml := M.pev_lt f x (show 0 < p by omega)
      clear ex ey hcell hnext hznext hdnext hdup
      go_wp2_with fail
      refine (value_any p x _ z _ (by omega) hp hx HZN.out.1 (HZ.out.below (balloc wr (.cells #[.int .u64 x, .int .u64 y] 86)))).mono ?_
      rintro e w2 ⟨rfl, hb2⟩
      have cx : w2.cell? ⟨wr.heap.size, 0, none⟩ = some (.int .u64 x) := (hb2.cell (p := ⟨wr.heap.size, 0, none⟩) (by simp)).trans (by simp)
      have cy : w2.cell? ⟨wr.heap.size, 1, none⟩ = some (.int .u64 y) := (hb2.cell (p := ⟨wr.heap.size, 1, none⟩) (by simp)).trans (by simp)
      have B2 := Lib.hid (bnext (balloc wr (.cells #[.int .u64 x, .int .u64 y] 86)) hb2)
      obtain ⟨h, eh⟩ : ∃ h, h = M.pev p z x := ⟨_, rfl⟩
      rw [← eh] at hhl HNX HDX HDU ⊢
      clear hb2 eh
      by_cases h0 : h = 0
      · subst h0
        go_wp2_with fail
        go_ret2
        exact ⟨bnext HB.out B2.out, .inr ⟨HDU.out (by simp), rfl⟩⟩
      · have hbz : ((h : Int) == 0) = false := by rw [beq_eq_false_iff_ne]; omega
        have H0 := Lib.hid h0
        clear h0
        go_wp2_with fail
        have HF2 := Lib.hid (HF.out.below B2.out)
        obtain ⟨m, em⟩ : ∃ m, m = M.pev p f x := ⟨_, rfl⟩
        have hval := fun W (hW : Nums W u7 f) => value_any p x u7 f W (by omega) hp hx HN.out.1 hW
        rw [← em] at hml hval
        have HVAL := Lib.hid hval
        have HEM := Lib.hid em
        clear em hval
        have a1 : IntKind.u64.wrap ((y : Int) + p) = (y : Int) + p := by rw [IntKind.wrap_u64]; omega
        have a2 : IntKind.u64.wrap ((y : Int) + p - m) = (y : Int) + p - m := by rw [IntKind.wrap_u64]; omega
        go_region_with (first | (go_at_call 113; refine (HVAL.out _ ?_).mono ?_; exact HF2.out; rintro e w3 ⟨rfl, hb3⟩; have cx3 : w3.cell? ⟨wr.heap.size, 0, none⟩ = some (.int .u64 x) := (hb3.cell (p := ⟨wr.heap.size, 0, none⟩) (World.block_lt_of_cell? w2 _ cx)).trans cx; have cy3 : w3.cell? ⟨wr.heap.size, 1, none⟩ = some (.int .u64 y) := (hb3.cell (p := ⟨wr.heap.size, 1, none⟩) (World.block_lt_of_cell? w2 _ cy)).trans cy; have hz3 : w2.heap.size ≤ w3.heap.size := hb3.size))
        all_goals
          have B2d : Below wr.heap.size wr w2.drew := ⟨B2.out.os, B2.out.tape, B2.out.output, B2.out.size, B2.out.block⟩
          have B3 := Lib.hid (bnext B2d hb3)
          clear B2d
          obtain ⟨d, ed⟩ : ∃ d, d = (y + p - m) % p := ⟨_, rfl⟩
          have ed' : ((y : Int) + p - m) % p = (d : Nat) := by rw [ed, Int.natCast_emod, Int.natCast_sub (by omega), Int.natCast_add]
          have hdl : d < p := by rw [ed]; exact Nat.mod_lt _ (by omega)
          obtain ⟨q, eq⟩ : ∃ q, q = M.pw p h (p - 2) := ⟨_, rfl⟩
          have hql : q < p := by rw [eq]; exact M.pw_lt _ _ (by omega)
          have hpin := fun W => pinv_any p h W (M.valid1_iff.2 ⟨HI.out, hhl⟩) H0.out
          have hnx := HNX.out H0.out
          rw [← eq] at hpin hnx
          rw [← HEM.out, ← ed] at hnx
          obtain ⟨c, ec⟩ : ∃ c, c = d * q % p := ⟨_, rfl⟩
          have ec' : (d : Int) * q % p = (c : Nat) := by rw [ec, Int.natCast_emod, Int.natCast_mul]
          have hcl : c < p := by rw [ec]; exact Nat.mod_lt _ (by omega)
          rw [← ec] at hnx
          obtain ⟨m1, m2⟩ := mul_le hp hdl hql
          have HPIN := Lib.hid hpin
          have HNX2 := Lib.hid hnx
          have HEC := Lib.hid ec'
          rw [ed']
          clear hb3 ed ed' eq hpin hnx ec ec' a1 a2
          go_wp2_with fail
          refine (HPIN.out _).mono ?_
          rintro e w4 ⟨rfl, hb4⟩
          have cx4 : w4.cell? ⟨wr.heap.size, 0, none⟩ = some (.int .u64 x) := (hb4.cell (p := ⟨wr.heap.size, 0, none⟩) (World.block_lt_of_cell? w3 _ cx3)).trans cx3
          have B4 := Lib.hid (bnext B3.out hb4)
          clear hb4 cx3 cy3 cx cy
          go_wp2_with fail
          rw [HEC.out]
          have hfl := HN.out.2.2.1
          have hzl := HZN.out.2.1
          have HZL := Lib.hid hzl
          refine (plus_any p c _ _ f z _ (by omega) hp hcl HN.out.1 HZN.out.1 (by omega) (by omega) (HF.out.below B4.out) (HZ.out.below B4.out)).mono ?_
          rintro e w5 ⟨v5, rfl, hn5, hb5⟩
          have cx5 : w5.cell? ⟨wr.heap.size, 0, none⟩ = some (.int .u64 x) := (hb5.cell (p := ⟨wr.heap.size, 0, none⟩) (World.block_lt_of_cell? w4 _ cx4)).trans cx4
          have B5 := Lib.hid (bnext B4.out hb5)
          have HN5 := Lib.hid hn5
          clear hb5 cx4 hn5 hzl
          go_wp2_with fail
          refine (linear_any p x w5 hp hx).mono ?_
          rintro e w6 ⟨rfl, rfl⟩
          have hlr : (p - x) % p < p := Nat.mod_lt _ (by omega)
          have hn6 := nums2 w5 ((p - x) % p) 1 (by omega) (by omega)
          have B6 := Lib.hid (bnext B5.out (balloc w5 (.cells #[.int .u64 ((p - x) % p : Nat), .int .u64 (1 : Nat)] 22)))
          have hwl : M.within p [(p - x) % p, 1] = true := by unfold M.within; simp; omega
          have HN56 := Lib.hid (HN5.out.below (balloc w5 (.cells #[.int .u64 ((p - x) % p : Nat), .int .u64 (1 : Nat)] 22)))
          have hpr := fun W (hW : Nums W (.slice (some ⟨w5.heap.size, 0, none⟩) 2 2) [(p - x) % p, 1]) (hW2 : Nums W u8 z) => product_any p u8 _ z [(p - x) % p, 1] W (by omega) hp HZN.out.1 hwl (by have := HZL.out; omega) (by simp) hW2 hW
          have HPR := Lib.hid hpr
          have H6 := Lib.hid hn6
          clear hpr hn6 hwl hlr
          go_wp2_with fail
          refine (HPR.out _ H6.out (HZ.out.below B6.out)).mono ?_
          rintro e w7 ⟨v7, rfl, hn7, hb7⟩
          have HN7 := Lib.hid hn7
          have HN57 := Lib.hid (HN56.out.below hb7)
          have B7 := Lib.hid (bnext B6.out hb7)
          clear hb7 hn7
          go_wp2_with fail
          go_roundw
          case rel => exact ⟨k + 1, _, _, by omega, by go_num, HN57.out, HN7.out, HNX2.out, HZX.out, HDX.out H0.out, bnext HB.out B7.out⟩
          case measure => simp [intOf]; omega
    · obtain rfl : k = xs.length := by omega
      go_wp2_with fail
      go_ret2
      exact ⟨HB.out, .inl ⟨HD.out.nodup, _, f, rfl, HF.out, HN.out⟩⟩
end Go.Proofs.Ytgoognipljknjaa
