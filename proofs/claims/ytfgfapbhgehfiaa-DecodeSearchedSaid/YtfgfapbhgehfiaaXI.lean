/-
  Pow3 (joined).
-/
import Derived.Test.YtfgfapbhgehfiaaXH
namespace Go.Proofs.Ytfgfapbhgehfiaa
open Go.RowKit
set_option linter.unusedVariables false

theorem pw_succ (p x k : Nat) : M.pw p x (k + 1) = M.pw p x k * x % p := by
  have e : ∀ y, y % p * x % p = y * x % p := fun y => by rw [Nat.mul_mod, Nat.mod_mod, ← Nat.mul_mod]
  unfold M.pw; rw [e, Nat.pow_succ]

set_option maxHeartbeats 400000 in
theorem isSide_int (n : Int) (w : World) {r : Bool} (hr : decide (1 ≤ n ∧ n ≤ 64) = r) :
    Calls Try.prog 86 #[.int .i64 n] w fun e w' => e = .returned (.bool r) ∧ w = w' := by
  have HR := Lib.hid hr
  clear hr
  by_cases h1 : 1 ≤ n
  · by_cases h2 : n ≤ 64
    · have hb1 : decide (n ≥ 1) = true := by simp; omega
      have hb2 : decide (n ≤ 64) = true := by simp; omega
      go_enter Try.func86, Try.ntmps86
      go_wp2_with fail
      go_ret
      exact ⟨ret_bool (by rw [← HR.out]; simp <;> omega), rfl⟩
    · have hb1 : decide (n ≥ 1) = true := by simp; omega
      have hb2 : decide (n ≤ 64) = false := by simp; omega
      go_enter Try.func86, Try.ntmps86
      go_wp2_with fail
      go_ret
      exact ⟨ret_bool (by rw [← HR.out]; simp <;> omega), rfl⟩
  · have hb1 : decide (n ≥ 1) = false := by simp; omega
    have hud : ∀ b : Bool, undef ≠ Value.bool b := fun b h => by cases h
    go_enter Try.func86, Try.ntmps86
    go_wp2_with fail
    go_ret
    exact ⟨ret_bool (by rw [← HR.out]; simp <;> omega), rfl⟩

set_option maxHeartbeats 1000000 in
theorem powers_any (p x n : Nat) (w : World) (h3 : 3 ≤ p) (hp : p ≤ 65537) (hx : x < p) (hn : n ≤ 64) :
    Calls Try.prog 87 #[.int .u64 p, .int .u64 x, .int .i64 n] w (GivesRow w n (M.pw p x)) := by
  obtain ⟨cs, hmk, hmrow⟩ := make_u64 n (by omega)
  obtain ⟨g, eg⟩ : ∃ g, g = w.heap.size := ⟨_, rfl⟩
  obtain ⟨W0, eW0⟩ : ∃ W0, W0 = w.alloc (.cells cs 22) := ⟨_, rfl⟩
  have hr0 : Row W0 g n (fun i => if i < 0 then M.pw p x i else 0) := by rw [eW0, eg]; exact (hmrow w).congr fun j _ => by rw [if_neg (by omega)]
  have HR0 := Lib.hid hr0
  have HB0 := Lib.hid (show Below w.heap.size w W0 by rw [eW0]; exact balloc w _)
  have EW0 := Lib.hid eW0
  have EG := Lib.hid eg
  have hgs : w.heap.size ≤ g := by omega
  have hone : M.pw p x 0 = 1 := M.pw_zero x (by omega)
  have HONE := Lib.hid hone
  clear hmrow hr0 eW0 eg hone
  go_enter Try.func87, Try.ntmps87
  go_wp2_with fail
  rw [← EW0.out]
  simp only [← EG.out]
  clear hmk
  go_loopw [14, 8] (fun ti tq wr => ∃ k : Nat, k ≤ n ∧ ti = .int .i64 k ∧ tq = .int .u64 (M.pw p x k : Nat) ∧ Row wr g n (fun i => if i < k then M.pw p x i else 0) ∧ Below w.heap.size w wr) (fun ti _ _ => n - (intOf ti).toNat)
  case atStart => exact ⟨0, by omega, rfl, by rw [HONE.out]; rfl, HR0.out, HB0.out⟩
  case round =>
    obtain ⟨k, hk, rfl, rfl, hr, hB⟩ := hrel
    have HR := Lib.hid hr
    have HB := Lib.hid hB
    clear hr hB HR0 HB0
    have hql := M.pw_lt (p := p) x k (by omega)
    have hsq := pw_succ p x k
    by_cases hlt : k < n
    · have hc := HR.out.cell hlt
      have hf := HR.out.free k
      have hs2 := (HR.out.set hlt (M.pw p x k)).congr (F' := fun i => if i < k + 1 then M.pw p x i else 0) (fun i hi => by
        by_cases e : i = k
        · subst e; rw [if_pos rfl, if_pos (by omega)]
        · rw [if_neg e]
          by_cases e2 : i < k
          · rw [if_pos e2, if_pos (by omega)]
          · rw [if_neg e2, if_neg (by omega)])
      obtain ⟨q, eq⟩ : ∃ q, M.pw p x k = q := ⟨_, rfl⟩
      rw [eq] at hql hsq hs2 ⊢
      obtain ⟨m1, m2⟩ := mul_le hp hql hx
      have e1 : (q : Int) * x % p = ((q * x % p : Nat) : Int) := by rw [Int.natCast_emod, Int.natCast_mul]
      have HSQ := Lib.hid hsq
      have HS := Lib.hid hs2
      have E1 := Lib.hid e1
      clear hsq hs2 eq e1
      go_wp2_with fail
      go_roundw
      case rel => exact ⟨k + 1, by omega, by go_num, by rw [HSQ.out, E1.out], HS.out, HB.out.setCell (p := ⟨g, k, none⟩) hgs _⟩
      case measure => simp [intOf]; omega
    · obtain rfl : n = k := by omega
      clear hsq
      go_wp2_with fail
      go_ret
      exact ⟨g, n, rfl, hgs, Nat.le_refl _, HR.out.congr fun j hj => by rw [if_pos hj], HB.out⟩

set_option maxHeartbeats 400000 in
theorem pow_no (p : Nat) (v : Value) (xs : List Nat) (n : Int) (w : World) (hp : p < 18446744073709551616) (hv : Nums w v xs) (h : M.isP p = false) :
    Calls Try.prog 74 #[.int .u64 p, v, .int .i64 n] w fun e w' => e = .returned (.tuple #[.slice none 0 0, .int .i64 2]) ∧ w = w' := by
  have hc := is_any p w hp
  rw [h] at hc
  have HC := Lib.hid hc
  obtain ⟨A, c, rfl⟩ := nums_slice' hv
  clear hc h hv hp
  go_enter Try.func74, Try.ntmps74
  go_wp2_with fail
  refine HC.out.mono ?_
  rintro e w' ⟨rfl, rfl⟩
  go_wp2_with fail
  go_ret2
  exact ⟨rfl, rfl⟩
set_option maxHeartbeats 400000 in
theorem pow_size (p : Nat) (v : Value) (xs : List Nat) (n : Int) (w : World) (hp : p < 18446744073709551616) (hv : Nums w v xs) (h : M.isP p = true) (hs : ¬ ((1 ≤ xs.length ∧ xs.length ≤ 64) ∧ 1 ≤ n ∧ n ≤ 64)) :
    Calls Try.prog 74 #[.int .u64 p, v, .int .i64 n] w fun e w' => e = .returned (.tuple #[.slice none 0 0, .int .i64 3]) ∧ w = w' := by
  have hc := is_any p w hp
  rw [h] at hc
  have HC := Lib.hid hc
  have hud : ∀ b : Bool, undef ≠ Value.bool b := fun b h => by cases h
  have hl := hv.2.1
  obtain ⟨A, c, rfl⟩ := nums_slice' hv
  obtain ⟨L, eL⟩ : ∃ L, xs.length = L := ⟨_, rfl⟩
  rw [eL] at hs hl ⊢
  clear hc h hv hp eL
  by_cases h1 : 1 ≤ L ∧ L ≤ 64
  · have HS := Lib.hid (isSide_any L w (r := true) (by simpa using h1))
    have HS2 := Lib.hid (isSide_int n w (r := false) (by
      rw [decide_eq_false_iff_not]; exact fun h2 => hs ⟨h1, h2⟩))
    clear hs h1
    go_enter Try.func74, Try.ntmps74
    go_wp2_with fail
    refine HC.out.mono ?_
    rintro e w' ⟨rfl, rfl⟩
    go_wp2_with fail
    refine HS.out.mono ?_
    rintro e w' ⟨rfl, rfl⟩
    go_wp2_with fail
    refine HS2.out.mono ?_
    rintro e w' ⟨rfl, rfl⟩
    go_wp2_with fail
    go_ret2
    exact ⟨rfl, rfl⟩
  · have HS := Lib.hid (isSide_any L w (r := false) (by simpa using h1))
    clear hs h1
    go_enter Try.func74, Try.ntmps74
    go_wp2_with fail
    refine HC.out.mono ?_
    rintro e w' ⟨rfl, rfl⟩
    go_wp2_with fail
    refine HS.out.mono ?_
    rintro e w' ⟨rfl, rfl⟩
    go_wp2_with fail
    go_ret2
    exact ⟨rfl, rfl⟩
set_option maxHeartbeats 400000 in
theorem pow_arg (p : Nat) (v : Value) (xs : List Nat) (n : Nat) (w : World) (hp : p < 18446744073709551616) (hv : Nums w v xs) (h : M.isP p = true) (hl : 1 ≤ xs.length ∧ xs.length ≤ 64) (hn : 1 ≤ n ∧ n ≤ 64) (hw : M.within p xs = false) :
    Calls Try.prog 74 #[.int .u64 p, v, .int .i64 n] w fun e w' => e = .returned (.tuple #[.slice none 0 0, .int .i64 2]) ∧ Below w.heap.size w w' := by
  have hc := is_any p w hp
  rw [h] at hc
  have HC := Lib.hid hc
  have hud : ∀ b : Bool, undef ≠ Value.bool b := fun b h => by cases h
  have ha := allBelow_any p v xs w hv
  rw [hw] at ha
  have HA := Lib.hid ha
  obtain ⟨A, c, rfl⟩ := nums_slice' hv
  obtain ⟨L, eL⟩ : ∃ L, xs.length = L := ⟨_, rfl⟩
  rw [eL] at hl HA ⊢
  have HS := Lib.hid (isSide_any L w (r := true) (by simpa using hl))
  have HS2 := Lib.hid (isSide_any n w (r := true) (by simpa using hn))
  clear hc h hv hp eL ha hw hl hn
  go_enter Try.func74, Try.ntmps74
  go_wp2_with fail
  refine HC.out.mono ?_
  rintro e w' ⟨rfl, rfl⟩
  go_wp2_with fail
  refine HS.out.mono ?_
  rintro e w' ⟨rfl, rfl⟩
  go_wp2_with fail
  refine HS2.out.mono ?_
  rintro e w' ⟨rfl, rfl⟩
  go_wp2_with fail
  refine HA.out.mono ?_
  rintro e w1 ⟨rfl, hb⟩
  have HB := Lib.hid hb
  clear hb
  go_wp2_with fail
  go_ret2
  exact ⟨rfl, HB.out⟩

namespace M
/-- the rows of powers -/
def pwF (p : Nat) (xs : List Nat) : Mx := fun i j => pw p (xs.getD i 0) j
def pwL (p : Nat) (xs : List Nat) (n : Nat) : List (List Nat) := tabMM xs.length n (pwF p xs)
end M

set_option maxHeartbeats 2000000 in
theorem pow_ok' (p R n : Nat) (v : Value) (xs : List Nat) (w : World) (hv : Nums w v xs) (h : M.isP p = true) (hl : xs.length = R) (hR : 1 ≤ R ∧ R ≤ 64) (hn : 1 ≤ n ∧ n ≤ 64) (hw : M.within p xs = true) :
    Calls Try.prog 74 #[.int .u64 p, v, .int .i64 n] w fun e w' => ∃ v', e = .returned (.tuple #[v', .int .i64 0]) ∧ Mat w' v' (M.tabMM R n (M.pwF p xs)) ∧ Below w.heap.size w w' := by
  obtain ⟨h3, hp⟩ := M.pos_of h
  have hc := is_any p w (by omega)
  rw [h] at hc
  have HC := Lib.hid hc
  have hud : ∀ b : Bool, undef ≠ Value.bool b := fun b h => by cases h
  have ha := allBelow_any p v xs w hv
  rw [hw] at ha
  have HA := Lib.hid ha
  have HW := Lib.hid hw
  obtain ⟨A, c, rfl, _, _, hce⟩ := nums_view hv
  have HCE := Lib.hid hce
  have HL := Lib.hid hl
  rw [hl] at HA ⊢
  obtain ⟨hR1, hR64⟩ := hR
  obtain ⟨hn1, hn64⟩ := hn
  have HS := Lib.hid (isSide_any R w (r := true) (by simp; omega))
  have HS2 := Lib.hid (isSide_any n w (r := true) (by simp; omega))
  obtain ⟨cs, hcs, hcz, hmk⟩ := make_rows R (by omega)
  have HCS := Lib.hid hcs
  clear hc h hv ha hw hce hl hcs hcz
  go_enter Try.func74, Try.ntmps74
  go_wp2_with fail
  refine HC.out.mono ?_
  rintro e w' ⟨rfl, rfl⟩
  go_wp2_with fail
  refine HS.out.mono ?_
  rintro e w' ⟨rfl, rfl⟩
  go_wp2_with fail
  refine HS2.out.mono ?_
  rintro e w' ⟨rfl, rfl⟩
  go_wp2_with fail
  refine HA.out.mono ?_
  rintro e w3 ⟨rfl, hb⟩
  have HB3 := Lib.hid hb
  clear hb
  go_wp2_with fail
  obtain ⟨Bp, eB⟩ : ∃ Bp, Bp = w3.heap.size := ⟨_, rfl⟩
  obtain ⟨W4, eW4⟩ : ∃ W4, W4 = w3.alloc (.cells cs 31) := ⟨_, rfl⟩
  rw [← eB, ← eW4]
  have hB0 : W4.heap[Bp]? = some (.cells cs 31 (0, 0)) := by rw [eW4, eB]; exact heap_alloc_new w3 _
  have hm0 : MatO W4 w3.heap.size Bp 0 n (fun _ => 0) (fun _ => 0) (M.pwF p xs) := ⟨by omega, ⟨cs, hB0, fun i hi => absurd hi (by omega)⟩, fun i hi => absurd hi (by omega), fun i hi => absurd hi (by omega), fun i j hi => absurd hi (by omega)⟩
  have HM0 := Lib.hid hm0
  have HS0 := Lib.hid (show ∃ cs, W4.heap[Bp]? = some (.cells cs 31 (0, 0)) ∧ cs.size = R from ⟨cs, hB0, HCS.out⟩)
  have HB4 := Lib.hid (show Below w3.heap.size w3 W4 by rw [eW4]; exact balloc w3 _)
  have hbp : w3.heap.size ≤ Bp := by omega
  clear hmk eW4 eB hB0 hm0
  go_loopw [32] (fun ti wr => ∃ k : Nat, k ≤ R ∧ ti = .int .i64 k ∧ (∃ G Cp, MatO wr w3.heap.size Bp k n G Cp (M.pwF p xs)) ∧ (∃ cs, wr.heap[Bp]? = some (.cells cs 31 (0, 0)) ∧ cs.size = R) ∧ Below w3.heap.size w3 wr) (fun ti _ => R - (intOf ti).toNat)
  case atStart => exact ⟨0, by omega, rfl, ⟨_, _, HM0.out⟩, HS0.out, HB4.out⟩
  case round =>
    obtain ⟨k, hk, rfl, ⟨G, Cp, hm⟩, hsz, hW⟩ := hrel
    have HM := Lib.hid hm
    have HSZ := Lib.hid hsz
    have HW4 := Lib.hid hW
    clear hm hsz hW HM0 HS0 HB4
    by_cases hlt : k < R
    · obtain ⟨bx, ox, rfl, hbx, hcell⟩ := HCE.out (by rw [HL.out]; omega)
      have HWw := Lib.hid (bnext HB3.out HW4.out)
      have ck2 := (HWw.out.cell (p := ⟨bx, ox + k, none⟩) hbx).trans (hcell k (by rw [HL.out]; exact hlt))
      have hxl := M.within_mem HW.out (k := k) (by rw [HL.out]; exact hlt)
      obtain ⟨x, ex⟩ : ∃ x, xs.getD k 0 = x := ⟨_, rfl⟩
      rw [ex] at ck2 hxl
      have EX := Lib.hid ex
      have HD := Lib.hid (powers_any p x n wr h3 hp hxl hn64)
      have hBl := HM.out.lt
      have fB := HM.out.free k
      obtain ⟨x0, cB⟩ : ∃ x0, wr.cell? ⟨Bp, k, none⟩ = some x0 := by
        obtain ⟨ds, e1, e2⟩ := HSZ.out
        rw [cell_of_row wr Bp k ds _ (0, 0) e1]
        exact ⟨ds[k]'(by omega), Array.getElem?_eq_getElem _⟩
      clear hcell ex
      go_wp2_with fail
      refine HD.out.mono ?_
      rintro e w5 ⟨g, c, rfl, hg, hcc, hr, hb5⟩
      have cB5 := (hb5.cell (p := ⟨Bp, k, none⟩) hBl).trans cB
      have fB5 := (hb5.frozen (p := ⟨Bp, k, none⟩) hBl).trans fB
      have hm5 := HM.out.below hb5 (Nat.le_refl _)
      have hs5 : ∃ cs, w5.heap[Bp]? = some (.cells cs 31 (0, 0)) ∧ cs.size = R := by
        obtain ⟨ds, e1, e2⟩ := HSZ.out
        exact ⟨ds, (hb5.block Bp hBl).trans e1, e2⟩
      have hpu := hm5.push hs5 hlt (g := g) (c := c) (by have := HW4.out.size; omega) hcc (hr.congr (fun j hj => by unfold M.pwF; rw [EX.out])) (fun i hi => by have := (HM.out.row i hi).lt; omega)
      have HPU := Lib.hid hpu
      have HW5 := Lib.hid (HW4.out.trans (hb5.mono HW4.out.size))
      clear hb5 hr hm5 hs5 hpu cB fB hg
      go_wp2_with fail
      go_roundw
      case rel => exact ⟨k + 1, by omega, by go_num, ⟨_, _, HPU.out.1⟩, HPU.out.2, HW5.out.setCell (p := ⟨Bp, k, none⟩) hbp _⟩
      case measure => simp [intOf]; omega
    · obtain rfl : R = k := by omega
      go_wp2_with fail
      go_ret2
      exact ⟨_, rfl, HM.out.mat (Nat.le_refl _) (by omega) (by omega) (fun i hi j hj => by have := M.pw_lt (p := p) (xs.getD i 0) j (by omega); unfold M.pwF; omega), bnext HB3.out HW4.out⟩

end Go.Proofs.Ytfgfapbhgehfiaa
