/-
  Contracts: Root, the law's own helpers (is, alive), the reference's argument checks and product.
-/
import Derived.Test.YtlcljbncegjdiaaDraw2
namespace Go.Proofs.Ytlcljbncegjdiaa
open Go.RowKit
set_option linter.unusedVariables false

namespace M
def NoRoot (p a r : Nat) : Prop := ∀ s, s < r → s * s % p ≠ a
def rootOf (p a : Nat) : Option Nat := (List.range (p / 2 + 1)).find? fun r => r * r % p == a
theorem rootOf_some {p a r : Nat} (hr : r ≤ p / 2) (h : r * r % p = a) (hn : NoRoot p a r) : rootOf p a = some r := by
  unfold rootOf
  rw [List.find?_range_eq_some]
  refine ⟨by simpa using h, by simp; omega, fun j hj => by have := hn j hj; simpa using this⟩
theorem rootOf_none {p a : Nat} (hn : NoRoot p a (p / 2 + 1)) : rootOf p a = none := by
  unfold rootOf
  rw [List.find?_eq_none]
  intro x hx
  have := hn x (List.mem_range.1 hx)
  simpa using this
theorem rootOf_spec {p a r : Nat} (h : rootOf p a = some r) : r ≤ p / 2 ∧ r * r % p = a := by
  unfold rootOf at h
  rw [List.find?_range_eq_some] at h
  obtain ⟨h1, h2, _⟩ := h
  simp at h1 h2
  exact ⟨by omega, h1⟩
theorem rootOf_no {p a : Nat} (h : rootOf p a = none) : NoRoot p a (p / 2 + 1) := by
  unfold rootOf at h
  rw [List.find?_eq_none] at h
  intro s hs
  have := h s (List.mem_range.2 hs)
  simpa using this
end M

/-- what Root answers -/
def rootVal (o : Option Nat) : Value := match o with
  | some r => .tuple #[.int .u64 (r : Nat), .int .i64 0]
  | none => .tuple #[.int .u64 0, .int .i64 5]

set_option maxHeartbeats 400000 in
theorem root_ok (p a : Nat) (w : World) (hv : M.validB p [a] = true) :
    Calls Try.prog 33 #[.int .u64 p, .int .u64 a] w fun e w' => e = .returned (rootVal (M.rootOf p a)) ∧ Below w.heap.size w w' := by
  obtain ⟨hi, ha⟩ := M.valid1_iff.1 hv
  obtain ⟨h3, hp⟩ := M.pos_of hi
  have HC := Lib.hid (valid1 p a w (by omega) (by omega) hv)
  clear hv hi
  go_enter Try.func33, Try.ntmps33
  go_wp2_with (go_at_call 37; refine HC.out.mono ?_; rintro e w' ⟨rfl, rfl⟩)
  go_loop [6] (fun t => ∃ r : Nat, r ≤ p / 2 + 1 ∧ t = .int .u64 r ∧ M.NoRoot p a r) (fun t => p / 2 + 2 - (intOf t).toNat)
  case atStart => exact ⟨0, by omega, rfl, fun s hs => by omega⟩
  case round =>
    obtain ⟨r, hr, rfl, hno⟩ := hrel
    have HN := Lib.hid hno
    clear hno
    by_cases hlt : r ≤ p / 2
    · obtain ⟨m1, m2⟩ := mul_le hp (show r < p by omega) (show r < p by omega)
      have hle : (r : Int) ≤ (p : Int) / 2 := by omega
      by_cases he : r * r % p = a
      · have hb : (((r : Int) * r % p) == (a : Int)) = true := by
          rw [beq_iff_eq, ← he, Int.natCast_emod, Int.natCast_mul]
        have HE := Lib.hid he
        clear he
        go_wp2
        go_ret2
        exact ⟨by rw [M.rootOf_some hlt HE.out HN.out]; rfl, (Below.refl _ _).alloc (Nat.le_refl _) _⟩
      · have hb : (((r : Int) * r % p) == (a : Int)) = false := by
          rw [beq_eq_false_iff_ne]; intro hc; apply he
          have : ((r * r % p : Nat) : Int) = (a : Int) := by rw [Int.natCast_emod, Int.natCast_mul]; exact hc
          omega
        have HE := Lib.hid he
        clear he
        go_wp2
        go_round
        case rel =>
          refine ⟨r + 1, by omega, by go_num, ?_⟩
          intro s hs
          by_cases hsr : s = r
          · subst hsr; exact HE.out
          · exact HN.out s (by omega)
        case measure => simp [intOf]; omega
    · have hgt : (p : Int) / 2 < (r : Int) := by omega
      obtain rfl : r = p / 2 + 1 := by omega
      go_wp2
      go_ret2
      exact ⟨by rw [M.rootOf_none HN.out]; rfl, (Below.refl _ _).alloc (Nat.le_refl _) _⟩

set_option maxHeartbeats 400000 in
theorem root_bad (p a : Nat) (w : World) (hp : p < 18446744073709551616) (ha : a < 18446744073709551616) (hv : M.validB p [a] = false) :
    Calls Try.prog 33 #[.int .u64 p, .int .u64 a] w fun e w' => e = .returned (.tuple #[.int .u64 0, .int .i64 2]) ∧ Below w.heap.size w w' := by
  have HC := Lib.hid (valid1 p a w hp ha hv)
  clear hv hp ha
  go_enter Try.func33, Try.ntmps33
  go_wp2_with (go_at_call 37; refine HC.out.mono ?_; rintro e w' ⟨rfl, rfl⟩)
  go_ret2
  exact ⟨rfl, (Below.refl _ _).alloc (Nat.le_refl _) _⟩

/-! ### The law's helper 'is' -/
set_option maxHeartbeats 400000 in
theorem is_ok (a : Nat) (w : World) :
    Calls Try.prog 16 #[.int .u64 a, .int .i64 0, .int .u64 a, .int .i64 0] w fun e w' => e = .returned (.bool true) ∧ w = w' := by
  have hb : ((a : Int) == (a : Int)) = true := by simp
  go_enter Try.func16, Try.ntmps16
  go_wp2
  go_ret
  exact ⟨rfl, rfl⟩
set_option maxHeartbeats 400000 in
theorem is_err (c : Int) (hc : c ≠ 0) (x : Int) (w : World) :
    Calls Try.prog 16 #[.int .u64 0, .int .i64 c, .int .u64 x, .int .i64 c] w fun e w' => e = .returned (.bool true) ∧ w = w' := by
  have h1 : (c == c) = true := by simp
  have h2 : (c == 0) = false := by simpa using hc
  have h3 : (c != 0) = true := by simpa using hc
  clear hc
  go_enter Try.func16, Try.ntmps16
  go_wp2
  go_ret
  exact ⟨rfl, rfl⟩

/-! ### The reference's checks -/
theorem nums_open {w : World} {v : Value} {zs : List Nat} (h : Nums w v zs) : ∃ a len cap, v = .slice a len cap := by
  rcases h.2.2 with ⟨a, cap, rfl, _⟩ | ⟨b, off, cap, rfl, _⟩
  · exact ⟨_, _, _, rfl⟩
  · exact ⟨_, _, _, rfl⟩

def errOf (b : Bool) : Int := if b then 0 else 2

set_option maxHeartbeats 400000 in
theorem within_cells (p : Nat) (b off cap : Nat) (zs : List Nat) (w : World) (hl : zs.length ≤ 17592186043904)
    (hcell : ∀ i, i < zs.length → w.cell? ⟨b, off + i, none⟩ = some (.int .u64 (zs.getD i 0))) :
    Calls Try.prog 23 #[.int .u64 p, .slice (some ⟨b, off, none⟩) zs.length cap] w fun e w' => e = .returned (.int .i64 (errOf (M.within p zs))) ∧ w = w' := by
  have HV := Lib.hid hcell
  clear hcell
  go_enter Try.func23, Try.ntmps23
  go_wp2
  go_loop [9] (fun t => ∃ k : Nat, k ≤ zs.length ∧ t = .int .i64 k ∧ M.within p (zs.take k) = true) (fun t => zs.length - (intOf t).toNat)
  case atStart => exact ⟨0, by omega, rfl, by simp [M.within]⟩
  case round =>
    obtain ⟨k, hk, rfl, hw⟩ := hrel
    have HW := Lib.hid hw
    clear hw
    by_cases hlt : k < zs.length
    · have hc := HV.out k hlt
      obtain ⟨x, hx⟩ : ∃ x, x = zs.getD k 0 := ⟨_, rfl⟩
      rw [← hx] at hc
      have HX := Lib.hid hx
      clear hx
      go_wp2
      · have h : p ≤ x := by omega
        go_ret
        exact ⟨ret1 (by rw [M.within_not hlt (by rw [← HX.out]; omega)]; rfl), rfl⟩
      · have h : x < p := by omega
        go_round
        case rel => exact ⟨k + 1, by omega, by go_num, M.within_take hlt HW.out (by rw [← HX.out]; omega)⟩
        case measure => simp [intOf]; omega
    · go_wp2
      go_ret
      have hk' : k = zs.length := by omega
      have h := HW.out
      rw [hk', List.take_length] at h
      exact ⟨ret1 (by rw [h]; rfl), rfl⟩

set_option maxHeartbeats 400000 in
theorem within_nil (p : Nat) (a : Option Addr) (cap : Nat) (w : World) :
    Calls Try.prog 23 #[.int .u64 p, .slice a 0 cap] w fun e w' => e = .returned (.int .i64 0) ∧ w = w' := by
  go_enter Try.func23, Try.ntmps23
  go_wp2
  go_loop [9] (fun t => t = .int .i64 0) (fun _ => 0)
  case atStart => rfl
  case round =>
    obtain rfl := hrel
    go_wp2
    go_ret
    exact ⟨rfl, rfl⟩

theorem within_any (p : Nat) (v : Value) (zs : List Nat) (w : World) (hv : Nums w v zs) {c : Int} (hc : errOf (M.within p zs) = c) :
    Calls Try.prog 23 #[.int .u64 p, v] w fun e w' => e = .returned (.int .i64 c) ∧ w = w' := by
  subst hc
  obtain ⟨_, hl, hv⟩ := hv
  rcases hv with ⟨a, cap, rfl, rfl, _⟩ | ⟨b, off, cap, rfl, _, _, hc⟩
  · exact within_nil p a cap w
  · exact within_cells p b off cap zs w hl hc

set_option maxHeartbeats 400000 in
theorem right_of (p : Nat) (a : Option Addr) (len cap : Nat) (w : World) (hp : p < 18446744073709551616) (hi : M.isP p = true) (c : Int)
    (h : Calls Try.prog 23 #[.int .u64 p, .slice a len cap] w fun e w' => e = .returned (.int .i64 c) ∧ w = w') :
    Calls Try.prog 12 #[.int .u64 p, .slice a len cap] w fun e w' => e = .returned (.int .i64 c) ∧ w = w' := by
  have hc := refIs_any p w hp
  rw [hi] at hc
  have HC := Lib.hid hc
  have HW := Lib.hid h
  clear hc h hp hi
  go_enter Try.func12, Try.ntmps12
  go_wp2_with (first | (go_at_call 10; refine HC.out.mono ?_; rintro e w' ⟨rfl, rfl⟩) | (go_at_call 23; refine HW.out.mono ?_; rintro e w' ⟨rfl, rfl⟩))
  go_ret
  exact ⟨rfl, rfl⟩
set_option maxHeartbeats 400000 in
theorem right_no (p : Nat) (a : Option Addr) (len cap : Nat) (w : World) (hp : p < 18446744073709551616) (hi : M.isP p = false) :
    Calls Try.prog 12 #[.int .u64 p, .slice a len cap] w fun e w' => e = .returned (.int .i64 2) ∧ w = w' := by
  have hc := refIs_any p w hp
  rw [hi] at hc
  have HC := Lib.hid hc
  clear hc hp hi
  go_enter Try.func12, Try.ntmps12
  go_wp2_with (go_at_call 10; refine HC.out.mono ?_; rintro e w' ⟨rfl, rfl⟩)
  go_ret
  exact ⟨rfl, rfl⟩

theorem right_any (p : Nat) (v : Value) (zs : List Nat) (w : World) (hp : p < 18446744073709551616) (hv : Nums w v zs) {c : Int} (hc : errOf (M.validB p zs) = c) :
    Calls Try.prog 12 #[.int .u64 p, v] w fun e w' => e = .returned (.int .i64 c) ∧ w = w' := by
  subst hc
  obtain ⟨a, len, cap, rfl⟩ := nums_open hv
  cases hi : M.isP p with
  | false =>
    have : M.validB p zs = false := by simp [M.validB, hi]
    rw [this]; exact right_no p a len cap w hp hi
  | true =>
    have : M.validB p zs = M.within p zs := by simp [M.validB, hi]
    rw [this]; exact right_of p a len cap w hp hi _ (within_any p _ zs w hv rfl)

theorem right1 (p a : Nat) (w : World) (hp : p < 18446744073709551616) (ha : a < 18446744073709551616) {r : Bool} (hr : M.validB p [a] = r) :
    Calls Try.prog 12 #[.int .u64 p, .slice (some ⟨w.heap.size, 0, none⟩) 1 1] (w.alloc (.cells #[.int .u64 a] 22)) fun e w' => e = .returned (.int .i64 (errOf r)) ∧ w.alloc (.cells #[.int .u64 a] 22) = w' := by
  subst hr; exact right_any p _ _ _ hp (nums1 w a ha) rfl
theorem right2 (p a b : Nat) (w : World) (hp : p < 18446744073709551616) (ha : a < 18446744073709551616) (hb : b < 18446744073709551616) {r : Bool} (hr : M.validB p [a, b] = r) :
    Calls Try.prog 12 #[.int .u64 p, .slice (some ⟨w.heap.size, 0, none⟩) 2 2] (w.alloc (.cells #[.int .u64 a, .int .u64 b] 22)) fun e w' => e = .returned (.int .i64 (errOf r)) ∧ w.alloc (.cells #[.int .u64 a, .int .u64 b] 22) = w' := by
  subst hr; exact right_any p _ _ _ hp (nums2 w a b ha hb) rfl
theorem right3 (p a b c : Nat) (w : World) (hp : p < 18446744073709551616) (ha : a < 18446744073709551616) (hb : b < 18446744073709551616) (hc : c < 18446744073709551616) {r : Bool} (hr : M.validB p [a, b, c] = r) :
    Calls Try.prog 12 #[.int .u64 p, .slice (some ⟨w.heap.size, 0, none⟩) 3 3] (w.alloc (.cells #[.int .u64 a, .int .u64 b, .int .u64 c] 22)) fun e w' => e = .returned (.int .i64 (errOf r)) ∧ w.alloc (.cells #[.int .u64 a, .int .u64 b, .int .u64 c] 22) = w' := by
  subst hr; exact right_any p _ _ _ hp (nums3 w a b c ha hb hc) rfl

set_option maxHeartbeats 400000 in
theorem refMul_any (p a b : Nat) (w : World) (h1 : 1 ≤ p) (hp : p ≤ 65537) (ha : a < p) (hb : b < p) :
    Calls Try.prog 19 #[.int .u64 p, .int .u64 a, .int .u64 b] w fun e w' => e = .returned (.int .u64 (a * b % p : Nat)) ∧ w = w' := by
  obtain ⟨m1, m2⟩ := mul_le hp ha hb
  go_enter Try.func19, Try.ntmps19
  go_wp2
  go_ret
  exact ⟨ret1 (by rw [Int.natCast_emod, Int.natCast_mul]), rfl⟩

/-! ### alive: the chapter's examples -/
set_option maxHeartbeats 1000000 in
theorem alive_any (w : World) : Calls Try.prog 11 #[] w fun e w' => e = .returned (.bool true) ∧ Below w.heap.size w w' := by
  have v73 : M.validB 7 [3] = true := by decide +kernel
  have v72 : M.validB 7 [2] = true := by decide +kernel
  have i7 : M.isP 7 = true := by decide +kernel
  have i9 : M.isP 9 = false := by decide +kernel
  have r2 : M.rootOf 7 2 = some 3 := by decide +kernel
  have r3 : M.rootOf 7 3 = none := by decide +kernel
  have p5 : M.pw 7 3 (7 - 2) = 5 := by decide +kernel
  have cInv := fun wx => inv_ok 7 3 wx v73 (by decide)
  have cR2 := fun wx => root_ok 7 2 wx v72
  have cR3 := fun wx => root_ok 7 3 wx v73
  have cInt := fun wx => int_ok 7 (-1) wx i7 (by decide) (by decide)
  have c7 := fun wx => is_any 7 wx (by decide)
  have c9 := fun wx => is_any 9 wx (by decide)
  rw [p5] at cInv
  rw [r2] at cR2
  rw [r3] at cR3
  rw [i7] at c7
  rw [i9] at c9
  rw [show (-1 : Int) % ((7 : Nat) : Int) = 6 by decide] at cInt
  have HInv := Lib.hid cInv
  have HR2 := Lib.hid cR2
  have HR3 := Lib.hid cR3
  have HInt := Lib.hid cInt
  have H7 := Lib.hid c7
  have H9 := Lib.hid c9
  clear cInv cR2 cR3 cInt c7 c9 v73 v72 i9 r2 r3 p5
  have HI7 := Lib.hid i7
  clear i7
  go_enter Try.func11, Try.ntmps11
  go_wp2_with fail
  refine (HInv.out _).mono ?_
  rintro e w1 ⟨rfl, hb1⟩
  have B1 := Lib.hid hb1
  clear hb1
  go_wp2_with fail
  refine (HR2.out _).mono ?_
  rintro e w2 ⟨rfl, hb2⟩
  have B2 := Lib.hid (B1.out.trans (hb2.mono B1.out.size))
  clear hb2 B1
  unfold rootVal
  go_wp2_with fail
  refine (HR3.out _).mono ?_
  rintro e w3 ⟨rfl, hb3⟩
  have B3 := Lib.hid (B2.out.trans (hb3.mono B2.out.size))
  clear hb3 B2
  unfold rootVal
  go_wp2_with fail
  refine (HInt.out _).mono ?_
  rintro e w4 ⟨rfl, rfl⟩
  go_wp2_with fail
  have hd := draw_any 7 3 _ [9, 1] _ HI7.out (by decide) (nums2 w3 9 1 (by decide) (by decide))
  refine hd.mono ?_
  clear hd
  rintro e w5 ⟨v1, v2, rfl, hv1, hv2, hb5⟩
  obtain ⟨a2, n2, cap2, hs2⟩ := nums_open hv2
  have hn2 : n2 = 0 := by
    have := hv2.2.2
    rw [hs2] at this
    rcases this with ⟨_, _, h, _⟩ | ⟨_, _, _, h, _⟩
    · simp at h; exact h.2.1
    · simp at h; exact h.2.1
  subst hn2
  rw [hs2]
  obtain ⟨a1, n1, cap1, hs1⟩ := nums_open hv1
  rw [hs1] at hv1 ⊢
  have e1 : ((List.range 3).map fun i => [9, 1].getD i 0 % 7) = [2, 1, 0] := by decide
  rw [e1] at hv1
  have B5 := Lib.hid (B3.out.trans (((Below.refl _ _).alloc B3.out.size _).trans (hb5.mono (by simp; have := B3.out.size; omega))))
  have HV := Lib.hid hv1
  clear hv1 hv2 hs1 hs2 hb5 B3 e1
  go_wp2_with fail
  refine (H7.out _).mono ?_
  rintro e w6 ⟨rfl, rfl⟩
  go_wp2_with fail
  refine (H9.out _).mono ?_
  rintro e w6 ⟨rfl, rfl⟩
  go_wp2_with fail
  have hs := same_any _ _ [2, 1, 0] _ (HV.out.below ((Below.refl _ _).alloc (Nat.le_refl _) _)) (nums3 w5 2 1 0 (by decide) (by decide) (by decide))
  refine hs.mono ?_
  clear hs
  rintro e w7 ⟨rfl, hb7⟩
  have B7 := Lib.hid ((B5.out.alloc B5.out.size _).trans (hb7.mono (by simp; have := B5.out.size; omega)))
  clear hb7 B5
  go_wp2_with fail
  go_ret
  exact ⟨rfl, B7.out⟩
end Go.Proofs.Ytlcljbncegjdiaa
