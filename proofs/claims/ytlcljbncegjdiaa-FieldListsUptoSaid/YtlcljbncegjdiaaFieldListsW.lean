/-
  The walk of the law FieldLists.
-/
import Derived.Test.YtlcljbncegjdiaaLists
namespace Go.Proofs.Ytlcljbncegjdiaa.fieldListsW
open Go.RowKit
set_option linter.unusedVariables false

set_option maxHeartbeats 1000000 in
theorem walk_bad (w : World) (p : Nat) (va vb : Value) (xs ys : List Nat) (hp : p < 18446744073709551616) (ha : Nums w va xs) (hv : M.validB p xs = false) :
    Calls Try.prog 5 #[.int .u64 p, va, vb] w fun e w' => e = .returned (.bool true) ∧ Below w.heap.size w w' := by
  have HS := Lib.hid (sum_bad p va xs w hp hv ha)
  have HD := Lib.hid (dot_bad1 p va vb xs w hp hv ha)
  have hR := right_any p va xs w hp ha (c := 2) (by rw [hv]; rfl)
  have HR := Lib.hid hR
  have B0 := Lib.hid (Below.refl w.heap.size w)
  clear hR hv hp ha
  go_enter Try.func5, Try.ntmps5
  go_wp2_with fail
  refine (HS.out).mono ?_
  rintro e w' ⟨rfl, rfl⟩
  go_wp2_with fail
  refine (HD.out).mono ?_
  rintro e w' ⟨rfl, rfl⟩
  go_wp2_with fail
  refine (HR.out).mono ?_
  rintro e w' ⟨rfl, rfl⟩
  go_wp2_with fail
  refine (is_err 2 (by decide) 0 _).mono ?_
  rintro e w' ⟨rfl, rfl⟩
  go_wp2_with fail
  refine (is_err 2 (by decide) 0 _).mono ?_
  rintro e w' ⟨rfl, rfl⟩
  go_wp2_with fail
  refine (alive_any _).mono ?_
  rintro e w1 ⟨rfl, hb1⟩
  have B1 := Lib.hid (bnext B0.out hb1)
  clear hb1 B0
  go_wp2_with fail
  go_ret
  exact ⟨rfl, B1.out⟩

set_option maxHeartbeats 1000000 in
theorem walk_bad2 (w : World) (p : Nat) (va vb : Value) (xs ys : List Nat) (ha : Nums w va xs) (hb : Nums w vb ys) (hla : xs.length ≤ 1048576) (hv : M.validB p xs = true) (hv2 : M.within p ys = false) :
    Calls Try.prog 5 #[.int .u64 p, va, vb] w fun e w' => e = .returned (.bool true) ∧ Below w.heap.size w w' := by
  obtain ⟨h3, hp⟩ := M.pos_of (M.validB_isP hv)
  have HS := Lib.hid (sum_ok p va xs w hv hla ha)
  have HG := Lib.hid (refSum_ok p va xs w hv hla ha)
  have hvb : M.validB p ys = false := by simp [M.validB, hv2]
  have HD := Lib.hid (dot_bad2 p va vb xs ys w (by omega) hv hvb ha hb)
  have HR := Lib.hid (right_any p va xs w (by omega) ha (c := 0) (by rw [hv]; rfl))
  have HW := Lib.hid (within_any p vb ys w hb (c := 2) (by rw [hv2]; rfl))
  have B0 := Lib.hid (Below.refl w.heap.size w)
  obtain ⟨s, es⟩ : ∃ s, s = M.sumK xs xs.length % p := ⟨_, rfl⟩
  rw [← es] at HS HG
  clear es
  clear hv hv2 hvb ha hb hla h3 hp
  go_enter Try.func5, Try.ntmps5
  go_wp2_with fail
  refine (HS.out).mono ?_
  rintro e w' ⟨rfl, rfl⟩
  go_wp2_with fail
  refine (HD.out).mono ?_
  rintro e w' ⟨rfl, rfl⟩
  go_wp2_with fail
  refine (HR.out).mono ?_
  rintro e w' ⟨rfl, rfl⟩
  go_wp2_with fail
  refine (HG.out).mono ?_
  rintro e w' ⟨rfl, rfl⟩
  go_wp2_with fail
  refine (is_ok s _).mono ?_
  rintro e w' ⟨rfl, rfl⟩
  go_wp2_with fail
  refine (HW.out).mono ?_
  rintro e w' ⟨rfl, rfl⟩
  go_wp2_with fail
  refine (is_err 2 (by decide) 0 _).mono ?_
  rintro e w' ⟨rfl, rfl⟩
  go_wp2_with fail
  go_ret
  exact ⟨rfl, B0.out⟩

set_option maxHeartbeats 1000000 in
theorem walk_bad3 (w : World) (p : Nat) (va vb : Value) (xs ys : List Nat) (ha : Nums w va xs) (hb : Nums w vb ys) (hla : xs.length ≤ 1048576) (hv : M.validB p xs = true) (hv2 : M.validB p ys = true) (hne : xs.length ≠ ys.length) :
    Calls Try.prog 5 #[.int .u64 p, va, vb] w fun e w' => e = .returned (.bool true) ∧ Below w.heap.size w w' := by
  obtain ⟨h3, hp⟩ := M.pos_of (M.validB_isP hv)
  have HS := Lib.hid (sum_ok p va xs w hv hla ha)
  have HG := Lib.hid (refSum_ok p va xs w hv hla ha)
  have HD := Lib.hid (dot_bad3 p va vb xs ys w (by omega) hv hv2 ha hb hne)
  have HR := Lib.hid (right_any p va xs w (by omega) ha (c := 0) (by rw [hv]; rfl))
  have HW := Lib.hid (within_any p vb ys w hb (c := 0) (by rw [M.validB_within hv2]; rfl))
  have B0 := Lib.hid (Below.refl w.heap.size w)
  obtain ⟨s, es⟩ : ∃ s, s = M.sumK xs xs.length % p := ⟨_, rfl⟩
  rw [← es] at HS HG
  clear es
  obtain ⟨x, cx, rfl⟩ := nums_slice ha
  obtain ⟨y, cy, rfl⟩ := nums_slice hb
  have hbb : ((xs.length : Int) != (ys.length : Int)) = true := by simp; omega
  clear hv hv2 ha hb hla h3 hp hne
  go_enter Try.func5, Try.ntmps5
  go_wp2_with fail
  refine (HS.out).mono ?_
  rintro e w' ⟨rfl, rfl⟩
  go_wp2_with fail
  refine (HD.out).mono ?_
  rintro e w' ⟨rfl, rfl⟩
  go_wp2_with fail
  refine (HR.out).mono ?_
  rintro e w' ⟨rfl, rfl⟩
  go_wp2_with fail
  refine (HG.out).mono ?_
  rintro e w' ⟨rfl, rfl⟩
  go_wp2_with fail
  refine (is_ok s _).mono ?_
  rintro e w' ⟨rfl, rfl⟩
  go_wp2_with fail
  refine (HW.out).mono ?_
  rintro e w' ⟨rfl, rfl⟩
  go_wp2_with fail
  refine (is_err 2 (by decide) 0 _).mono ?_
  rintro e w' ⟨rfl, rfl⟩
  go_wp2_with fail
  go_ret
  exact ⟨rfl, B0.out⟩

set_option maxHeartbeats 1000000 in
theorem walk_ok (w : World) (p : Nat) (va vb : Value) (xs ys : List Nat) (ha : Nums w va xs) (hb : Nums w vb ys) (hla : xs.length ≤ 1048576) (hv : M.validB p xs = true) (hv2 : M.validB p ys = true) (he : xs.length = ys.length) :
    Calls Try.prog 5 #[.int .u64 p, va, vb] w fun e w' => e = .returned (.bool true) ∧ Below w.heap.size w w' := by
  obtain ⟨h3, hp⟩ := M.pos_of (M.validB_isP hv)
  have HS := Lib.hid (sum_ok p va xs w hv hla ha)
  have HG := Lib.hid (refSum_ok p va xs w hv hla ha)
  have hD : Calls Try.prog 21 #[.int .u64 p, va, vb] w fun e w' => e = .returned (.tuple #[.int .u64 (M.dotK xs ys xs.length % p : Nat), .int .i64 0]) ∧ w = w' := by
    rcases ha.2.2 with ⟨x, cx, rfl, rfl, _⟩ | ⟨b1, o1, c1, rfl, hc1, hb1, hcell1⟩
    · obtain ⟨y, cy, rfl⟩ := nums_slice hb
      have hbs : ys.length = 0 := by simpa using he.symm
      rw [hbs]
      have e : M.dotK [] ys ([] : List Nat).length % p = 0 := by simp [M.dotK]
      rw [e]; exact dot_none p cx cy x y w (M.validB_isP hv)
    · rcases hb.2.2 with ⟨y, cy, rfl, rfl, _⟩ | ⟨b2, o2, c2, rfl, hc2, hb2, hcell2⟩
      · have has : xs.length = 0 := by simpa using he
        have e : M.dotK xs [] xs.length % p = 0 := by rw [has]; simp [M.dotK]
        rw [e, has]; exact dot_none p c1 cy _ y w (M.validB_isP hv)
      · rw [← he] at hb ⊢
        exact dot_cells p b1 o1 c1 b2 o2 c2 xs ys w hv hv2 hla he ha hb hcell1 (fun i hi => hcell2 i (by omega))
  have hG : Calls Try.prog 24 #[.int .u64 p, va, vb] w fun e w' => e = .returned (.int .u64 (M.dotK xs ys xs.length % p : Nat)) ∧ Below w.heap.size w w' := by
    rcases ha.2.2 with ⟨x, cx, rfl, rfl, _⟩ | ⟨b1, o1, c1, rfl, hc1, hb1, hcell1⟩
    · obtain ⟨y, cy, rfl⟩ := nums_slice hb
      have hbs : ys.length = 0 := by simpa using he.symm
      rw [hbs]
      have e : M.dotK [] ys ([] : List Nat).length % p = 0 := by simp [M.dotK]
      rw [e]; exact refDot_none p cx cy x y w
    · rcases hb.2.2 with ⟨y, cy, rfl, rfl, _⟩ | ⟨b2, o2, c2, rfl, hc2, hb2, hcell2⟩
      · have has : xs.length = 0 := by simpa using he
        have e : M.dotK xs [] xs.length % p = 0 := by rw [has]; simp [M.dotK]
        rw [e, has]; exact refDot_none p c1 cy _ y w
      · rw [← he] at hb ⊢
        exact refDot_cells p b1 o1 c1 b2 o2 c2 xs ys w hv hv2 hla he hb1 hb2 hcell1 (fun i hi => hcell2 i (by omega))
  have HD := Lib.hid hD
  have HGD := Lib.hid hG
  have HR := Lib.hid (right_any p va xs w (by omega) ha (c := 0) (by rw [hv]; rfl))
  have HW := Lib.hid (within_any p vb ys w hb (c := 0) (by rw [M.validB_within hv2]; rfl))
  have B0 := Lib.hid (Below.refl w.heap.size w)
  obtain ⟨s, es⟩ : ∃ s, s = M.sumK xs xs.length % p := ⟨_, rfl⟩
  rw [← es] at HS HG
  clear es
  obtain ⟨d, ed⟩ : ∃ d, d = M.dotK xs ys xs.length % p := ⟨_, rfl⟩
  rw [← ed] at HD HGD
  obtain ⟨x, cx, rfl⟩ := nums_slice ha
  obtain ⟨y, cy, rfl⟩ := nums_slice hb
  have hbb : ((xs.length : Int) != (ys.length : Int)) = false := by simp; omega
  clear hv hv2 ha hb hla h3 hp he hD hG ed
  go_enter Try.func5, Try.ntmps5
  go_wp2_with fail
  refine (HS.out).mono ?_
  rintro e w' ⟨rfl, rfl⟩
  go_wp2_with fail
  refine (HD.out).mono ?_
  rintro e w' ⟨rfl, rfl⟩
  go_wp2_with fail
  refine (HR.out).mono ?_
  rintro e w' ⟨rfl, rfl⟩
  go_wp2_with fail
  refine (HG.out).mono ?_
  rintro e w' ⟨rfl, rfl⟩
  go_wp2_with fail
  refine (is_ok s _).mono ?_
  rintro e w' ⟨rfl, rfl⟩
  go_wp2_with fail
  refine (HW.out).mono ?_
  rintro e w' ⟨rfl, rfl⟩
  go_wp2_with fail
  refine (HGD.out).mono ?_
  rintro e w1 ⟨rfl, hb1⟩
  have B1 := Lib.hid (bnext B0.out hb1)
  clear hb1 B0
  go_wp2_with fail
  refine (is_ok d _).mono ?_
  rintro e w' ⟨rfl, rfl⟩
  go_wp2_with fail
  go_ret
  exact ⟨rfl, B1.out⟩

theorem walk (w : World) (p : Nat) (hp : p < 18446744073709551616) (va : Value) (xs : List Nat) (ha : Nums w va xs) (hla : xs.length ≤ 1048576) (vb : Value) (ys : List Nat) (hb : Nums w vb ys) (hlb : ys.length ≤ 1048576) :
    Calls Try.prog 5 #[.int .u64 p, va, vb] w fun e w' => e = .returned (.bool true) ∧ Below w.heap.size w w' := by
  cases hv : M.validB p xs with
  | false => exact walk_bad w p va vb xs ys hp ha hv
  | true =>
    cases hv2 : M.within p ys with
    | false => exact walk_bad2 w p va vb xs ys ha hb hla hv hv2
    | true =>
      have hvb : M.validB p ys = true := by simp [M.validB, hv2, M.validB_isP hv]
      by_cases he : xs.length = ys.length
      · exact walk_ok w p va vb xs ys ha hb hla hv hvb he
      · exact walk_bad3 w p va vb xs ys ha hb hla hv hvb he
end Go.Proofs.Ytlcljbncegjdiaa.fieldListsW
