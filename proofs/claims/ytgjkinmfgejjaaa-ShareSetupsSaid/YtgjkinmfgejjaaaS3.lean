/-
  Package share: Make.
-/
import Derived.Test.YtgjkinmfgejjaaaS2
import Derived.Test.YtgjkinmfgejjaaaCon4
import Derived.Test.YtgjkinmfgejjaaaDraw4
import Derived.Test.YtgjkinmfgejjaaaApi1
namespace Go.Proofs.Ytgjkinmfgejjaaa
open Go.RowKit
set_option linter.unusedVariables false
set_option maxRecDepth 100000

namespace M
/-- the polynomial that Make makes -/
def mk (p a d : Nat) (zs : List Nat) : List Nat := trim (a :: drawn p zs d)
theorem drawn_len (p : Nat) (zs : List Nat) (d : Nat) : (drawn p zs d).length = d := by simp [drawn]
theorem drawn_within {p : Nat} (hp : 0 < p) (zs : List Nat) (d : Nat) : within p (drawn p zs d) = true := by
  simp only [within, drawn, List.all_map, List.all_eq_true, Function.comp, decide_eq_true_eq]
  exact fun i _ => Nat.mod_lt _ hp
theorem mkL_within {p a : Nat} (ha : a < p) (zs : List Nat) (d : Nat) : within p (a :: drawn p zs d) = true := by
  have := drawn_within (p := p) (by omega) zs d
  simp only [within, List.all_cons, Bool.and_eq_true, decide_eq_true_eq] at this ⊢
  exact ⟨ha, this⟩
end M

set_option maxHeartbeats 1000000 in
theorem make_bad (p a : Nat) (n t d : Int) (v : Value) (zs : List Nat) (w : World) (hp : p < 18446744073709551616) (ha : a < 18446744073709551616) (hn1 : -9223372036854775808 ≤ n) (hn2 : n ≤ 9223372036854775807) (ht1 : -9223372036854775808 ≤ t) (ht2 : t ≤ 9223372036854775807) (hd1 : -9223372036854775808 ≤ d) (hd2 : d ≤ 9223372036854775807)
    (hv : Nums w v zs) (h : M.okS p n t = false ∨ p ≤ a ∨ d < 0 ∨ n - 1 < d) :
    Calls Try.prog 20 #[suV p n t, .int .u64 a, .int .i64 d, v] w fun e w' => e = .returned (.tuple #[.slice none 0 0, .slice none 0 0, .int .i64 2]) ∧ Below w.heap.size w w' := by
  have HC := Lib.hid fun W => setup_any p n t W hp hn1 hn2 ht1 ht2
  have HB := Lib.hid (balloc w (Obj.cells #[Value.int IntKind.u64 p, Value.int IntKind.i64 n, Value.int IntKind.i64 t] 24))
  have hud : ∀ b : Bool, undef ≠ Value.bool b := fun b h => by cases h
  obtain ⟨A, cap, rfl⟩ := nums_slice' hv
  unfold suV at HC ⊢
  cases hs : M.okS p n t with
  | false =>
    have e2 : M.errS p n t = 2 := by simp [M.errS, hs]
    rw [e2] at HC
    clear h
    go_enter Try.func20, Try.ntmps20
    go_wp2_with fail
    refine (HC.out _).mono ?_
    rintro e w1 ⟨rfl, hb1⟩
    have B1 := Lib.hid (bnext HB.out hb1)
    clear hb1
    go_wp2_with fail
    go_ret3
    exact ⟨rfl, B1.out⟩
  | true =>
    have e2 : M.errS p n t = 0 := by simp [M.errS, hs]
    rw [e2] at HC
    have h' := h.resolve_left (by simp [hs])
    clear h
    go_enter Try.func20, Try.ntmps20
    go_wp2_with fail
    refine (HC.out _).mono ?_
    rintro e w1 ⟨rfl, hb1⟩
    have B1 := Lib.hid (bnext HB.out hb1)
    have c0 : w1.cell? ⟨w.heap.size, 0, none⟩ = some (.int .u64 p) := by
      refine (hb1.cell (p := ⟨w.heap.size, 0, none⟩) (by simp)).trans (by simp)
    have c1 : w1.cell? ⟨w.heap.size, 1, none⟩ = some (.int .i64 n) := by
      refine (hb1.cell (p := ⟨w.heap.size, 1, none⟩) (by simp)).trans (by simp)
    clear hb1
    by_cases h1 : p ≤ a
    · go_wp2_with fail
      go_ret3
      exact ⟨rfl, B1.out⟩
    by_cases h2 : d < 0
    · go_wp2_with fail
      go_ret3
      exact ⟨rfl, B1.out⟩
    have h3 : n ≤ d := by omega
    go_wp2_with fail
    go_ret3
    exact ⟨rfl, B1.out⟩

set_option maxHeartbeats 1000000 in
theorem make_ok (p a d : Nat) (n t : Int) (v : Value) (zs : List Nat) (w : World) (hok : M.okS p n t = true) (ha : a < p) (hd : (d : Int) < n) (hv : Nums w v zs) :
    Calls Try.prog 20 #[suV p n t, .int .u64 a, .int .i64 d, v] w fun e w' => ∃ v1 v2, e = .returned (.tuple #[v1, v2, .int .i64 0]) ∧ Nums w' v1 (M.mk p a d zs) ∧ Nums w' v2 (zs.drop d) ∧ Below w.heap.size w w' := by
  obtain ⟨hi, hn1, hn2, ht1, ht2, hnp⟩ := M.okS_iff.1 hok
  obtain ⟨h3, hp⟩ := M.pos_of hi
  have hC := fun W => setup_any p n t W (by omega) (by omega) (by omega) (by omega) (by omega)
  rw [← M.errS_ok hok] at hC
  have HC := Lib.hid hC
  have HB := Lib.hid (balloc w (Obj.cells #[Value.int IntKind.u64 p, Value.int IntKind.i64 n, Value.int IntKind.i64 t] 24))
  have HD := Lib.hid fun W (hW : Nums W v zs) => draw_any p d v zs W hi (by omega) hW
  have hud : ∀ b : Bool, undef ≠ Value.bool b := fun b h => by cases h
  have HV := Lib.hid hv
  have HWI := Lib.hid (M.mkL_within ha zs d)
  have HI := Lib.hid hi
  obtain ⟨A, cap, rfl⟩ := nums_slice' hv
  unfold suV at HC ⊢
  clear hC hv hi
  go_enter Try.func20, Try.ntmps20
  go_wp2_with fail
  refine (HC.out _).mono ?_
  rintro e w1 ⟨rfl, hb1⟩
  have B1 := Lib.hid (bnext HB.out hb1)
  have S1 := hb1.size
  have c0 : w1.cell? ⟨w.heap.size, 0, none⟩ = some (.int .u64 p) := by
    refine (hb1.cell (p := ⟨w.heap.size, 0, none⟩) (by simp)).trans (by simp)
  have c1 : w1.cell? ⟨w.heap.size, 1, none⟩ = some (.int .i64 n) := by
    refine (hb1.cell (p := ⟨w.heap.size, 1, none⟩) (by simp)).trans (by simp)
  clear hb1
  go_wp2_with fail
  refine (HD.out _ (HV.out.below B1.out)).mono ?_
  rintro e w2 ⟨v1, v2, rfl, hn1', hn2', hb2⟩
  have B2 := Lib.hid (bnext B1.out hb2)
  have N1 := Lib.hid hn1'
  have N2 := Lib.hid hn2'
  have hsz1 := hb2.size
  have hsz0 : w.heap.size < w1.heap.size := by simp at S1; omega
  have hcell0 : w2.cell? ⟨w.heap.size, 0, none⟩ = some (.int .u64 p) := (hb2.cell (p := ⟨w.heap.size, 0, none⟩) hsz0).trans c0
  have hlt2 : w.heap.size < w2.heap.size := by omega
  obtain ⟨A1, cap1, rfl⟩ := nums_slice' hn1'
  rw [show ((List.range d).map fun i => zs.getD i 0 % p).length = d by simp] at N1 ⊢
  have hW : Below w2.heap.size w2 ((w2.alloc (.cells #[.int .u64 (a : Nat)] 22)).alloc (.cells #[.slice (some ⟨w2.heap.size, 0, none⟩) 1 1, .slice A1 d cap1] 31)).drew := (bnext (balloc w2 _) (balloc _ _)).drew
  have hcon : Calls Try.prog 57 #[.slice (some ⟨w2.heap.size + 1, 0, none⟩) 2 2]
      ((w2.alloc (.cells #[.int .u64 (a : Nat)] 22)).alloc (.cells #[.slice (some ⟨w2.heap.size, 0, none⟩) 1 1, .slice A1 d cap1] 31)).drew fun e w' => ∃ v', e = .returned v' ∧ Nums w' v' (a :: drawn p zs d) ∧ Below w2.heap.size w2 w' := by
    have hn := concat_any (w2.heap.size + 1) (.slice (some ⟨w2.heap.size, 0, none⟩) 1 1) (.slice A1 d cap1) [a] (drawn p zs d) ((w2.alloc (.cells #[.int .u64 (a : Nat)] 22)).alloc (.cells #[.slice (some ⟨w2.heap.size, 0, none⟩) 1 1, .slice A1 d cap1] 31)).drew
      (by simp) (by rw [M.drawn_len]; simp; omega) (((nums1 w2 a (by omega)).below (balloc _ _)).below (Below.refl _ _).drew) (N1.out.below hW) (by
        have := heap_alloc_new (w2.alloc (.cells #[.int .u64 (a : Nat)] 22)) (.cells #[.slice (some ⟨w2.heap.size, 0, none⟩) 1 1, .slice A1 d cap1] 31)
        simpa [World.drew] using this)
    refine hn.mono ?_
    rintro e w' ⟨v', rfl, hN, hB⟩
    exact ⟨v', rfl, hN, bnext hW hB⟩
  have HCON := Lib.hid hcon
  have htr := fun W v' (hv' : Nums W v' (a :: drawn p zs d)) => trim2_ok p v' (a :: drawn p zs d) W hv' (M.chk_of HI.out (by simp [M.drawn_len]; omega) HWI.out)
  have HTR := Lib.hid htr
  clear hn1' hn2' hb2 hsz1 hsz0 c0 c1 hW hcon htr
  go_wp2_with fail
  go_region_with (first
    | (go_at_call 57; refine HCON.out.mono ?_; rintro e w3 ⟨v3, rfl, hn3, hb3⟩; have cp3 : w3.cell? ⟨w.heap.size, 0, none⟩ = some (.int .u64 p) := (hb3.cell (p := ⟨w.heap.size, 0, none⟩) hlt2).trans hcell0; have hlt3 : w.heap.size < w3.heap.size := (by have := hb3.size; omega))
    | (go_at_call 56; refine (HTR.out _ _ (by assumption)).mono ?_; rintro e w4 ⟨v4, rfl, hn4, hb4⟩))
  all_goals
    have B4 := Lib.hid (bnext (bnext B2.out hb3) hb4)
    have N4 := Lib.hid hn4
    have R4 := Lib.hid ((N2.out.below hb3).below hb4)
    clear hn3 hb3 cp3 hlt3 hn4 hb4
    go_wp2_with fail
    go_ret3
    exact ⟨_, _, rfl, N4.out, R4.out, B4.out⟩
end Go.Proofs.Ytgjkinmfgejjaaa
