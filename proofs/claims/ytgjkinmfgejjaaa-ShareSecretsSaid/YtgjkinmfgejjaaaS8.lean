/-
  Layer 4's law: is; the reference's Make.
-/
import Derived.Test.YtgjkinmfgejjaaaRefDraw4
import Derived.Test.YtgjkinmfgejjaaaRef2a
namespace Go.Proofs.Ytgjkinmfgejjaaa
open Go.RowKit
set_option linter.unusedVariables false
set_option maxRecDepth 100000

set_option maxHeartbeats 400000 in
theorem is_good (v v2 : Value) (zs : List Nat) (w : World) (h : Nums w v zs) (h2 : Nums w v2 zs) :
    Calls Try.prog 21 #[v, .int .i64 0, v2, .int .i64 0] w fun e w' => e = .returned (.bool true) ∧ Below w.heap.size w w' := by
  have HS := Lib.hid (same_any v v2 zs w h h2)
  clear h h2
  go_enter Try.func21, Try.ntmps21
  go_wp2_with fail
  refine HS.out.mono ?_
  rintro e w1 ⟨rfl, hb⟩
  have HB := Lib.hid hb
  clear hb
  go_wp2_with fail
  go_ret
  exact ⟨rfl, HB.out⟩
set_option maxHeartbeats 400000 in
theorem is_bad (c : Int) (v2 : Value) (w : World) (hc : c ≠ 0) :
    Calls Try.prog 21 #[.slice none 0 0, .int .i64 c, v2, .int .i64 c] w fun e w' => e = .returned (.bool true) ∧ w = w' := by
  have h1 : (c != 0) = true := by rw [bne_iff_ne]; exact hc
  have h2 : (c == c) = true := by simp
  clear hc
  go_enter Try.func21, Try.ntmps21
  go_wp2_with fail
  go_ret
  exact ⟨rfl, rfl⟩

theorem own1 (w : World) (u : Value) (ty : TypeId) : (w.alloc (.cells #[u] ty)).ownsRow w.heap.size ty 1 (.slice (some ⟨w.heap.size, 0, none⟩) 1 1) 1 [u] :=
  ⟨rfl, .inr ⟨w.heap.size, 1, #[u], rfl, Nat.le_refl _, heap_alloc_new w _, Nat.le_refl _, by unfold maxLen; omega, rfl, rfl⟩⟩

set_option maxHeartbeats 2000000 in
theorem rmake_any (p a d : Nat) (n t : Int) (v : Value) (zs : List Nat) (w : World) (hi : M.isP p = true) (ha : a < p) (hd : d ≤ 1000) (hv : Nums w v zs) :
    Calls Try.prog 22 #[suV p n t, .int .u64 a, .int .i64 d, v] w fun e w' => ∃ v1 v2, e = .returned (.tuple #[v1, v2]) ∧ Nums w' v1 (M.mk p a d zs) ∧ Nums w' v2 (zs.drop d) ∧ Below w.heap.size w w' := by
  obtain ⟨h3, hp⟩ := M.pos_of hi
  have HB := Lib.hid (balloc w (Obj.cells #[Value.int IntKind.u64 p, Value.int IntKind.i64 n, Value.int IntKind.i64 t] 24))
  have HD := Lib.hid fun W (hW : Nums W v zs) => refDraw_any p d v zs W h3 hp (by omega) hW
  have HV := Lib.hid hv
  have HWI := Lib.hid (M.mkL_within ha zs d)
  obtain ⟨A, cap, rfl⟩ := nums_slice' hv
  unfold suV
  clear hv hi
  go_enter Try.func22, Try.ntmps22
  go_wp2_with fail
  refine (HD.out _ (HV.out.below HB.out)).mono ?_
  rintro e w2 ⟨v1, v2, rfl, hn1', hn2', hb2⟩
  have B2 := Lib.hid (bnext HB.out hb2)
  have N1 := Lib.hid hn1'
  have N2 := Lib.hid hn2'
  clear hn1' hn2' hb2
  go_wp2_with (at_builtin; refine wpList_append_nums (by rfl) _ _ (by rfl) w2.heap.size _ 1 _ (by rfl) (own1 w2 _ _) _ (drawn p zs d) (by rfl) (N1.out.below (balloc w2 _)) (by rw [M.drawn_len]; omega) (by simp) ?_)
  intro v' w' hown' hb'
  have hN : Nums w' v' (a :: drawn p zs d) := nums_of_owns (n := 1 + (drawn p zs d).length) (zs := a :: drawn p zs d) hown' (fun x hx => by have := HWI.out; have h := List.all_eq_true.1 this x hx; simp at h; omega) (by simp [M.drawn_len]; omega)
  have HT := Lib.hid (rtrim_any _ _ w' hN)
  have B3 := Lib.hid (bnext B2.out ((balloc w2 (.cells #[.int .u64 (a : Nat)] 22)).trans hb'))
  have R3 := Lib.hid (N2.out.below ((balloc w2 (.cells #[.int .u64 (a : Nat)] 22)).trans hb'))
  obtain ⟨A3, cap3, rfl⟩ := nums_slice' hN
  clear hown' hb' hN
  go_wp2_with fail
  refine HT.out.mono ?_
  rintro e w4 ⟨v4, rfl, hn4, hb4⟩
  have B4 := Lib.hid (bnext B3.out hb4)
  have N4 := Lib.hid hn4
  have R4 := Lib.hid (R3.out.below hb4)
  clear hn4 hb4
  go_wp2_with fail
  go_ret2
  exact ⟨_, _, rfl, N4.out, R4.out, B4.out⟩
end Go.Proofs.Ytgjkinmfgejjaaa
