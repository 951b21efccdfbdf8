/-
  The walk of TokenNames: IsName and IsReserved against the reference's.
-/
import Derived.Test.YtagdbbikhegoaaaL8
import Derived.Test.YtagdbbikhegoaaaKv
namespace Go.Proofs.Ytagdbbikhegoaaa
open Go.RowKit
set_option linter.unusedVariables false
set_option maxRecDepth 100000
namespace tokenNamesW
theorem words_names (l : List Nat) (h : l ∈ words8.map M.bs) : M.isName l = true := by
  have e : ∀ l ∈ words8.map M.bs, M.isName l = true := by decide
  exact e l h
set_option maxHeartbeats 2000000 in
theorem walk (W : World) (s : ByteArray) (hs : s.size ≤ 140737488351232) :
    Calls Try.prog 5 #[.string s] W fun e w' => e = .returned (.bool true) ∧ Below W.heap.size W w' := by
  have hud : ∀ b : Bool, undef ≠ Value.bool b := fun b h => by cases h
  have N1 := Lib.hid fun w => isName_any s w hs
  have N2 := Lib.hid fun w => risName_any s w hs
  have R1 := Lib.hid fun w => isReserved_any s w hs
  have R2 := Lib.hid fun w => risReserved_any s w
  have AL := Lib.hid fun w => alive_any w
  have HW := Lib.hid (words_names (M.bs s))
  unfold M.wordB at R2
  obtain ⟨n, en⟩ : ∃ n, n = M.isName (M.bs s) := ⟨_, rfl⟩
  obtain ⟨r, er⟩ : ∃ r, r = decide (M.bs s ∈ words8.map M.bs) := ⟨_, rfl⟩
  rw [← en] at N1 N2 HW
  rw [← er] at R1 R2
  have HI := Lib.hid (show r = true → n = true from fun h => HW.out (of_decide_eq_true (er.symm.trans h)))
  clear en er HW
  have B0 := Lib.hid (Below.refl W.heap.size W)
  cases hr : r with
  | true =>
    obtain rfl := HI.out hr
    rw [hr] at R1 R2
    clear hr HI
    go_enter Try.func5, Try.ntmps5
    go_wp2_with fail
    (with_reducible refine (N1.out _).mono ?_)
    rintro e w1 ⟨rfl, hb⟩
    have B1 := Lib.hid (bnext8 B0.out hb)
    clear hb
    go_wp2_with fail
    (with_reducible refine (N2.out _).mono ?_)
    rintro e w' ⟨rfl, rfl⟩
    go_wp2_with fail
    (with_reducible refine (R1.out _).mono ?_)
    rintro e w2 ⟨rfl, hb⟩
    have B2 := Lib.hid (bnext8 B1.out hb)
    clear hb
    go_wp2_with fail
    (with_reducible refine (R2.out _).mono ?_)
    rintro e w3 ⟨rfl, hb⟩
    have B3 := Lib.hid (bnext8 B2.out hb)
    clear hb
    go_wp2_with fail
    (with_reducible refine (R1.out _).mono ?_)
    rintro e w4 ⟨rfl, hb⟩
    have B4 := Lib.hid (bnext8 B3.out hb)
    clear hb
    go_wp2_with fail
    (with_reducible refine (N1.out _).mono ?_)
    rintro e w5 ⟨rfl, hb⟩
    have B5 := Lib.hid (bnext8 B4.out hb)
    clear hb
    go_wp2_with fail
    (with_reducible refine (AL.out _).mono ?_)
    rintro e w6 ⟨rfl, hb⟩
    have B6 := Lib.hid (bnext8 B5.out hb)
    clear hb
    go_wp2_with fail
    go_ret
    exact ⟨rfl, B6.out⟩
  | false =>
    rw [hr] at R1 R2
    clear hr HI
    cases n with
    | true =>
      go_enter Try.func5, Try.ntmps5
      go_wp2_with fail
      (with_reducible refine (N1.out _).mono ?_)
      rintro e w1 ⟨rfl, hb⟩
      have B1 := Lib.hid (bnext8 B0.out hb)
      clear hb
      go_wp2_with fail
      (with_reducible refine (N2.out _).mono ?_)
      rintro e w' ⟨rfl, rfl⟩
      go_wp2_with fail
      (with_reducible refine (R1.out _).mono ?_)
      rintro e w2 ⟨rfl, hb⟩
      have B2 := Lib.hid (bnext8 B1.out hb)
      clear hb
      go_wp2_with fail
      (with_reducible refine (R2.out _).mono ?_)
      rintro e w3 ⟨rfl, hb⟩
      have B3 := Lib.hid (bnext8 B2.out hb)
      clear hb
      go_wp2_with fail
      (with_reducible refine (R1.out _).mono ?_)
      rintro e w4 ⟨rfl, hb⟩
      have B4 := Lib.hid (bnext8 B3.out hb)
      clear hb
      go_wp2_with fail
      (with_reducible refine (AL.out _).mono ?_)
      rintro e w5 ⟨rfl, hb⟩
      have B5 := Lib.hid (bnext8 B4.out hb)
      clear hb
      go_wp2_with fail
      go_ret
      exact ⟨rfl, B5.out⟩
    | false =>
      go_enter Try.func5, Try.ntmps5
      go_wp2_with fail
      (with_reducible refine (N1.out _).mono ?_)
      rintro e w1 ⟨rfl, hb⟩
      have B1 := Lib.hid (bnext8 B0.out hb)
      clear hb
      go_wp2_with fail
      (with_reducible refine (N2.out _).mono ?_)
      rintro e w' ⟨rfl, rfl⟩
      go_wp2_with fail
      (with_reducible refine (R1.out _).mono ?_)
      rintro e w2 ⟨rfl, hb⟩
      have B2 := Lib.hid (bnext8 B1.out hb)
      clear hb
      go_wp2_with fail
      (with_reducible refine (R2.out _).mono ?_)
      rintro e w3 ⟨rfl, hb⟩
      have B3 := Lib.hid (bnext8 B2.out hb)
      clear hb
      go_wp2_with fail
      (with_reducible refine (R1.out _).mono ?_)
      rintro e w4 ⟨rfl, hb⟩
      have B4 := Lib.hid (bnext8 B3.out hb)
      clear hb
      go_wp2_with fail
      (with_reducible refine (AL.out _).mono ?_)
      rintro e w5 ⟨rfl, hb⟩
      have B5 := Lib.hid (bnext8 B4.out hb)
      clear hb
      go_wp2_with fail
      go_ret
      exact ⟨rfl, B5.out⟩
end tokenNamesW
end Go.Proofs.Ytagdbbikhegoaaa
