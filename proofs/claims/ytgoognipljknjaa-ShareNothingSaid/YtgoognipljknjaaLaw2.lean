/-
  The laws' helpers (is, number) and the reference's checks of layer 2.
-/
import Derived.Test.YtgoognipljknjaaP1
import Derived.Laws.OwnMore
namespace Go.Proofs.Ytgoognipljknjaa
open Go.RowKit
set_option linter.unusedVariables false

namespace M
def errW (p : Nat) (f : List Nat) : Int := if 201 < f.length then 3 else if within p f = true then 0 else 2
theorem errW_long {p : Nat} {f : List Nat} (h : 201 < f.length) : 3 = errW p f := by unfold errW; rw [if_pos h]
theorem errW_in {p : Nat} {f : List Nat} (h : ¬ 201 < f.length) : errOf (within p f) = errW p f := by
  unfold errW; rw [if_neg h]; cases within p f <;> rfl
/-- the first error of polynomial arguments -/
def rgts (p : Nat) : List (List Nat) → Int
  | [] => 0
  | f :: t => if errW p f = 0 then rgts p t else errW p f
def rgt (p : Nat) (L : List (List Nat)) : Int := if isP p = true then rgts p L else 2
theorem rgts_take {p : Nat} : ∀ (L : List (List Nat)) (k : Nat), k < L.length → rgts p (L.take k) = 0 → (errW p (L.getD k []) = 0 → rgts p (L.take (k + 1)) = 0) ∧ (errW p (L.getD k []) ≠ 0 → rgts p L = errW p (L.getD k []))
  | [], k, h, _ => by simp at h
  | f :: t, 0, _, _ => by
    simp only [List.getD_cons_zero]
    refine ⟨fun h => by simp [rgts, h], fun h => by simp [rgts, h]⟩
  | f :: t, k + 1, h, h0 => by
    simp only [List.take_succ_cons, rgts] at h0
    by_cases hf : errW p f = 0
    · rw [if_pos hf] at h0
      have := rgts_take t k (by simpa using h) h0
      simp only [List.getD_cons_succ, List.take_succ_cons, rgts, if_pos hf]
      exact this
    · rw [if_neg hf] at h0; exact absurd h0 hf
theorem errW_chk {p : Nat} (h : isP p = true) (f : List Nat) : errW p f = chk p f 201 := by
  unfold errW chk; simp only [h, Bool.true_eq_false, if_false]
theorem chk_p {p : Nat} (h : isP p = false) (f : List Nat) (l : Nat) : chk p f l = 2 := by unfold chk; rw [if_pos h]
theorem rgt_one (p : Nat) (f : List Nat) : rgt p [f] = chk p f 201 := by
  unfold rgt
  cases hi : isP p with
  | false => rw [chk_p hi]; rfl
  | true =>
    rw [← errW_chk hi]
    simp only [rgts, if_true]
    split
    · rename_i h; exact h.symm
    · rfl
theorem rgt_two (p : Nat) (f g : List Nat) : rgt p [f, g] = if chk p f 201 = 0 then chk p g 201 else chk p f 201 := by
  unfold rgt
  cases hi : isP p with
  | false => rw [chk_p hi, if_neg (show ¬ ((2 : Int) = 0) by omega)]; rfl
  | true =>
    rw [← errW_chk hi, ← errW_chk hi]
    simp only [rgts, if_true]
    split
    · split
      · rename_i h; exact h.symm
      · rfl
    · rfl
end M

set_option maxHeartbeats 400000 in
theorem rwithin_any (p : Nat) (v : Value) (zs : List Nat) (w : World) (hv : Nums w v zs) :
    Calls Try.prog 35 #[.int .u64 p, v] w fun e w' => e = .returned (.int .i64 (M.errW p zs)) ∧ w = w' := by
  have HW := Lib.hid (within_any p v zs w hv rfl)
  obtain ⟨A, cap, rfl, hcap, hlen, _⟩ := nums_view hv
  clear hv hcap
  by_cases hL : 201 < zs.length
  · go_enter Try.func35, Try.ntmps35
    go_wp2_with fail
    go_ret
    exact ⟨ret1 (M.errW_long hL), rfl⟩
  · obtain ⟨c, ec⟩ : ∃ c, c = errOf (M.within p zs) := ⟨_, rfl⟩
    rw [← ec] at HW
    have HE := Lib.hid (ec.trans (M.errW_in hL))
    clear ec
    go_enter Try.func35, Try.ntmps35
    go_wp2_with fail
    refine HW.out.mono ?_
    rintro e w' ⟨rfl, rfl⟩
    go_wp2_with fail
    go_ret
    exact ⟨ret1 HE.out, rfl⟩

end Go.Proofs.Ytgoognipljknjaa
