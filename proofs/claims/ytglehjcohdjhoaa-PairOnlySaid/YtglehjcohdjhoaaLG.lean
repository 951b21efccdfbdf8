/-
  Law2, Api1 (joined).
-/
import Derived.Test.YtglehjcohdjhoaaLD
import Derived.Test.YtglehjcohdjhoaaLF
import Derived.Laws.OwnMore
namespace Go.Proofs.Ytglehjcohdjhoaa
open Go.RowKit
set_option linter.unusedVariables false

namespace M
def errW (p : Nat) (f : List Nat) : Int := if 201 < f.length then 3 else if within p f = true then 0 else 2
theorem errW_long {p : Nat} {f : List Nat} (h : 201 < f.length) : 3 = errW p f := by unfold errW; rw [if_pos h]
theorem errW_in {p : Nat} {f : List Nat} (h : ¬ 201 < f.length) : errOf (within p f) = errW p f := by
  unfold errW; rw [if_neg h]; cases within p f <;> rfl
/-- the first error of polynomial arguments -/
def rgts (p : Nat) : List (List Nat) → Int
  | [] => 0
  | f :: t => if errW p f = 0 then rgts p t else errW p f
def rgt (p : Nat) (L : List (List Nat)) : Int := if isP p = true then rgts p L else 2
theorem rgts_take {p : Nat} : ∀ (L : List (List Nat)) (k : Nat), k < L.length → rgts p (L.take k) = 0 → (errW p (L.getD k []) = 0 → rgts p (L.take (k + 1)) = 0) ∧ (errW p (L.getD k []) ≠ 0 → rgts p L = errW p (L.getD k []))
  | [], k, h, _ => by simp at h
  | f :: t, 0, _, _ => by
    simp only [List.getD_cons_zero]
    refine ⟨fun h => by simp [rgts, h], fun h => by simp [rgts, h]⟩
  | f :: t, k + 1, h, h0 => by
    simp only [List.take_succ_cons, rgts] at h0
    by_cases hf : errW p f = 0
    · rw [if_pos hf] at h0
      have := rgts_take t k (by simpa using h) h0
      simp only [List.getD_cons_succ, List.take_succ_cons, rgts, if_pos hf]
      exact this
    · rw [if_neg hf] at h0; exact absurd h0 hf
theorem errW_chk {p : Nat} (h : isP p = true) (f : List Nat) : errW p f = chk p f 201 := by
  unfold errW chk; simp only [h, Bool.true_eq_false, if_false]
theorem chk_p {p : Nat} (h : isP p = false) (f : List Nat) (l : Nat) : chk p f l = 2 := by unfold chk; rw [if_pos h]
theorem rgt_one (p : Nat) (f : List Nat) : rgt p [f] = chk p f 201 := by
  unfold rgt
  cases hi : isP p with
  | false => rw [chk_p hi]; rfl
  | true =>
    rw [← errW_chk hi]
    simp only [rgts, if_true]
    split
    · rename_i h; exact h.symm
    · rfl
theorem rgt_two (p : Nat) (f g : List Nat) : rgt p [f, g] = if chk p f 201 = 0 then chk p g 201 else chk p f 201 := by
  unfold rgt
  cases hi : isP p with
  | false => rw [chk_p hi, if_neg (show ¬ ((2 : Int) = 0) by omega)]; rfl
  | true =>
    rw [← errW_chk hi, ← errW_chk hi]
    simp only [rgts, if_true]
    split
    · split
      · rename_i h; exact h.symm
      · rfl
    · rfl
end M

set_option maxHeartbeats 400000 in
theorem rwithin_any (p : Nat) (v : Value) (zs : List Nat) (w : World) (hv : Nums w v zs) :
    Calls Try.prog 72 #[.int .u64 p, v] w fun e w' => e = .returned (.int .i64 (M.errW p zs)) ∧ w = w' := by
  have HW := Lib.hid (within_any p v zs w hv rfl)
  obtain ⟨A, cap, rfl, hcap, hlen, _⟩ := nums_view hv
  clear hv hcap
  by_cases hL : 201 < zs.length
  · go_enter Try.func72, Try.ntmps72
    go_wp2_with fail
    go_ret
    exact ⟨ret1 (M.errW_long hL), rfl⟩
  · obtain ⟨c, ec⟩ : ∃ c, c = errOf (M.within p zs) := ⟨_, rfl⟩
    rw [← ec] at HW
    have HE := Lib.hid (ec.trans (M.errW_in hL))
    clear ec
    go_enter Try.func72, Try.ntmps72
    go_wp2_with fail
    refine HW.out.mono ?_
    rintro e w' ⟨rfl, rfl⟩
    go_wp2_with fail
    go_ret
    exact ⟨ret1 HE.out, rfl⟩

end Go.Proofs.Ytglehjcohdjhoaa
namespace Go.Proofs.Ytglehjcohdjhoaa
open Go.RowKit
set_option linter.unusedVariables false

/-- a slice that reads as zs, and no error -/
def Gives2 (w : World) (zs : List Nat) (e : Ending) (w' : World) : Prop := ∃ v', e = .returned (.tuple #[v', .int .i64 0]) ∧ Nums w' v' zs ∧ Below w.heap.size w w'
/-- an error -/
def Fails2 (w : World) (c : Int) (e : Ending) (w' : World) : Prop := e = .returned (.tuple #[.slice none 0 0, .int .i64 c]) ∧ Below w.heap.size w w'

set_option maxHeartbeats 400000 in
theorem onOne_bad (p : Nat) (v op : Value) (f : List Nat) (w : World) (hp : p < 18446744073709551616) (hv : Nums w v f) (h : M.chk p f 201 ≠ 0) :
    Calls Try.prog 88 #[.int .u64 p, v, op] w (Fails2 w (M.chk p f 201)) := by
  have HC := Lib.hid (check_any p v f 201 w hp (by omega) hv)
  obtain ⟨A, cap, rfl⟩ := nums_slice' hv
  have hb : (M.chk p f 201 != 0) = true := by rw [bne_iff_ne]; exact h
  obtain ⟨c, ec⟩ : ∃ c, c = M.chk p f 201 := ⟨_, rfl⟩
  rw [← ec] at HC hb ⊢
  clear ec h hp
  go_enter Try.func88, Try.ntmps88
  go_wp2_with fail
  refine HC.out.mono ?_
  rintro e w1 ⟨rfl, rfl⟩
  go_wp2_with fail
  go_ret2
  exact ⟨rfl, Below.refl _ _⟩

set_option maxHeartbeats 400000 in
theorem onOne_clone (p : Nat) (v : Value) (f R : List Nat) (w : World) (hv : Nums w v f) (h : M.chk p f 201 = 0)
    (hop : ∀ W v', Nums W v' (M.trim f) → Calls Try.prog 84 #[v'] W (Gives W R)) :
    Calls Try.prog 88 #[.int .u64 p, v, .func (.func 84) #[] #[]] w (Gives2 w R) := by
  have hp : p < 18446744073709551616 := by have := M.pos_of (M.chk_ok h).1; omega
  have hc := check_any p v f 201 w hp (by omega) hv
  rw [h] at hc
  have HC := Lib.hid hc
  have HT := Lib.hid (trim_any v f w hv)
  have HOP := Lib.hid hop
  obtain ⟨A, cap, rfl⟩ := nums_slice' hv
  clear hc h hop hp hv
  go_enter Try.func88, Try.ntmps88
  go_wp2_with fail
  refine HC.out.mono ?_
  rintro e w1 ⟨rfl, rfl⟩
  go_wp2_with fail
  refine HT.out.mono ?_
  rintro e w2 ⟨v2, rfl, hn2, hb2⟩
  have HO2 := Lib.hid (HOP.out w2 v2 hn2)
  have B2 := Lib.hid hb2
  clear hn2 hb2
  go_wp2_with fail
  refine HO2.out.mono ?_
  rintro e w3 ⟨v3, rfl, hn3, hb3⟩
  have B3 := Lib.hid (bnext B2.out hb3)
  have N3 := Lib.hid hn3
  clear hn3 hb3
  go_wp2_with fail
  go_ret2
  exact ⟨_, rfl, N3.out, B3.out⟩

/-! ### the calls -/
set_option maxHeartbeats 400000 in
theorem trim2_bad (p : Nat) (v : Value) (f : List Nat) (w : World) (hp : p < 18446744073709551616) (hv : Nums w v f) (h : M.chk p f 201 ≠ 0) :
    Calls Try.prog 62 #[.int .u64 p, v] w (Fails2 w (M.chk p f 201)) := by
  have HC := Lib.hid (onOne_bad p v (.func (.func 84) #[] #[]) f w hp hv h)
  obtain ⟨A, cap, rfl⟩ := nums_slice' hv
  clear h hp hv
  go_enter Try.func62, Try.ntmps62
  go_wp2_with fail
  refine HC.out.mono ?_
  rintro e w1 ⟨rfl, hb⟩
  have HB := Lib.hid hb
  clear hb
  go_wp2_with fail
  go_ret2
  exact ⟨rfl, HB.out⟩
set_option maxHeartbeats 400000 in
theorem trim2_ok (p : Nat) (v : Value) (f : List Nat) (w : World) (hv : Nums w v f) (h : M.chk p f 201 = 0) :
    Calls Try.prog 62 #[.int .u64 p, v] w (Gives2 w (M.trim f)) := by
  have HC := Lib.hid (onOne_clone p v f (M.trim f) w hv h (fun W v' hN => clone_any v' _ W hN))
  obtain ⟨A, cap, rfl⟩ := nums_slice' hv
  clear h hv
  go_enter Try.func62, Try.ntmps62
  go_wp2_with fail
  refine HC.out.mono ?_
  rintro e w1 ⟨v1, rfl, hn, hb⟩
  have HB := Lib.hid hb
  have HN := Lib.hid hn
  clear hb hn
  go_wp2_with fail
  go_ret2
  exact ⟨_, rfl, HN.out, HB.out⟩

set_option maxHeartbeats 400000 in
theorem eval_bad (p x : Nat) (v : Value) (f : List Nat) (w : World) (hp : p < 18446744073709551616) (hv : Nums w v f) (h : M.chk p f 201 ≠ 0) :
    Calls Try.prog 61 #[.int .u64 p, v, .int .u64 x] w fun e w' => e = .returned (.tuple #[.int .u64 0, .int .i64 (M.chk p f 201)]) ∧ w = w' := by
  have HC := Lib.hid (check_any p v f 201 w hp (by omega) hv)
  obtain ⟨A, cap, rfl⟩ := nums_slice' hv
  have hb : (M.chk p f 201 != 0) = true := by rw [bne_iff_ne]; exact h
  obtain ⟨c, ec⟩ : ∃ c, c = M.chk p f 201 := ⟨_, rfl⟩
  rw [← ec] at HC hb ⊢
  clear ec h hp
  go_enter Try.func61, Try.ntmps61
  go_wp2_with fail
  refine HC.out.mono ?_
  rintro e w1 ⟨rfl, rfl⟩
  go_wp2_with fail
  go_ret2
  exact ⟨rfl, rfl⟩
set_option maxHeartbeats 400000 in
theorem eval_arg (p x : Nat) (v : Value) (f : List Nat) (w : World) (hx : x < 18446744073709551616) (hpx : p ≤ x) (hv : Nums w v f) (h : M.chk p f 201 = 0) :
    Calls Try.prog 61 #[.int .u64 p, v, .int .u64 x] w fun e w' => e = .returned (.tuple #[.int .u64 0, .int .i64 2]) ∧ w = w' := by
  have hc := check_any p v f 201 w (by omega) (by omega) hv
  rw [h] at hc
  have HC := Lib.hid hc
  obtain ⟨A, cap, rfl⟩ := nums_slice' hv
  clear hc h
  go_enter Try.func61, Try.ntmps61
  go_wp2_with fail
  refine HC.out.mono ?_
  rintro e w1 ⟨rfl, rfl⟩
  go_wp2_with fail
  go_ret2
  exact ⟨rfl, rfl⟩
set_option maxHeartbeats 400000 in
theorem eval_ok (p x : Nat) (v : Value) (f : List Nat) (w : World) (hx : x < p) (hv : Nums w v f) (h : M.chk p f 201 = 0) :
    Calls Try.prog 61 #[.int .u64 p, v, .int .u64 x] w fun e w' => e = .returned (.tuple #[.int .u64 (M.pev p f x : Nat), .int .i64 0]) ∧ Below w.heap.size w w' := by
  obtain ⟨hi, hl, hw⟩ := M.chk_ok h
  obtain ⟨h3, hp⟩ := M.pos_of hi
  have hc := check_any p v f 201 w (by omega) (by omega) hv
  rw [h] at hc
  have HC := Lib.hid hc
  have HV := Lib.hid (value_any p x v f w (by omega) hp hx hw hv)
  obtain ⟨A, cap, rfl⟩ := nums_slice' hv
  have hb : ¬ p ≤ x := by omega
  clear hc h hi hw
  go_enter Try.func61, Try.ntmps61
  go_wp2_with fail
  refine HC.out.mono ?_
  rintro e w1 ⟨rfl, rfl⟩
  go_wp2_with fail
  refine HV.out.mono ?_
  rintro e w1 ⟨rfl, hb1⟩
  have HB := Lib.hid hb1
  clear hb1
  go_wp2_with fail
  go_ret2
  exact ⟨rfl, HB.out⟩

namespace M
theorem rgt_ok {p : Nat} {f g : List Nat} (h : rgt p [f, g] = 0) : isP p = true ∧ (f.length ≤ 201 ∧ within p f = true) ∧ g.length ≤ 201 ∧ within p g = true := by
  rw [rgt_two] at h
  by_cases h1 : chk p f 201 = 0
  · rw [if_pos h1] at h
    exact ⟨(chk_ok h1).1, (chk_ok h1).2, (chk_ok h).2⟩
  · rw [if_neg h1] at h; exact absurd h h1
end M

end Go.Proofs.Ytglehjcohdjhoaa
