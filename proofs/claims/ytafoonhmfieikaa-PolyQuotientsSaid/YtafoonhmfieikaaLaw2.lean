/-
  The laws' helpers (is, number) and the reference's checks of layer 2.
-/
import Derived.Test.YtafoonhmfieikaaP1
import Derived.Laws.OwnMore
namespace Go.Proofs.Ytafoonhmfieikaa
open Go.RowKit
set_option linter.unusedVariables false

namespace M
def errW (p : Nat) (f : List Nat) : Int := if 201 < f.length then 3 else if within p f = true then 0 else 2
theorem errW_long {p : Nat} {f : List Nat} (h : 201 < f.length) : 3 = errW p f := by unfold errW; rw [if_pos h]
theorem errW_in {p : Nat} {f : List Nat} (h : ¬ 201 < f.length) : errOf (within p f) = errW p f := by
  unfold errW; rw [if_neg h]; cases within p f <;> rfl
/-- the first error of polynomial arguments -/
def rgts (p : Nat) : List (List Nat) → Int
  | [] => 0
  | f :: t => if errW p f = 0 then rgts p t else errW p f
def rgt (p : Nat) (L : List (List Nat)) : Int := if isP p = true then rgts p L else 2
theorem rgts_take {p : Nat} : ∀ (L : List (List Nat)) (k : Nat), k < L.length → rgts p (L.take k) = 0 → (errW p (L.getD k []) = 0 → rgts p (L.take (k + 1)) = 0) ∧ (errW p (L.getD k []) ≠ 0 → rgts p L = errW p (L.getD k []))
  | [], k, h, _ => by simp at h
  | f :: t, 0, _, _ => by
    simp only [List.getD_cons_zero]
    refine ⟨fun h => by simp [rgts, h], fun h => by simp [rgts, h]⟩
  | f :: t, k + 1, h, h0 => by
    simp only [List.take_succ_cons, rgts] at h0
    by_cases hf : errW p f = 0
    · rw [if_pos hf] at h0
      have := rgts_take t k (by simpa using h) h0
      simp only [List.getD_cons_succ, List.take_succ_cons, rgts, if_pos hf]
      exact this
    · rw [if_neg hf] at h0; exact absurd h0 hf
theorem errW_chk {p : Nat} (h : isP p = true) (f : List Nat) : errW p f = chk p f 201 := by
  unfold errW chk; simp only [h, Bool.true_eq_false, if_false]
theorem chk_p {p : Nat} (h : isP p = false) (f : List Nat) (l : Nat) : chk p f l = 2 := by unfold chk; rw [if_pos h]
theorem rgt_one (p : Nat) (f : List Nat) : rgt p [f] = chk p f 201 := by
  unfold rgt
  cases hi : isP p with
  | false => rw [chk_p hi]; rfl
  | true =>
    rw [← errW_chk hi]
    simp only [rgts, if_true]
    split
    · rename_i h; exact h.symm
    · rfl
theorem rgt_two (p : Nat) (f g : List Nat) : rgt p [f, g] = if chk p f 201 = 0 then chk p g 201 else chk p f 201 := by
  unfold rgt
  cases hi : isP p with
  | false => rw [chk_p hi, if_neg (show ¬ ((2 : Int) = 0) by omega)]; rfl
  | true =>
    rw [← errW_chk hi, ← errW_chk hi]
    simp only [rgts, if_true]
    split
    · split
      · rename_i h; exact h.symm
      · rfl
    · rfl
end M

set_option maxHeartbeats 400000 in
theorem rwithin_any (p : Nat) (v : Value) (zs : List Nat) (w : World) (hv : Nums w v zs) :
    Calls Try.prog 56 #[.int .u64 p, v] w fun e w' => e = .returned (.int .i64 (M.errW p zs)) ∧ w = w' := by
  have HW := Lib.hid (within_any p v zs w hv rfl)
  obtain ⟨A, cap, rfl, hcap, hlen, _⟩ := nums_view hv
  clear hv hcap
  by_cases hL : 201 < zs.length
  · go_enter Try.func56, Try.ntmps56
    go_wp2_with fail
    go_ret
    exact ⟨ret1 (M.errW_long hL), rfl⟩
  · obtain ⟨c, ec⟩ : ∃ c, c = errOf (M.within p zs) := ⟨_, rfl⟩
    rw [← ec] at HW
    have HE := Lib.hid (ec.trans (M.errW_in hL))
    clear ec
    go_enter Try.func56, Try.ntmps56
    go_wp2_with fail
    refine HW.out.mono ?_
    rintro e w' ⟨rfl, rfl⟩
    go_wp2_with fail
    go_ret
    exact ⟨ret1 HE.out, rfl⟩

set_option maxHeartbeats 1000000 in
theorem rright_any (p : Nat) (A : Option Addr) (n : Nat) (vs : Nat → Value) (L : List (List Nat)) (w : World) (hp : p < 18446744073709551616) (hn : L.length = n) (hL : n ≤ 1000) (hA : 0 < n → ∃ b, A = some ⟨b, 0, none⟩ ∧ ∀ i, i < n → w.cell? ⟨b, i, none⟩ = some (vs i)) (hv : ∀ i, i < n → Nums w (vs i) (L.getD i [])) :
    Calls Try.prog 16 #[.int .u64 p, .slice A n n] w fun e w' => e = .returned (.int .i64 (M.rgt p L)) ∧ w = w' := by
  have hc := refIs_any p w hp
  have HV := Lib.hid hv
  have HA := Lib.hid hA
  have HLN := Lib.hid hn
  clear hv hA hn
  cases hi : M.isP p with
  | false =>
    rw [hi] at hc
    have HC := Lib.hid hc
    have HI := Lib.hid hi
    clear hi hc hp
    go_enter Try.func16, Try.ntmps16
    go_wp2_with fail
    refine HC.out.mono ?_
    rintro e w' ⟨rfl, rfl⟩
    go_wp2_with fail
    go_ret
    exact ⟨ret1 (by unfold M.rgt; rw [if_neg (by simp [HI.out])]), rfl⟩
  | true =>
    rw [hi] at hc
    have HC := Lib.hid hc
    have HI := Lib.hid hi
    clear hi hc
    go_enter Try.func16, Try.ntmps16
    go_wp2_with fail
    refine HC.out.mono ?_
    rintro e w' ⟨rfl, rfl⟩
    go_wp2_with fail
    go_loop [13] (fun t => ∃ k : Nat, k ≤ n ∧ t = .int .i64 k ∧ M.rgts p (L.take k) = 0) (fun t => n - (intOf t).toNat)
    case atStart => exact ⟨0, by omega, rfl, rfl⟩
    case round =>
      obtain ⟨k, hk, rfl, hr⟩ := hrel
      have HR := Lib.hid hr
      clear hr
      by_cases hlt : k < n
      · obtain ⟨b, rfl, hcell⟩ := HA.out (by omega)
        have hc := hcell k hlt
        have hvk := HV.out k hlt
        have HWI := rwithin_any p (vs k) _ w hvk
        have hst := M.rgts_take (p := p) L k (by have := HLN.out; omega) HR.out
        obtain ⟨A1, n1, cap1, h1⟩ := nums_open hvk
        rw [h1] at hc HWI
        obtain ⟨c, ec⟩ : ∃ c, c = M.errW p (L.getD k []) := ⟨_, rfl⟩
        rw [← ec] at HWI hst
        have HW1 := Lib.hid HWI
        have HS := Lib.hid hst
        clear HWI hst ec hcell hvk h1
        by_cases h0 : c = 0
        · subst h0
          go_wp2_with fail
          refine HW1.out.mono ?_
          rintro e w' ⟨rfl, rfl⟩
          go_wp2_with fail
          go_round
          case rel => exact ⟨k + 1, by omega, by go_num, HS.out.1 (by simp)⟩
          case measure => simp [intOf]; omega
        · have hb : (c != 0) = true := by rw [bne_iff_ne]; exact h0
          have H0 := Lib.hid h0
          clear h0
          go_wp2_with fail
          refine HW1.out.mono ?_
          rintro e w' ⟨rfl, rfl⟩
          go_wp2_with fail
          go_ret
          exact ⟨ret1 (by unfold M.rgt; rw [if_pos HI.out, HS.out.2 H0.out]), rfl⟩
      · obtain rfl : k = n := by omega
        go_wp2_with fail
        go_ret
        refine ⟨ret1 ?_, rfl⟩
        have := HR.out
        rw [← HLN.out, List.take_length] at this
        unfold M.rgt; rw [if_pos HI.out, this]

/-! ### is and number -/
set_option maxHeartbeats 400000 in
theorem is_good (v v2 : Value) (zs : List Nat) (w : World) (h : Nums w v zs) (h2 : Nums w v2 zs) :
    Calls Try.prog 19 #[v, .int .i64 0, v2, .int .i64 0] w fun e w' => e = .returned (.bool true) ∧ Below w.heap.size w w' := by
  have HS := Lib.hid (same_any v v2 zs w h h2)
  clear h h2
  go_enter Try.func19, Try.ntmps19
  go_wp2_with fail
  refine HS.out.mono ?_
  rintro e w1 ⟨rfl, hb⟩
  have HB := Lib.hid hb
  clear hb
  go_wp2_with fail
  go_ret
  exact ⟨rfl, HB.out⟩
set_option maxHeartbeats 400000 in
theorem is_bad (c : Int) (v2 : Value) (w : World) (hc : c ≠ 0) :
    Calls Try.prog 19 #[.slice none 0 0, .int .i64 c, v2, .int .i64 c] w fun e w' => e = .returned (.bool true) ∧ w = w' := by
  have h1 : (c != 0) = true := by rw [bne_iff_ne]; exact hc
  have h2 : (c == c) = true := by simp
  clear hc
  go_enter Try.func19, Try.ntmps19
  go_wp2_with fail
  go_ret
  exact ⟨rfl, rfl⟩
set_option maxHeartbeats 400000 in
theorem number_good (a : Nat) (w : World) :
    Calls Try.prog 20 #[.int .u64 a, .int .i64 0, .int .u64 a, .int .i64 0] w fun e w' => e = .returned (.bool true) ∧ w = w' := by
  have h1 : ((a : Int) == a) = true := by simp
  have hud : ∀ b : Bool, undef ≠ Value.bool b := fun b h => by cases h
  go_enter Try.func20, Try.ntmps20
  go_wp2_with fail
  go_ret
  exact ⟨rfl, rfl⟩
set_option maxHeartbeats 400000 in
theorem number_bad (c : Int) (x : Int) (w : World) (hc : c ≠ 0) :
    Calls Try.prog 20 #[.int .u64 0, .int .i64 c, .int .u64 x, .int .i64 c] w fun e w' => e = .returned (.bool true) ∧ w = w' := by
  have h1 : (c != 0) = true := by rw [bne_iff_ne]; exact hc
  have h2 : (c == c) = true := by simp
  have h3 : (c == 0) = false := by simpa using hc
  have hud : ∀ b : Bool, undef ≠ Value.bool b := fun b h => by cases h
  clear hc
  go_enter Try.func20, Try.ntmps20
  go_wp2_with fail
  go_ret
  exact ⟨rfl, rfl⟩
end Go.Proofs.Ytafoonhmfieikaa
