/-
  Law2, Api1 (joined).
-/
import Derived.Test.YtfkepkdfpjaniaaLD
import Derived.Test.YtfkepkdfpjaniaaLF
import Derived.Laws.OwnMore
namespace Go.Proofs.Ytfkepkdfpjaniaa
open Go.RowKit
set_option linter.unusedVariables false

namespace M
def errW (p : Nat) (f : List Nat) : Int := if 201 < f.length then 3 else if within p f = true then 0 else 2
theorem errW_long {p : Nat} {f : List Nat} (h : 201 < f.length) : 3 = errW p f := by unfold errW; rw [if_pos h]
theorem errW_in {p : Nat} {f : List Nat} (h : ¬ 201 < f.length) : errOf (within p f) = errW p f := by
  unfold errW; rw [if_neg h]; cases within p f <;> rfl
/-- the first error of polynomial arguments -/
def rgts (p : Nat) : List (List Nat) → Int
  | [] => 0
  | f :: t => if errW p f = 0 then rgts p t else errW p f
def rgt (p : Nat) (L : List (List Nat)) : Int := if isP p = true then rgts p L else 2
theorem rgts_take {p : Nat} : ∀ (L : List (List Nat)) (k : Nat), k < L.length → rgts p (L.take k) = 0 → (errW p (L.getD k []) = 0 → rgts p (L.take (k + 1)) = 0) ∧ (errW p (L.getD k []) ≠ 0 → rgts p L = errW p (L.getD k []))
  | [], k, h, _ => by simp at h
  | f :: t, 0, _, _ => by
    simp only [List.getD_cons_zero]
    refine ⟨fun h => by simp [rgts, h], fun h => by simp [rgts, h]⟩
  | f :: t, k + 1, h, h0 => by
    simp only [List.take_succ_cons, rgts] at h0
    by_cases hf : errW p f = 0
    · rw [if_pos hf] at h0
      have := rgts_take t k (by simpa using h) h0
      simp only [List.getD_cons_succ, List.take_succ_cons, rgts, if_pos hf]
      exact this
    · rw [if_neg hf] at h0; exact absurd h0 hf
theorem errW_chk {p : Nat} (h : isP p = true) (f : List Nat) : errW p f = chk p f 201 := by
  unfold errW chk; simp only [h, Bool.true_eq_false, if_false]
theorem chk_p {p : Nat} (h : isP p = false) (f : List Nat) (l : Nat) : chk p f l = 2 := by unfold chk; rw [if_pos h]
theorem rgt_one (p : Nat) (f : List Nat) : rgt p [f] = chk p f 201 := by
  unfold rgt
  cases hi : isP p with
  | false => rw [chk_p hi]; rfl
  | true =>
    rw [← errW_chk hi]
    simp only [rgts, if_true]
    split
    · rename_i h; exact h.symm
    · rfl
theorem rgt_two (p : Nat) (f g : List Nat) : rgt p [f, g] = if chk p f 201 = 0 then chk p g 201 else chk p f 201 := by
  unfold rgt
  cases hi : isP p with
  | false => rw [chk_p hi, if_neg (show ¬ ((2 : Int) = 0) by omega)]; rfl
  | true =>
    rw [← errW_chk hi, ← errW_chk hi]
    simp only [rgts, if_true]
    split
    · split
      · rename_i h; exact h.symm
      · rfl
    · rfl
end M

set_option maxHeartbeats 400000 in
theorem rwithin_any (p : Nat) (v : Value) (zs : List Nat) (w : World) (hv : Nums w v zs) :
    Calls Try.prog 37 #[.int .u64 p, v] w fun e w' => e = .returned (.int .i64 (M.errW p zs)) ∧ w = w' := by
  have HW := Lib.hid (within_any p v zs w hv rfl)
  obtain ⟨A, cap, rfl, hcap, hlen, _⟩ := nums_view hv
  clear hv hcap
  by_cases hL : 201 < zs.length
  · go_enter Try.func37, Try.ntmps37
    go_wp2_with fail
    go_ret
    exact ⟨ret1 (M.errW_long hL), rfl⟩
  · obtain ⟨c, ec⟩ : ∃ c, c = errOf (M.within p zs) := ⟨_, rfl⟩
    rw [← ec] at HW
    have HE := Lib.hid (ec.trans (M.errW_in hL))
    clear ec
    go_enter Try.func37, Try.ntmps37
    go_wp2_with fail
    refine HW.out.mono ?_
    rintro e w' ⟨rfl, rfl⟩
    go_wp2_with fail
    go_ret
    exact ⟨ret1 HE.out, rfl⟩

end Go.Proofs.Ytfkepkdfpjaniaa
namespace Go.Proofs.Ytfkepkdfpjaniaa
open Go.RowKit
set_option linter.unusedVariables false

/-- a slice that reads as zs, and no error -/
def Gives2 (w : World) (zs : List Nat) (e : Ending) (w' : World) : Prop := ∃ v', e = .returned (.tuple #[v', .int .i64 0]) ∧ Nums w' v' zs ∧ Below w.heap.size w w'
/-- an error -/
def Fails2 (w : World) (c : Int) (e : Ending) (w' : World) : Prop := e = .returned (.tuple #[.slice none 0 0, .int .i64 c]) ∧ Below w.heap.size w w'

set_option maxHeartbeats 400000 in
theorem onOne_bad (p : Nat) (v op : Value) (f : List Nat) (w : World) (hp : p < 18446744073709551616) (hv : Nums w v f) (h : M.chk p f 201 ≠ 0) :
    Calls Try.prog 84 #[.int .u64 p, v, op] w (Fails2 w (M.chk p f 201)) := by
  have HC := Lib.hid (check_any p v f 201 w hp (by omega) hv)
  obtain ⟨A, cap, rfl⟩ := nums_slice' hv
  have hb : (M.chk p f 201 != 0) = true := by rw [bne_iff_ne]; exact h
  obtain ⟨c, ec⟩ : ∃ c, c = M.chk p f 201 := ⟨_, rfl⟩
  rw [← ec] at HC hb ⊢
  clear ec h hp
  go_enter Try.func84, Try.ntmps84
  go_wp2_with fail
  refine HC.out.mono ?_
  rintro e w1 ⟨rfl, rfl⟩
  go_wp2_with fail
  go_ret2
  exact ⟨rfl, Below.refl _ _⟩

set_option maxHeartbeats 400000 in
theorem onTwo_bad (p : Nat) (v v2 op : Value) (f g : List Nat) (w : World) (hp : p < 18446744073709551616) (hv : Nums w v f) (hv2 : Nums w v2 g) (h : M.rgt p [f, g] ≠ 0) :
    Calls Try.prog 93 #[.int .u64 p, v, v2, op] w (Fails2 w (M.rgt p [f, g])) := by
  have HC := Lib.hid (check_any p v f 201 w hp (by omega) hv)
  have HC2 := Lib.hid (check_any p v2 g 201 w hp (by omega) hv2)
  obtain ⟨A, cap, rfl⟩ := nums_slice' hv
  obtain ⟨A2, cap2, rfl⟩ := nums_slice' hv2
  rw [M.rgt_two] at h ⊢
  by_cases h1 : M.chk p f 201 = 0
  · rw [if_pos h1] at h ⊢
    rw [h1] at HC
    have hb : (M.chk p g 201 != 0) = true := by rw [bne_iff_ne]; exact h
    obtain ⟨c, ec⟩ : ∃ c, c = M.chk p g 201 := ⟨_, rfl⟩
    rw [← ec] at HC2 hb ⊢
    clear ec h hp h1
    go_enter Try.func93, Try.ntmps93
    go_wp2_with fail
    refine HC.out.mono ?_
    rintro e w1 ⟨rfl, rfl⟩
    go_wp2_with fail
    refine HC2.out.mono ?_
    rintro e w1 ⟨rfl, rfl⟩
    go_wp2_with fail
    go_ret2
    exact ⟨rfl, Below.refl _ _⟩
  · rw [if_neg h1] at h ⊢
    have hb : (M.chk p f 201 != 0) = true := by rw [bne_iff_ne]; exact h
    obtain ⟨c, ec⟩ : ∃ c, c = M.chk p f 201 := ⟨_, rfl⟩
    rw [← ec] at HC hb ⊢
    clear ec h hp h1
    go_enter Try.func93, Try.ntmps93
    go_wp2_with fail
    refine HC.out.mono ?_
    rintro e w1 ⟨rfl, rfl⟩
    go_wp2_with fail
    go_ret2
    exact ⟨rfl, Below.refl _ _⟩

set_option maxHeartbeats 400000 in
theorem onOne_clone (p : Nat) (v : Value) (f R : List Nat) (w : World) (hv : Nums w v f) (h : M.chk p f 201 = 0)
    (hop : ∀ W v', Nums W v' (M.trim f) → Calls Try.prog 81 #[v'] W (Gives W R)) :
    Calls Try.prog 84 #[.int .u64 p, v, .func (.func 81) #[] #[]] w (Gives2 w R) := by
  have hp : p < 18446744073709551616 := by have := M.pos_of (M.chk_ok h).1; omega
  have hc := check_any p v f 201 w hp (by omega) hv
  rw [h] at hc
  have HC := Lib.hid hc
  have HT := Lib.hid (trim_any v f w hv)
  have HOP := Lib.hid hop
  obtain ⟨A, cap, rfl⟩ := nums_slice' hv
  clear hc h hop hp hv
  go_enter Try.func84, Try.ntmps84
  go_wp2_with fail
  refine HC.out.mono ?_
  rintro e w1 ⟨rfl, rfl⟩
  go_wp2_with fail
  refine HT.out.mono ?_
  rintro e w2 ⟨v2, rfl, hn2, hb2⟩
  have HO2 := Lib.hid (HOP.out w2 v2 hn2)
  have B2 := Lib.hid hb2
  clear hn2 hb2
  go_wp2_with fail
  refine HO2.out.mono ?_
  rintro e w3 ⟨v3, rfl, hn3, hb3⟩
  have B3 := Lib.hid (bnext B2.out hb3)
  have N3 := Lib.hid hn3
  clear hn3 hb3
  go_wp2_with fail
  go_ret2
  exact ⟨_, rfl, N3.out, B3.out⟩

set_option maxHeartbeats 400000 in
theorem onTwo_add (p : Nat) (v v2 : Value) (f g : List Nat) (R : Value → Int → World → Prop) (a : Addr) (w : World) (hv : Nums w v f) (hv2 : Nums w v2 g) (h : M.rgt p [f, g] = 0)
    (hop : ∀ W v' v'', Nums W v' (M.trim f) → Nums W v'' (M.trim g) → Below w.heap.size w W → Calls Try.prog 103 #[v', v'', .pointer (some a)] W fun e W' => ∃ u c, e = .returned (.tuple #[u, .int .i64 c]) ∧ R u c W' ∧ Below W.heap.size W W') :
    Calls Try.prog 93 #[.int .u64 p, v, v2, .func (.func 103) #[] #[.pointer (some a)]] w fun e w' => ∃ u c, e = .returned (.tuple #[u, .int .i64 c]) ∧ R u c w' ∧ Below w.heap.size w w' := by
  rw [M.rgt_two] at h
  have h1 : M.chk p f 201 = 0 := by
    by_cases h1 : M.chk p f 201 = 0
    · exact h1
    · rw [if_neg h1] at h; exact absurd h h1
  rw [if_pos h1] at h
  have hp : p < 18446744073709551616 := by have := M.pos_of (M.chk_ok h).1; omega
  have hc := check_any p v f 201 w hp (by omega) hv
  rw [h1] at hc
  have hc2 := check_any p v2 g 201 w hp (by omega) hv2
  rw [h] at hc2
  have HC := Lib.hid hc
  have HC2 := Lib.hid hc2
  have HT := Lib.hid (trim_any v f w hv)
  have HOP := Lib.hid hop
  have HV2 := Lib.hid hv2
  obtain ⟨A, cap, rfl⟩ := nums_slice' hv
  obtain ⟨A2, cap2, rfl⟩ := nums_slice' hv2
  clear hc hc2 h h1 hop hp hv hv2
  go_enter Try.func93, Try.ntmps93
  go_wp2_with fail
  refine HC.out.mono ?_
  rintro e w1 ⟨rfl, rfl⟩
  go_wp2_with fail
  refine HC2.out.mono ?_
  rintro e w1 ⟨rfl, rfl⟩
  go_wp2_with fail
  refine HT.out.mono ?_
  rintro e w2 ⟨v2, rfl, hn2, hb2⟩
  have HT2 := Lib.hid (trim_any _ g w2 (HV2.out.below hb2))
  have B2 := Lib.hid hb2
  have N2 := Lib.hid hn2
  clear hn2 hb2
  go_wp2_with fail
  refine HT2.out.mono ?_
  rintro e w3 ⟨v3, rfl, hn3, hb3⟩
  have HO3 := Lib.hid (HOP.out w3 v2 v3 (N2.out.below hb3) hn3 (bnext B2.out hb3))
  have B3 := Lib.hid (bnext B2.out hb3)
  clear hn3 hb3
  go_wp2_with fail
  refine HO3.out.mono ?_
  rintro e w4 ⟨v4, c4, rfl, hr4, hb4⟩
  have B4 := Lib.hid (bnext B3.out hb4)
  have R4 := Lib.hid hr4
  clear hr4 hb4
  go_wp2_with fail
  go_ret2
  exact ⟨_, _, rfl, R4.out, B4.out⟩

set_option maxHeartbeats 400000 in
theorem onTwo_sub (p : Nat) (v v2 : Value) (f g : List Nat) (R : Value → Int → World → Prop) (a : Addr) (w : World) (hv : Nums w v f) (hv2 : Nums w v2 g) (h : M.rgt p [f, g] = 0)
    (hop : ∀ W v' v'', Nums W v' (M.trim f) → Nums W v'' (M.trim g) → Below w.heap.size w W → Calls Try.prog 108 #[v', v'', .pointer (some a)] W fun e W' => ∃ u c, e = .returned (.tuple #[u, .int .i64 c]) ∧ R u c W' ∧ Below W.heap.size W W') :
    Calls Try.prog 93 #[.int .u64 p, v, v2, .func (.func 108) #[] #[.pointer (some a)]] w fun e w' => ∃ u c, e = .returned (.tuple #[u, .int .i64 c]) ∧ R u c w' ∧ Below w.heap.size w w' := by
  rw [M.rgt_two] at h
  have h1 : M.chk p f 201 = 0 := by
    by_cases h1 : M.chk p f 201 = 0
    · exact h1
    · rw [if_neg h1] at h; exact absurd h h1
  rw [if_pos h1] at h
  have hp : p < 18446744073709551616 := by have := M.pos_of (M.chk_ok h).1; omega
  have hc := check_any p v f 201 w hp (by omega) hv
  rw [h1] at hc
  have hc2 := check_any p v2 g 201 w hp (by omega) hv2
  rw [h] at hc2
  have HC := Lib.hid hc
  have HC2 := Lib.hid hc2
  have HT := Lib.hid (trim_any v f w hv)
  have HOP := Lib.hid hop
  have HV2 := Lib.hid hv2
  obtain ⟨A, cap, rfl⟩ := nums_slice' hv
  obtain ⟨A2, cap2, rfl⟩ := nums_slice' hv2
  clear hc hc2 h h1 hop hp hv hv2
  go_enter Try.func93, Try.ntmps93
  go_wp2_with fail
  refine HC.out.mono ?_
  rintro e w1 ⟨rfl, rfl⟩
  go_wp2_with fail
  refine HC2.out.mono ?_
  rintro e w1 ⟨rfl, rfl⟩
  go_wp2_with fail
  refine HT.out.mono ?_
  rintro e w2 ⟨v2, rfl, hn2, hb2⟩
  have HT2 := Lib.hid (trim_any _ g w2 (HV2.out.below hb2))
  have B2 := Lib.hid hb2
  have N2 := Lib.hid hn2
  clear hn2 hb2
  go_wp2_with fail
  refine HT2.out.mono ?_
  rintro e w3 ⟨v3, rfl, hn3, hb3⟩
  have HO3 := Lib.hid (HOP.out w3 v2 v3 (N2.out.below hb3) hn3 (bnext B2.out hb3))
  have B3 := Lib.hid (bnext B2.out hb3)
  clear hn3 hb3
  go_wp2_with fail
  refine HO3.out.mono ?_
  rintro e w4 ⟨v4, c4, rfl, hr4, hb4⟩
  have B4 := Lib.hid (bnext B3.out hb4)
  have R4 := Lib.hid hr4
  clear hr4 hb4
  go_wp2_with fail
  go_ret2
  exact ⟨_, _, rfl, R4.out, B4.out⟩

/-! ### the calls -/
set_option maxHeartbeats 400000 in
theorem trim2_bad (p : Nat) (v : Value) (f : List Nat) (w : World) (hp : p < 18446744073709551616) (hv : Nums w v f) (h : M.chk p f 201 ≠ 0) :
    Calls Try.prog 54 #[.int .u64 p, v] w (Fails2 w (M.chk p f 201)) := by
  have HC := Lib.hid (onOne_bad p v (.func (.func 81) #[] #[]) f w hp hv h)
  obtain ⟨A, cap, rfl⟩ := nums_slice' hv
  clear h hp hv
  go_enter Try.func54, Try.ntmps54
  go_wp2_with fail
  refine HC.out.mono ?_
  rintro e w1 ⟨rfl, hb⟩
  have HB := Lib.hid hb
  clear hb
  go_wp2_with fail
  go_ret2
  exact ⟨rfl, HB.out⟩
set_option maxHeartbeats 400000 in
theorem trim2_ok (p : Nat) (v : Value) (f : List Nat) (w : World) (hv : Nums w v f) (h : M.chk p f 201 = 0) :
    Calls Try.prog 54 #[.int .u64 p, v] w (Gives2 w (M.trim f)) := by
  have HC := Lib.hid (onOne_clone p v f (M.trim f) w hv h (fun W v' hN => clone_any v' _ W hN))
  obtain ⟨A, cap, rfl⟩ := nums_slice' hv
  clear h hv
  go_enter Try.func54, Try.ntmps54
  go_wp2_with fail
  refine HC.out.mono ?_
  rintro e w1 ⟨v1, rfl, hn, hb⟩
  have HB := Lib.hid hb
  have HN := Lib.hid hn
  clear hb hn
  go_wp2_with fail
  go_ret2
  exact ⟨_, rfl, HN.out, HB.out⟩

set_option maxHeartbeats 400000 in
theorem eval_bad (p x : Nat) (v : Value) (f : List Nat) (w : World) (hp : p < 18446744073709551616) (hv : Nums w v f) (h : M.chk p f 201 ≠ 0) :
    Calls Try.prog 61 #[.int .u64 p, v, .int .u64 x] w fun e w' => e = .returned (.tuple #[.int .u64 0, .int .i64 (M.chk p f 201)]) ∧ w = w' := by
  have HC := Lib.hid (check_any p v f 201 w hp (by omega) hv)
  obtain ⟨A, cap, rfl⟩ := nums_slice' hv
  have hb : (M.chk p f 201 != 0) = true := by rw [bne_iff_ne]; exact h
  obtain ⟨c, ec⟩ : ∃ c, c = M.chk p f 201 := ⟨_, rfl⟩
  rw [← ec] at HC hb ⊢
  clear ec h hp
  go_enter Try.func61, Try.ntmps61
  go_wp2_with fail
  refine HC.out.mono ?_
  rintro e w1 ⟨rfl, rfl⟩
  go_wp2_with fail
  go_ret2
  exact ⟨rfl, rfl⟩
set_option maxHeartbeats 400000 in
theorem eval_arg (p x : Nat) (v : Value) (f : List Nat) (w : World) (hx : x < 18446744073709551616) (hpx : p ≤ x) (hv : Nums w v f) (h : M.chk p f 201 = 0) :
    Calls Try.prog 61 #[.int .u64 p, v, .int .u64 x] w fun e w' => e = .returned (.tuple #[.int .u64 0, .int .i64 2]) ∧ w = w' := by
  have hc := check_any p v f 201 w (by omega) (by omega) hv
  rw [h] at hc
  have HC := Lib.hid hc
  obtain ⟨A, cap, rfl⟩ := nums_slice' hv
  clear hc h
  go_enter Try.func61, Try.ntmps61
  go_wp2_with fail
  refine HC.out.mono ?_
  rintro e w1 ⟨rfl, rfl⟩
  go_wp2_with fail
  go_ret2
  exact ⟨rfl, rfl⟩
set_option maxHeartbeats 400000 in
theorem eval_ok (p x : Nat) (v : Value) (f : List Nat) (w : World) (hx : x < p) (hv : Nums w v f) (h : M.chk p f 201 = 0) :
    Calls Try.prog 61 #[.int .u64 p, v, .int .u64 x] w fun e w' => e = .returned (.tuple #[.int .u64 (M.pev p f x : Nat), .int .i64 0]) ∧ Below w.heap.size w w' := by
  obtain ⟨hi, hl, hw⟩ := M.chk_ok h
  obtain ⟨h3, hp⟩ := M.pos_of hi
  have hc := check_any p v f 201 w (by omega) (by omega) hv
  rw [h] at hc
  have HC := Lib.hid hc
  have HV := Lib.hid (value_any p x v f w (by omega) hp hx hw hv)
  obtain ⟨A, cap, rfl⟩ := nums_slice' hv
  have hb : ¬ p ≤ x := by omega
  clear hc h hi hw
  go_enter Try.func61, Try.ntmps61
  go_wp2_with fail
  refine HC.out.mono ?_
  rintro e w1 ⟨rfl, rfl⟩
  go_wp2_with fail
  refine HV.out.mono ?_
  rintro e w1 ⟨rfl, hb1⟩
  have HB := Lib.hid hb1
  clear hb1
  go_wp2_with fail
  go_ret2
  exact ⟨rfl, HB.out⟩

set_option maxHeartbeats 400000 in
theorem scale_bad (p k : Nat) (v : Value) (f : List Nat) (w : World) (hp : p < 18446744073709551616) (hv : Nums w v f) (h : M.chk p f 201 ≠ 0) :
    Calls Try.prog 90 #[.int .u64 p, v, .int .u64 k] w (Fails2 w (M.chk p f 201)) := by
  have HC := Lib.hid (check_any p v f 201 w hp (by omega) hv)
  obtain ⟨A, cap, rfl⟩ := nums_slice' hv
  have hb : (M.chk p f 201 != 0) = true := by rw [bne_iff_ne]; exact h
  obtain ⟨c, ec⟩ : ∃ c, c = M.chk p f 201 := ⟨_, rfl⟩
  rw [← ec] at HC hb ⊢
  clear ec h hp
  go_enter Try.func90, Try.ntmps90
  go_wp2_with fail
  refine HC.out.mono ?_
  rintro e w1 ⟨rfl, rfl⟩
  go_wp2_with fail
  go_ret2
  exact ⟨rfl, Below.refl _ _⟩
set_option maxHeartbeats 400000 in
theorem scale_arg (p k : Nat) (v : Value) (f : List Nat) (w : World) (hk : k < 18446744073709551616) (hpk : p ≤ k) (hv : Nums w v f) (h : M.chk p f 201 = 0) :
    Calls Try.prog 90 #[.int .u64 p, v, .int .u64 k] w (Fails2 w 2) := by
  have hc := check_any p v f 201 w (by omega) (by omega) hv
  rw [h] at hc
  have HC := Lib.hid hc
  obtain ⟨A, cap, rfl⟩ := nums_slice' hv
  clear hc h
  go_enter Try.func90, Try.ntmps90
  go_wp2_with fail
  refine HC.out.mono ?_
  rintro e w1 ⟨rfl, rfl⟩
  go_wp2_with fail
  go_ret2
  exact ⟨rfl, Below.refl _ _⟩
set_option maxHeartbeats 400000 in
theorem scale_ok (p k : Nat) (v : Value) (f : List Nat) (w : World) (hk : k < p) (hv : Nums w v f) (h : M.chk p f 201 = 0) :
    Calls Try.prog 90 #[.int .u64 p, v, .int .u64 k] w (Gives2 w (M.pscale p f k)) := by
  obtain ⟨hi, hl, hw⟩ := M.chk_ok h
  obtain ⟨h3, hp⟩ := M.pos_of hi
  have hc := check_any p v f 201 w (by omega) (by omega) hv
  rw [h] at hc
  have HC := Lib.hid hc
  have hpl := plus_any p k (.slice none 0 0) v [] f w (by omega) hp hk rfl hw (by simp) (by omega) (by exact ⟨by simp, by simp, .inl ⟨none, 0, rfl, rfl, fun _ => rfl⟩⟩) hv
  rw [M.pplus_nil] at hpl
  have HP := Lib.hid hpl
  obtain ⟨A, cap, rfl⟩ := nums_slice' hv
  have hb : ¬ p ≤ k := by omega
  clear hc h hi hw hpl
  go_enter Try.func90, Try.ntmps90
  go_wp2_with fail
  refine HC.out.mono ?_
  rintro e w1 ⟨rfl, rfl⟩
  go_wp2_with fail
  refine HP.out.mono ?_
  rintro e w1 ⟨v1, rfl, hn, hb1⟩
  have HB := Lib.hid hb1
  have HN := Lib.hid hn
  clear hb1 hn
  go_wp2_with fail
  go_ret2
  exact ⟨_, rfl, HN.out, HB.out⟩

namespace M
theorem rgt_ok {p : Nat} {f g : List Nat} (h : rgt p [f, g] = 0) : isP p = true ∧ (f.length ≤ 201 ∧ within p f = true) ∧ g.length ≤ 201 ∧ within p g = true := by
  rw [rgt_two] at h
  by_cases h1 : chk p f 201 = 0
  · rw [if_pos h1] at h
    exact ⟨(chk_ok h1).1, (chk_ok h1).2, (chk_ok h).2⟩
  · rw [if_neg h1] at h; exact absurd h h1
end M

set_option maxHeartbeats 400000 in
theorem add1_any (p : Nat) (v v2 : Value) (f g : List Nat) (a : Addr) (w : World) (hi : M.isP p = true) (hwf : M.within p f = true) (hwg : M.within p g = true) (hfl : f.length ≤ 201) (hgl : g.length ≤ 201) (hv : Nums w v f) (hv2 : Nums w v2 g) (hc : w.cell? a = some (.int .u64 p)) :
    Calls Try.prog 103 #[v, v2, .pointer (some a)] w fun e w' => ∃ u c, e = .returned (.tuple #[u, .int .i64 c]) ∧ (c = 0 ∧ Nums w' u (M.padd p f g)) ∧ Below w.heap.size w w' := by
  obtain ⟨h3, hp⟩ := M.pos_of hi
  have HT := Lib.hid (termwise_any 105 (fun a b => (a + b) % p) p v v2 f g w (.inl rfl) (by omega) hp hwf hwg (by omega) (by omega) hv hv2 (fun a b W ha hb => add_ok p a b W (M.valid2_iff.2 ⟨hi, ha, hb⟩)) (fun a b => Nat.mod_lt _ (by omega)))
  obtain ⟨A, cap, rfl⟩ := nums_slice' hv
  obtain ⟨A2, cap2, rfl⟩ := nums_slice' hv2
  clear hi hwf hwg hv hv2
  go_enter Try.func103, Try.ntmps103
  go_wp2_with fail
  refine HT.out.mono ?_
  rintro e w2 ⟨u2, rfl, hn2, hb2⟩
  have HT2 := Lib.hid (trim_any _ _ w2 hn2)
  have B2 := Lib.hid hb2
  clear hn2 hb2
  go_wp2_with fail
  refine HT2.out.mono ?_
  rintro e w3 ⟨u3, rfl, hn3, hb3⟩
  have B3 := Lib.hid (bnext B2.out hb3)
  have N3 := Lib.hid hn3
  clear hn3 hb3
  go_wp2_with fail
  go_ret2
  exact ⟨_, _, rfl, ⟨rfl, N3.out⟩, B3.out⟩
set_option maxHeartbeats 400000 in
theorem add2_bad (p : Nat) (v v2 : Value) (f g : List Nat) (w : World) (hp : p < 18446744073709551616) (hv : Nums w v f) (hv2 : Nums w v2 g) (h : M.rgt p [f, g] ≠ 0) :
    Calls Try.prog 86 #[.int .u64 p, v, v2] w (Fails2 w (M.rgt p [f, g])) := by
  have HC := Lib.hid fun op => onTwo_bad p v v2 op f g (w.alloc (.cells #[.int .u64 p] 22)) hp (hv.below (balloc w _)) (hv2.below (balloc w _)) h
  obtain ⟨A, cap, rfl⟩ := nums_slice' hv
  obtain ⟨A2, cap2, rfl⟩ := nums_slice' hv2
  clear h hp hv hv2
  go_enter Try.func86, Try.ntmps86
  go_wp2_with fail
  refine (HC.out _).mono ?_
  rintro e w1 ⟨rfl, hb⟩
  have HB := Lib.hid (bnext (balloc w _) hb)
  clear hb
  go_wp2_with fail
  go_ret2
  exact ⟨rfl, HB.out⟩
set_option maxHeartbeats 400000 in
theorem add2_ok (p : Nat) (v v2 : Value) (f g : List Nat) (w : World) (hv : Nums w v f) (hv2 : Nums w v2 g) (h : M.rgt p [f, g] = 0) :
    Calls Try.prog 86 #[.int .u64 p, v, v2] w (Gives2 w (M.padd p f g)) := by
  obtain ⟨hi, ⟨hlf, hwf⟩, hlg, hwg⟩ := M.rgt_ok h
  have hpos : 0 < p := by have := M.pos_of hi; omega
  have HC := Lib.hid (onTwo_add p v v2 f g (fun u c w' => c = 0 ∧ Nums w' u (M.padd p (M.trim f) (M.trim g))) ⟨w.heap.size, 0, none⟩ (w.alloc (.cells #[.int .u64 p] 22)) (hv.below (balloc w _)) (hv2.below (balloc w _)) h (fun W v' v'' h1 h2 hb => add1_any p v' v'' _ _ _ W hi (M.within_trim hwf) (M.within_trim hwg) (Nat.le_trans (M.trim_len_le f) hlf) (Nat.le_trans (M.trim_len_le g) hlg) h1 h2 ((hb.cell (p := ⟨w.heap.size, 0, none⟩) (by simp)).trans (by simp))))
  have HE := Lib.hid (M.padd_trim p f g hpos)
  obtain ⟨A, cap, rfl⟩ := nums_slice' hv
  obtain ⟨A2, cap2, rfl⟩ := nums_slice' hv2
  clear h hv hv2 hwf hwg hi
  go_enter Try.func86, Try.ntmps86
  go_wp2_with fail
  refine HC.out.mono ?_
  rintro e w1 ⟨u, c, rfl, ⟨rfl, hn⟩, hb⟩
  have HB := Lib.hid (bnext (balloc w _) hb)
  have HN := Lib.hid hn
  clear hb hn
  go_wp2_with fail
  go_ret2
  exact ⟨_, rfl, by rw [← HE.out]; exact HN.out, HB.out⟩

set_option maxHeartbeats 400000 in
theorem sub1_any (p : Nat) (v v2 : Value) (f g : List Nat) (a : Addr) (w : World) (hi : M.isP p = true) (hwf : M.within p f = true) (hwg : M.within p g = true) (hfl : f.length ≤ 201) (hgl : g.length ≤ 201) (hv : Nums w v f) (hv2 : Nums w v2 g) (hc : w.cell? a = some (.int .u64 p)) :
    Calls Try.prog 108 #[v, v2, .pointer (some a)] w fun e w' => ∃ u c, e = .returned (.tuple #[u, .int .i64 c]) ∧ (c = 0 ∧ Nums w' u (M.psub p f g)) ∧ Below w.heap.size w w' := by
  obtain ⟨h3, hp⟩ := M.pos_of hi
  have HT := Lib.hid (termwise_any 109 (fun a b => (a + p - b) % p) p v v2 f g w (.inr rfl) (by omega) hp hwf hwg (by omega) (by omega) hv hv2 (fun a b W ha hb => sub_ok p a b W (M.valid2_iff.2 ⟨hi, ha, hb⟩)) (fun a b => Nat.mod_lt _ (by omega)))
  obtain ⟨A, cap, rfl⟩ := nums_slice' hv
  obtain ⟨A2, cap2, rfl⟩ := nums_slice' hv2
  clear hi hwf hwg hv hv2
  go_enter Try.func108, Try.ntmps108
  go_wp2_with fail
  refine HT.out.mono ?_
  rintro e w2 ⟨u2, rfl, hn2, hb2⟩
  have HT2 := Lib.hid (trim_any _ _ w2 hn2)
  have B2 := Lib.hid hb2
  clear hn2 hb2
  go_wp2_with fail
  refine HT2.out.mono ?_
  rintro e w3 ⟨u3, rfl, hn3, hb3⟩
  have B3 := Lib.hid (bnext B2.out hb3)
  have N3 := Lib.hid hn3
  clear hn3 hb3
  go_wp2_with fail
  go_ret2
  exact ⟨_, _, rfl, ⟨rfl, N3.out⟩, B3.out⟩
set_option maxHeartbeats 400000 in
theorem sub2_bad (p : Nat) (v v2 : Value) (f g : List Nat) (w : World) (hp : p < 18446744073709551616) (hv : Nums w v f) (hv2 : Nums w v2 g) (h : M.rgt p [f, g] ≠ 0) :
    Calls Try.prog 91 #[.int .u64 p, v, v2] w (Fails2 w (M.rgt p [f, g])) := by
  have HC := Lib.hid fun op => onTwo_bad p v v2 op f g (w.alloc (.cells #[.int .u64 p] 22)) hp (hv.below (balloc w _)) (hv2.below (balloc w _)) h
  obtain ⟨A, cap, rfl⟩ := nums_slice' hv
  obtain ⟨A2, cap2, rfl⟩ := nums_slice' hv2
  clear h hp hv hv2
  go_enter Try.func91, Try.ntmps91
  go_wp2_with fail
  refine (HC.out _).mono ?_
  rintro e w1 ⟨rfl, hb⟩
  have HB := Lib.hid (bnext (balloc w _) hb)
  clear hb
  go_wp2_with fail
  go_ret2
  exact ⟨rfl, HB.out⟩
set_option maxHeartbeats 400000 in
theorem sub2_ok (p : Nat) (v v2 : Value) (f g : List Nat) (w : World) (hv : Nums w v f) (hv2 : Nums w v2 g) (h : M.rgt p [f, g] = 0) :
    Calls Try.prog 91 #[.int .u64 p, v, v2] w (Gives2 w (M.psub p f g)) := by
  obtain ⟨hi, ⟨hlf, hwf⟩, hlg, hwg⟩ := M.rgt_ok h
  have hpos : 0 < p := by have := M.pos_of hi; omega
  have HC := Lib.hid (onTwo_sub p v v2 f g (fun u c w' => c = 0 ∧ Nums w' u (M.psub p (M.trim f) (M.trim g))) ⟨w.heap.size, 0, none⟩ (w.alloc (.cells #[.int .u64 p] 22)) (hv.below (balloc w _)) (hv2.below (balloc w _)) h (fun W v' v'' h1 h2 hb => sub1_any p v' v'' _ _ _ W hi (M.within_trim hwf) (M.within_trim hwg) (Nat.le_trans (M.trim_len_le f) hlf) (Nat.le_trans (M.trim_len_le g) hlg) h1 h2 ((hb.cell (p := ⟨w.heap.size, 0, none⟩) (by simp)).trans (by simp))))
  have HE := Lib.hid (M.psub_trim p f g hpos)
  obtain ⟨A, cap, rfl⟩ := nums_slice' hv
  obtain ⟨A2, cap2, rfl⟩ := nums_slice' hv2
  clear h hv hv2 hwf hwg hi
  go_enter Try.func91, Try.ntmps91
  go_wp2_with fail
  refine HC.out.mono ?_
  rintro e w1 ⟨u, c, rfl, ⟨rfl, hn⟩, hb⟩
  have HB := Lib.hid (bnext (balloc w _) hb)
  have HN := Lib.hid hn
  clear hb hn
  go_wp2_with fail
  go_ret2
  exact ⟨_, rfl, by rw [← HE.out]; exact HN.out, HB.out⟩

end Go.Proofs.Ytfkepkdfpjaniaa
