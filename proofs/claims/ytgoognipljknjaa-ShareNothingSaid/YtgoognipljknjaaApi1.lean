/-
  Package poly: onOne, onTwo, and the calls Trim, Eval, Scale, Add, Sub, Mul.
-/
import Derived.Test.YtgoognipljknjaaP6
import Derived.Test.YtgoognipljknjaaLaw2
namespace Go.Proofs.Ytgoognipljknjaa
open Go.RowKit
set_option linter.unusedVariables false

/-- a slice that reads as zs, and no error -/
def Gives2 (w : World) (zs : List Nat) (e : Ending) (w' : World) : Prop := ∃ v', e = .returned (.tuple #[v', .int .i64 0]) ∧ Nums w' v' zs ∧ Below w.heap.size w w'
/-- an error -/
def Fails2 (w : World) (c : Int) (e : Ending) (w' : World) : Prop := e = .returned (.tuple #[.slice none 0 0, .int .i64 c]) ∧ Below w.heap.size w w'

set_option maxHeartbeats 400000 in
theorem onOne_bad (p : Nat) (v op : Value) (f : List Nat) (w : World) (hp : p < 18446744073709551616) (hv : Nums w v f) (h : M.chk p f 201 ≠ 0) :
    Calls Try.prog 110 #[.int .u64 p, v, op] w (Fails2 w (M.chk p f 201)) := by
  have HC := Lib.hid (check_any p v f 201 w hp (by omega) hv)
  obtain ⟨A, cap, rfl⟩ := nums_slice' hv
  have hb : (M.chk p f 201 != 0) = true := by rw [bne_iff_ne]; exact h
  obtain ⟨c, ec⟩ : ∃ c, c = M.chk p f 201 := ⟨_, rfl⟩
  rw [← ec] at HC hb ⊢
  clear ec h hp
  go_enter Try.func110, Try.ntmps110
  go_wp2_with fail
  refine HC.out.mono ?_
  rintro e w1 ⟨rfl, rfl⟩
  go_wp2_with fail
  go_ret2
  exact ⟨rfl, Below.refl _ _⟩

set_option maxHeartbeats 400000 in
theorem onTwo_bad (p : Nat) (v v2 op : Value) (f g : List Nat) (w : World) (hp : p < 18446744073709551616) (hv : Nums w v f) (hv2 : Nums w v2 g) (h : M.rgt p [f, g] ≠ 0) :
    Calls Try.prog 119 #[.int .u64 p, v, v2, op] w (Fails2 w (M.rgt p [f, g])) := by
  have HC := Lib.hid (check_any p v f 201 w hp (by omega) hv)
  have HC2 := Lib.hid (check_any p v2 g 201 w hp (by omega) hv2)
  obtain ⟨A, cap, rfl⟩ := nums_slice' hv
  obtain ⟨A2, cap2, rfl⟩ := nums_slice' hv2
  rw [M.rgt_two] at h ⊢
  by_cases h1 : M.chk p f 201 = 0
  · rw [if_pos h1] at h ⊢
    rw [h1] at HC
    have hb : (M.chk p g 201 != 0) = true := by rw [bne_iff_ne]; exact h
    obtain ⟨c, ec⟩ : ∃ c, c = M.chk p g 201 := ⟨_, rfl⟩
    rw [← ec] at HC2 hb ⊢
    clear ec h hp h1
    go_enter Try.func119, Try.ntmps119
    go_wp2_with fail
    refine HC.out.mono ?_
    rintro e w1 ⟨rfl, rfl⟩
    go_wp2_with fail
    refine HC2.out.mono ?_
    rintro e w1 ⟨rfl, rfl⟩
    go_wp2_with fail
    go_ret2
    exact ⟨rfl, Below.refl _ _⟩
  · rw [if_neg h1] at h ⊢
    have hb : (M.chk p f 201 != 0) = true := by rw [bne_iff_ne]; exact h
    obtain ⟨c, ec⟩ : ∃ c, c = M.chk p f 201 := ⟨_, rfl⟩
    rw [← ec] at HC hb ⊢
    clear ec h hp h1
    go_enter Try.func119, Try.ntmps119
    go_wp2_with fail
    refine HC.out.mono ?_
    rintro e w1 ⟨rfl, rfl⟩
    go_wp2_with fail
    go_ret2
    exact ⟨rfl, Below.refl _ _⟩

set_option maxHeartbeats 400000 in
theorem onOne_clone (p : Nat) (v : Value) (f R : List Nat) (w : World) (hv : Nums w v f) (h : M.chk p f 201 = 0)
    (hop : ∀ W v', Nums W v' (M.trim f) → Calls Try.prog 109 #[v'] W (Gives W R)) :
    Calls Try.prog 110 #[.int .u64 p, v, .func (.func 109) #[] #[]] w (Gives2 w R) := by
  have hp : p < 18446744073709551616 := by have := M.pos_of (M.chk_ok h).1; omega
  have hc := check_any p v f 201 w hp (by omega) hv
  rw [h] at hc
  have HC := Lib.hid hc
  have HT := Lib.hid (trim_any v f w hv)
  have HOP := Lib.hid hop
  obtain ⟨A, cap, rfl⟩ := nums_slice' hv
  clear hc h hop hp hv
  go_enter Try.func110, Try.ntmps110
  go_wp2_with fail
  refine HC.out.mono ?_
  rintro e w1 ⟨rfl, rfl⟩
  go_wp2_with fail
  refine HT.out.mono ?_
  rintro e w2 ⟨v2, rfl, hn2, hb2⟩
  have HO2 := Lib.hid (HOP.out w2 v2 hn2)
  have B2 := Lib.hid hb2
  clear hn2 hb2
  go_wp2_with fail
  refine HO2.out.mono ?_
  rintro e w3 ⟨v3, rfl, hn3, hb3⟩
  have B3 := Lib.hid (bnext B2.out hb3)
  have N3 := Lib.hid hn3
  clear hn3 hb3
  go_wp2_with fail
  go_ret2
  exact ⟨_, rfl, N3.out, B3.out⟩

set_option maxHeartbeats 400000 in
theorem onTwo_add (p : Nat) (v v2 : Value) (f g : List Nat) (R : Value → Int → World → Prop) (a : Addr) (w : World) (hv : Nums w v f) (hv2 : Nums w v2 g) (h : M.rgt p [f, g] = 0)
    (hop : ∀ W v' v'', Nums W v' (M.trim f) → Nums W v'' (M.trim g) → Below w.heap.size w W → Calls Try.prog 120 #[v', v'', .pointer (some a)] W fun e W' => ∃ u c, e = .returned (.tuple #[u, .int .i64 c]) ∧ R u c W' ∧ Below W.heap.size W W') :
    Calls Try.prog 119 #[.int .u64 p, v, v2, .func (.func 120) #[] #[.pointer (some a)]] w fun e w' => ∃ u c, e = .returned (.tuple #[u, .int .i64 c]) ∧ R u c w' ∧ Below w.heap.size w w' := by
  rw [M.rgt_two] at h
  have h1 : M.chk p f 201 = 0 := by
    by_cases h1 : M.chk p f 201 = 0
    · exact h1
    · rw [if_neg h1] at h; exact absurd h h1
  rw [if_pos h1] at h
  have hp : p < 18446744073709551616 := by have := M.pos_of (M.chk_ok h).1; omega
  have hc := check_any p v f 201 w hp (by omega) hv
  rw [h1] at hc
  have hc2 := check_any p v2 g 201 w hp (by omega) hv2
  rw [h] at hc2
  have HC := Lib.hid hc
  have HC2 := Lib.hid hc2
  have HT := Lib.hid (trim_any v f w hv)
  have HOP := Lib.hid hop
  have HV2 := Lib.hid hv2
  obtain ⟨A, cap, rfl⟩ := nums_slice' hv
  obtain ⟨A2, cap2, rfl⟩ := nums_slice' hv2
  clear hc hc2 h h1 hop hp hv hv2
  go_enter Try.func119, Try.ntmps119
  go_wp2_with fail
  refine HC.out.mono ?_
  rintro e w1 ⟨rfl, rfl⟩
  go_wp2_with fail
  refine HC2.out.mono ?_
  rintro e w1 ⟨rfl, rfl⟩
  go_wp2_with fail
  refine HT.out.mono ?_
  rintro e w2 ⟨v2, rfl, hn2, hb2⟩
  have HT2 := Lib.hid (trim_any _ g w2 (HV2.out.below hb2))
  have B2 := Lib.hid hb2
  have N2 := Lib.hid hn2
  clear hn2 hb2
  go_wp2_with fail
  refine HT2.out.mono ?_
  rintro e w3 ⟨v3, rfl, hn3, hb3⟩
  have HO3 := Lib.hid (HOP.out w3 v2 v3 (N2.out.below hb3) hn3 (bnext B2.out hb3))
  have B3 := Lib.hid (bnext B2.out hb3)
  clear hn3 hb3
  go_wp2_with fail
  refine HO3.out.mono ?_
  rintro e w4 ⟨v4, c4, rfl, hr4, hb4⟩
  have B4 := Lib.hid (bnext B3.out hb4)
  have R4 := Lib.hid hr4
  clear hr4 hb4
  go_wp2_with fail
  go_ret2
  exact ⟨_, _, rfl, R4.out, B4.out⟩

/-! ### the calls -/
set_option maxHeartbeats 400000 in
theorem trim2_bad (p : Nat) (v : Value) (f : List Nat) (w : World) (hp : p < 18446744073709551616) (hv : Nums w v f) (h : M.chk p f 201 ≠ 0) :
    Calls Try.prog 70 #[.int .u64 p, v] w (Fails2 w (M.chk p f 201)) := by
  have HC := Lib.hid (onOne_bad p v (.func (.func 109) #[] #[]) f w hp hv h)
  obtain ⟨A, cap, rfl⟩ := nums_slice' hv
  clear h hp hv
  go_enter Try.func70, Try.ntmps70
  go_wp2_with fail
  refine HC.out.mono ?_
  rintro e w1 ⟨rfl, hb⟩
  have HB := Lib.hid hb
  clear hb
  go_wp2_with fail
  go_ret2
  exact ⟨rfl, HB.out⟩
set_option maxHeartbeats 400000 in
theorem trim2_ok (p : Nat) (v : Value) (f : List Nat) (w : World) (hv : Nums w v f) (h : M.chk p f 201 = 0) :
    Calls Try.prog 70 #[.int .u64 p, v] w (Gives2 w (M.trim f)) := by
  have HC := Lib.hid (onOne_clone p v f (M.trim f) w hv h (fun W v' hN => clone_any v' _ W hN))
  obtain ⟨A, cap, rfl⟩ := nums_slice' hv
  clear h hv
  go_enter Try.func70, Try.ntmps70
  go_wp2_with fail
  refine HC.out.mono ?_
  rintro e w1 ⟨v1, rfl, hn, hb⟩
  have HB := Lib.hid hb
  have HN := Lib.hid hn
  clear hb hn
  go_wp2_with fail
  go_ret2
  exact ⟨_, rfl, HN.out, HB.out⟩

set_option maxHeartbeats 400000 in
theorem eval_bad (p x : Nat) (v : Value) (f : List Nat) (w : World) (hp : p < 18446744073709551616) (hv : Nums w v f) (h : M.chk p f 201 ≠ 0) :
    Calls Try.prog 75 #[.int .u64 p, v, .int .u64 x] w fun e w' => e = .returned (.tuple #[.int .u64 0, .int .i64 (M.chk p f 201)]) ∧ w = w' := by
  have HC := Lib.hid (check_any p v f 201 w hp (by omega) hv)
  obtain ⟨A, cap, rfl⟩ := nums_slice' hv
  have hb : (M.chk p f 201 != 0) = true := by rw [bne_iff_ne]; exact h
  obtain ⟨c, ec⟩ : ∃ c, c = M.chk p f 201 := ⟨_, rfl⟩
  rw [← ec] at HC hb ⊢
  clear ec h hp
  go_enter Try.func75, Try.ntmps75
  go_wp2_with fail
  refine HC.out.mono ?_
  rintro e w1 ⟨rfl, rfl⟩
  go_wp2_with fail
  go_ret2
  exact ⟨rfl, rfl⟩
set_option maxHeartbeats 400000 in
theorem eval_arg (p x : Nat) (v : Value) (f : List Nat) (w : World) (hx : x < 18446744073709551616) (hpx : p ≤ x) (hv : Nums w v f) (h : M.chk p f 201 = 0) :
    Calls Try.prog 75 #[.int .u64 p, v, .int .u64 x] w fun e w' => e = .returned (.tuple #[.int .u64 0, .int .i64 2]) ∧ w = w' := by
  have hc := check_any p v f 201 w (by omega) (by omega) hv
  rw [h] at hc
  have HC := Lib.hid hc
  obtain ⟨A, cap, rfl⟩ := nums_slice' hv
  clear hc h
  go_enter Try.func75, Try.ntmps75
  go_wp2_with fail
  refine HC.out.mono ?_
  rintro e w1 ⟨rfl, rfl⟩
  go_wp2_with fail
  go_ret2
  exact ⟨rfl, rfl⟩
set_option maxHeartbeats 400000 in
theorem eval_ok (p x : Nat) (v : Value) (f : List Nat) (w : World) (hx : x < p) (hv : Nums w v f) (h : M.chk p f 201 = 0) :
    Calls Try.prog 75 #[.int .u64 p, v, .int .u64 x] w fun e w' => e = .returned (.tuple #[.int .u64 (M.pev p f x : Nat), .int .i64 0]) ∧ Below w.heap.size w w' := by
  obtain ⟨hi, hl, hw⟩ := M.chk_ok h
  obtain ⟨h3, hp⟩ := M.pos_of hi
  have hc := check_any p v f 201 w (by omega) (by omega) hv
  rw [h] at hc
  have HC := Lib.hid hc
  have HV := Lib.hid (value_any p x v f w (by omega) hp hx hw hv)
  obtain ⟨A, cap, rfl⟩ := nums_slice' hv
  have hb : ¬ p ≤ x := by omega
  clear hc h hi hw
  go_enter Try.func75, Try.ntmps75
  go_wp2_with fail
  refine HC.out.mono ?_
  rintro e w1 ⟨rfl, rfl⟩
  go_wp2_with fail
  refine HV.out.mono ?_
  rintro e w1 ⟨rfl, hb1⟩
  have HB := Lib.hid hb1
  clear hb1
  go_wp2_with fail
  go_ret2
  exact ⟨rfl, HB.out⟩

set_option maxHeartbeats 400000 in
theorem scale_bad (p k : Nat) (v : Value) (f : List Nat) (w : World) (hp : p < 18446744073709551616) (hv : Nums w v f) (h : M.chk p f 201 ≠ 0) :
    Calls Try.prog 85 #[.int .u64 p, v, .int .u64 k] w (Fails2 w (M.chk p f 201)) := by
  have HC := Lib.hid (check_any p v f 201 w hp (by omega) hv)
  obtain ⟨A, cap, rfl⟩ := nums_slice' hv
  have hb : (M.chk p f 201 != 0) = true := by rw [bne_iff_ne]; exact h
  obtain ⟨c, ec⟩ : ∃ c, c = M.chk p f 201 := ⟨_, rfl⟩
  rw [← ec] at HC hb ⊢
  clear ec h hp
  go_enter Try.func85, Try.ntmps85
  go_wp2_with fail
  refine HC.out.mono ?_
  rintro e w1 ⟨rfl, rfl⟩
  go_wp2_with fail
  go_ret2
  exact ⟨rfl, Below.refl _ _⟩
set_option maxHeartbeats 400000 in
theorem scale_arg (p k : Nat) (v : Value) (f : List Nat) (w : World) (hk : k < 18446744073709551616) (hpk : p ≤ k) (hv : Nums w v f) (h : M.chk p f 201 = 0) :
    Calls Try.prog 85 #[.int .u64 p, v, .int .u64 k] w (Fails2 w 2) := by
  have hc := check_any p v f 201 w (by omega) (by omega) hv
  rw [h] at hc
  have HC := Lib.hid hc
  obtain ⟨A, cap, rfl⟩ := nums_slice' hv
  clear hc h
  go_enter Try.func85, Try.ntmps85
  go_wp2_with fail
  refine HC.out.mono ?_
  rintro e w1 ⟨rfl, rfl⟩
  go_wp2_with fail
  go_ret2
  exact ⟨rfl, Below.refl _ _⟩
set_option maxHeartbeats 400000 in
theorem scale_ok (p k : Nat) (v : Value) (f : List Nat) (w : World) (hk : k < p) (hv : Nums w v f) (h : M.chk p f 201 = 0) :
    Calls Try.prog 85 #[.int .u64 p, v, .int .u64 k] w (Gives2 w (M.pscale p f k)) := by
  obtain ⟨hi, hl, hw⟩ := M.chk_ok h
  obtain ⟨h3, hp⟩ := M.pos_of hi
  have hc := check_any p v f 201 w (by omega) (by omega) hv
  rw [h] at hc
  have HC := Lib.hid hc
  have hpl := plus_any p k (.slice none 0 0) v [] f w (by omega) hp hk rfl hw (by simp) (by omega) (by exact ⟨by simp, by simp, .inl ⟨none, 0, rfl, rfl, fun _ => rfl⟩⟩) hv
  rw [M.pplus_nil] at hpl
  have HP := Lib.hid hpl
  obtain ⟨A, cap, rfl⟩ := nums_slice' hv
  have hb : ¬ p ≤ k := by omega
  clear hc h hi hw hpl
  go_enter Try.func85, Try.ntmps85
  go_wp2_with fail
  refine HC.out.mono ?_
  rintro e w1 ⟨rfl, rfl⟩
  go_wp2_with fail
  refine HP.out.mono ?_
  rintro e w1 ⟨v1, rfl, hn, hb1⟩
  have HB := Lib.hid hb1
  have HN := Lib.hid hn
  clear hb1 hn
  go_wp2_with fail
  go_ret2
  exact ⟨_, rfl, HN.out, HB.out⟩

namespace M
theorem rgt_ok {p : Nat} {f g : List Nat} (h : rgt p [f, g] = 0) : isP p = true ∧ (f.length ≤ 201 ∧ within p f = true) ∧ g.length ≤ 201 ∧ within p g = true := by
  rw [rgt_two] at h
  by_cases h1 : chk p f 201 = 0
  · rw [if_pos h1] at h
    exact ⟨(chk_ok h1).1, (chk_ok h1).2, (chk_ok h).2⟩
  · rw [if_neg h1] at h; exact absurd h h1
end M

set_option maxHeartbeats 400000 in
theorem add1_any (p : Nat) (v v2 : Value) (f g : List Nat) (a : Addr) (w : World) (hi : M.isP p = true) (hwf : M.within p f = true) (hwg : M.within p g = true) (hfl : f.length ≤ 201) (hgl : g.length ≤ 201) (hv : Nums w v f) (hv2 : Nums w v2 g) (hc : w.cell? a = some (.int .u64 p)) :
    Calls Try.prog 120 #[v, v2, .pointer (some a)] w fun e w' => ∃ u c, e = .returned (.tuple #[u, .int .i64 c]) ∧ (c = 0 ∧ Nums w' u (M.padd p f g)) ∧ Below w.heap.size w w' := by
  obtain ⟨h3, hp⟩ := M.pos_of hi
  have HT := Lib.hid (termwise_any 123 (fun a b => (a + b) % p) p v v2 f g w (.inl rfl) (by omega) hp hwf hwg (by omega) (by omega) hv hv2 (fun a b W ha hb => add_ok p a b W (M.valid2_iff.2 ⟨hi, ha, hb⟩)) (fun a b => Nat.mod_lt _ (by omega)))
  obtain ⟨A, cap, rfl⟩ := nums_slice' hv
  obtain ⟨A2, cap2, rfl⟩ := nums_slice' hv2
  clear hi hwf hwg hv hv2
  go_enter Try.func120, Try.ntmps120
  go_wp2_with fail
  refine HT.out.mono ?_
  rintro e w2 ⟨u2, rfl, hn2, hb2⟩
  have HT2 := Lib.hid (trim_any _ _ w2 hn2)
  have B2 := Lib.hid hb2
  clear hn2 hb2
  go_wp2_with fail
  refine HT2.out.mono ?_
  rintro e w3 ⟨u3, rfl, hn3, hb3⟩
  have B3 := Lib.hid (bnext B2.out hb3)
  have N3 := Lib.hid hn3
  clear hn3 hb3
  go_wp2_with fail
  go_ret2
  exact ⟨_, _, rfl, ⟨rfl, N3.out⟩, B3.out⟩
set_option maxHeartbeats 400000 in
theorem add2_bad (p : Nat) (v v2 : Value) (f g : List Nat) (w : World) (hp : p < 18446744073709551616) (hv : Nums w v f) (hv2 : Nums w v2 g) (h : M.rgt p [f, g] ≠ 0) :
    Calls Try.prog 86 #[.int .u64 p, v, v2] w (Fails2 w (M.rgt p [f, g])) := by
  have HC := Lib.hid fun op => onTwo_bad p v v2 op f g (w.alloc (.cells #[.int .u64 p] 22)) hp (hv.below (balloc w _)) (hv2.below (balloc w _)) h
  obtain ⟨A, cap, rfl⟩ := nums_slice' hv
  obtain ⟨A2, cap2, rfl⟩ := nums_slice' hv2
  clear h hp hv hv2
  go_enter Try.func86, Try.ntmps86
  go_wp2_with fail
  refine (HC.out _).mono ?_
  rintro e w1 ⟨rfl, hb⟩
  have HB := Lib.hid (bnext (balloc w _) hb)
  clear hb
  go_wp2_with fail
  go_ret2
  exact ⟨rfl, HB.out⟩
set_option maxHeartbeats 400000 in
theorem add2_ok (p : Nat) (v v2 : Value) (f g : List Nat) (w : World) (hv : Nums w v f) (hv2 : Nums w v2 g) (h : M.rgt p [f, g] = 0) :
    Calls Try.prog 86 #[.int .u64 p, v, v2] w (Gives2 w (M.padd p f g)) := by
  obtain ⟨hi, ⟨hlf, hwf⟩, hlg, hwg⟩ := M.rgt_ok h
  have hpos : 0 < p := by have := M.pos_of hi; omega
  have HC := Lib.hid (onTwo_add p v v2 f g (fun u c w' => c = 0 ∧ Nums w' u (M.padd p (M.trim f) (M.trim g))) ⟨w.heap.size, 0, none⟩ (w.alloc (.cells #[.int .u64 p] 22)) (hv.below (balloc w _)) (hv2.below (balloc w _)) h (fun W v' v'' h1 h2 hb => add1_any p v' v'' _ _ _ W hi (M.within_trim hwf) (M.within_trim hwg) (Nat.le_trans (M.trim_len_le f) hlf) (Nat.le_trans (M.trim_len_le g) hlg) h1 h2 ((hb.cell (p := ⟨w.heap.size, 0, none⟩) (by simp)).trans (by simp))))
  have HE := Lib.hid (M.padd_trim p f g hpos)
  obtain ⟨A, cap, rfl⟩ := nums_slice' hv
  obtain ⟨A2, cap2, rfl⟩ := nums_slice' hv2
  clear h hv hv2 hwf hwg hi
  go_enter Try.func86, Try.ntmps86
  go_wp2_with fail
  refine HC.out.mono ?_
  rintro e w1 ⟨u, c, rfl, ⟨rfl, hn⟩, hb⟩
  have HB := Lib.hid (bnext (balloc w _) hb)
  have HN := Lib.hid hn
  clear hb hn
  go_wp2_with fail
  go_ret2
  exact ⟨_, rfl, by rw [← HE.out]; exact HN.out, HB.out⟩

end Go.Proofs.Ytgoognipljknjaa
