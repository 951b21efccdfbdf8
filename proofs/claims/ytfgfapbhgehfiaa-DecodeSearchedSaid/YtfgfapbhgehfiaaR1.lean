/-
  The reference's Most, Check and Off of layer 5.
-/
import Derived.Test.YtfgfapbhgehfiaaD2
import Derived.Test.YtfgfapbhgehfiaaDpt
import Derived.Test.YtfgfapbhgehfiaaDapp
import Derived.Outline
namespace Go.Proofs.Ytfgfapbhgehfiaa
open Go.RowKit
set_option linter.unusedVariables false
set_option maxRecDepth 100000

theorem rmost_any (n d : Int) (w : World) (hn1 : -9223372036854775808 ≤ n) (hn2 : n ≤ 9223372036854775807) (hd1 : -9223372036854775808 ≤ d) (hd2 : d ≤ 9223372036854775807) :
    Calls Try.prog 16 #[.int .i64 n, .int .i64 d] w fun e w' => e = .returned (.int .i64 (M.most n d)) ∧ w = w' := by
  have hud : ∀ b : Bool, undef ≠ Value.bool b := fun b h => by cases h
  by_cases h0 : n < 0
  · have hm : M.most n d = -1 := by unfold M.most; rw [if_pos (by omega)]
    rw [hm]
    go_enter Try.func16, Try.ntmps16
    go_wp2
    go_ret
    exact ⟨rfl, rfl⟩
  · by_cases h1 : d < 0
    · have hm : M.most n d = -1 := by unfold M.most; rw [if_pos (by omega)]
      rw [hm]
      go_enter Try.func16, Try.ntmps16
      go_wp2
      go_ret
      exact ⟨rfl, rfl⟩
    · by_cases h2 : n ≤ d
      · have hm : M.most n d = -1 := by unfold M.most; rw [if_pos (by omega)]
        rw [hm]
        go_enter Try.func16, Try.ntmps16
        go_wp2
        go_ret
        exact ⟨rfl, rfl⟩
      · have hm : (n - d - 1) / 2 = M.most n d := by unfold M.most; rw [if_neg (by omega)]
        have HM := Lib.hid hm
        clear hm
        go_enter Try.func16, Try.ntmps16
        go_wp2
        go_ret
        exact ⟨ret1 HM.out, rfl⟩

set_option maxHeartbeats 1000000 in
theorem rcheck_any (p : Nat) (d : Int) (v : Value) (xs ys : List Nat) (w : World) (hp : p < 18446744073709551616) (hv : Pts w v xs ys) :
    Calls Try.prog 13 #[.int .u64 p, .int .i64 d, v] w fun e w' => e = .returned (.int .i64 (M.dchk p d xs ys)) ∧ Below w.heap.size w w' := by
  have hud : ∀ b : Bool, undef ≠ Value.bool b := fun b h => by cases h
  have hc := fun W => refIs_any p W hp
  have HP := Lib.hid fun W (hW : Pts W v xs ys) => rpoints_any p 64 v xs ys W hp (by omega) hW
  have HV := Lib.hid hv
  obtain ⟨A, cap, rfl, _⟩ := hv.2.2.2.2
  by_cases h : M.isP p = false ∨ d < 0 ∨ 63 < d
  · rw [← M.dchk_no xs ys h]
    cases hi : M.isP p with
    | false =>
      rw [hi] at hc
      have HC := Lib.hid hc
      clear hi hc hp hv h
      go_enter Try.func13, Try.ntmps13
      go_wp2_with (go_at_call 29; refine (HC.out _).mono ?_; rintro e w' ⟨rfl, rfl⟩)
      go_ret
      exact ⟨rfl, Below.refl _ _⟩
    | true =>
      rw [hi] at hc
      have HC := Lib.hid hc
      by_cases hd : d < 0
      · clear hi hc hp hv h
        go_enter Try.func13, Try.ntmps13
        go_wp2_with (go_at_call 29; refine (HC.out _).mono ?_; rintro e w' ⟨rfl, rfl⟩)
        go_ret
        exact ⟨rfl, Below.refl _ _⟩
      · have hd2 : 63 < d := by rcases h with h | h | h <;> simp_all
        clear hi hc hp hv h
        go_enter Try.func13, Try.ntmps13
        go_wp2_with (go_at_call 29; refine (HC.out _).mono ?_; rintro e w' ⟨rfl, rfl⟩)
        go_ret
        exact ⟨rfl, Below.refl _ _⟩
  · rw [show M.dchk p d xs ys = M.ptErr p xs ys 64 by unfold M.dchk M.ptErr; rw [if_neg h]]
    rw [show M.isP p = true by cases hi : M.isP p <;> simp_all] at hc
    have HC := Lib.hid hc
    have hd1 : ¬ d < 0 := fun e => h (.inr (.inl e))
    have hd2 : ¬ 63 < d := fun e => h (.inr (.inr e))
    clear hc hp hv h
    go_enter Try.func13, Try.ntmps13
    go_wp2_with (first | (go_at_call 29; refine (HC.out _).mono ?_; rintro e w' ⟨rfl, rfl⟩) | (go_at_call 35; refine (HP.out _ HV.out).mono ?_; rintro e w' ⟨rfl, hb⟩))
    go_ret
    exact ⟨rfl, hb⟩

set_option maxHeartbeats 4000000 in
theorem roff_any (p : Nat) (vf v : Value) (f xs ys : List Nat) (w : World) (h3 : 3 ≤ p) (hp : p ≤ 65537) (hwf : M.within p f = true) (hxl : xs.length ≤ 64) (hwx : M.within p xs = true) (hvf : Nums w vf f) (hv : Pts w v xs ys) :
    Calls Try.prog 25 #[.int .u64 p, vf, v] w fun e w' => ∃ v', e = .returned v' ∧ w'.ownsRow w.heap.size 3 1 v' (M.offI p f xs ys).length (ints (M.offI p f xs ys)) ∧ Below w.heap.size w w' := by
  obtain ⟨hyl, hlen, hxu, hyu, A, cap, rfl, hcap, hC⟩ := hv
  have hud : ∀ b : Bool, undef ≠ Value.bool b := fun b h => by cases h
  have HV := Lib.hid hC
  have HYL := Lib.hid hyl
  have HWX := Lib.hid hwx
  have HF := Lib.hid hvf
  have HE := Lib.hid fun (W : World) (x : Nat) (hx : x < p) (hW : Nums W vf f) => reval_any p x vf f W (by omega) hp hx hwf hW
  obtain ⟨Af, cf, rfl⟩ := nums_slice' hvf
  rw [← M.offK_all]
  clear hC hyl hwx hvf hxu hyu hwf hlen hcap
  go_enter Try.func25, Try.ntmps25
  go_wp2
  go_loopw [12, 7] (fun t to wr => ∃ k : Nat, k ≤ xs.length ∧ t = .int .i64 k ∧ wr.ownsRow w.heap.size 3 1 to (M.offK p f xs ys k).length (ints (M.offK p f xs ys k)) ∧ Below w.heap.size w wr) (fun t _ _ => xs.length - (intOf t).toNat)
  case atStart => exact ⟨0, by omega, rfl, World.ownsRow_nil _ _ _ _, Below.refl _ _⟩
  case round =>
    obtain ⟨k, hk, rfl, hO, hB⟩ := hrel
    have HO := Lib.hid hO
    have HB := Lib.hid hB
    have hol := M.offK_len p f xs ys k
    clear hO hB
    by_cases hlt : k < xs.length
    · obtain ⟨b, off, rfl, hb, hcell⟩ := HV.out (by omega)
      have hc1 := (HB.out.cell (p := ⟨b, off + k * 2, none⟩) hb).trans (hcell k hlt).1
      have hc2 := (HB.out.cell (p := ⟨b, off + k * 2 + 1, none⟩) hb).trans (hcell k hlt).2
      have hxp := M.within_mem HWX.out hlt
      have hb1 : wr.heap.size ≠ b := by have := HB.out.size; omega
      have HFA := Lib.hid (HF.out.below (HB.out.alloc HB.out.size (.cells #[.int .u64 (xs.getD k 0 : Nat), .int .u64 (ys.getD k 0 : Nat)] 64)))
      have hHE := fun W (hW : Nums W _ f) => HE.out W (xs.getD k 0) hxp hW
      obtain ⟨x, hx⟩ : ∃ x, x = xs.getD k 0 := ⟨_, rfl⟩
      obtain ⟨y, hy⟩ : ∃ y, y = ys.getD k 0 := ⟨_, rfl⟩
      obtain ⟨z, hz⟩ : ∃ z, z = M.pev p f (xs.getD k 0) := ⟨_, rfl⟩
      rw [← hx] at hHE hz
      rw [← hz] at hHE
      rw [← hx, ← hy] at HFA
      rw [← hx] at hc1 hxp
      rw [← hy] at hc2
      have hzy : (z = y) ↔ M.pev p f (xs.getD k 0) = ys.getD k 0 := by rw [hz, hx, hy]
      have HZY := Lib.hid hzy
      have HX := Lib.hid hx
      have HY := Lib.hid hy
      have HCE := Lib.hid hHE
      clear hx hy hz hcell hHE hzy
      by_cases heq : z = y
      · have HQ := Lib.hid (HZY.out.1 heq)
        subst heq
        have hK : (wr.alloc (.cells #[.int .u64 (x : Nat), .int .u64 (z : Nat)] 64)).cell? ⟨wr.heap.size, 0, none⟩ = some (.int .u64 (x : Nat)) ∧ (wr.alloc (.cells #[.int .u64 (x : Nat), .int .u64 (z : Nat)] 64)).cell? ⟨wr.heap.size, 1, none⟩ = some (.int .u64 (z : Nat)) := ⟨by simp, by simp⟩
        go_wp2
        go_region_held3 (fun W' => W'.cell? ⟨wr.heap.size, 0, none⟩ = some (.int .u64 (x : Nat)) ∧ W'.cell? ⟨wr.heap.size, 1, none⟩ = some (.int .u64 (z : Nat))) (first | (exact hK) | go_keep) (first | (go_at_call 33; refine (HCE.out _ (HFA.out.below (Below.refl _ _).drew)).mono ?_; rintro e w1 ⟨rfl, rfl⟩))
        go_wp2_with fail
        go_roundw
        case rel => exact ⟨k + 1, by omega, by go_num, by rw [M.offK_hit HQ.out]; exact (HO.out.alloc _).drew, (HB.out.alloc HB.out.size _).drew⟩
        case measure => simp [intOf]; omega
      · have g1 : ¬ (z : Int) = (y : Int) := by omega
        have HQ := Lib.hid (fun e => heq (HZY.out.2 e))
        have hK : (wr.alloc (.cells #[.int .u64 (x : Nat), .int .u64 (y : Nat)] 64)).cell? ⟨wr.heap.size, 0, none⟩ = some (.int .u64 (x : Nat)) ∧ (wr.alloc (.cells #[.int .u64 (x : Nat), .int .u64 (y : Nat)] 64)).cell? ⟨wr.heap.size, 1, none⟩ = some (.int .u64 (y : Nat)) := ⟨by simp, by simp⟩
        go_wp2
        go_region_held3 (fun W' => W'.cell? ⟨wr.heap.size, 0, none⟩ = some (.int .u64 (x : Nat)) ∧ W'.cell? ⟨wr.heap.size, 1, none⟩ = some (.int .u64 (y : Nat))) (first | (exact hK) | go_keep) (first | (go_at_call 33; refine (HCE.out _ (HFA.out.below (Below.refl _ _).drew)).mono ?_; rintro e w1 ⟨rfl, rfl⟩))
        have HO1 := Lib.hid (show (wr.alloc (.cells #[.int .u64 (x : Nat), .int .u64 (y : Nat)] 64)).drew.ownsRow w.heap.size 3 1 _ _ _ from (HO.out.alloc _).drew)
        have HB1 := Lib.hid (show Below w.heap.size w (wr.alloc (.cells #[.int .u64 (x : Nat), .int .u64 (y : Nat)] 64)).drew from (HB.out.alloc HB.out.size _).drew)
        have HO2 := Lib.hid (show ((wr.alloc (.cells #[.int .u64 (x : Nat), .int .u64 (y : Nat)] 64)).alloc (.cells #[.int .i64 (k : Nat)] 3)).drew.ownsRow w.heap.size 3 1 _ _ _ from (HO.out.alloc _).alloc _)
        have HX2 := Lib.hid (show ((wr.alloc (.cells #[.int .u64 (x : Nat), .int .u64 (y : Nat)] 64)).alloc (.cells #[.int .i64 (k : Nat)] 3)).drew.heap[(wr.alloc (.cells #[.int .u64 (x : Nat), .int .u64 (y : Nat)] 64)).heap.size]? = some (.cells #[.int .i64 (k : Nat)] 3 (0, 0)) from heap_alloc_new (wr.alloc (.cells #[.int .u64 (x : Nat), .int .u64 (y : Nat)] 64)) (.cells #[.int .i64 (k : Nat)] 3))
        have HB2 := Lib.hid (show Below w.heap.size w ((wr.alloc (.cells #[.int .u64 (x : Nat), .int .u64 (y : Nat)] 64)).alloc (.cells #[.int .i64 (k : Nat)] 3)).drew from ((HB.out.alloc HB.out.size _).alloc (by have := HB.out.size; simp; omega) _).drew)
        go_wp2_with (at_builtin; refine wpList_append_intAt (X := wr.heap.size + 1) rfl _ _ rfl rfl rfl (by simpa using HX2.out) HO2.out (by omega) HB2.out.size ?_; intro v' w2 hown hgr hbl)
        --PEEK
        go_roundw
        case rel => exact ⟨k + 1, by omega, by go_num, by rw [M.offK_miss HQ.out, List.length_append, ints_snoc]; exact hown, HB2.out.trans hbl⟩
        case measure => simp [intOf]; omega
    · have hk' : k = xs.length := by omega
      subst hk'
      go_wp2
      go_ret
      exact ⟨_, rfl, HO.out, HB.out⟩
end Go.Proofs.Ytfgfapbhgehfiaa
