/-
  Package decode: Most, missed.
-/
import Derived.Test.YtfgfapbhgehfiaaD1
import Derived.Test.YtfgfapbhgehfiaaLG
import Derived.Test.YtfgfapbhgehfiaaXH
import Derived.Outline
namespace Go.Proofs.Ytfgfapbhgehfiaa
open Go.RowKit
set_option linter.unusedVariables false
set_option maxRecDepth 100000

namespace M
/-- what Most answers -/
def most (n d : Int) : Int := if d < 0 ∨ n ≤ d then -1 else (n - d - 1) / 2
end M
theorem most_any (n d : Int) (w : World) (hn1 : -9223372036854775808 ≤ n) (hn2 : n ≤ 9223372036854775807) (hd1 : -9223372036854775808 ≤ d) (hd2 : d ≤ 9223372036854775807) :
    Calls Try.prog 15 #[.int .i64 n, .int .i64 d] w fun e w' => e = .returned (.int .i64 (M.most n d)) ∧ w = w' := by
  by_cases h1 : d < 0
  · go_enter Try.func15, Try.ntmps15
    go_wp2
    go_ret
    exact ⟨ret1 (by unfold M.most; rw [if_pos (.inl h1)]), rfl⟩
  · by_cases h2 : n ≤ d
    · go_enter Try.func15, Try.ntmps15
      go_wp2
      go_ret
      exact ⟨ret1 (by unfold M.most; rw [if_pos (.inr h2)]), rfl⟩
    · go_enter Try.func15, Try.ntmps15
      go_wp2
      go_ret
      exact ⟨ret1 (by unfold M.most; rw [if_neg (by omega)]), rfl⟩

namespace M
/-- the places of the first k points that f misses -/
def offK (p : Nat) (f xs ys : List Nat) (k : Nat) : List Nat := (List.range k).filter fun i => !(pev p f (xs.getD i 0) == ys.getD i 0)
theorem offK_zero (p : Nat) (f xs ys : List Nat) : offK p f xs ys 0 = [] := rfl
theorem offK_hit {p : Nat} {f xs ys : List Nat} {k : Nat} (h : pev p f (xs.getD k 0) = ys.getD k 0) : offK p f xs ys (k + 1) = offK p f xs ys k := by
  have e : (!(pev p f (xs.getD k 0) == ys.getD k 0)) = false := by rw [h]; simp
  unfold offK
  rw [List.range_succ, List.filter_append, List.filter_cons, e]
  simp
theorem offK_miss {p : Nat} {f xs ys : List Nat} {k : Nat} (h : pev p f (xs.getD k 0) ≠ ys.getD k 0) : offK p f xs ys (k + 1) = offK p f xs ys k ++ [k] := by
  have e : (!(pev p f (xs.getD k 0) == ys.getD k 0)) = true := by rw [Bool.not_eq_true', beq_eq_false_iff_ne]; exact h
  unfold offK
  rw [List.range_succ, List.filter_append, List.filter_cons, e]
  simp
theorem offK_len (p : Nat) (f xs ys : List Nat) (k : Nat) : (offK p f xs ys k).length ≤ k := by
  have := List.length_filter_le (fun i => !(pev p f (xs.getD i 0) == ys.getD i 0)) (List.range k)
  rw [List.length_range] at this
  exact this
theorem offK_all (p : Nat) (f xs ys : List Nat) : offK p f xs ys xs.length = offI p f xs ys := rfl
end M

set_option maxHeartbeats 4000000 in
theorem missed_any (p : Nat) (vf v : Value) (f xs ys : List Nat) (w : World) (hi : M.isP p = true) (hwf : M.within p f = true) (hfl : f.length ≤ 201) (hxl : xs.length ≤ 64) (hwx : M.within p xs = true) (hvf : Nums w vf f) (hv : Pts w v xs ys) :
    Calls Try.prog 47 #[.int .u64 p, vf, v] w fun e w' => ∃ v', e = .returned v' ∧ w'.ownsRow w.heap.size 3 1 v' (M.offI p f xs ys).length (ints (M.offI p f xs ys)) ∧ Below w.heap.size w w' := by
  obtain ⟨hyl, hlen, hxu, hyu, A, cap, rfl, hcap, hC⟩ := hv
  have hud : ∀ b : Bool, undef ≠ Value.bool b := fun b h => by cases h
  have HV := Lib.hid hC
  have HYL := Lib.hid hyl
  have HWX := Lib.hid hwx
  have HF := Lib.hid hvf
  obtain ⟨h3, hp⟩ := M.pos_of hi
  have HE := Lib.hid fun (W : World) (x : Nat) (hx : x < p) (hW : Nums W vf f) => eval_ok p x vf f W hx hW (by unfold M.chk; rw [if_neg (by simp [hi]), if_neg (by omega), if_pos hwf])
  obtain ⟨Af, cf, rfl⟩ := nums_slice' hvf
  rw [← M.offK_all]
  clear hC hyl hwx hvf hxu hyu hi hwf hlen hcap
  go_enter Try.func47, Try.ntmps47
  go_wp2
  go_loopw [14, 7] (fun t to wr => ∃ k : Nat, k ≤ xs.length ∧ t = .int .i64 k ∧ wr.ownsRow w.heap.size 3 1 to (M.offK p f xs ys k).length (ints (M.offK p f xs ys k)) ∧ Below w.heap.size w wr) (fun t _ _ => xs.length - (intOf t).toNat)
  case atStart => exact ⟨0, by omega, rfl, World.ownsRow_nil _ _ _ _, Below.refl _ _⟩
  case round =>
    obtain ⟨k, hk, rfl, hO, hB⟩ := hrel
    have HO := Lib.hid hO
    have HB := Lib.hid hB
    have hol := M.offK_len p f xs ys k
    clear hO hB
    by_cases hlt : k < xs.length
    · obtain ⟨b, off, rfl, hb, hcell⟩ := HV.out (by omega)
      have hc1 := (HB.out.cell (p := ⟨b, off + k * 2, none⟩) hb).trans (hcell k hlt).1
      have hc2 := (HB.out.cell (p := ⟨b, off + k * 2 + 1, none⟩) hb).trans (hcell k hlt).2
      have hxp := M.within_mem HWX.out hlt
      have hb1 : wr.heap.size ≠ b := by have := HB.out.size; omega
      have hHE := HE.out (wr.alloc (.cells #[.int .u64 (xs.getD k 0 : Nat), .int .u64 (ys.getD k 0 : Nat)] 64)) (xs.getD k 0) hxp (HF.out.below (HB.out.alloc HB.out.size _))
      obtain ⟨x, hx⟩ : ∃ x, x = xs.getD k 0 := ⟨_, rfl⟩
      obtain ⟨y, hy⟩ : ∃ y, y = ys.getD k 0 := ⟨_, rfl⟩
      obtain ⟨z, hz⟩ : ∃ z, z = M.pev p f (xs.getD k 0) := ⟨_, rfl⟩
      rw [← hz, ← hx, ← hy] at hHE
      rw [← hx] at hc1 hxp
      rw [← hy] at hc2
      have hzy : (z = y) ↔ M.pev p f (xs.getD k 0) = ys.getD k 0 := by rw [hz, hy]
      have HZY := Lib.hid hzy
      have HX := Lib.hid hx
      have HY := Lib.hid hy
      have HCE := Lib.hid hHE
      clear hx hy hz hcell hHE hzy
      by_cases heq : z = y
      · have HQ := Lib.hid (HZY.out.1 heq)
        subst heq
        go_wp2_with (go_at_call 61; refine HCE.out.mono ?_; rintro e w1 ⟨rfl, hb1⟩; have q1 : w1.cell? ⟨wr.heap.size, 1, none⟩ = some (.int .u64 (z : Nat)) := (hb1.cell (p := ⟨wr.heap.size, 1, none⟩) (by simp)).trans (by simp); have HB1 := Lib.hid (bnext HB.out (bnext (balloc wr _) hb1)); have HO1 := Lib.hid (own_keep (HO.out.alloc (.cells #[.int .u64 (x : Nat), .int .u64 (z : Nat)] 64)) hb1); clear hb1)
        go_roundw
        case rel => exact ⟨k + 1, by omega, by go_num, by rw [M.offK_hit HQ.out]; exact HO1.out, HB1.out⟩
        case measure => simp [intOf]; omega
      · have g1 : ¬ (z : Int) = (y : Int) := by omega
        have HQ := Lib.hid (fun e => heq (HZY.out.2 e))
        go_wp2_with (first | (go_at_call 61; refine HCE.out.mono ?_; rintro e w1 ⟨rfl, hb1⟩; have q1 : w1.cell? ⟨wr.heap.size, 1, none⟩ = some (.int .u64 (y : Nat)) := (hb1.cell (p := ⟨wr.heap.size, 1, none⟩) (by simp)).trans (by simp); have HB1 := Lib.hid (bnext HB.out (bnext (balloc wr _) hb1)); have HO1 := Lib.hid (own_keep (HO.out.alloc (.cells #[.int .u64 (x : Nat), .int .u64 (y : Nat)] 64)) hb1); clear hb1) | (at_builtin; refine wpList_append_int rfl _ _ rfl rfl rfl HO1.out (by omega) HB1.out.size ?_; intro v' w2 hown hgr hbl))
        go_roundw
        case rel => exact ⟨k + 1, by omega, by go_num, by rw [M.offK_miss HQ.out, List.length_append]; exact hown, HB1.out.trans hbl⟩
        case measure => simp [intOf]; omega
    · have hk' : k = xs.length := by omega
      subst hk'
      go_wp2
      go_ret
      exact ⟨_, rfl, HO.out, HB.out⟩
end Go.Proofs.Ytfgfapbhgehfiaa
